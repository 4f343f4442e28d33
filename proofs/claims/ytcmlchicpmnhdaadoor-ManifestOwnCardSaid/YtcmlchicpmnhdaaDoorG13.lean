/-
  Texts one behind the other: RecRefEnc, RecRefDec, RecRefDec2, RecRefDec3, MixSlot, SlotMath, DiskShelf, DiskSpec.
-/
import Derived.Deep.RegionLaw
import Derived.LoopN
import Derived.Shelf.Bytes.SlClone
import Derived.Test.YtcmlchicpmnhdaaDoorProg
import Derived.Maps.OwnSet
import Derived.Maps.RangeWalk
import Derived.Lib.SlMapMerge
import Derived.Lib.SlKeysI
import Derived.Test.YtcmlchicpmnhdaaDoorG02
import Derived.Test.YtcmlchicpmnhdaaDoorG03
import Derived.Test.YtcmlchicpmnhdaaDoorG04
import Derived.Test.YtcmlchicpmnhdaaDoorG05
import Derived.Test.YtcmlchicpmnhdaaDoorG08
import Derived.Test.YtcmlchicpmnhdaaDoorG12
/-
  Proved: what the reference's Encode returns: a record's bytes in memory of its own; none where it may not be.
  Conditions: numbers and texts are those of values.
-/
namespace Go.Proofs.YtcmlchicpmnhdaaDoor.Rec
open Go.RowKit
open Go.Proofs.YtcmlchicpmnhdaaDoor.Crc (Turned)
set_option linter.unusedVariables false
set_option linter.unusedSimpArgs false

section
variable {ops : Array Oper} {o : Oper} {a : Act} {w : World} {K : Act → World → Prop} {Q : Exit → Act → World → Prop} {E : Prop}
theorem step_append_nil (hgd : o.guard = none) (y : Operand) (ho : o.op = .call { callee := .builtin .append, args := #[.const (.slice none 0 0), y], argTypes := #[44, 44] })
    (base B : Nat) (A : Option Addr) (m c : Nat) (ps : List UInt8) (hy : a.eval y = .slice A m c) (hr : Row w B A m (bvs ps)) (h0 : 0 < m) (hm : m ≤ 1000000) (hb : base ≤ w.heap.size)
    (hK : ∀ A' c' w', Hid (w'.ownsRow base 5 1 (.slice A' m c') m (bvs ps)) → Hid (w.grownBy w' none) → K (a.put o.dst (.slice A' m c')) w') :
    if Region.wanted o (yielded ops a.tmps) = true then Oper.wp Tryd.prog o a w K Q else E := by
  obtain ⟨b, f, rfl, _, hc⟩ := hr.2 h0
  refine step_append_where hgd (.const (.slice none 0 0)) y 44 ho base 5 (.int .u8 0) 1 1 Tryd.underlying44 u8_info rfl (by decide) (.slice none 0 0) 0 [] rfl (World.ownsRow_nil _ _ _ _) ⟨b, f, none⟩ m c (bvs ps) hy (by rw [hr.1, Nat.mul_one]) ?_ (bvs_one _) (by unfold maxLen; omega) (by omega) hb ?_
  · intro j u hu
    have := hc j u hu
    unfold Addr.add
    split
    · rename_i hj; subst hj; exact this
    · exact this
  · intro v' w' h1 h2 _
    have h3 := h1.out
    rw [Nat.zero_add, List.nil_append] at h3
    obtain ⟨A', c', rfl, _, _⟩ := own_form h3
    exact hK A' c' w' h3 h2
theorem step_append_text (hgd : o.guard = none) (s y : Operand) (ho : o.op = .call { callee := .builtin .append, args := #[s, y], argTypes := #[44, 9] })
    (base : Nat) (v : Value) (n : Nat) (bs : List UInt8) (hs : a.eval s = v) (hown : Hid (w.ownsRow base 5 1 v n (bvs bs))) (l : List UInt8) (hy : a.eval y = .string (str l)) (hl : n + l.length ≤ 1000000) (hb : base ≤ w.heap.size)
    (hK : ∀ A' c' w', Hid (w'.ownsRow base 5 1 (.slice A' (n + l.length) c') (n + l.length) (bvs (bs ++ l))) → Hid (w.grownBy w' v.ownBlock) → K (a.put o.dst (.slice A' (n + l.length) c')) w') :
    if Region.wanted o (yielded ops a.tmps) = true then Oper.wp Tryd.prog o a w K Q else E := by
  have hw : Region.wanted o (yielded ops a.tmps) = true := by simp [Region.wanted, hgd]
  rw [if_pos hw]
  obtain ⟨i, hi, hz0, hz1, hz2⟩ := u8_info3
  have e : Lib.strCells (str l) = bvs l := by simp [Lib.strCells, str, bvs, bv]
  obtain ⟨v', w', hr, h2, h3, _⟩ := Lib.run_append_own_string (P := Tryd.prog) w base 44 9 o.type 5 i Tryd.underlying44 Tryd.underlying9 hi hz0 hz1 hz2 v n (bvs bs) hown.out (str l) (by rw [str_size]; unfold maxLen; omega) (by rw [str_size]; omega) hb
  rw [e, bvs_append, str_size] at h2
  obtain ⟨A', c', rfl, _, _⟩ := own_form h2
  unfold Oper.wp execOp
  simp only [ho, resolve, invoke, builtin, Sem.run_bind, Sem.run_pure, Result.andThen_ok, List.map_toArray, List.map_cons, List.map_nil, hs, hy, hr]
  exact hK A' c' w' h2 h3
end
end Go.Proofs.YtcmlchicpmnhdaaDoor.Rec
/-
  Proved: what the reference's Decode returns: what a list of bytes begins with.
  Conditions: the slice reads as bytes.
-/
namespace Go.Proofs.YtcmlchicpmnhdaaDoor.Rec
open Go.RowKit
open Go.Proofs.YtcmlchicpmnhdaaDoor.Crc (Turned)
set_option linter.unusedVariables false
set_option linter.unusedSimpArgs false


end Go.Proofs.YtcmlchicpmnhdaaDoor.Rec
/-
  Proved: what the reference's Decode returns where the mark is right.
  Conditions: the slice reads as bytes.
-/
namespace Go.Proofs.YtcmlchicpmnhdaaDoor.Rec
open Go.RowKit
open Go.Proofs.YtcmlchicpmnhdaaDoor.Crc (Turned)
set_option linter.unusedVariables false
set_option linter.unusedSimpArgs false

end Go.Proofs.YtcmlchicpmnhdaaDoor.Rec
/-
  Proved: what the reference's Decode returns of a whole head whose mark and kind are right.
  Conditions: the slice reads as bytes.
-/
namespace Go.Proofs.YtcmlchicpmnhdaaDoor.Rec
open Go.RowKit
open Go.Proofs.YtcmlchicpmnhdaaDoor.Crc (Turned)
set_option linter.unusedVariables false
set_option linter.unusedSimpArgs false

/-- Bytes as a text, in a region that draws, taken first. -/
theorem yieldsIf_conv {ops : Array Oper} {S : World → Prop} {op : Oper} {a : Act} {A : Option Addr} {n c : Nat} {s : ByteArray} (hw : Region.wanted op (yielded ops a.tmps) = true) (y : Operand) (ho : op.op = .convert 44 9 y)
    (hx : a.eval y = .slice A n c) (hS : ∀ w, S w → (convert 44 9 (.slice A n c)).run Tryd.prog w = .ok (.string s) w) : YieldsIf Tryd.prog ops S op (.string s) a :=
  .inl ⟨hw, fun w hw' => by
    unfold execOp
    simp only [ho, hx, Sem.run_bind, Sem.run_pure, Result.andThen_ok, hS w hw']⟩
/-- What the reference looks at first: all but tenant and body. -/
def bare (x : Rc) : Rc := { x with tenant := 0, body := [] }
theorem Row.lt_of {w : World} {B n b o : Nat} {vs : List Value} (h : Row w B (some ⟨b, o, none⟩) n vs) (hn : 0 < n) : b < B := by
  obtain ⟨b', o', e, hlt, _⟩ := h.2 hn
  injection e with e
  injection e with e1 e2
  subst e1
  exact hlt
theorem undrew_only {w w' : World} {row : Option Nat} (h : w.drew.grownBy w' row) : Hid (w.grownBy w' row) := ⟨h.os, h.tape, h.output, h.size, h.block⟩
end Go.Proofs.YtcmlchicpmnhdaaDoor.Rec
/-
  Proved: what slot of law 8 returns: how many bytes of a slot's beginning fit their sum.
  Conditions: the slice reads as bytes, not too many.
-/
namespace Go.Proofs.YtcmlchicpmnhdaaDoor.Rec
open Go.RowKit
set_option linter.unusedVariables false
set_option linter.unusedSimpArgs false

def slotN (bs : List UInt8) : Nat :=
  if bs.length < 16 then 0
  else if 4080 < beN (part bs 8 12) ∨ bs.length - 16 < beN (part bs 8 12) then 0
  else if beN (part bs 12 16) ≠ (Crc.sum (bs.take 12 ++ part bs 16 (16 + beN (part bs 8 12)))).toNat then 0
  else 16 + beN (part bs 8 12)
theorem below_app {a w w' : World} {B : Nat} (h : Below B a w) (hg : w.grownBy w' (Value.slice none 0 0).ownBlock) (hB : B ≤ w.heap.size) : Below B a w' := h.grown hg hB (fun k hk => by simp [Value.ownBlock] at hk)
end Go.Proofs.YtcmlchicpmnhdaaDoor.Rec
/-
  Plain facts: a slot as bytes; what fits its sum; what a changed byte, and what a crash, leave of it.
-/
namespace Go.Proofs.YtcmlchicpmnhdaaDoor.Slot
open Go.RowKit Go.Proofs.YtcmlchicpmnhdaaDoor.Rec
set_option linter.unusedVariables false
set_option linter.unusedSimpArgs false

/-- The turn and the length. -/
def slotHead (t n : Nat) : List UInt8 := be t 8 ++ be n 4
@[simp] theorem slotHead_length (t n : Nat) : (slotHead t n).length = 12 := by simp [slotHead]
/-- A slot's bytes. -/
def slotB (t : Nat) (b : List UInt8) : List UInt8 := slotHead t b.length ++ be (Crc.sum (slotHead t b.length ++ b)).toNat 4 ++ b
theorem slotB_length (t : Nat) (b : List UInt8) : (slotB t b).length = 16 + b.length := by simp [slotB]; omega
theorem sum_small (l : List UInt8) : (Crc.sum l).toNat < 256 ^ 4 := (Crc.sum l).isLt
theorem slot_turn (t : Nat) (b r : List UInt8) : Rec.part (slotB t b ++ r) 0 8 = be t 8 := by
  have e : slotB t b ++ r = [] ++ be t 8 ++ (be b.length 4 ++ be (Crc.sum (slotHead t b.length ++ b)).toNat 4 ++ b ++ r) := by simp [slotB, slotHead]
  rw [e]
  exact part_mid _ _ _ 0 8 rfl (by simp)
theorem slot_len (t : Nat) (b r : List UInt8) : Rec.part (slotB t b ++ r) 8 12 = be b.length 4 := by
  have e : slotB t b ++ r = be t 8 ++ be b.length 4 ++ (be (Crc.sum (slotHead t b.length ++ b)).toNat 4 ++ b ++ r) := by simp [slotB, slotHead]
  rw [e]
  exact part_mid _ _ _ 8 12 (by simp) (by simp)
theorem slot_sum (t : Nat) (b r : List UInt8) : Rec.part (slotB t b ++ r) 12 16 = be (Crc.sum (slotHead t b.length ++ b)).toNat 4 := by
  have e : slotB t b ++ r = slotHead t b.length ++ be (Crc.sum (slotHead t b.length ++ b)).toNat 4 ++ (b ++ r) := by simp [slotB]
  rw [e]
  exact part_mid _ _ _ 12 16 (by simp) (by simp)
theorem slot_text (t : Nat) (b r : List UInt8) : Rec.part (slotB t b ++ r) 16 (16 + b.length) = b := by
  have e : slotB t b ++ r = (slotHead t b.length ++ be (Crc.sum (slotHead t b.length ++ b)).toNat 4) ++ b ++ r := by simp [slotB]
  rw [e]
  exact part_mid _ _ _ _ _ (by simp) (by simp)
theorem slot_head (t : Nat) (b r : List UInt8) : (slotB t b ++ r).take 12 = slotHead t b.length := by
  have e : slotB t b ++ r = slotHead t b.length ++ (be (Crc.sum (slotHead t b.length ++ b)).toNat 4 ++ b ++ r) := by simp [slotB]
  rw [e]
  exact List.take_left' (by simp)
theorem slotN_of (t : Nat) (b r : List UInt8) (hb : b.length ≤ 4080) : slotN (slotB t b ++ r) = 16 + b.length := by
  have hl := slotB_length t b
  unfold slotN
  rw [slot_len, beN_be _ _ (by omega), slot_sum, slot_text, slot_head, beN_be _ _ (sum_small _)]
  rw [if_neg (by rw [List.length_append]; omega), if_neg (by rw [List.length_append]; omega), if_neg (by simp)]
/-- What a slot tells: its turn and its text. -/
def slotOf (bs : List UInt8) : Option (Nat × List UInt8) := if slotN bs = 0 then none else some (beN (Rec.part bs 0 8), Rec.part bs 16 (slotN bs))
theorem slotOf_of (t : Nat) (b r : List UInt8) (ht : t < 18446744073709551616) (hb : b.length ≤ 4080) : slotOf (slotB t b ++ r) = some (t, b) := by
  unfold slotOf
  rw [slotN_of t b r hb, if_neg (by omega), slot_turn, slot_text, beN_be _ _ (by omega)]
theorem slotN_bound (bs : List UInt8) : slotN bs = 0 ∨ (16 ≤ slotN bs ∧ slotN bs ≤ 4096 ∧ slotN bs ≤ bs.length ∧ slotN bs = 16 + beN (Rec.part bs 8 12) ∧ beN (Rec.part bs 12 16) = (Crc.sum (bs.take 12 ++ Rec.part bs 16 (slotN bs))).toNat) := by
  by_cases h1 : bs.length < 16
  · exact .inl (by unfold slotN; rw [if_pos h1])
  by_cases h2 : 4080 < beN (Rec.part bs 8 12) ∨ bs.length - 16 < beN (Rec.part bs 8 12)
  · exact .inl (by unfold slotN; rw [if_neg h1, if_pos h2])
  by_cases h3 : beN (Rec.part bs 12 16) ≠ (Crc.sum (bs.take 12 ++ Rec.part bs 16 (16 + beN (Rec.part bs 8 12)))).toNat
  · exact .inl (by unfold slotN; rw [if_neg h1, if_neg h2, if_pos h3])
  · have e : slotN bs = 16 + beN (Rec.part bs 8 12) := by unfold slotN; rw [if_neg h1, if_neg h2, if_neg h3]
    refine .inr ⟨by omega, by omega, by omega, e, ?_⟩
    rw [e]
    exact Classical.byContradiction h3
theorem part_same {a b : List UInt8} {k i j : Nat} (h : b.take k = a.take k) (hij : i ≤ j) (hj : j ≤ k) : Rec.part b i j = Rec.part a i j := by
  have e : ∀ l : List UInt8, Rec.part l i j = Rec.part (l.take k) i j := fun l => by
    unfold Rec.part
    rw [List.drop_take, List.take_take, Nat.min_eq_left (by omega)]
  rw [e b, e a, h]
/-- Where the bytes of a slot stand again, it tells the same. -/
theorem slot_same {a b : List UInt8} (h0 : 0 < slotN a) (hl : slotN a ≤ b.length) (h : b.take (slotN a) = a.take (slotN a)) : slotN b = slotN a ∧ slotOf b = slotOf a := by
  rcases slotN_bound a with h1 | ⟨h1, h2, h3, h4, h5⟩
  · omega
  have p1 := part_same h (show 0 ≤ 8 by omega) (by omega)
  have p2 := part_same h (show 8 ≤ 12 by omega) (by omega)
  have p3 := part_same h (show 12 ≤ 16 by omega) (by omega)
  have p4 := part_same h h1 (Nat.le_refl _)
  have p5 : b.take 12 = a.take 12 := by
    have := congrArg (List.take 12) h
    rwa [List.take_take, List.take_take, Nat.min_eq_left (by omega)] at this
  have h5' := h5
  rw [h4] at h5'
  have p4' : Rec.part b 16 (16 + beN (Rec.part a 8 12)) = Rec.part a 16 (16 + beN (Rec.part a 8 12)) := by rw [← h4]; exact p4
  have e : slotN b = slotN a := by
    refine Eq.trans ?_ h4.symm
    conv => lhs; unfold slotN
    rw [p2, p3, p5, p4', if_neg (by omega), if_neg (by omega), if_neg (by rw [h5']; simp)]
  refine ⟨e, ?_⟩
  unfold slotOf
  rw [e, p1, p4]
/-- A slot of which one byte was changed, but for its length, fits no more. -/
theorem slot_spoilt (t : Nat) (b r : List UInt8) (k : Nat) (c : UInt8) (hb : b.length ≤ 4080) (hk : k < 16 + b.length) (hc : c ≠ (slotB t b).getD k 0) (hn : ¬ (8 ≤ k ∧ k < 12)) : slotN ((slotB t b ++ r).set k c) = 0 := by
  have hL := slotB_length t b
  have hl : (slotB t b ++ r).length = 16 + b.length + r.length := by rw [List.length_append, hL]
  have g1 := slot_len t b r
  have g2 := slot_sum t b r
  have g3 := slot_text t b r
  have g4 := slot_head t b r
  have e0 : Rec.part ((slotB t b ++ r).set k c) 8 12 = be b.length 4 := by
    by_cases h8 : k < 8
    · rw [part_set, if_pos h8, g1]
    · rw [part_set_beyond _ _ _ _ _ (by omega) (by omega), g1]
  have eN : beN (be b.length 4) = b.length := beN_be _ _ (by omega)
  unfold slotN
  rw [e0, eN, if_neg (by rw [List.length_set, hl]; omega), if_neg (by rw [List.length_set, hl]; omega)]
  have h3 : beN (Rec.part ((slotB t b ++ r).set k c) 12 16) ≠ (Crc.sum (((slotB t b ++ r).set k c).take 12 ++ Rec.part ((slotB t b ++ r).set k c) 16 (16 + b.length))).toNat := by
    intro hr
    rw [List.take_set, g4] at hr
    by_cases k1 : k < 12
    · rw [part_set, if_pos (by omega), g2, part_set, if_pos (by omega), g3, beN_be _ _ (sum_small _), ← List.set_append_left _ _ (by simpa using k1)] at hr
      have := sum_set (l := slotHead t b.length ++ b) (k := k) (c := c) (by simp; omega) (BitVec.eq_of_toNat_eq hr.symm)
      refine hc (this.trans ?_)
      rw [getD_front _ _ _ (by simpa using k1), slotB, List.append_assoc, getD_front _ _ _ (by simpa using k1)]
    · have e12 : (slotHead t b.length).set k c = slotHead t b.length := List.set_eq_of_length_le (by simp; omega)
      rw [e12] at hr
      by_cases k2 : k < 16
      · rw [part_set, if_neg (by omega), g2, part_set, if_pos k2, g3] at hr
        have hb2 : be (Crc.sum (slotHead t b.length ++ b)).toNat 4 = (be (Crc.sum (slotHead t b.length ++ b)).toNat 4).set (k - 12) c := by
          refine beN_inj 4 _ _ (be_length _ _) (by simp) ?_
          rw [hr, beN_be _ _ (sum_small _)]
        refine hc ?_
        have e1 : (slotB t b).getD k 0 = (be (Crc.sum (slotHead t b.length ++ b)).toNat 4).getD (k - 12) 0 := by
          rw [slotB, List.append_assoc, List.getD_eq_getElem?_getD, List.getD_eq_getElem?_getD, List.getElem?_append_right (by simp; omega), slotHead_length, List.getElem?_append_left (by simp; omega)]
        rw [e1, hb2, List.getD_eq_getElem?_getD, List.getElem?_set_self (by simp; omega)]
        rfl
      · rw [part_set_beyond _ _ _ _ _ (by omega) (by omega), g2, part_set, if_neg (by omega), g3, beN_be _ _ (sum_small _)] at hr
        have e2 : slotHead t b.length ++ b.set (k - 16) c = (slotHead t b.length ++ b).set (k - 4) c := by
          rw [List.set_append_right _ _ (by simp; omega)]
          simp only [slotHead_length]
          rw [show k - 4 - 12 = k - 16 by omega]
        rw [e2] at hr
        have := sum_set (l := slotHead t b.length ++ b) (k := k - 4) (c := c) (by simp; omega) (BitVec.eq_of_toNat_eq hr.symm)
        refine hc (this.trans ?_)
        rw [slotB, List.append_assoc, List.getD_eq_getElem?_getD, List.getD_eq_getElem?_getD, List.getElem?_append_right (by simp; omega), List.getElem?_append_right (by simp; omega), List.getElem?_append_right (by simp; omega)]
        simp only [slotHead_length, be_length]
        rw [show k - 4 - 12 = k - 12 - 4 by omega]
  rw [if_pos h3]
end Go.Proofs.YtcmlchicpmnhdaaDoor.Slot
/-
  The contracts of Go's library that the proofs of this seat use, laid at the numbers of its program.
-/
namespace Go.Proofs.YtcmlchicpmnhdaaDoor
open Go.Shelf
def Shelf.clone_ren : Go.Shelf.Ren := ⟨fun | 4 => 71 | n => n, fun | 22 => 44 | 4 => 4 | 5 => 5 | n => n, fun | n => n⟩
theorem Shelf.clone : Go.Proofs.SlLaysK.n4 Tryd.prog Shelf.clone_ren := {
  mixed := by kernel_rfl,
  f4 := Tryd.func71.trans (congrArg some (by kernel_rfl)),
  t4 := Tryd.underlying4,
  a4 := Tryd.isAgg4,
  z4 := Tryd.sizeOf4,
  v4 := Tryd.zeroValue4,
  t22 := Tryd.underlying44,
  a22 := Tryd.isAgg44,
  z22 := Tryd.sizeOf44,
  v22 := Tryd.zeroValue44,
  t5 := Tryd.underlying5,
  i5 := by kernel_rfl }
end Go.Proofs.YtcmlchicpmnhdaaDoor
/-
  Plain facts: directories and sectors as rising lists, and the maps that they read as; what a disk of package disk is, as a value; nothing of a program.
-/
namespace Go.Proofs.YtcmlchicpmnhdaaDoor.Disk
open Go.RowKit Go.Maps
set_option linter.unusedVariables false
set_option linter.unusedSimpArgs false

/-- How an element of a map reads: as itself. -/
def held (v : Value) : Option (DataW Value × List MemPlace) := some (.held v, [])
abbrev Nm := List UInt8
abbrev Dir := List (Nm × Nat)
/-- A file's pointer. -/
def fp (g : Nat) : Value := .pointer (some ⟨g, 0, none⟩)
def dirEnt (p : Nm × Nat) : Lit × DataW Value := (.string p.1, .held (fp p.2))
def dirMap (N : Dir) : DataW Value := .map (N.map dirEnt)
def dins (x : Nm × Nat) : Dir → Dir
  | [] => [x]
  | y :: r => if bytesBefore x.1 y.1 then x :: y :: r else y :: dins x r
def ddel (n : Nm) (N : Dir) : Dir := N.filter fun p => !(p.1 == n)
def dput (n : Nm) (g : Nat) (N : Dir) : Dir := dins (n, g) (ddel n N)
def dget (n : Nm) (N : Dir) : Option Nat := (N.find? fun p => p.1 == n).map (·.2)

theorem dirMap_del (n : Nm) (N : Dir) : (dirMap N).del (.string n) = dirMap (ddel n N) := by
  show DataW.map ((N.map dirEnt).filter _) = .map ((N.filter _).map dirEnt)
  rw [List.filter_map]
  rfl
theorem dirMap_ins (x : Nm × Nat) : ∀ N : Dir, DataW.insert (dirEnt x) (N.map dirEnt) = (dins x N).map dirEnt
  | [] => rfl
  | y :: r => by
    show (if bytesBefore x.1 y.1 = true then _ else _) = _
    unfold dins
    split
    · rfl
    · rw [List.map_cons, dirMap_ins x r]
theorem dirMap_put (n : Nm) (g : Nat) (N : Dir) : (dirMap N).put (.string n) (.held (fp g)) = dirMap (dput n g N) := by
  show DataW.map (DataW.insert (dirEnt (n, g)) ((N.map dirEnt).filter _)) = .map ((dput n g N).map dirEnt)
  rw [List.filter_map]
  exact congrArg _ (dirMap_ins (n, g) _)
theorem dirMap_at (n : Nm) (N : Dir) (z : DataW Value) : (dirMap N).atKey (.string n) z = match dget n N with | some g => .held (fp g) | none => z := by
  have e : (N.map dirEnt).find? (fun p => p.1.sameKey (.string n)) = (N.find? fun p => p.1 == n).map dirEnt := by
    rw [List.find?_map]
    rfl
  unfold dget dirMap DataW.atKey
  simp only [e]
  cases N.find? (fun p => p.1 == n) <;> rfl
theorem dirMap_size (N : Dir) : Maps.size (dirMap N) = N.length := by simp [dirMap, Maps.size]
theorem dirMap_keys (N : Dir) : strKeys (dirMap N) = N.map (·.1) := by
  show (N.map dirEnt).map _ = _
  rw [List.map_map]
  rfl
theorem dget_mem {n : Nm} {N : Dir} {g : Nat} (h : dget n N = some g) : (n, g) ∈ N := by
  unfold dget at h
  obtain ⟨p, hp, rfl⟩ := Option.map_eq_some_iff.1 h
  have := List.find?_some hp
  have hm := List.mem_of_find?_eq_some hp
  simp only [beq_iff_eq] at this
  subst this
  exact hm
theorem dget_none {n : Nm} {N : Dir} (h : dget n N = none) : ∀ p ∈ N, p.1 ≠ n := by
  intro p hp e
  have h' := (Option.map_eq_none_iff.1 h)
  have := List.find?_eq_none.1 h' p hp
  simp [e] at this
theorem ddel_len (n : Nm) (N : Dir) : (ddel n N).length ≤ N.length := List.length_filter_le _ _
theorem dins_len (x : Nm × Nat) : ∀ N : Dir, (dins x N).length = N.length + 1
  | [] => rfl
  | y :: r => by
    unfold dins
    split
    · rfl
    · simp [dins_len x r]
theorem dput_len (n : Nm) (g : Nat) (N : Dir) : (dput n g N).length ≤ N.length + 1 := by
  rw [dput, dins_len]
  have := ddel_len n N
  omega
theorem dins_mem {x p : Nm × Nat} : ∀ {N : Dir}, p ∈ dins x N ↔ p = x ∨ p ∈ N
  | [] => by simp [dins]
  | y :: r => by
    unfold dins
    split
    · simp
    · rw [List.mem_cons, dins_mem, List.mem_cons]
      constructor
      · rintro (h | h | h) <;> simp [h]
      · rintro (h | h | h) <;> simp [h]
theorem dput_mem {n : Nm} {g : Nat} {p : Nm × Nat} {N : Dir} (h : p ∈ dput n g N) : p = (n, g) ∨ p ∈ N := by
  rcases dins_mem.1 h with h | h
  · exact .inl h
  · exact .inr (List.mem_filter.1 h).1
theorem ddel_mem {n : Nm} {p : Nm × Nat} {N : Dir} (h : p ∈ ddel n N) : p ∈ N := (List.mem_filter.1 h).1

/-! Sectors. -/
abbrev Secs := List (Nat × Value)
def secEnt (p : Nat × Value) : Lit × DataW Value := (.int .i64 (p.1 : Int), .held p.2)
def secMap (L : Secs) : DataW Value := .map (L.map secEnt)
def sins (x : Nat × Value) : Secs → Secs
  | [] => [x]
  | y :: r => if x.1 < y.1 then x :: y :: r else y :: sins x r
def sput (s : Nat) (v : Value) (L : Secs) : Secs := sins (s, v) (L.filter fun p => !decide (p.1 = s))
def shas (s : Nat) (L : Secs) : Bool := L.any fun p => decide (p.1 = s)
def sget (s : Nat) (L : Secs) : Option Value := (L.find? fun p => decide (p.1 = s)).map (·.2)
theorem sec_same (p : Nat × Value) (s : Nat) : (secEnt p).1.sameKey (.int .i64 (s : Int)) = decide (p.1 = s) := by
  show decide (IntKind.i64 = IntKind.i64 ∧ (p.1 : Int) = (s : Int)) = _
  by_cases h : p.1 = s
  · simp [h]
  · have : ¬ ((p.1 : Int) = (s : Int)) := by omega
    simp [h, this]
theorem secMap_ins (x : Nat × Value) : ∀ L : Secs, DataW.insert (secEnt x) (L.map secEnt) = (sins x L).map secEnt
  | [] => rfl
  | y :: r => by
    show (if decide ((x.1 : Int) < (y.1 : Int)) = true then _ else _) = _
    unfold sins
    by_cases h : x.1 < y.1
    · rw [if_pos (by simp; omega), if_pos h]
      rfl
    · rw [if_neg (by simp; omega), if_neg h, List.map_cons, secMap_ins x r]
theorem secMap_put (s : Nat) (v : Value) (L : Secs) : (secMap L).put (.int .i64 (s : Int)) (.held v) = secMap (sput s v L) := by
  show DataW.map (DataW.insert (secEnt (s, v)) ((L.map secEnt).filter _)) = .map ((sput s v L).map secEnt)
  rw [List.filter_map]
  have e : (L.filter ((fun p : Lit × DataW Value => !p.1.sameKey (.int .i64 (s : Int))) ∘ secEnt)) = L.filter fun p => !decide (p.1 = s) := by
    apply List.filter_congr
    intro p _
    show (!(secEnt p).1.sameKey _) = _
    rw [sec_same]
  rw [e]
  exact congrArg _ (secMap_ins (s, v) _)
theorem secMap_has (s : Nat) (L : Secs) : Maps.has (secMap L) (.int .i64 (s : Int)) = shas s L := by
  show (L.map secEnt).any _ = _
  rw [List.any_map]
  unfold shas
  congr 1
  funext p
  exact sec_same p s
theorem secMap_at (s : Nat) (L : Secs) (z : DataW Value) : (secMap L).atKey (.int .i64 (s : Int)) z = match sget s L with | some v => .held v | none => z := by
  have e : (L.map secEnt).find? (fun p => p.1.sameKey (.int .i64 (s : Int))) = (L.find? fun p => decide (p.1 = s)).map secEnt := by
    rw [List.find?_map]
    congr 2
    funext p
    exact sec_same p s
  unfold sget secMap DataW.atKey
  simp only [e]
  cases L.find? (fun p => decide (p.1 = s)) <;> rfl
theorem secMap_size (L : Secs) : Maps.size (secMap L) = L.length := by simp [secMap, Maps.size]
theorem secMap_keys (L : Secs) : intKeys (secMap L) = L.map fun p => (p.1 : Int) := by
  show (L.map secEnt).map _ = _
  rw [List.map_map]
  rfl
theorem sins_mem {x p : Nat × Value} : ∀ {L : Secs}, p ∈ sins x L ↔ p = x ∨ p ∈ L
  | [] => by simp [sins]
  | y :: r => by
    unfold sins
    split
    · simp
    · rw [List.mem_cons, sins_mem, List.mem_cons]
      constructor
      · rintro (h | h | h) <;> simp [h]
      · rintro (h | h | h) <;> simp [h]
theorem sins_rising (x : Nat × Value) : ∀ {L : Secs}, L.Pairwise (fun p q => p.1 < q.1) → (∀ p ∈ L, p.1 ≠ x.1) → (sins x L).Pairwise (fun p q => p.1 < q.1)
  | [], _, _ => by simp [sins]
  | y :: r, h, hne => by
    obtain ⟨h1, h2⟩ := List.pairwise_cons.1 h
    have hy := hne y (by simp)
    unfold sins
    split
    · rename_i hlt
      refine List.pairwise_cons.2 ⟨fun q hq => ?_, h⟩
      rcases List.mem_cons.1 hq with rfl | hq
      · exact hlt
      · have := h1 q hq; omega
    · refine List.pairwise_cons.2 ⟨fun q hq => ?_, sins_rising x h2 (fun p hp => hne p (by simp [hp]))⟩
      rcases sins_mem.1 hq with rfl | hq
      · omega
      · exact h1 q hq
theorem shas_mem {s : Nat} {L : Secs} : shas s L = true ↔ s ∈ L.map (·.1) := by
  unfold shas
  rw [List.any_eq_true, List.mem_map]
  constructor
  · rintro ⟨p, hp, h⟩; exact ⟨p, hp, by simpa using h⟩
  · rintro ⟨p, hp, h⟩; exact ⟨p, hp, by simpa using h⟩
theorem sput_new {s : Nat} {L : Secs} (v : Value) (h : shas s L = false) : sput s v L = sins (s, v) L := by
  unfold sput
  rw [List.filter_eq_self.2]
  intro p hp
  have : ¬ s ∈ L.map (·.1) := by rw [← shas_mem]; simp [h]
  have : p.1 ≠ s := fun e => this (List.mem_map.2 ⟨p, hp, e⟩)
  simp [this]
theorem sins_len (x : Nat × Value) : ∀ L : Secs, (sins x L).length = L.length + 1
  | [] => rfl
  | y :: r => by
    unfold sins
    split
    · rfl
    · simp [sins_len x r]
theorem rising_len : ∀ (L : Secs) (a m : Nat), L.Pairwise (fun p q => p.1 < q.1) → (∀ p ∈ L, a ≤ p.1 ∧ p.1 < m) → L.length ≤ m - a
  | [], _, _, _, _ => by simp
  | y :: r, a, m, h, hb => by
    obtain ⟨h1, h2⟩ := List.pairwise_cons.1 h
    have hy := hb y (by simp)
    have := rising_len r (y.1 + 1) m h2 (fun p hp => ⟨h1 p hp, (hb p (by simp [hp])).2⟩)
    rw [List.length_cons]
    omega

/-! Files, changes, disks. -/
/-- A file: its bytes, those that were synced, and the dirty sectors, each with the slice that keeps its bytes of then. -/
structure Fl where
  now : List UInt8
  was : List UInt8
  soiled : Secs
structure Fl.Ok (x : Fl) : Prop where
  le : x.was.length ≤ x.now.length
  max : x.now.length ≤ 4194304
  rising : x.soiled.Pairwise fun p q => p.1 < q.1
  within : ∀ p ∈ x.soiled, 64 * p.1 < 4194304
  clean : ∀ i, i < x.was.length → shas (i / 64) x.soiled = false → x.now[i]? = x.was[i]?
theorem Fl.Ok.count {x : Fl} (h : x.Ok) : x.soiled.length ≤ 65536 := by
  have := rising_len x.soiled 0 65536 h.rising (fun p hp => ⟨by omega, by have := h.within p hp; omega⟩)
  omega
structure Chg where
  gone : ByteArray
  name : ByteArray
  file : Option Nat
def Chg.ptr (c : Chg) : Value := .pointer (c.file.map fun g => ⟨g, 0, none⟩)
def Chg.cells (c : Chg) : List Value := [.string c.gone, .string c.name, c.ptr]
def Chg.on (c : Chg) (N : Dir) : Dir :=
  match c.file with
  | some g => dput c.name.data.toList g (ddel c.gone.data.toList N)
  | none => ddel c.gone.data.toList N
def chgCells (l : List Chg) : List Value := l.flatMap Chg.cells
theorem chgCells_len (l : List Chg) : (chgCells l).length = l.length * 3 := by
  induction l with
  | nil => rfl
  | cons c r ih =>
    show (c.cells ++ chgCells r).length = _
    rw [List.length_append, ih, List.length_cons, Nat.add_mul, Nat.add_comm]
    rfl
theorem chgCells_snoc (l : List Chg) (c : Chg) : chgCells (l ++ [c]) = chgCells l ++ c.cells := by simp [chgCells]
structure Dk where
  room : Int
  N : Dir
  S : Dir
  wait : List Chg
  calls : Int
  reads : Int
  failing : Bool
  others : Int
  fl : Nat → Fl
/-- The files that a disk reaches. -/
def Dk.refs (d : Dk) (g : Nat) : Prop := g ∈ d.N.map (·.2) ∨ g ∈ d.S.map (·.2) ∨ ∃ c ∈ d.wait, c.file = some g
structure Dk.Ok (d : Dk) (K : Nat) : Prop where
  big : K ≤ 1073741824
  room : 0 ≤ d.room ∧ d.room ≤ 4194304
  N : d.N.length ≤ K
  S : d.S.length + d.wait.length ≤ K
  names : ∀ c ∈ d.wait, c.gone.size ≤ maxLen ∧ c.name.size ≤ maxLen
  calls : 0 ≤ d.calls ∧ d.calls ≤ K
  reads : 0 ≤ d.reads ∧ d.reads ≤ K * 4194304
  others : 0 ≤ d.others ∧ d.others ≤ 9223372036854775807
def upd (fl : Nat → Fl) (g : Nat) (x : Fl) : Nat → Fl := fun j => if j = g then x else fl j
end Go.Proofs.YtcmlchicpmnhdaaDoor.Disk
