/-
  Texts one behind the other: SlotMath, DiskShelf.
-/
import Derived.Shelf.Bytes.SlClone
import Derived.Shelf.SlMaps.Copy
import Derived.Shelf.SlIter.Nil
import Derived.Shelf.SortM.Plain
import Derived.Shelf.SortM.SortNone
import Derived.Shelf.SlIterI.Nil
import Derived.Test.YtbljdcdcnnidkaaDoorProg
import Derived.Test.YtbljdcdcnnidkaaDoorG02
import Derived.Test.YtbljdcdcnnidkaaDoorG06
/-
  Plain facts: a slot as bytes; what fits its sum; what a changed byte, and what a crash, leave of it.
-/
namespace Go.Proofs.YtbljdcdcnnidkaaDoor.Slot
open Go.RowKit Go.Proofs.YtbljdcdcnnidkaaDoor.Rec
set_option linter.unusedVariables false
set_option linter.unusedSimpArgs false

/-- The turn and the length. -/
def slotHead (t n : Nat) : List UInt8 := be t 8 ++ be n 4
@[simp] theorem slotHead_length (t n : Nat) : (slotHead t n).length = 12 := by simp [slotHead]
/-- A slot's bytes. -/
def slotB (t : Nat) (b : List UInt8) : List UInt8 := slotHead t b.length ++ be (Crc.sum (slotHead t b.length ++ b)).toNat 4 ++ b
theorem slotB_length (t : Nat) (b : List UInt8) : (slotB t b).length = 16 + b.length := by simp [slotB]; omega
theorem sum_small (l : List UInt8) : (Crc.sum l).toNat < 256 ^ 4 := (Crc.sum l).isLt
theorem slot_turn (t : Nat) (b r : List UInt8) : Rec.part (slotB t b ++ r) 0 8 = be t 8 := by
  have e : slotB t b ++ r = [] ++ be t 8 ++ (be b.length 4 ++ be (Crc.sum (slotHead t b.length ++ b)).toNat 4 ++ b ++ r) := by simp [slotB, slotHead]
  rw [e]
  exact part_mid _ _ _ 0 8 rfl (by simp)
theorem slot_len (t : Nat) (b r : List UInt8) : Rec.part (slotB t b ++ r) 8 12 = be b.length 4 := by
  have e : slotB t b ++ r = be t 8 ++ be b.length 4 ++ (be (Crc.sum (slotHead t b.length ++ b)).toNat 4 ++ b ++ r) := by simp [slotB, slotHead]
  rw [e]
  exact part_mid _ _ _ 8 12 (by simp) (by simp)
theorem slot_sum (t : Nat) (b r : List UInt8) : Rec.part (slotB t b ++ r) 12 16 = be (Crc.sum (slotHead t b.length ++ b)).toNat 4 := by
  have e : slotB t b ++ r = slotHead t b.length ++ be (Crc.sum (slotHead t b.length ++ b)).toNat 4 ++ (b ++ r) := by simp [slotB]
  rw [e]
  exact part_mid _ _ _ 12 16 (by simp) (by simp)
theorem slot_text (t : Nat) (b r : List UInt8) : Rec.part (slotB t b ++ r) 16 (16 + b.length) = b := by
  have e : slotB t b ++ r = (slotHead t b.length ++ be (Crc.sum (slotHead t b.length ++ b)).toNat 4) ++ b ++ r := by simp [slotB]
  rw [e]
  exact part_mid _ _ _ _ _ (by simp) (by simp)
theorem slot_head (t : Nat) (b r : List UInt8) : (slotB t b ++ r).take 12 = slotHead t b.length := by
  have e : slotB t b ++ r = slotHead t b.length ++ (be (Crc.sum (slotHead t b.length ++ b)).toNat 4 ++ b ++ r) := by simp [slotB]
  rw [e]
  exact List.take_left' (by simp)
theorem slotN_of (t : Nat) (b r : List UInt8) (hb : b.length ≤ 4080) : slotN (slotB t b ++ r) = 16 + b.length := by
  have hl := slotB_length t b
  unfold slotN
  rw [slot_len, beN_be _ _ (by omega), slot_sum, slot_text, slot_head, beN_be _ _ (sum_small _)]
  rw [if_neg (by rw [List.length_append]; omega), if_neg (by rw [List.length_append]; omega), if_neg (by simp)]
/-- What a slot tells: its turn and its text. -/
def slotOf (bs : List UInt8) : Option (Nat × List UInt8) := if slotN bs = 0 then none else some (beN (Rec.part bs 0 8), Rec.part bs 16 (slotN bs))
theorem slotOf_of (t : Nat) (b r : List UInt8) (ht : t < 18446744073709551616) (hb : b.length ≤ 4080) : slotOf (slotB t b ++ r) = some (t, b) := by
  unfold slotOf
  rw [slotN_of t b r hb, if_neg (by omega), slot_turn, slot_text, beN_be _ _ (by omega)]
theorem slotN_bound (bs : List UInt8) : slotN bs = 0 ∨ (16 ≤ slotN bs ∧ slotN bs ≤ 4096 ∧ slotN bs ≤ bs.length ∧ slotN bs = 16 + beN (Rec.part bs 8 12) ∧ beN (Rec.part bs 12 16) = (Crc.sum (bs.take 12 ++ Rec.part bs 16 (slotN bs))).toNat) := by
  by_cases h1 : bs.length < 16
  · exact .inl (by unfold slotN; rw [if_pos h1])
  by_cases h2 : 4080 < beN (Rec.part bs 8 12) ∨ bs.length - 16 < beN (Rec.part bs 8 12)
  · exact .inl (by unfold slotN; rw [if_neg h1, if_pos h2])
  by_cases h3 : beN (Rec.part bs 12 16) ≠ (Crc.sum (bs.take 12 ++ Rec.part bs 16 (16 + beN (Rec.part bs 8 12)))).toNat
  · exact .inl (by unfold slotN; rw [if_neg h1, if_neg h2, if_pos h3])
  · have e : slotN bs = 16 + beN (Rec.part bs 8 12) := by unfold slotN; rw [if_neg h1, if_neg h2, if_neg h3]
    refine .inr ⟨by omega, by omega, by omega, e, ?_⟩
    rw [e]
    exact Classical.byContradiction h3
theorem part_same {a b : List UInt8} {k i j : Nat} (h : b.take k = a.take k) (hij : i ≤ j) (hj : j ≤ k) : Rec.part b i j = Rec.part a i j := by
  have e : ∀ l : List UInt8, Rec.part l i j = Rec.part (l.take k) i j := fun l => by
    unfold Rec.part
    rw [List.drop_take, List.take_take, Nat.min_eq_left (by omega)]
  rw [e b, e a, h]
/-- Where the bytes of a slot stand again, it tells the same. -/
theorem slot_same {a b : List UInt8} (h0 : 0 < slotN a) (hl : slotN a ≤ b.length) (h : b.take (slotN a) = a.take (slotN a)) : slotN b = slotN a ∧ slotOf b = slotOf a := by
  rcases slotN_bound a with h1 | ⟨h1, h2, h3, h4, h5⟩
  · omega
  have p1 := part_same h (show 0 ≤ 8 by omega) (by omega)
  have p2 := part_same h (show 8 ≤ 12 by omega) (by omega)
  have p3 := part_same h (show 12 ≤ 16 by omega) (by omega)
  have p4 := part_same h h1 (Nat.le_refl _)
  have p5 : b.take 12 = a.take 12 := by
    have := congrArg (List.take 12) h
    rwa [List.take_take, List.take_take, Nat.min_eq_left (by omega)] at this
  have h5' := h5
  rw [h4] at h5'
  have p4' : Rec.part b 16 (16 + beN (Rec.part a 8 12)) = Rec.part a 16 (16 + beN (Rec.part a 8 12)) := by rw [← h4]; exact p4
  have e : slotN b = slotN a := by
    refine Eq.trans ?_ h4.symm
    conv => lhs; unfold slotN
    rw [p2, p3, p5, p4', if_neg (by omega), if_neg (by omega), if_neg (by rw [h5']; simp)]
  refine ⟨e, ?_⟩
  unfold slotOf
  rw [e, p1, p4]
/-- A slot of which one byte was changed, but for its length, fits no more. -/
theorem slot_spoilt (t : Nat) (b r : List UInt8) (k : Nat) (c : UInt8) (hb : b.length ≤ 4080) (hk : k < 16 + b.length) (hc : c ≠ (slotB t b).getD k 0) (hn : ¬ (8 ≤ k ∧ k < 12)) : slotN ((slotB t b ++ r).set k c) = 0 := by
  have hL := slotB_length t b
  have hl : (slotB t b ++ r).length = 16 + b.length + r.length := by rw [List.length_append, hL]
  have g1 := slot_len t b r
  have g2 := slot_sum t b r
  have g3 := slot_text t b r
  have g4 := slot_head t b r
  have e0 : Rec.part ((slotB t b ++ r).set k c) 8 12 = be b.length 4 := by
    by_cases h8 : k < 8
    · rw [part_set, if_pos h8, g1]
    · rw [part_set_beyond _ _ _ _ _ (by omega) (by omega), g1]
  have eN : beN (be b.length 4) = b.length := beN_be _ _ (by omega)
  unfold slotN
  rw [e0, eN, if_neg (by rw [List.length_set, hl]; omega), if_neg (by rw [List.length_set, hl]; omega)]
  have h3 : beN (Rec.part ((slotB t b ++ r).set k c) 12 16) ≠ (Crc.sum (((slotB t b ++ r).set k c).take 12 ++ Rec.part ((slotB t b ++ r).set k c) 16 (16 + b.length))).toNat := by
    intro hr
    rw [List.take_set, g4] at hr
    by_cases k1 : k < 12
    · rw [part_set, if_pos (by omega), g2, part_set, if_pos (by omega), g3, beN_be _ _ (sum_small _), ← List.set_append_left _ _ (by simpa using k1)] at hr
      have := sum_set (l := slotHead t b.length ++ b) (k := k) (c := c) (by simp; omega) (BitVec.eq_of_toNat_eq hr.symm)
      refine hc (this.trans ?_)
      rw [getD_front _ _ _ (by simpa using k1), slotB, List.append_assoc, getD_front _ _ _ (by simpa using k1)]
    · have e12 : (slotHead t b.length).set k c = slotHead t b.length := List.set_eq_of_length_le (by simp; omega)
      rw [e12] at hr
      by_cases k2 : k < 16
      · rw [part_set, if_neg (by omega), g2, part_set, if_pos k2, g3] at hr
        have hb2 : be (Crc.sum (slotHead t b.length ++ b)).toNat 4 = (be (Crc.sum (slotHead t b.length ++ b)).toNat 4).set (k - 12) c := by
          refine beN_inj 4 _ _ (be_length _ _) (by simp) ?_
          rw [hr, beN_be _ _ (sum_small _)]
        refine hc ?_
        have e1 : (slotB t b).getD k 0 = (be (Crc.sum (slotHead t b.length ++ b)).toNat 4).getD (k - 12) 0 := by
          rw [slotB, List.append_assoc, List.getD_eq_getElem?_getD, List.getD_eq_getElem?_getD, List.getElem?_append_right (by simp; omega), slotHead_length, List.getElem?_append_left (by simp; omega)]
        rw [e1, hb2, List.getD_eq_getElem?_getD, List.getElem?_set_self (by simp; omega)]
        rfl
      · rw [part_set_beyond _ _ _ _ _ (by omega) (by omega), g2, part_set, if_neg (by omega), g3, beN_be _ _ (sum_small _)] at hr
        have e2 : slotHead t b.length ++ b.set (k - 16) c = (slotHead t b.length ++ b).set (k - 4) c := by
          rw [List.set_append_right _ _ (by simp; omega)]
          simp only [slotHead_length]
          rw [show k - 4 - 12 = k - 16 by omega]
        rw [e2] at hr
        have := sum_set (l := slotHead t b.length ++ b) (k := k - 4) (c := c) (by simp; omega) (BitVec.eq_of_toNat_eq hr.symm)
        refine hc (this.trans ?_)
        rw [slotB, List.append_assoc, List.getD_eq_getElem?_getD, List.getD_eq_getElem?_getD, List.getElem?_append_right (by simp; omega), List.getElem?_append_right (by simp; omega), List.getElem?_append_right (by simp; omega)]
        simp only [slotHead_length, be_length]
        rw [show k - 4 - 12 = k - 12 - 4 by omega]
  rw [if_pos h3]
end Go.Proofs.YtbljdcdcnnidkaaDoor.Slot
/-
  The contracts of Go's library that the proofs of this seat use, laid at the numbers of its program.
-/
namespace Go.Proofs.YtbljdcdcnnidkaaDoor
open Go.Shelf
def Shelf.clone_ren : Go.Shelf.Ren := ⟨fun | 4 => 39 | n => n, fun | 22 => 33 | 4 => 4 | 5 => 5 | n => n, fun | n => n⟩
theorem Shelf.clone : Go.Proofs.SlLaysK.n4 Tryd.prog Shelf.clone_ren := {
  mixed := by kernel_rfl,
  f4 := Tryd.func39.trans (congrArg some (by kernel_rfl)),
  t4 := Tryd.underlying4,
  a4 := Tryd.isAgg4,
  z4 := Tryd.sizeOf4,
  v4 := Tryd.zeroValue4,
  t22 := Tryd.underlying33,
  a22 := Tryd.isAgg33,
  z22 := Tryd.sizeOf33,
  v22 := Tryd.zeroValue33,
  t5 := Tryd.underlying5,
  i5 := by kernel_rfl }
def Shelf.mcopy_ren : Go.Shelf.Ren := ⟨fun | 5 => 29 | n => n, fun | 23 => 52 | 24 => 52 | 26 => 9 | 27 => 63 | 0 => 0 | 4 => 4 | n => n, fun | n => n⟩
theorem Shelf.mcopy : Go.Proofs.SlLaysX.n5 Tryd.prog Shelf.mcopy_ren := {
  mixed := by kernel_rfl,
  f5 := ⟨Tryd.f29.name, by decide, Tryd.func29.trans (congrArg some (by kernel_rfl))⟩,
  t0 := Tryd.underlying0,
  a0 := Tryd.isAgg0,
  z0 := Tryd.sizeOf0,
  v0 := Tryd.zeroValue0,
  t4 := Tryd.underlying4,
  a4 := Tryd.isAgg4,
  z4 := Tryd.sizeOf4,
  v4 := Tryd.zeroValue4,
  t23 := Tryd.underlying52,
  a23 := Tryd.isAgg52,
  z23 := Tryd.sizeOf52,
  v23 := Tryd.zeroValue52,
  t24 := Tryd.underlying52,
  a24 := Tryd.isAgg52,
  z24 := Tryd.sizeOf52,
  v24 := Tryd.zeroValue52,
  a26 := Tryd.isAgg9,
  z26 := Tryd.sizeOf9,
  a27 := Tryd.isAgg63,
  z27 := Tryd.sizeOf63 }
def Shelf.keysS_ren : Go.Shelf.Ren := ⟨fun | 7 => 46 | 10 => 59 | n => n, fun | 23 => 52 | 26 => 9 | 3 => 63 | 28 => 84 | 0 => 0 | 27 => 83 | 33 => 75 | 4 => 4 | n => n, fun | n => n⟩
theorem Shelf.keysS : Go.Proofs.SlLaysZ.n7 Tryd.prog Shelf.keysS_ren := {
  mixed := by kernel_rfl,
  f7 := ⟨Tryd.f46.name, by decide, Tryd.func46.trans (congrArg some (by kernel_rfl))⟩,
  f10 := ⟨Tryd.f59.name, by decide, Tryd.func59.trans (congrArg some (by kernel_rfl))⟩,
  t0 := Tryd.underlying0,
  a0 := Tryd.isAgg0,
  z0 := Tryd.sizeOf0,
  v0 := Tryd.zeroValue0,
  t4 := Tryd.underlying4,
  a4 := Tryd.isAgg4,
  z4 := Tryd.sizeOf4,
  v4 := Tryd.zeroValue4,
  t23 := Tryd.underlying52,
  a23 := Tryd.isAgg52,
  z23 := Tryd.sizeOf52,
  v23 := Tryd.zeroValue52,
  t26 := Tryd.underlying9,
  a26 := Tryd.isAgg9,
  z26 := Tryd.sizeOf9,
  v26 := Tryd.zeroValue9,
  t27 := Tryd.underlying83,
  a27 := Tryd.isAgg83,
  z27 := Tryd.sizeOf83,
  v27 := Tryd.zeroValue83,
  t28 := Tryd.underlying84,
  a28 := Tryd.isAgg84,
  z28 := Tryd.sizeOf84,
  v28 := Tryd.zeroValue84,
  t33 := Tryd.underlying75,
  a33 := Tryd.isAgg75,
  z33 := Tryd.sizeOf75,
  v33 := Tryd.zeroValue75 }
def Shelf.sortedS_ren : Go.Shelf.Ren := ⟨fun | 6 => 45 | 8 => 57 | 9 => 58 | 11 => 64 | 13 => 66 | 12 => 65 | 23 => 78 | 24 => 79 | 14 => 69 | 15 => 70 | 16 => 71 | 17 => 72 | 18 => 73 | 19 => 74 | 20 => 75 | 21 => 76 | 22 => 77 | 25 => 89 | 26 => 90 | 27 => 91 | 28 => 92 | 29 => 93 | 30 => 94 | 31 => 99 | n => n, fun | 26 => 9 | 28 => 84 | 24 => 67 | 0 => 0 | 3 => 3 | 37 => 99 | 48 => 94 | 50 => 32 | 4 => 4 | 40 => 110 | 39 => 109 | 45 => 115 | 5 => 5 | 9 => 9 | 51 => 125 | 55 => 128 | 57 => 132 | 58 => 133 | 33 => 75 | n => n, fun | n => n⟩
theorem Shelf.sortedS : Go.Proofs.SlLaysZ.n6 Tryd.prog Shelf.sortedS_ren := {
  mixed := by kernel_rfl,
  f6 := ⟨Tryd.f45.name, by decide, Tryd.func45.trans (congrArg some (by kernel_rfl))⟩,
  f8 := ⟨Tryd.f57.name, by decide, Tryd.func57.trans (congrArg some (by kernel_rfl))⟩,
  f11 := ⟨Tryd.f64.name, by decide, Tryd.func64.trans (congrArg some (by kernel_rfl))⟩,
  t0 := Tryd.underlying0,
  a0 := Tryd.isAgg0,
  z0 := Tryd.sizeOf0,
  v0 := Tryd.zeroValue0,
  t24 := Tryd.underlying67,
  a24 := Tryd.isAgg67,
  z24 := Tryd.sizeOf67,
  v24 := Tryd.zeroValue67,
  t26 := Tryd.underlying9,
  a26 := Tryd.isAgg9,
  z26 := Tryd.sizeOf9,
  v26 := Tryd.zeroValue9,
  t28 := Tryd.underlying84,
  a28 := Tryd.isAgg84,
  z28 := Tryd.sizeOf84,
  v28 := Tryd.zeroValue84,
  i26 := by kernel_rfl }
def Shelf.sortS_ren : Go.Shelf.Ren := ⟨fun | 6 => 58 | 8 => 66 | 9 => 65 | 19 => 78 | 20 => 79 | 21 => 69 | 22 => 70 | 23 => 71 | 24 => 72 | 25 => 73 | 26 => 74 | 27 => 75 | 28 => 76 | 29 => 77 | 36 => 89 | 31 => 90 | 32 => 91 | 37 => 92 | 38 => 93 | 39 => 94 | 41 => 99 | n => n, fun | 27 => 67 | 29 => 9 | 3 => 3 | 32 => 99 | 26 => 67 | 0 => 0 | 44 => 94 | 46 => 32 | 4 => 4 | 36 => 110 | 35 => 109 | 41 => 115 | 5 => 5 | 9 => 9 | 53 => 125 | 57 => 128 | 63 => 132 | 64 => 133 | n => n, fun | n => n⟩
theorem Shelf.sortS : Go.Proofs.SlLaysM.n6 Tryd.prog Shelf.sortS_ren := {
  mixed := by kernel_rfl,
  f6 := ⟨Tryd.f58.name, by decide, Tryd.func58.trans (congrArg some (by kernel_rfl))⟩,
  f8 := Tryd.func66.trans (congrArg some (by kernel_rfl)),
  f9 := ⟨Tryd.f65.name, by decide, Tryd.func65.trans (congrArg some (by kernel_rfl))⟩,
  f19 := Tryd.func78.trans (congrArg some (by kernel_rfl)),
  f20 := Tryd.func79.trans (congrArg some (by kernel_rfl)),
  f21 := ⟨Tryd.f69.name, by decide, Tryd.func69.trans (congrArg some (by kernel_rfl))⟩,
  f22 := ⟨Tryd.f70.name, by decide, Tryd.func70.trans (congrArg some (by kernel_rfl))⟩,
  f23 := ⟨Tryd.f71.name, by decide, Tryd.func71.trans (congrArg some (by kernel_rfl))⟩,
  f24 := ⟨Tryd.f72.name, by decide, Tryd.func72.trans (congrArg some (by kernel_rfl))⟩,
  f25 := ⟨Tryd.f73.name, by decide, Tryd.func73.trans (congrArg some (by kernel_rfl))⟩,
  f26 := ⟨Tryd.f74.name, by decide, Tryd.func74.trans (congrArg some (by kernel_rfl))⟩,
  f27 := ⟨Tryd.f75.name, by decide, Tryd.func75.trans (congrArg some (by kernel_rfl))⟩,
  f28 := ⟨Tryd.f76.name, by decide, Tryd.func76.trans (congrArg some (by kernel_rfl))⟩,
  f29 := ⟨Tryd.f77.name, by decide, Tryd.func77.trans (congrArg some (by kernel_rfl))⟩,
  f31 := Tryd.func90.trans (congrArg some (by kernel_rfl)),
  f32 := Tryd.func91.trans (congrArg some (by kernel_rfl)),
  f36 := ⟨Tryd.f89.name, by decide, Tryd.func89.trans (congrArg some (by kernel_rfl))⟩,
  f37 := ⟨Tryd.f92.name, by decide, Tryd.func92.trans (congrArg some (by kernel_rfl))⟩,
  f38 := ⟨Tryd.f93.name, by decide, Tryd.func93.trans (congrArg some (by kernel_rfl))⟩,
  f39 := ⟨Tryd.f94.name, by decide, Tryd.func94.trans (congrArg some (by kernel_rfl))⟩,
  f41 := ⟨Tryd.f99.name, by decide, Tryd.func99.trans (congrArg some (by kernel_rfl))⟩,
  t0 := Tryd.underlying0,
  a0 := Tryd.isAgg0,
  z0 := Tryd.sizeOf0,
  v0 := Tryd.zeroValue0,
  t3 := Tryd.underlying3,
  a3 := Tryd.isAgg3,
  z3 := Tryd.sizeOf3,
  v3 := Tryd.zeroValue3,
  t4 := Tryd.underlying4,
  a4 := Tryd.isAgg4,
  z4 := Tryd.sizeOf4,
  v4 := Tryd.zeroValue4,
  t5 := Tryd.underlying5,
  a5 := Tryd.isAgg5,
  z5 := Tryd.sizeOf5,
  v5 := Tryd.zeroValue5,
  t9 := Tryd.underlying9,
  a9 := Tryd.isAgg9,
  z9 := Tryd.sizeOf9,
  v9 := Tryd.zeroValue9,
  t26 := Tryd.underlying67,
  a26 := Tryd.isAgg67,
  z26 := Tryd.sizeOf67,
  v26 := Tryd.zeroValue67,
  t27 := Tryd.underlying67,
  a27 := Tryd.isAgg67,
  z27 := Tryd.sizeOf67,
  v27 := Tryd.zeroValue67,
  t29 := Tryd.underlying9,
  a29 := Tryd.isAgg9,
  z29 := Tryd.sizeOf9,
  v29 := Tryd.zeroValue9,
  t32 := Tryd.underlying99,
  a32 := Tryd.isAgg99,
  z32 := Tryd.sizeOf99,
  v32 := Tryd.zeroValue99,
  t35 := Tryd.underlying109,
  a35 := Tryd.isAgg109,
  z35 := Tryd.sizeOf109,
  v35 := Tryd.zeroValue109,
  t36 := Tryd.underlying110,
  a36 := Tryd.isAgg110,
  z36 := Tryd.sizeOf110,
  v36 := Tryd.zeroValue110,
  t41 := Tryd.underlying115,
  a41 := Tryd.isAgg115,
  z41 := Tryd.sizeOf115,
  v41 := Tryd.zeroValue115,
  t44 := Tryd.underlying94,
  a44 := Tryd.isAgg94,
  z44 := Tryd.sizeOf94,
  v44 := Tryd.zeroValue94,
  t46 := Tryd.underlying32,
  a46 := Tryd.isAgg32,
  z46 := Tryd.sizeOf32,
  v46 := Tryd.zeroValue32,
  t53 := Tryd.underlying125,
  a53 := Tryd.isAgg125,
  z53 := Tryd.sizeOf125,
  v53 := Tryd.zeroValue125,
  t57 := Tryd.underlying128,
  a57 := Tryd.isAgg128,
  z57 := Tryd.sizeOf128,
  v57 := Tryd.zeroValue128,
  t63 := Tryd.underlying132,
  a63 := Tryd.isAgg132,
  z63 := Tryd.sizeOf132,
  v63 := Tryd.zeroValue132,
  t64 := Tryd.underlying133,
  a64 := Tryd.isAgg133,
  z64 := Tryd.sizeOf133,
  v64 := Tryd.zeroValue133 }
def Shelf.keysI_ren : Go.Shelf.Ren := ⟨fun | 7 => 48 | 10 => 62 | n => n, fun | 23 => 69 | 26 => 3 | 3 => 33 | 28 => 88 | 0 => 0 | 27 => 87 | 33 => 49 | 4 => 4 | n => n, fun | n => n⟩
theorem Shelf.keysI : Go.Proofs.SlLaysZI.n7 Tryd.prog Shelf.keysI_ren := {
  mixed := by kernel_rfl,
  f7 := ⟨Tryd.f48.name, by decide, Tryd.func48.trans (congrArg some (by kernel_rfl))⟩,
  f10 := ⟨Tryd.f62.name, by decide, Tryd.func62.trans (congrArg some (by kernel_rfl))⟩,
  t0 := Tryd.underlying0,
  a0 := Tryd.isAgg0,
  z0 := Tryd.sizeOf0,
  v0 := Tryd.zeroValue0,
  t4 := Tryd.underlying4,
  a4 := Tryd.isAgg4,
  z4 := Tryd.sizeOf4,
  v4 := Tryd.zeroValue4,
  t23 := Tryd.underlying69,
  a23 := Tryd.isAgg69,
  z23 := Tryd.sizeOf69,
  v23 := Tryd.zeroValue69,
  t26 := Tryd.underlying3,
  a26 := Tryd.isAgg3,
  z26 := Tryd.sizeOf3,
  v26 := Tryd.zeroValue3,
  t27 := Tryd.underlying87,
  a27 := Tryd.isAgg87,
  z27 := Tryd.sizeOf87,
  v27 := Tryd.zeroValue87,
  t28 := Tryd.underlying88,
  a28 := Tryd.isAgg88,
  z28 := Tryd.sizeOf88,
  v28 := Tryd.zeroValue88,
  t33 := Tryd.underlying49,
  a33 := Tryd.isAgg49,
  z33 := Tryd.sizeOf49,
  v33 := Tryd.zeroValue49 }
def Shelf.sortedI_ren : Go.Shelf.Ren := ⟨fun | 6 => 47 | 8 => 60 | 9 => 61 | 11 => 67 | 13 => 66 | 12 => 68 | 23 => 78 | 24 => 79 | 14 => 80 | 15 => 81 | 16 => 82 | 17 => 83 | 18 => 84 | 19 => 85 | 20 => 86 | 21 => 87 | 22 => 88 | 25 => 95 | 26 => 90 | 27 => 91 | 28 => 96 | 29 => 97 | 30 => 98 | 31 => 100 | n => n, fun | 26 => 3 | 28 => 88 | 24 => 23 | 0 => 0 | 3 => 3 | 37 => 99 | 48 => 94 | 50 => 32 | 4 => 4 | 40 => 110 | 39 => 109 | 45 => 115 | 5 => 5 | 9 => 9 | 51 => 125 | 55 => 128 | 57 => 132 | 58 => 133 | 33 => 49 | n => n, fun | n => n⟩
theorem Shelf.sortedI : Go.Proofs.SlLaysZI.n6 Tryd.prog Shelf.sortedI_ren := {
  mixed := by kernel_rfl,
  f6 := ⟨Tryd.f47.name, by decide, Tryd.func47.trans (congrArg some (by kernel_rfl))⟩,
  f8 := ⟨Tryd.f60.name, by decide, Tryd.func60.trans (congrArg some (by kernel_rfl))⟩,
  f11 := ⟨Tryd.f67.name, by decide, Tryd.func67.trans (congrArg some (by kernel_rfl))⟩,
  t0 := Tryd.underlying0,
  a0 := Tryd.isAgg0,
  z0 := Tryd.sizeOf0,
  v0 := Tryd.zeroValue0,
  t24 := Tryd.underlying23,
  a24 := Tryd.isAgg23,
  z24 := Tryd.sizeOf23,
  v24 := Tryd.zeroValue23,
  t26 := Tryd.underlying3,
  a26 := Tryd.isAgg3,
  z26 := Tryd.sizeOf3,
  v26 := Tryd.zeroValue3,
  t28 := Tryd.underlying88,
  a28 := Tryd.isAgg88,
  z28 := Tryd.sizeOf88,
  v28 := Tryd.zeroValue88,
  i26 := by kernel_rfl }
def Shelf.sortI_ren : Go.Shelf.Ren := ⟨fun | 5 => 61 | 8 => 66 | 7 => 68 | 19 => 78 | 20 => 79 | 10 => 80 | 11 => 81 | 12 => 82 | 13 => 83 | 14 => 84 | 15 => 85 | 16 => 86 | 17 => 87 | 18 => 88 | 30 => 95 | 31 => 90 | 32 => 91 | 33 => 96 | 34 => 97 | 35 => 98 | 40 => 100 | n => n, fun | 23 => 23 | 25 => 3 | 3 => 3 | 32 => 99 | 22 => 23 | 0 => 0 | 44 => 94 | 46 => 32 | 4 => 4 | 36 => 110 | 35 => 109 | 41 => 115 | 5 => 5 | 9 => 9 | 53 => 125 | 57 => 128 | 63 => 132 | 64 => 133 | n => n, fun | n => n⟩
theorem Shelf.sortI : Go.Proofs.SlLaysM.n5 Tryd.prog Shelf.sortI_ren := {
  mixed := by kernel_rfl,
  f5 := ⟨Tryd.f61.name, by decide, Tryd.func61.trans (congrArg some (by kernel_rfl))⟩,
  f7 := ⟨Tryd.f68.name, by decide, Tryd.func68.trans (congrArg some (by kernel_rfl))⟩,
  f8 := Tryd.func66.trans (congrArg some (by kernel_rfl)),
  f10 := ⟨Tryd.f80.name, by decide, Tryd.func80.trans (congrArg some (by kernel_rfl))⟩,
  f11 := ⟨Tryd.f81.name, by decide, Tryd.func81.trans (congrArg some (by kernel_rfl))⟩,
  f12 := ⟨Tryd.f82.name, by decide, Tryd.func82.trans (congrArg some (by kernel_rfl))⟩,
  f13 := ⟨Tryd.f83.name, by decide, Tryd.func83.trans (congrArg some (by kernel_rfl))⟩,
  f14 := ⟨Tryd.f84.name, by decide, Tryd.func84.trans (congrArg some (by kernel_rfl))⟩,
  f15 := ⟨Tryd.f85.name, by decide, Tryd.func85.trans (congrArg some (by kernel_rfl))⟩,
  f16 := ⟨Tryd.f86.name, by decide, Tryd.func86.trans (congrArg some (by kernel_rfl))⟩,
  f17 := ⟨Tryd.f87.name, by decide, Tryd.func87.trans (congrArg some (by kernel_rfl))⟩,
  f18 := ⟨Tryd.f88.name, by decide, Tryd.func88.trans (congrArg some (by kernel_rfl))⟩,
  f19 := Tryd.func78.trans (congrArg some (by kernel_rfl)),
  f20 := Tryd.func79.trans (congrArg some (by kernel_rfl)),
  f30 := ⟨Tryd.f95.name, by decide, Tryd.func95.trans (congrArg some (by kernel_rfl))⟩,
  f31 := Tryd.func90.trans (congrArg some (by kernel_rfl)),
  f32 := Tryd.func91.trans (congrArg some (by kernel_rfl)),
  f33 := ⟨Tryd.f96.name, by decide, Tryd.func96.trans (congrArg some (by kernel_rfl))⟩,
  f34 := ⟨Tryd.f97.name, by decide, Tryd.func97.trans (congrArg some (by kernel_rfl))⟩,
  f35 := ⟨Tryd.f98.name, by decide, Tryd.func98.trans (congrArg some (by kernel_rfl))⟩,
  f40 := ⟨Tryd.f100.name, by decide, Tryd.func100.trans (congrArg some (by kernel_rfl))⟩,
  t0 := Tryd.underlying0,
  a0 := Tryd.isAgg0,
  z0 := Tryd.sizeOf0,
  v0 := Tryd.zeroValue0,
  t3 := Tryd.underlying3,
  a3 := Tryd.isAgg3,
  z3 := Tryd.sizeOf3,
  v3 := Tryd.zeroValue3,
  t4 := Tryd.underlying4,
  a4 := Tryd.isAgg4,
  z4 := Tryd.sizeOf4,
  v4 := Tryd.zeroValue4,
  t5 := Tryd.underlying5,
  a5 := Tryd.isAgg5,
  z5 := Tryd.sizeOf5,
  v5 := Tryd.zeroValue5,
  t9 := Tryd.underlying9,
  a9 := Tryd.isAgg9,
  z9 := Tryd.sizeOf9,
  v9 := Tryd.zeroValue9,
  t22 := Tryd.underlying23,
  a22 := Tryd.isAgg23,
  z22 := Tryd.sizeOf23,
  v22 := Tryd.zeroValue23,
  t23 := Tryd.underlying23,
  a23 := Tryd.isAgg23,
  z23 := Tryd.sizeOf23,
  v23 := Tryd.zeroValue23,
  t25 := Tryd.underlying3,
  a25 := Tryd.isAgg3,
  z25 := Tryd.sizeOf3,
  v25 := Tryd.zeroValue3,
  t32 := Tryd.underlying99,
  a32 := Tryd.isAgg99,
  z32 := Tryd.sizeOf99,
  v32 := Tryd.zeroValue99,
  t35 := Tryd.underlying109,
  a35 := Tryd.isAgg109,
  z35 := Tryd.sizeOf109,
  v35 := Tryd.zeroValue109,
  t36 := Tryd.underlying110,
  a36 := Tryd.isAgg110,
  z36 := Tryd.sizeOf110,
  v36 := Tryd.zeroValue110,
  t41 := Tryd.underlying115,
  a41 := Tryd.isAgg115,
  z41 := Tryd.sizeOf115,
  v41 := Tryd.zeroValue115,
  t44 := Tryd.underlying94,
  a44 := Tryd.isAgg94,
  z44 := Tryd.sizeOf94,
  v44 := Tryd.zeroValue94,
  t46 := Tryd.underlying32,
  a46 := Tryd.isAgg32,
  z46 := Tryd.sizeOf32,
  v46 := Tryd.zeroValue32,
  t53 := Tryd.underlying125,
  a53 := Tryd.isAgg125,
  z53 := Tryd.sizeOf125,
  v53 := Tryd.zeroValue125,
  t57 := Tryd.underlying128,
  a57 := Tryd.isAgg128,
  z57 := Tryd.sizeOf128,
  v57 := Tryd.zeroValue128,
  t63 := Tryd.underlying132,
  a63 := Tryd.isAgg132,
  z63 := Tryd.sizeOf132,
  v63 := Tryd.zeroValue132,
  t64 := Tryd.underlying133,
  a64 := Tryd.isAgg133,
  z64 := Tryd.sizeOf133,
  v64 := Tryd.zeroValue133 }
end Go.Proofs.YtbljdcdcnnidkaaDoor
