/-
  Texts one behind the other: ScanMath, ScanRow, ScanBuilt, ScanCom, MixSlot.
-/
import Derived.Deep.Onto
import Derived.Great.Walk
import Derived.Great.BuildSlice
import Derived.Test.YtbljdcdcnnidkaaGreatDoorG02
import Derived.Test.YtbljdcdcnnidkaaGreatDoorG06
import Derived.Test.YtbljdcdcnnidkaaGreatDoorG07
import Derived.Test.YtbljdcdcnnidkaaGreatDoorG08
import Derived.Test.YtbljdcdcnnidkaaGreatDoorG09
/-
  Plain facts: which records stand in a list of bytes, from place to place, and at its front: no Go text, no program.
-/
namespace Go.Proofs.YtbljdcdcnnidkaaGreatDoor.Rec
set_option linter.unusedVariables false
set_option linter.unusedSimpArgs false

theorem dec_ok {bs : List UInt8} {x : Rc} {n : Nat} (h : dec bs = .ok x n) : n = 39 + x.body.length ∧ n ≤ bs.length ∧ x.May ∧ x.Fits ∧ x.bytes = bs.take n := by
  unfold dec at h
  split at h
  · cases h
  · rename_i hf
    have hf := Classical.not_not.1 hf
    split at h
    · cases h
    · split at h
      · cases h
      · rename_i hm
        have hm := Classical.not_not.1 hm
        split at h
        · cases h
        · rename_i hl
          have hl : 39 + lenOf bs ≤ bs.length := by omega
          split at h
          · cases h
          · rename_i hs
            have hs := Classical.not_not.1 hs
            injection h with h1 h2
            have hp : (part bs 39 (39 + lenOf bs)).length = lenOf bs := by rw [part_length bs 39 _ (by omega) hl]; omega
            subst h1 h2
            refine ⟨by show 39 + lenOf bs = 39 + (part bs 39 (39 + lenOf bs)).length; rw [hp], hl, again_may bs hm hl, ?_, (again bs hf hl).2 hs⟩
            exact ⟨beN_lt 4 _ (part_length bs 3 7 (by omega) (by omega)), beN_lt 8 _ (part_length bs 7 15 (by omega) (by omega)), beN_lt 8 _ (part_length bs 15 23 (by omega) (by omega)), beN_lt 8 _ (part_length bs 23 31 (by omega) (by omega))⟩
/-- The records from a place on; so many steps at most. -/
def allF : Nat → Nat → List UInt8 → List (Nat × Rc)
  | 0, _, _ => []
  | f + 1, p, bs =>
    if bs.length ≤ p then []
    else match dec (bs.drop p) with
      | .ok x n => (p, x) :: allF f (p + n) bs
      | _ => allF f (p + 1) bs
theorem allF_enough (bs : List UInt8) : ∀ (f g p : Nat), bs.length ≤ p + f → bs.length ≤ p + g → allF f p bs = allF g p bs := by
  intro f
  induction f with
  | zero =>
    intro g p h1 _
    cases g with
    | zero => rfl
    | succ g => rw [allF, allF, if_pos (by omega)]
  | succ f ih =>
    intro g p h1 h2
    cases g with
    | zero => rw [allF, allF, if_pos (by omega)]
    | succ g =>
      rw [allF, allF]
      by_cases hp : bs.length ≤ p
      · rw [if_pos hp, if_pos hp]
      · rw [if_neg hp, if_neg hp]
        cases hd : dec (bs.drop p) with
        | ok x n =>
          have := (dec_ok hd).1
          show _ :: _ = _ :: _
          rw [ih g (p + n) (by omega) (by omega)]
        | more => exact ih g (p + 1) (by omega) (by omega)
        | bad => exact ih g (p + 1) (by omega) (by omega)
/-- The records from a place on. -/
def allFrom (p : Nat) (bs : List UInt8) : List (Nat × Rc) := allF (bs.length - p) p bs
theorem allFrom_end (p : Nat) (bs : List UInt8) (h : bs.length ≤ p) : allFrom p bs = [] := by
  unfold allFrom
  rw [Nat.sub_eq_zero_of_le h]
  rfl
theorem allFrom_ok {p n : Nat} {bs : List UInt8} {x : Rc} (h : p < bs.length) (hd : dec (bs.drop p) = .ok x n) : allFrom p bs = (p, x) :: allFrom (p + n) bs := by
  have hn := (dec_ok hd).1
  unfold allFrom
  rw [show bs.length - p = (bs.length - p - 1) + 1 by omega, allF, if_neg (by omega), hd]
  show _ :: _ = _ :: _
  rw [allF_enough bs (bs.length - p - 1) (bs.length - (p + n)) (p + n) (by omega) (by omega)]
theorem allFrom_no {p : Nat} {bs : List UInt8} (h : p < bs.length) (hd : ∀ x n, dec (bs.drop p) ≠ .ok x n) : allFrom p bs = allFrom (p + 1) bs := by
  unfold allFrom
  rw [show bs.length - p = (bs.length - p - 1) + 1 by omega, allF, if_neg (by omega), show bs.length - (p + 1) = bs.length - p - 1 by omega]
  cases hd' : dec (bs.drop p) with
  | ok x n => exact absurd hd' (hd x n)
  | more => rfl
  | bad => rfl
/-- The records one behind the other from a place on; so many at most. -/
def frontF : Nat → Nat → List UInt8 → List (Nat × Rc)
  | 0, _, _ => []
  | f + 1, p, bs => match dec (bs.drop p) with
      | .ok x n => (p, x) :: frontF f (p + n) bs
      | _ => []
theorem frontF_enough (bs : List UInt8) : ∀ (f g p : Nat), bs.length < p + f → bs.length < p + g → frontF f p bs = frontF g p bs := by
  intro f
  induction f with
  | zero =>
    intro g p h1 _
    cases g with
    | zero => rfl
    | succ g =>
      rw [frontF, frontF]
      cases hd : dec (bs.drop p) with
      | ok x n =>
        have h2 := (dec_ok hd).1
        have h3 := (dec_ok hd).2.1
        rw [List.length_drop] at h3
        omega
      | more => rfl
      | bad => rfl
  | succ f ih =>
    intro g p h1 h2
    cases g with
    | zero =>
      rw [frontF, frontF]
      cases hd : dec (bs.drop p) with
      | ok x n =>
        have h2 := (dec_ok hd).1
        have h3 := (dec_ok hd).2.1
        rw [List.length_drop] at h3
        omega
      | more => rfl
      | bad => rfl
    | succ g =>
      rw [frontF, frontF]
      cases hd : dec (bs.drop p) with
      | ok x n =>
        have := (dec_ok hd).1
        show _ :: _ = _ :: _
        rw [ih g (p + n) (by omega) (by omega)]
      | more => rfl
      | bad => rfl
def frontFrom (p : Nat) (bs : List UInt8) : List (Nat × Rc) := frontF (bs.length - p + 1) p bs
theorem frontFrom_ok {p n : Nat} {bs : List UInt8} {x : Rc} (hd : dec (bs.drop p) = .ok x n) : frontFrom p bs = (p, x) :: frontFrom (p + n) bs := by
  have hn := (dec_ok hd).1
  have hl := (dec_ok hd).2.1
  rw [List.length_drop] at hl
  unfold frontFrom
  rw [frontF, hd]
  show _ :: _ = _ :: _
  rw [frontF_enough bs (bs.length - p) (bs.length - (p + n) + 1) (p + n) (by omega) (by omega)]
theorem frontFrom_no {p : Nat} {bs : List UInt8} (hd : ∀ x n, dec (bs.drop p) ≠ .ok x n) : frontFrom p bs = [] := by
  unfold frontFrom
  rw [frontF]
  cases hd' : dec (bs.drop p) with
  | ok x n => exact absurd hd' (hd x n)
  | more => rfl
  | bad => rfl
/-- How many bytes they take. -/
def endOf (p : Nat) : List (Nat × Rc) → Nat
  | [] => p
  | (q, x) :: l => endOf (q + (39 + x.body.length)) l
end Go.Proofs.YtbljdcdcnnidkaaGreatDoor.Rec
/-
  Plain facts: records found, as a row of structs of seven cells that the call itself made; an append of one more.
-/
namespace Go.Proofs.YtbljdcdcnnidkaaGreatDoor.Rec
open Go.RowKit
set_option linter.unusedVariables false
set_option linter.unusedSimpArgs false

/-- The cells of one record found. -/
def fcells (q : Nat × Rc) : List Value := .int .i64 (q.1 : Int) :: q.2.vals.toList
def flat (l : List (Nat × Rc)) : List Value := l.flatMap fcells
theorem fcells_length (q : Nat × Rc) : (fcells q).length = 7 := rfl
theorem flat_length (l : List (Nat × Rc)) : (flat l).length = l.length * 7 := by
  induction l with
  | nil => rfl
  | cons q l ih =>
    unfold flat at ih ⊢
    rw [List.flatMap_cons, List.length_append, ih, fcells_length, List.length_cons]
    omega
theorem flat_snoc (l : List (Nat × Rc)) (q : Nat × Rc) : flat l ++ fcells q = flat (l ++ [q]) := by
  unfold flat
  rw [List.flatMap_append, List.flatMap_singleton]
theorem fcells_one (q : Nat × Rc) : ∀ u ∈ fcells q, u.oneCell' = true := by
  intro u hu
  simp only [fcells, Rc.vals, List.mem_cons, List.not_mem_nil, or_false] at hu
  rcases hu with rfl | rfl | rfl | rfl | rfl | rfl | rfl <;> rfl
/-- Records found so far: a row of the call's own, of any struct type that has these cells. -/
structure Fd (w0 : World) (e : TypeId) (w : World) (v : Value) (l : List (Nat × Rc)) : Prop where
  row : w.ownsRow w0.heap.size e 7 v l.length (flat l)
  below : Below w0.heap.size w0 w
theorem Fd.nil (w : World) (e : TypeId) : Fd w e w (.slice none 0 0) [] := ⟨World.ownsRow_nil _ _ _ _, Below.refl _ _⟩
theorem Fd.all {w0 w w' : World} {e : TypeId} {v : Value} {l : List (Nat × Rc)} (h : Fd w0 e w v l) (hb : Below w.heap.size w w') : Fd w0 e w' v l :=
  ⟨h.row.kept (row := none) ⟨hb.os, hb.tape, hb.output, hb.size, fun i hi _ => hb.block i hi⟩ (Classical.em _), h.below.trans (hb.mono h.below.size)⟩
section
variable {w0 w : World} {e : TypeId} {v : Value} {l : List (Nat × Rc)} {ops : Array Oper} {rest : List Oper} {o : Oper} {a : Act} {Q : Exit → Act → World → Prop}
theorem fd_append (h : Fd w0 e w v l) (T : TypeId) (z : Value) (by' : Nat) (hT : Tryz.prog.underlying T = some (.slice e)) (hi : (Tryz.prog.info? e).map (fun i => (i.zero, i.size, i.bytes)) = some (some z, 7, by')) (hz : z.cells.size = 7) (hby : by' ≤ 64)
    (hgd : o.guard = none) (s y : Operand) (ho : o.op = .call { callee := .builtin .append, args := #[s, y], argTypes := #[T, T] }) (hs : a.eval s = v)
    (g c : Nat) (q : Nat × Rc) (hy : a.eval y = .slice (some ⟨g, 0, none⟩) 1 c) (hq : ∀ j u, (fcells q)[j]? = some u → w.cell? ⟨g, j, none⟩ = some u) (hl : l.length ≤ 100000000)
    (k : ∀ v' w', Hid (Fd w0 e w' v' (l ++ [q])) → wpList Tryz.prog ops Q rest (a.put o.dst v') w') : wpList Tryz.prog ops Q (o :: rest) a w := by
  obtain ⟨i, hii, hzz⟩ := Option.map_eq_some_iff.1 hi
  simp only [Prod.mk.injEq] at hzz
  obtain ⟨hz0, hs1, hb1⟩ := hzz
  refine wpList_append_own (w := w) hgd s y T ho w0.heap.size e i z 7 by' hT hii hz0 hs1 hb1 hz (by decide) v l.length (flat l) hs h.row ⟨g, 0, none⟩ 1 c (fcells q) hy (fcells_length q) ?_ (fcells_one q) (by unfold maxLen; omega) ?_ h.below.size ?_
  · intro j u hu
    have := hq j u hu
    rw [Addr.add_lit, Nat.zero_add]
    exact this
  · have : (l.length + 1) * by' ≤ (l.length + 1) * 64 := Nat.mul_le_mul_left _ hby
    omega
  · intro v' w' h1 h2 _
    refine k v' w' ⟨?_, own_below h.row h.below (Nat.le_refl _) h.below.size h2⟩
    rw [flat_snoc] at h1
    rw [List.length_append]
    exact h1
end
/-- A block of one record found. -/
theorem one_cells (w : World) (t : TypeId) (fr : Nat × Nat) (q : Nat × Rc) (cs : Array Value) (h : cs.toList = fcells q) : ∀ j u, (fcells q)[j]? = some u → (w.alloc (.cells cs t fr)).cell? ⟨w.heap.size, j, none⟩ = some u := by
  intro j u hu
  rw [cell_of_row _ w.heap.size j cs t fr (heap_alloc_new w _), ← Array.getElem?_toList, h]
  exact hu
end Go.Proofs.YtbljdcdcnnidkaaGreatDoor.Rec
/-
  Plain facts: a record found, built out of its place and the record; a slice of one of these.
-/
namespace Go.Proofs.YtbljdcdcnnidkaaGreatDoor.Rec
open Go.RowKit
set_option linter.unusedVariables false
set_option linter.unusedSimpArgs false

theorem built_ref (p : Nat) (x : Rc) : Tryz.prog.built 80 [(0, .int .i64 (p : Int)), (1, .agg x.vals)] = some (fcells (p, x)).toArray := by kernel_rfl
theorem slice_ref (p : Nat) (x : Rc) : Tryz.prog.builtSlice 80 1 [(0, .agg (fcells (p, x)).toArray)] = some (fcells (p, x)).toArray := by kernel_rfl
section
variable {w : World} {ops : Array Oper} {rest : List Oper} {o : Oper} {a : Act} {Q : Exit → Act → World → Prop}
theorem build_found (hg : o.guard = none) (T : TypeId) (y1 y2 : Operand) (ho : o.op = .build T #[(0, y1), (1, y2)]) (d : Option Tmp) (hd : o.dst = d) (v1 v2 : Value) (h1 : a.eval y1 = v1) (h2 : a.eval y2 = v2) (fc : Array Value)
    (hb : Tryz.prog.built T [(0, v1), (1, v2)] = some fc) (k : wpList Tryz.prog ops Q rest (a.put d (.agg fc)) w) : wpList Tryz.prog ops Q (o :: rest) a w := by
  refine wpList_buildTo hg T _ ho d hd fc ?_ k
  rw [Array.toList_map]
  simp only [List.map_cons, List.map_nil, h1, h2]
  exact hb
theorem build_one (hg : o.guard = none) (T e : TypeId) (y : Operand) (ho : o.op = .buildSlice T 1 #[(0, y)]) (d : Option Tmp) (hd : o.dst = d) (hu : Tryz.prog.underlying T = some (.slice e)) (v : Value) (hy : a.eval y = v) (fc : Array Value)
    (hb : Tryz.prog.builtSlice e 1 [(0, v)] = some fc) (k : wpList Tryz.prog ops Q rest (a.put d (.slice (some ⟨w.heap.size, 0, none⟩) 1 1)) (w.alloc (.cells fc e))) : wpList Tryz.prog ops Q (o :: rest) a w := by
  refine Go.Great.wpList_buildSliceTo hg T e 1 _ ho w.heap.size rfl d hd hu fc ?_ k
  rw [Array.toList_map]
  simp only [List.map_cons, List.map_nil, hy]
  exact hb
end
end Go.Proofs.YtbljdcdcnnidkaaGreatDoor.Rec
/-
  Plain facts: what Decode says as a value, slices from a place on, a new variable beside records found.
-/
namespace Go.Proofs.YtbljdcdcnnidkaaGreatDoor.Rec
open Go.RowKit
set_option linter.unusedVariables false
set_option linter.unusedSimpArgs false

theorem found_info : (Tryz.prog.info? 80).map (fun i => (i.zero, i.size, i.bytes)) = some (some (.agg #[.int .i64 0, .int .i64 0, .int .u32 0, .int .u64 0, .int .u64 0, .int .u64 0, .string ⟨#[]⟩]), 7, 64) := by kernel_rfl
theorem out_ok (o : Out) : (∃ x n, o = .ok x n) ∨ ∃ e : Int, e ≠ 0 ∧ o.vals = #[.agg zeroRc.vals, .int .i64 0, .int .i64 e] ∧ ∀ x n, o ≠ .ok x n := by
  cases o with
  | ok x n => exact .inl ⟨x, n, rfl⟩
  | more => exact .inr ⟨11, by decide, rfl, fun _ _ h => by cases h⟩
  | bad => exact .inr ⟨4, by decide, rfl, fun _ _ h => by cases h⟩
theorem row_from {w : World} {B n p b o : Nat} {bs : List UInt8} (h : Row w B (some ⟨b, o, none⟩) n (bvs bs)) (hp : p < n) : Row w B (some ⟨b, o + p, none⟩) (n - p) (bvs (bs.drop p)) := by
  have := h.drop hp
  rwa [bvs_drop] at this
/-- .. behind a new record of the call's own. -/
theorem fd_store {w0 w w' : World} {e t : TypeId} {v : Value} {l : List (Nat × Rc)} {cs : Array Value} (h : Fd w0 e w v l) (hg : (w.alloc (.cells cs t)).grownBy w' (some w.heap.size)) : Hid (Fd w0 e w' v l) := by
  have hb : Below w.heap.size w w' := below_only (below_alloc w (.cells cs t)) hg (Nat.le_refl _) (by simp)
  exact h.all hb
/-- A slice from a place on, that place at its end too. -/
theorem row_upto {w : World} {B n p b o c : Nat} {bs : List UInt8} {P : Option Addr} (h : Row w B (some ⟨b, o, none⟩) n (bvs bs)) (hp : p ≤ n) (hnc : n ≤ c) (hP : (if c = p then some (⟨b, o, none⟩ : Addr) else some ⟨b, o + p, none⟩) = P) : Row w B P (n - p) (bvs (bs.drop p)) := by
  by_cases hlt : p < n
  · rw [if_neg (by omega)] at hP
    subst hP
    exact row_from h hlt
  · exact ⟨by rw [bvs_length, List.length_drop, h.size], fun hn => absurd hn (by omega)⟩
theorem dec_nil : dec [] = .more := by
  unfold dec
  rw [if_neg (not_not_intro ⟨fun h => absurd h (by decide), fun h => absurd h (by decide), fun h => absurd h (by decide)⟩), if_pos (by decide)]
theorem front_nil : frontFrom 0 [] = [] := frontFrom_no (fun x n h => by rw [List.drop_nil, dec_nil] at h; cases h)
theorem empty_row {w : World} {B : Nat} {A : Option Addr} : Row w B A 0 (bvs []) := ⟨rfl, fun h => absurd h (by omega)⟩
end Go.Proofs.YtbljdcdcnnidkaaGreatDoor.Rec
/-
  Proved: what slot of law 8 returns: how many bytes of a slot's beginning fit their sum.
  Conditions: the slice reads as bytes, not too many.
-/
namespace Go.Proofs.YtbljdcdcnnidkaaGreatDoor.Rec
open Go.RowKit
set_option linter.unusedVariables false
set_option linter.unusedSimpArgs false

def slotN (bs : List UInt8) : Nat :=
  if bs.length < 16 then 0
  else if 4080 < beN (part bs 8 12) ∨ bs.length - 16 < beN (part bs 8 12) then 0
  else if beN (part bs 12 16) ≠ (Crc.sum (bs.take 12 ++ part bs 16 (16 + beN (part bs 8 12)))).toNat then 0
  else 16 + beN (part bs 8 12)
theorem below_app {a w w' : World} {B : Nat} (h : Below B a w) (hg : w.grownBy w' (Value.slice none 0 0).ownBlock) (hB : B ≤ w.heap.size) : Below B a w' := h.grown hg hB (fun k hk => by simp [Value.ownBlock] at hk)
set_option maxRecDepth 100000 in
set_option maxHeartbeats 8000000 in
theorem slot_any (A : Option Addr) (n c : Nat) (bs : List UInt8) (w : World) (hR : Row w w.heap.size A n (bvs bs)) (hnc : n ≤ c) (hc : c ≤ maxLen) (hn : n ≤ 8388608) :
    Calls Tryz.prog 35 #[.slice A n c] w fun e w' => e = .returned (.int .i64 ((slotN bs : Nat) : Int)) ∧ Below w.heap.size w w' := by
  have hcm : c ≤ 9223372036854775807 := by unfold maxLen at hc; exact hc
  have hl := hR.size
  have HW := Lib.hid (Below.refl w.heap.size w)
  by_cases h16 : n < 16
  · have e : slotN bs = 0 := by unfold slotN; rw [if_pos (by omega)]
    rw [e]
    have h16' : (n : Int) < 16 := by omega
    clear hR hc hl
    go_enter Tryz.func35, Tryz.ntmps35
    go_wp2_with fail
    go_ret
    exact ⟨rfl, HW.out⟩
  have h16' : ¬ (n : Int) < 16 := by omega
  obtain ⟨b, o, rfl, hbl, _⟩ := hR.2 (by omega)
  have HR := Lib.hid hR
  have HC := Lib.hid hc
  have G1 := refget_part hR hnc hc 8 12 4 (c - 8) (by omega) (by omega) rfl (by omega) rfl
  have G2 := refget_part hR hnc hc 12 16 4 (c - 12) (by omega) (by omega) rfl (by omega) rfl
  obtain ⟨L, hL⟩ : ∃ L, L = beN (part bs 8 12) := ⟨_, rfl⟩
  obtain ⟨T, hT⟩ : ∃ T, T = beN (part bs 12 16) := ⟨_, rfl⟩
  have hL4 : L < 4294967296 := by rw [hL]; exact beN_part_lt bs 8 12 4 (by omega) (by omega) rfl
  have hT4 : T < 4294967296 := by rw [hT]; exact beN_part_lt bs 12 16 4 (by omega) (by omega) rfl
  rw [← hL] at G1
  rw [← hT] at G2
  have hs : slotN bs = if 4080 < L ∨ n - 16 < L then 0 else if T ≠ (Crc.sum (bs.take 12 ++ part bs 16 (16 + L))).toNat then 0 else 16 + L := by
    rw [hL, hT, ← hl]
    conv => lhs; unfold slotN
    rw [if_neg (by omega)]
  have HSN := Lib.hid hs
  have HL := Lib.hid hl
  have i1 : ¬ c = 8 := by omega
  have i2 : ¬ c = 12 := by omega
  have i3 : (12 : Int) ≤ (c : Int) := by omega
  have i4 : (16 : Int) ≤ (c : Int) := by omega
  have hwn : IntKind.u64.wrap ((n : Int) - 16) = (n : Int) - 16 := by simp [IntKind.wrap, IntKind.bits, IntKind.signed]; omega
  clear hR hc hL hT hs hl
  by_cases hbig : 4080 < L
  · have e : slotN bs = 0 := by rw [HSN.out, if_pos (.inl hbig)]
    rw [e]
    have hbig' : (4080 : Int) < (L : Int) := by omega
    clear e hbig
    go_enter Tryz.func35, Tryz.ntmps35
    go_wp2_with (go_at_call 58; refine (G1.out _ HW.out).mono ?_; rintro e w' ⟨rfl, rfl⟩)
    go_ret
    exact ⟨rfl, HW.out⟩
  have hbig' : ¬ (4080 : Int) < (L : Int) := by omega
  by_cases hlen : n - 16 < L
  · have e : slotN bs = 0 := by rw [HSN.out, if_pos (.inr hlen)]
    rw [e]
    have hlen' : (n : Int) - 16 < (L : Int) := by omega
    clear e hlen
    go_enter Tryz.func35, Tryz.ntmps35
    go_wp2_with (go_at_call 58; refine (G1.out _ HW.out).mono ?_; rintro e w' ⟨rfl, rfl⟩)
    go_ret
    exact ⟨rfl, HW.out⟩
  have hlen' : ¬ (n : Int) - 16 < (L : Int) := by omega
  have hs : slotN bs = if T ≠ (Crc.sum (bs.take 12 ++ part bs 16 (16 + L))).toNat then 0 else 16 + L := by rw [HSN.out, if_neg (by omega)]
  have HS2 := Lib.hid hs
  have hLn : 16 + L ≤ n := by omega
  have E1 : Hid ((bvs (bs.take 12)).length = 12) := by show _ = _; rw [bvs_length, List.length_take, HL.out]; omega
  have E2 : Hid ((bvs (part bs 16 (16 + L))).length = L) := by show _ = _; rw [bvs_length, part_length bs 16 (16 + L) (by omega) (by rw [HL.out]; exact hLn)]; omega
  obtain ⟨o2, ho2⟩ : ∃ o2, (if c = 16 then (some ⟨b, o, none⟩ : Option Addr) else some ⟨b, o + 16, none⟩) = some ⟨b, o2, none⟩ := by
    split
    · exact ⟨o, rfl⟩
    · exact ⟨o + 16, rfl⟩
  have HN1 : Hid (∀ W, Below w.heap.size w W → ∀ j u, (bvs (bs.take 12))[j]? = some u → W.cell? ((⟨b, o, none⟩ : Addr).add j) = some u) := fun W hW => by
    have := ((HR.out.below hW).take (k := 12) (by omega))
    rw [bvs_take] at this
    exact row_news this
  have HN2 : Hid (∀ W, Below w.heap.size w W → ∀ j u, (bvs (part bs 16 (16 + L)))[j]? = some u → W.cell? ((⟨b, o2, none⟩ : Addr).add j) = some u) := fun W hW => by
    rcases Nat.eq_zero_or_pos L with h0 | h0
    · intro j u hu
      have := (List.getElem?_eq_some_iff.1 hu).1
      rw [E2.out] at this
      omega
    · have h1 := row_part (k := 16) (m := 16 + L) (HR.out.below hW) (by omega) hLn
      rw [if_neg (by omega)] at ho2
      injection ho2 with ho2
      injection ho2 with _ ho2
      subst ho2
      exact row_news h1
  have HBR : Hid (Below w.heap.size w w.drew) := HW.out.drew
  have j1 : (16 : Int) + (L : Int) ≤ (c : Int) := by omega
  have j2 : 16 + L - 16 = L := by omega
  have hwL : IntKind.i64.wrap (L : Int) = (L : Int) := by simp [IntKind.wrap, IntKind.bits, IntKind.signed]; omega
  have hwL2 : IntKind.i64.wrap (16 + (L : Int)) = 16 + (L : Int) := by simp [IntKind.wrap, IntKind.bits, IntKind.signed]; omega
  have k1 : (0 : Int) ≤ 16 + (L : Int) := by omega
  have k2 : (16 : Int) ≤ max (16 + (L : Int)) 0 := by omega
  have k3 : (16 + (L : Int)).toNat = 16 + L := by omega
  clear hs HSN hlen hbig
  go_enter Tryz.func35, Tryz.ntmps35
  go_upto_region 6 with (go_at_call 58; refine (G1.out _ HW.out).mono ?_; rintro e w' ⟨rfl, rfl⟩)
  clear hwn
  refine wp_region_noPanic ?_
  refine wp_region_held_drew (S := fun W => Hid (Below w.heap.size w W)) (by kernel_rfl) HBR (fun h0 => ?_)
  refine held_take 0 (v := ?_) (d := (some 21)) rfl rfl (by kernel_rfl) (by kernel_rfl) (by kernel_rfl) (fun _ _ _ h => h) (Or.inl ⟨by rfl, ?_⟩) h0 ?_
  rotate_left
  · intro _ _; go_simp; (try with_reducible rfl)
  try simp only [Act.put, List.setIfInBounds_toArray, List.set_cons_zero, List.set_cons_succ]
  refine held_take 1 (v := ?_) (d := (some 22)) rfl rfl (by kernel_rfl) (by kernel_rfl) (by kernel_rfl) (fun _ _ _ h => h) (Or.inl ⟨by rfl, ?_⟩) h0 ?_
  rotate_left
  · intro _ _; go_simp; (try with_reducible rfl)
  try simp only [Act.put, List.setIfInBounds_toArray, List.set_cons_zero, List.set_cons_succ]
  refine held_take 3 (v := ?_) (d := (some 24)) rfl rfl (by kernel_rfl) (by kernel_rfl) (by kernel_rfl) (fun _ _ _ h => h) (Or.inl ⟨by rfl, ?_⟩) h0 ?_
  rotate_left
  · intro _ _; go_simp; (try with_reducible rfl)
  try simp only [Act.put, List.setIfInBounds_toArray, List.set_cons_zero, List.set_cons_succ]
  refine held_take 4 (v := ?_) (d := (some 25)) rfl rfl (by kernel_rfl) (by kernel_rfl) (by kernel_rfl) (fun _ _ _ h => h) (Or.inl ⟨by rfl, ?_⟩) h0 ?_
  rotate_left
  · intro _ _; go_simp; (try with_reducible rfl)
  try simp only [Act.put, List.setIfInBounds_toArray, List.set_cons_zero, List.set_cons_succ]
  refine held_take 5 (v := .int .i64 (L : Int)) (d := (some 26)) rfl rfl (by kernel_rfl) (by kernel_rfl) (by kernel_rfl) (fun _ _ _ h => h) (Or.inl ⟨by rfl, ?_⟩) h0 ?_
  · intro _ _; go_simp; (try with_reducible rfl)
  try simp only [Act.put, List.setIfInBounds_toArray, List.set_cons_zero, List.set_cons_succ]
  refine held_take 6 (v := .int .i64 (16 + (L : Int))) (d := (some 27)) rfl rfl (by kernel_rfl) (by kernel_rfl) (by kernel_rfl) (fun _ _ _ h => h) (Or.inl ⟨by rfl, ?_⟩) h0 ?_
  · intro _ _; go_simp; (try with_reducible rfl)
  try simp only [Act.put, List.setIfInBounds_toArray, List.set_cons_zero, List.set_cons_succ]
  refine held_take 7 (v := .slice (some ⟨b, o2, none⟩) L (c - 16)) (d := (some 28)) rfl rfl (by kernel_rfl) (by kernel_rfl) (by kernel_rfl) (fun _ _ _ h => h) (Or.inl ⟨by rfl, ?_⟩) h0 ?_
  · intro _ _; go_simp; exact fun h => absurd h (by omega)
  try simp only [Act.put, List.setIfInBounds_toArray, List.set_cons_zero, List.set_cons_succ]
  refine wpAnyH_ready (rs := [2]) (by kernel_rfl) (by simp) (AllReadyH.cons rfl (fun K hK => ?_) AllReadyH.nil)
  refine want_append_own (by rfl) (.const (.slice none 0 0)) (.tmp 22) 31 rfl rfl w.drew.heap.size 5 (.int .u8 0) 1 Tryz.underlying31 u8_info rfl (.slice none 0 0) 0 [] rfl (World.ownsRow_nil _ _ _ _) ⟨b, o, none⟩ 12 c (bvs (bs.take 12)) rfl E1.out (HN1.out w.drew HBR.out) (bvs_one _) (by decide) (by decide) (Nat.le_refl _) ?_
  intro v3 w3 HO3 HG3
  have HB3 : Hid (Below w.heap.size w w3) := below_app HBR.out HG3.out (Nat.le_refl _)
  have HS3 : Hid (w.drew.heap.size ≤ w3.heap.size) := HB3.out.size
  refine hK.out _ _ (HB3) (fun h1 => ?_)
  clear hK K
  try simp only [Act.put, List.setIfInBounds_toArray, List.set_cons_zero, List.set_cons_succ]
  refine wpAnyH_ready (rs := [8]) (by kernel_rfl) (by simp) (AllReadyH.cons rfl (fun K hK => ?_) AllReadyH.nil)
  refine want_append_own (by rfl) (.tmp 23) (.tmp 28) 31 rfl rfl w.drew.heap.size 5 (.int .u8 0) 1 Tryz.underlying31 u8_info rfl v3 12 (bvs (bs.take 12)) rfl HO3.out ⟨b, o2, none⟩ L (c - 16) (bvs (part bs 16 (16 + L))) rfl E2.out (HN2.out w3 HB3.out) (bvs_one _) (by unfold maxLen; omega) (by omega) HS3.out ?_
  intro v4 w4 HO4 HG4
  have HB4 : Hid (Below w.heap.size w w4) := own_below HO3.out HB3.out (Nat.le_refl _) HS3.out HG4.out
  refine hK.out _ _ (HB4) (fun h2 => ?_)
  clear hK K
  try simp only [Act.put, List.setIfInBounds_toArray, List.set_cons_zero, List.set_cons_succ]
  refine held_take 9 (v := ?_) (d := (some 4)) rfl rfl (by kernel_rfl) (by kernel_rfl) (by kernel_rfl) (fun _ _ _ h => h) (Or.inl ⟨by rfl, ?_⟩) h2 ?_
  rotate_left
  · intro _ _; go_simp; (try with_reducible rfl)
  try simp only [Act.put, List.setIfInBounds_toArray, List.set_cons_zero, List.set_cons_succ]
  refine wpAnyH_done (by kernel_rfl) ?_ _
  refine NoPanic.normal ?_
  have HO5 : Hid (w4.ownsRow w.drew.heap.size 5 1 v4 (12 + L) (bvs (bs.take 12 ++ part bs 16 (16 + L)))) := by
    have h := HO4.out
    have e : bvs (bs.take 12) ++ bvs (part bs 16 (16 + L)) = bvs (bs.take 12 ++ part bs 16 (16 + L)) := by unfold bvs; rw [List.map_append]
    rw [e] at h
    exact h
  obtain ⟨A4, c4, rfl, _, hc4⟩ := own_form HO5.out
  obtain ⟨S, hS⟩ : ∃ S, S = (Crc.sum (bs.take 12 ++ part bs 16 (16 + L))).toNat := ⟨_, rfl⟩
  have hS4 : S < 4294967296 := by rw [hS]; exact (Crc.sum _).isLt
  have CS0 := Crc.ref_sum A4 (12 + L) c4 _ w4 (Row.own HO5.out) (by unfold maxLen; omega)
  rw [← hS] at CS0
  have CS := Lib.hid CS0
  rw [← hS] at HS2
  clear CS0 hS HO4 HO3 HG3 HG4 HN1 HN2 E1 E2 HS3 HB3
  by_cases hst : T = S
  · have e : slotN bs = 16 + L := by rw [HS2.out, if_neg (not_not_intro hst)]
    have d0 : ((T : Int) != (S : Int)) = false := by rw [hst]; simp
    have HEQ := Lib.hid e
    clear hst e
    go_wp2_with (first
      | (go_at_call 58; refine (G2.out _ HB4.out).mono ?_; rintro e w' ⟨rfl, rfl⟩)
      | (go_at_call 57; refine CS.out.mono ?_; rintro e w' ⟨rfl, rfl⟩))
    go_ret
    rw [HEQ.out]
    exact ⟨by go_num, HB4.out⟩
  · have e : slotN bs = 0 := by rw [HS2.out, if_pos hst]
    have d0 : ((T : Int) != (S : Int)) = true := bne_iff_ne.2 (by omega)
    have HEQ := Lib.hid e
    clear hst e
    go_wp2_with (first
      | (go_at_call 58; refine (G2.out _ HB4.out).mono ?_; rintro e w' ⟨rfl, rfl⟩)
      | (go_at_call 57; refine CS.out.mono ?_; rintro e w' ⟨rfl, rfl⟩))
    go_ret
    rw [HEQ.out]
    exact ⟨rfl, HB4.out⟩
end Go.Proofs.YtbljdcdcnnidkaaGreatDoor.Rec
