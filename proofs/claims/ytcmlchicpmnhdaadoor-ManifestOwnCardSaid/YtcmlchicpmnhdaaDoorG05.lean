/-
  Texts one behind the other: RecStore, ScanRow, ScanBuilt, RecHead, RecDecode, ScanCom, ScanRecs.
-/
import Derived.BigQuiet
import Derived.Deep.Onto
import Derived.Great.Walk
import Derived.Great.BuildSlice
import Derived.StillTailTactics
import Derived.Deep.MidRow
import Derived.Deep.Grids
import Derived.Test.YtcmlchicpmnhdaaDoorG02
import Derived.Test.YtcmlchicpmnhdaaDoorG04
/-
  Records in memory: stores, loads behind guards and in regions that draw; rows of bytes of the call's own: a byte is written, a front is taken; small facts.
  Conditions: none.
-/
namespace Go.Proofs.YtcmlchicpmnhdaaDoor.Rec
open Go.RowKit
open Go.Proofs.YtcmlchicpmnhdaaDoor.Crc (Turned)
set_option linter.unusedVariables false
set_option linter.unusedSimpArgs false

/-- 'make([]byte, n)' reads as so many noughts. -/
theorem own_noughts {w : World} {base g n : Nat} {c : Nat} (h : w.ownsRow base 5 1 (.slice (some ⟨g, 0, none⟩) n c) n (madeCells (Value.int .u8 0).cells (n * 1)).toList) : Row w w.heap.size (some ⟨g, 0, none⟩) n (bvs (List.replicate n 0)) := by
  have := Row.own h
  have e : (madeCells (Value.int .u8 0).cells (n * 1)).toList = bvs (List.replicate n 0) := by
    apply List.ext_getElem?
    intro j
    by_cases hj : j < n
    · simp [madeCells, Value.cells, bvs, bv, hj, Nat.mod_one]
    · simp [madeCells, Value.cells, bvs, bv, hj]
  rwa [e] at this
theorem wpList_want {P : Program} {w : World} {ops : Array Oper} {rest : List Oper} {o : Oper} {a : Act} {Q : Exit → Act → World → Prop} (hw : Region.wanted o (yielded ops a.tmps) = true)
    (h : ∀ K : Act → World → Prop, (∀ a w, wpList P ops Q rest a w → K a w) → o.wp P a w K Q) : wpList P ops Q (o :: rest) a w :=
  wpList_step fun K hK => by rw [if_pos hw]; exact h K hK
theorem conv_row {w : World} {B n c : Nat} {A : Option Addr} {l : List UInt8} {s : ByteArray} (hR : Row w B A n (bvs l)) (hs : Hid (s = str l)) : (convert 44 9 (.slice A n c)).run Tryd.prog w = .ok (.string s) w := by
  rw [hs.out]
  exact bytes_string Tryd.underlying44 Tryd.underlying5 Tryd.underlying9 hR
theorem below_of_drew {w w' : World} (h : Below w.drew.heap.size w.drew w') : Hid (Below w.heap.size w w') := ⟨h.os, h.tape, h.output, h.size, h.block⟩
theorem conv_own {w : World} {base n : Nat} {u : Value} {l : List UInt8} {s : ByteArray} (h : w.ownsRow base 5 1 u n (bvs l)) (hs : Hid (s = str l)) : ∃ A c, u = .slice A n c ∧ (convert 44 9 (.slice A n c)).run Tryd.prog w = .ok (.string s) w := by
  obtain ⟨A, c, rfl, _, _⟩ := own_form h
  exact ⟨A, c, rfl, conv_row (Row.own h) hs⟩
theorem dec_enc (y : Rc) (hy : y.May) (hf : y.Fits) : dec (enc y) = .ok y (39 + y.body.length) := by
  have := dec_bytes y [] hy hf
  rw [List.append_nil] at this
  rw [enc_may hy]
  exact this
theorem xor_u8 (a b : UInt8) : bits .xor .u8 (a.toNat : Int) (b.toNat : Int) = ((a ^^^ b).toNat : Int) := by
  rw [u8_xor_nat _ _ a.toNat_lt b.toNat_lt, UInt8.toNat_xor]
theorem xor_ne (a b : UInt8) (h : b ≠ 0) : a ^^^ b ≠ a := by
  intro e
  refine h ?_
  have : a ^^^ (a ^^^ b) = a ^^^ a := by rw [e]
  rw [← UInt8.xor_assoc, UInt8.xor_self, UInt8.zero_xor] at this
  exact this
/-- A byte of a row of the call's own is written. -/
theorem own_put {w : World} {base g n c : Nat} {bs : List UInt8} (h : w.ownsRow base 5 1 (.slice (some ⟨g, 0, none⟩) n c) n (bvs bs)) (k : Nat) (z : UInt8) (hk : k < n) :
    Hid (Row (w.setCell ⟨g, k, none⟩ (.int .u8 (z.toNat : Int))) w.heap.size (some ⟨g, 0, none⟩) n (bvs (bs.set k z))) := by
  have hr := Row.own h
  have hs := hr.size
  obtain ⟨b, o, e, hlt, hc⟩ := hr.2 (by omega)
  injection e with e
  injection e with e1 e2
  subst e1 e2
  refine ⟨by rw [bvs_length, List.length_set, hs], fun _ => ⟨g, 0, rfl, hlt, fun i v hv => ?_⟩⟩
  obtain ⟨g', cap, cur, hv', _, hblk, _, _, hsz, _⟩ := own_block h (by omega)
  injection hv' with a1 a2 a3
  injection a1 with a1
  injection a1 with a1
  subst a1
  rw [Nat.zero_add, (hblk.put k _).cell i]
  rw [bvs, List.getElem?_map, List.getElem?_set] at hv
  by_cases hik : k = i
  · subst hik
    rw [if_pos rfl, if_pos (by omega)] at hv
    rw [Array.getElem?_setIfInBounds_self_of_lt (by omega)]
    exact hv
  · rw [if_neg hik] at hv
    rw [Array.getElem?_setIfInBounds_ne hik, ← hblk.cell i]
    have := hc i v (by rw [bvs, List.getElem?_map]; exact hv)
    rwa [Nat.zero_add] at this
theorem own_cells {w : World} {base g n c : Nat} {bs : List UInt8} (h : w.ownsRow base 5 1 (.slice (some ⟨g, 0, none⟩) n c) n (bvs bs)) (k : Nat) (hk : k < n) :
    w.cell? ⟨g, k, none⟩ = some (.int .u8 ((bs.getD k 0).toNat : Int)) ∧ w.frozen? ⟨g, k, none⟩ = false := by
  obtain ⟨b, o, e, hlt, hc⟩ := (Row.own h).byte (by omega)
  injection e with e
  injection e with e1 e2
  subst e1 e2
  obtain ⟨g', cap, cur, hv', _, hblk, _⟩ := own_block h (by omega)
  injection hv' with a1 a2 a3
  injection a1 with a1
  injection a1 with a1
  subst a1
  have := hc k hk
  rw [Nat.zero_add] at this
  exact ⟨this, hblk.free k⟩
theorem own_take {w : World} {base n c k : Nat} {A : Option Addr} {bs : List UInt8} (h : w.ownsRow base 5 1 (.slice A n c) n (bvs bs)) (hk : k ≤ n) : w.ownsRow base 5 1 (.slice A k c) k (bvs (bs.take k)) := by
  have hl : bs.length = n := by have := h.1; rw [bvs_length] at this; omega
  refine ⟨by rw [bvs_length, List.length_take]; omega, ?_⟩
  rcases h.2 with ⟨h0, hn⟩ | ⟨g, cap, cur, hv, hb, hg, hnc, hm, hs, hx⟩
  · injection h0 with h1 h2 h3
    subst h1 h3
    exact .inl ⟨by rw [show k = 0 by omega], by omega⟩
  · injection hv with h1 h2 h3
    subst h1 h3
    refine .inr ⟨g, c, cur, rfl, hb, hg, by omega, hm, hs, ?_⟩
    rw [← bvs_take, ← hx, List.take_take]
    congr 1
    omega
theorem cut_small (x : Rc) (m : Nat) : (x.cut m).body.length ≤ m := by
  show (x.body.take m).length ≤ m
  rw [List.length_take]
  omega
end Go.Proofs.YtcmlchicpmnhdaaDoor.Rec
/-
  Plain facts: records found, as a row of structs of seven cells that the call itself made; an append of one more.
-/
namespace Go.Proofs.YtcmlchicpmnhdaaDoor.Rec
open Go.RowKit
set_option linter.unusedVariables false
set_option linter.unusedSimpArgs false

/-- The cells of one record found. -/
def fcells (q : Nat × Rc) : List Value := .int .i64 (q.1 : Int) :: q.2.vals.toList
def flat (l : List (Nat × Rc)) : List Value := l.flatMap fcells
theorem fcells_length (q : Nat × Rc) : (fcells q).length = 7 := rfl
theorem flat_length (l : List (Nat × Rc)) : (flat l).length = l.length * 7 := by
  induction l with
  | nil => rfl
  | cons q l ih =>
    unfold flat at ih ⊢
    rw [List.flatMap_cons, List.length_append, ih, fcells_length, List.length_cons]
    omega
theorem flat_snoc (l : List (Nat × Rc)) (q : Nat × Rc) : flat l ++ fcells q = flat (l ++ [q]) := by
  unfold flat
  rw [List.flatMap_append, List.flatMap_singleton]
theorem fcells_one (q : Nat × Rc) : ∀ u ∈ fcells q, u.oneCell' = true := by
  intro u hu
  simp only [fcells, Rc.vals, List.mem_cons, List.not_mem_nil, or_false] at hu
  rcases hu with rfl | rfl | rfl | rfl | rfl | rfl | rfl <;> rfl
/-- Records found so far: a row of the call's own, of any struct type that has these cells. -/
structure Fd (w0 : World) (e : TypeId) (w : World) (v : Value) (l : List (Nat × Rc)) : Prop where
  row : w.ownsRow w0.heap.size e 7 v l.length (flat l)
  below : Below w0.heap.size w0 w
theorem Fd.nil (w : World) (e : TypeId) : Fd w e w (.slice none 0 0) [] := ⟨World.ownsRow_nil _ _ _ _, Below.refl _ _⟩
theorem Fd.all {w0 w w' : World} {e : TypeId} {v : Value} {l : List (Nat × Rc)} (h : Fd w0 e w v l) (hb : Below w.heap.size w w') : Fd w0 e w' v l :=
  ⟨h.row.kept (row := none) ⟨hb.os, hb.tape, hb.output, hb.size, fun i hi _ => hb.block i hi⟩ (Classical.em _), h.below.trans (hb.mono h.below.size)⟩
section
variable {w0 w : World} {e : TypeId} {v : Value} {l : List (Nat × Rc)} {ops : Array Oper} {rest : List Oper} {o : Oper} {a : Act} {Q : Exit → Act → World → Prop}
theorem fd_append (h : Fd w0 e w v l) (T : TypeId) (z : Value) (by' : Nat) (hT : Tryd.prog.underlying T = some (.slice e)) (hi : (Tryd.prog.info? e).map (fun i => (i.zero, i.size, i.bytes)) = some (some z, 7, by')) (hz : z.cells.size = 7) (hby : by' ≤ 64)
    (hgd : o.guard = none) (s y : Operand) (ho : o.op = .call { callee := .builtin .append, args := #[s, y], argTypes := #[T, T] }) (hs : a.eval s = v)
    (g c : Nat) (q : Nat × Rc) (hy : a.eval y = .slice (some ⟨g, 0, none⟩) 1 c) (hq : ∀ j u, (fcells q)[j]? = some u → w.cell? ⟨g, j, none⟩ = some u) (hl : l.length ≤ 100000000)
    (k : ∀ v' w', Hid (Fd w0 e w' v' (l ++ [q])) → wpList Tryd.prog ops Q rest (a.put o.dst v') w') : wpList Tryd.prog ops Q (o :: rest) a w := by
  obtain ⟨i, hii, hzz⟩ := Option.map_eq_some_iff.1 hi
  simp only [Prod.mk.injEq] at hzz
  obtain ⟨hz0, hs1, hb1⟩ := hzz
  refine wpList_append_own (w := w) hgd s y T ho w0.heap.size e i z 7 by' hT hii hz0 hs1 hb1 hz (by decide) v l.length (flat l) hs h.row ⟨g, 0, none⟩ 1 c (fcells q) hy (fcells_length q) ?_ (fcells_one q) (by unfold maxLen; omega) ?_ h.below.size ?_
  · intro j u hu
    have := hq j u hu
    rw [Addr.add_lit, Nat.zero_add]
    exact this
  · have : (l.length + 1) * by' ≤ (l.length + 1) * 64 := Nat.mul_le_mul_left _ hby
    omega
  · intro v' w' h1 h2 _
    refine k v' w' ⟨?_, own_below h.row h.below (Nat.le_refl _) h.below.size h2⟩
    rw [flat_snoc] at h1
    rw [List.length_append]
    exact h1
end
/-- A block of one record found. -/
theorem one_cells (w : World) (t : TypeId) (fr : Nat × Nat) (q : Nat × Rc) (cs : Array Value) (h : cs.toList = fcells q) : ∀ j u, (fcells q)[j]? = some u → (w.alloc (.cells cs t fr)).cell? ⟨w.heap.size, j, none⟩ = some u := by
  intro j u hu
  rw [cell_of_row _ w.heap.size j cs t fr (heap_alloc_new w _), ← Array.getElem?_toList, h]
  exact hu
end Go.Proofs.YtcmlchicpmnhdaaDoor.Rec
/-
  Plain facts: a record found, built out of its place and the record; a slice of one of these.
-/
namespace Go.Proofs.YtcmlchicpmnhdaaDoor.Rec
open Go.RowKit
set_option linter.unusedVariables false
set_option linter.unusedSimpArgs false

section
variable {w : World} {ops : Array Oper} {rest : List Oper} {o : Oper} {a : Act} {Q : Exit → Act → World → Prop}
theorem build_found (hg : o.guard = none) (T : TypeId) (y1 y2 : Operand) (ho : o.op = .build T #[(0, y1), (1, y2)]) (d : Option Tmp) (hd : o.dst = d) (v1 v2 : Value) (h1 : a.eval y1 = v1) (h2 : a.eval y2 = v2) (fc : Array Value)
    (hb : Tryd.prog.built T [(0, v1), (1, v2)] = some fc) (k : wpList Tryd.prog ops Q rest (a.put d (.agg fc)) w) : wpList Tryd.prog ops Q (o :: rest) a w := by
  refine wpList_buildTo hg T _ ho d hd fc ?_ k
  rw [Array.toList_map]
  simp only [List.map_cons, List.map_nil, h1, h2]
  exact hb
theorem build_one (hg : o.guard = none) (T e : TypeId) (y : Operand) (ho : o.op = .buildSlice T 1 #[(0, y)]) (d : Option Tmp) (hd : o.dst = d) (hu : Tryd.prog.underlying T = some (.slice e)) (v : Value) (hy : a.eval y = v) (fc : Array Value)
    (hb : Tryd.prog.builtSlice e 1 [(0, v)] = some fc) (k : wpList Tryd.prog ops Q rest (a.put d (.slice (some ⟨w.heap.size, 0, none⟩) 1 1)) (w.alloc (.cells fc e))) : wpList Tryd.prog ops Q (o :: rest) a w := by
  refine Go.Great.wpList_buildSliceTo hg T e 1 _ ho w.heap.size rfl d hd hu fc ?_ k
  rw [Array.toList_map]
  simp only [List.map_cons, List.map_nil, hy]
  exact hb
end
end Go.Proofs.YtcmlchicpmnhdaaDoor.Rec
/-
  Proved: what withoutBody returns of a whole head.
  Conditions: the slice reads as bytes, at least 39.
-/
namespace Go.Proofs.YtcmlchicpmnhdaaDoor.Rec
open Go.RowKit
set_option linter.unusedVariables false
set_option linter.unusedSimpArgs false

theorem row_heap {w w' : World} {B n : Nat} {A : Option Addr} {vs : List Value} (h : Row w B A n vs) (e : w'.heap = w.heap) : Row w' B A n vs :=
  h.keep fun b o _ => by unfold World.cell?; rw [e]
theorem row_part {w : World} {B n k m b o : Nat} {bs : List UInt8} (h : Row w B (some ⟨b, o, none⟩) n (bvs bs)) (hk : k < m) (hm : m ≤ n) : Row w B (some ⟨b, o + k, none⟩) (m - k) (bvs (part bs k m)) := by
  have := (h.drop (k := k) (by omega)).take (k := m - k) (by omega)
  rw [bvs_drop, bvs_take] at this
  exact this
theorem get_part {w : World} {B n b o c : Nat} {bs : List UInt8} (h : Row w B (some ⟨b, o, none⟩) n (bvs bs)) (hnc : n ≤ c) (hc : c ≤ maxLen) (k m z d : Nat) (hk : k < m) (hm : m ≤ n) (hz : z = m - k) (h8 : z ≤ 8) (hd : d = c - k) :
    Hid (∀ w', w'.heap = w.heap → Calls Tryd.prog 54 #[.slice (some ⟨b, o + k, none⟩) z d] w' fun e w'' => e = .returned (.int .u64 (beN (part bs k m) : Int)) ∧ w'' = w') := by
  intro w' e
  subst hz hd
  refine (get_any _ _ _ B _ w' (row_heap (row_part h hk hm) e) h8 (by omega) (by omega)).mono ?_
  rintro e w'' ⟨h1, rfl⟩
  exact ⟨h1, rfl⟩
end Go.Proofs.YtcmlchicpmnhdaaDoor.Rec
/-
  Proved: what Decode of record returns: what a list of bytes begins with.
  Conditions: the slice reads as bytes; the table crc.turned holds its sixteen words.
-/
namespace Go.Proofs.YtcmlchicpmnhdaaDoor.Rec
open Go.RowKit
open Go.Proofs.YtcmlchicpmnhdaaDoor.Crc (Turned)
set_option linter.unusedVariables false
set_option linter.unusedSimpArgs false

def Out.vals : Out → Array Value
  | .ok x n => #[.agg x.vals, .int .i64 (n : Int), .int .i64 0]
  | .more => #[.agg zeroRc.vals, .int .i64 0, .int .i64 11]
  | .bad => #[.agg zeroRc.vals, .int .i64 0, .int .i64 4]
theorem beN_part_lt (bs : List UInt8) (i j k : Nat) (h : i ≤ j) (hj : j ≤ bs.length) (hk : j - i = k) : beN (part bs i j) < 256 ^ k := beN_lt k _ (by rw [part_length bs i j h hj, hk])
theorem headOf_fits (bs : List UInt8) (h : 39 ≤ bs.length) : (headOf bs).Fits :=
  ⟨beN_part_lt bs 3 7 4 (by omega) (by omega) rfl, beN_part_lt bs 7 15 8 (by omega) (by omega) rfl, beN_part_lt bs 15 23 8 (by omega) (by omega) rfl, beN_part_lt bs 23 31 8 (by omega) (by omega) rfl⟩
end Go.Proofs.YtcmlchicpmnhdaaDoor.Rec
/-
  Plain facts: what Decode says as a value, slices from a place on, a new variable beside records found.
-/
namespace Go.Proofs.YtcmlchicpmnhdaaDoor.Rec
open Go.RowKit
set_option linter.unusedVariables false
set_option linter.unusedSimpArgs false

theorem out_ok (o : Out) : (∃ x n, o = .ok x n) ∨ ∃ e : Int, e ≠ 0 ∧ o.vals = #[.agg zeroRc.vals, .int .i64 0, .int .i64 e] ∧ ∀ x n, o ≠ .ok x n := by
  cases o with
  | ok x n => exact .inl ⟨x, n, rfl⟩
  | more => exact .inr ⟨11, by decide, rfl, fun _ _ h => by cases h⟩
  | bad => exact .inr ⟨4, by decide, rfl, fun _ _ h => by cases h⟩
theorem row_from {w : World} {B n p b o : Nat} {bs : List UInt8} (h : Row w B (some ⟨b, o, none⟩) n (bvs bs)) (hp : p < n) : Row w B (some ⟨b, o + p, none⟩) (n - p) (bvs (bs.drop p)) := by
  have := h.drop hp
  rwa [bvs_drop] at this
/-- .. behind a new record of the call's own. -/
theorem fd_store {w0 w w' : World} {e t : TypeId} {v : Value} {l : List (Nat × Rc)} {cs : Array Value} (h : Fd w0 e w v l) (hg : (w.alloc (.cells cs t)).grownBy w' (some w.heap.size)) : Hid (Fd w0 e w' v l) := by
  have hb : Below w.heap.size w w' := below_only (below_alloc w (.cells cs t)) hg (Nat.le_refl _) (by simp)
  exact h.all hb
/-- A slice from a place on, that place at its end too. -/
theorem row_upto {w : World} {B n p b o c : Nat} {bs : List UInt8} {P : Option Addr} (h : Row w B (some ⟨b, o, none⟩) n (bvs bs)) (hp : p ≤ n) (hnc : n ≤ c) (hP : (if c = p then some (⟨b, o, none⟩ : Addr) else some ⟨b, o + p, none⟩) = P) : Row w B P (n - p) (bvs (bs.drop p)) := by
  by_cases hlt : p < n
  · rw [if_neg (by omega)] at hP
    subst hP
    exact row_from h hlt
  · exact ⟨by rw [bvs_length, List.length_drop, h.size], fun hn => absurd hn (by omega)⟩
theorem dec_nil : dec [] = .more := by
  unfold dec
  rw [if_neg (not_not_intro ⟨fun h => absurd h (by decide), fun h => absurd h (by decide), fun h => absurd h (by decide)⟩), if_pos (by decide)]
theorem front_nil : frontFrom 0 [] = [] := frontFrom_no (fun x n h => by rw [List.drop_nil, dec_nil] at h; cases h)
theorem empty_row {w : World} {B : Nat} {A : Option Addr} : Row w B A 0 (bvs []) := ⟨rfl, fun h => absurd h (by omega)⟩
end Go.Proofs.YtcmlchicpmnhdaaDoor.Rec
/-
  Plain facts: rows of structs of several cells: one item out of a row; records among the arguments; records and records found as rows.
-/
namespace Go.Proofs.YtcmlchicpmnhdaaDoor.Rec
open Go.RowKit
set_option linter.unusedVariables false
set_option linter.unusedSimpArgs false

theorem flat_get {α : Type} (f : α → List Value) (k : Nat) (hf : ∀ a, (f a).length = k) : ∀ (l : List α) (i : Nat) (a : α), l[i]? = some a → ∀ j v, (f a)[j]? = some v → (l.flatMap f)[i * k + j]? = some v := by
  intro l
  induction l with
  | nil => intro i a h; simp at h
  | cons b l ih =>
    intro i a h j v hv
    have hj : j < k := by
      have := (List.getElem?_eq_some_iff.1 hv).1
      rwa [hf] at this
    rw [List.flatMap_cons]
    cases i with
    | zero =>
      have e : b = a := by simpa using h
      subst e
      rw [Nat.zero_mul, Nat.zero_add, List.getElem?_append_left (by rw [hf]; exact hj)]
      exact hv
    | succ i =>
      have h' : l[i]? = some a := by simpa using h
      rw [List.getElem?_append_right (by rw [hf, Nat.succ_mul]; omega), hf, show (i + 1) * k + j - k = i * k + j by rw [Nat.succ_mul]; omega]
      exact ih i a h' j v hv
/-- One item of a row. -/
theorem row_item {α : Type} {f : α → List Value} {k : Nat} (hf : ∀ a, (f a).length = k) {w : World} {B m b o : Nat} {l : List α} (h : Row w B (some ⟨b, o, none⟩) m (l.flatMap f)) (i : Nat) (a : α) (hi : l[i]? = some a) : w.rangeAt b (o + i * k) (f a) := by
  intro j v hv
  have hg := flat_get f k hf l i a hi j v hv
  have hm : i * k + j < m := by
    have := (List.getElem?_eq_some_iff.1 hg).1
    rw [h.1] at this
    exact this
  obtain ⟨b', o', e, _, hc⟩ := h.2 (by omega)
  injection e with e
  injection e with e1 e2
  subst e1 e2
  have := hc (i * k + j) v hg
  rw [← Nat.add_assoc] at this
  exact this
/-- A row that the call owns reads as its cells, whatever its items' size. -/
theorem own_row {w : World} {base k n : Nat} {e : TypeId} {v : Value} {vs : List Value} (h : w.ownsRow base e k v n vs) : ∃ A c, v = .slice A n c ∧ n ≤ c ∧ c ≤ maxLen ∧ Row w w.heap.size A (n * k) vs := by
  rcases h.2 with ⟨h0, h1⟩ | ⟨g, cap, cur, hv, _, hg, hnc, hm, hcs, hx⟩
  · subst h1
    refine ⟨none, 0, h0, Nat.le_refl _, by decide, by rw [h.1], fun hn => ?_⟩
    omega
  · refine ⟨_, cap, hv, hnc, hm, h.1, fun hn => ?_⟩
    have hlt : g < w.heap.size := by
      rcases Nat.lt_or_ge g w.heap.size with h | h
      · exact h
      · rw [Array.getElem?_eq_none h] at hg; cases hg
    refine ⟨g, 0, rfl, hlt, fun i v hv => ?_⟩
    rw [Nat.zero_add, cell_of_row w g i cur e (0, 0) hg]
    rw [← hx, List.getElem?_take] at hv
    split at hv
    · simpa using hv
    · cases hv
/-- The cells of records, one behind the other. -/
def rflat (l : List Rc) : List Value := l.flatMap fun x => x.vals.toList
theorem rcells_length (x : Rc) : x.vals.toList.length = 6 := rfl
theorem rflat_length (l : List Rc) : (rflat l).length = l.length * 6 := by
  induction l with
  | nil => rfl
  | cons q l ih =>
    unfold rflat at ih ⊢
    rw [List.flatMap_cons, List.length_append, ih, rcells_length, List.length_cons]
    omega
theorem rflat_snoc (l : List Rc) (x : Rc) : rflat l ++ x.vals.toList = rflat (l ++ [x]) := by
  unfold rflat
  rw [List.flatMap_append, List.flatMap_singleton]
theorem rcells_one (x : Rc) : ∀ u ∈ x.vals.toList, u.oneCell' = true := by
  intro u hu
  simp only [Rc.vals, List.mem_cons, List.not_mem_nil, or_false] at hu
  rcases hu with rfl | rfl | rfl | rfl | rfl | rfl <;> rfl
theorem rec_item {w : World} {B m b o : Nat} {l : List Rc} (h : Row w B (some ⟨b, o, none⟩) m (rflat l)) (i : Nat) (x : Rc) (hi : l[i]? = some x) : w.rangeAt b (o + i * 6) x.vals.toList := row_item (f := fun x : Rc => x.vals.toList) rcells_length h i x hi
theorem found_item {w : World} {B m b o : Nat} {l : List (Nat × Rc)} (h : Row w B (some ⟨b, o, none⟩) m (flat l)) (i : Nat) (q : Nat × Rc) (hi : l[i]? = some q) : w.rangeAt b (o + i * 7) (fcells q) := row_item (f := fcells) fcells_length h i q hi
/-- The record of an item found. -/
theorem found_rec {w : World} {b o : Nat} {q : Nat × Rc} (h : w.rangeAt b o (fcells q)) : w.cell? ⟨b, o, none⟩ = some (.int .i64 (q.1 : Int)) ∧ w.rangeAt b (o + 1) q.2.vals.toList := by
  refine ⟨h 0 _ rfl, fun j v hv => ?_⟩
  have := h (j + 1) v (by show (_ :: q.2.vals.toList)[j + 1]? = some v; rw [List.getElem?_cons_succ]; exact hv)
  rw [show o + 1 + j = o + (j + 1) by omega]
  exact this
theorem Fd.form {w0 w : World} {e : TypeId} {v : Value} {l : List (Nat × Rc)} (h : Fd w0 e w v l) : ∃ A c, v = .slice A l.length c ∧ l.length ≤ c ∧ c ≤ maxLen ∧ Row w w.heap.size A (l.length * 7) (flat l) := own_row h.row
end Go.Proofs.YtcmlchicpmnhdaaDoor.Rec
