/-
  Texts one behind the other: RecStore, ScanRow, ScanBuilt, RecHead.
-/
import Derived.BigQuiet
import Derived.Deep.Onto
import Derived.Great.Walk
import Derived.Great.BuildSlice
import Derived.StillTailTactics
import Derived.Test.YtkdnfikaodkhnaaDoorG02
import Derived.Test.YtkdnfikaodkhnaaDoorG06
/-
  Records in memory: stores, loads behind guards and in regions that draw; rows of bytes of the call's own: a byte is written, a front is taken; small facts.
  Conditions: none.
-/
namespace Go.Proofs.YtkdnfikaodkhnaaDoor.Rec
open Go.RowKit
open Go.Proofs.YtkdnfikaodkhnaaDoor.Crc (Turned)
set_option linter.unusedVariables false
set_option linter.unusedSimpArgs false

/-- 'make([]byte, n)' reads as so many noughts. -/
theorem own_noughts {w : World} {base g n : Nat} {c : Nat} (h : w.ownsRow base 5 1 (.slice (some ⟨g, 0, none⟩) n c) n (madeCells (Value.int .u8 0).cells (n * 1)).toList) : Row w w.heap.size (some ⟨g, 0, none⟩) n (bvs (List.replicate n 0)) := by
  have := Row.own h
  have e : (madeCells (Value.int .u8 0).cells (n * 1)).toList = bvs (List.replicate n 0) := by
    apply List.ext_getElem?
    intro j
    by_cases hj : j < n
    · simp [madeCells, Value.cells, bvs, bv, hj, Nat.mod_one]
    · simp [madeCells, Value.cells, bvs, bv, hj]
  rwa [e] at this
/-- A record is stored whole; the frame stays as it is. -/
theorem store_recN {w : World} {ops : Array Oper} {rest : List Oper} {o : Oper} {a : Act} {Q : Exit → Act → World → Prop} {g : Nat} {old : Array Value} (h : Blk w g 33 old) (hs : old.size = 6) (hgd : o.guard = none) (y z : Operand) (ho : o.op = .store 33 y z) (hx : a.eval y = .pointer (some ⟨g, 0, none⟩)) (x : Rc) (hy : a.eval z = .agg x.vals) (hd : o.dst = none)
    (k : ∀ w', Hid (RecAt w' g x) → Hid (w.grownBy w' (some g)) → wpList Tryd.prog ops Q rest a w') : wpList Tryd.prog ops Q (o :: rest) a w :=
  store_rec h hs hgd y z ho hx x hy fun w' h1 h2 => by rw [hd]; exact k w' h1 h2
theorem wpList_want {P : Program} {w : World} {ops : Array Oper} {rest : List Oper} {o : Oper} {a : Act} {Q : Exit → Act → World → Prop} (hw : Region.wanted o (yielded ops a.tmps) = true)
    (h : ∀ K : Act → World → Prop, (∀ a w, wpList P ops Q rest a w → K a w) → o.wp P a w K Q) : wpList P ops Q (o :: rest) a w :=
  wpList_step fun K hK => by rw [if_pos hw]; exact h K hK
/-- A record is loaded whole, behind a guard. -/
theorem load_recG {w : World} {ops : Array Oper} {rest : List Oper} {o : Oper} {a : Act} {Q : Exit → Act → World → Prop} {g : Nat} {x : Rc} (h : RecAt w g x) (hw : Region.wanted o (yielded ops a.tmps) = true) (y : Operand) (ho : o.op = .load 33 y) (hx : a.eval y = .pointer (some ⟨g, 0, none⟩))
    (k : wpList Tryd.prog ops Q rest (a.put o.dst (.agg x.vals)) w) : wpList Tryd.prog ops Q (o :: rest) a w :=
  wpList_want hw fun _ hK => wp_load_row 33 y ho g hx 33 x.vals (0, 0) _ h Tryd.underlying33 rfl rec_info (hK _ _ k)
/-- A record is loaded whole in a region that draws. -/
theorem step_load_rec {ops : Array Oper} {o : Oper} {a : Act} {w : World} {K : Act → World → Prop} {Q : Exit → Act → World → Prop} {E : Prop} {g : Nat} {x : Rc} (h : RecAt w g x) (hw : Region.wanted o (yielded ops a.tmps) = true) (y : Operand) (ho : o.op = .load 33 y) (hx : a.eval y = .pointer (some ⟨g, 0, none⟩))
    (k : K (a.put o.dst (.agg x.vals)) w) : if Region.wanted o (yielded ops a.tmps) = true then Oper.wp Tryd.prog o a w K Q else E := by
  rw [if_pos hw]
  exact wp_load_row 33 y ho g hx 33 x.vals (0, 0) _ h Tryd.underlying33 rfl rec_info k
theorem rec_cells {w : World} {g : Nat} {z : Rc} (h : RecAt w g z) : w.cell? ⟨g, 0, none⟩ = some (.int .i64 z.kind) ∧ w.cell? ⟨g, 1, none⟩ = some (.int .u32 (z.tenant : Int)) ∧ w.cell? ⟨g, 2, none⟩ = some (.int .u64 (z.epoch : Int)) ∧ w.cell? ⟨g, 3, none⟩ = some (.int .u64 (z.object : Int)) ∧ w.cell? ⟨g, 4, none⟩ = some (.int .u64 (z.seq : Int)) ∧ w.cell? ⟨g, 5, none⟩ = some (.string (str z.body)) :=
  ⟨h.cell 0, h.cell 1, h.cell 2, h.cell 3, h.cell 4, h.cell 5⟩
theorem conv_row {w : World} {B n c : Nat} {A : Option Addr} {l : List UInt8} {s : ByteArray} (hR : Row w B A n (bvs l)) (hs : Hid (s = str l)) : (convert 43 9 (.slice A n c)).run Tryd.prog w = .ok (.string s) w := by
  rw [hs.out]
  exact bytes_string Tryd.underlying43 Tryd.underlying5 Tryd.underlying9 hR
theorem below_of_drew {w w' : World} (h : Below w.drew.heap.size w.drew w') : Hid (Below w.heap.size w w') := ⟨h.os, h.tape, h.output, h.size, h.block⟩
theorem conv_own {w : World} {base n : Nat} {u : Value} {l : List UInt8} {s : ByteArray} (h : w.ownsRow base 5 1 u n (bvs l)) (hs : Hid (s = str l)) : ∃ A c, u = .slice A n c ∧ (convert 43 9 (.slice A n c)).run Tryd.prog w = .ok (.string s) w := by
  obtain ⟨A, c, rfl, _, _⟩ := own_form h
  exact ⟨A, c, rfl, conv_row (Row.own h) hs⟩
theorem dec_enc (y : Rc) (hy : y.May) (hf : y.Fits) : dec (enc y) = .ok y (39 + y.body.length) := by
  have := dec_bytes y [] hy hf
  rw [List.append_nil] at this
  rw [enc_may hy]
  exact this
theorem xor_u8 (a b : UInt8) : bits .xor .u8 (a.toNat : Int) (b.toNat : Int) = ((a ^^^ b).toNat : Int) := by
  rw [u8_xor_nat _ _ a.toNat_lt b.toNat_lt, UInt8.toNat_xor]
theorem xor_ne (a b : UInt8) (h : b ≠ 0) : a ^^^ b ≠ a := by
  intro e
  refine h ?_
  have : a ^^^ (a ^^^ b) = a ^^^ a := by rw [e]
  rw [← UInt8.xor_assoc, UInt8.xor_self, UInt8.zero_xor] at this
  exact this
/-- A byte of a row of the call's own is written. -/
theorem own_put {w : World} {base g n c : Nat} {bs : List UInt8} (h : w.ownsRow base 5 1 (.slice (some ⟨g, 0, none⟩) n c) n (bvs bs)) (k : Nat) (z : UInt8) (hk : k < n) :
    Hid (Row (w.setCell ⟨g, k, none⟩ (.int .u8 (z.toNat : Int))) w.heap.size (some ⟨g, 0, none⟩) n (bvs (bs.set k z))) := by
  have hr := Row.own h
  have hs := hr.size
  obtain ⟨b, o, e, hlt, hc⟩ := hr.2 (by omega)
  injection e with e
  injection e with e1 e2
  subst e1 e2
  refine ⟨by rw [bvs_length, List.length_set, hs], fun _ => ⟨g, 0, rfl, hlt, fun i v hv => ?_⟩⟩
  obtain ⟨g', cap, cur, hv', _, hblk, _, _, hsz, _⟩ := own_block h (by omega)
  injection hv' with a1 a2 a3
  injection a1 with a1
  injection a1 with a1
  subst a1
  rw [Nat.zero_add, (hblk.put k _).cell i]
  rw [bvs, List.getElem?_map, List.getElem?_set] at hv
  by_cases hik : k = i
  · subst hik
    rw [if_pos rfl, if_pos (by omega)] at hv
    rw [Array.getElem?_setIfInBounds_self_of_lt (by omega)]
    exact hv
  · rw [if_neg hik] at hv
    rw [Array.getElem?_setIfInBounds_ne hik, ← hblk.cell i]
    have := hc i v (by rw [bvs, List.getElem?_map]; exact hv)
    rwa [Nat.zero_add] at this
theorem own_cells {w : World} {base g n c : Nat} {bs : List UInt8} (h : w.ownsRow base 5 1 (.slice (some ⟨g, 0, none⟩) n c) n (bvs bs)) (k : Nat) (hk : k < n) :
    w.cell? ⟨g, k, none⟩ = some (.int .u8 ((bs.getD k 0).toNat : Int)) ∧ w.frozen? ⟨g, k, none⟩ = false := by
  obtain ⟨b, o, e, hlt, hc⟩ := (Row.own h).byte (by omega)
  injection e with e
  injection e with e1 e2
  subst e1 e2
  obtain ⟨g', cap, cur, hv', _, hblk, _⟩ := own_block h (by omega)
  injection hv' with a1 a2 a3
  injection a1 with a1
  injection a1 with a1
  subst a1
  have := hc k hk
  rw [Nat.zero_add] at this
  exact ⟨this, hblk.free k⟩
theorem own_take {w : World} {base n c k : Nat} {A : Option Addr} {bs : List UInt8} (h : w.ownsRow base 5 1 (.slice A n c) n (bvs bs)) (hk : k ≤ n) : w.ownsRow base 5 1 (.slice A k c) k (bvs (bs.take k)) := by
  have hl : bs.length = n := by have := h.1; rw [bvs_length] at this; omega
  refine ⟨by rw [bvs_length, List.length_take]; omega, ?_⟩
  rcases h.2 with ⟨h0, hn⟩ | ⟨g, cap, cur, hv, hb, hg, hnc, hm, hs, hx⟩
  · injection h0 with h1 h2 h3
    subst h1 h3
    exact .inl ⟨by rw [show k = 0 by omega], by omega⟩
  · injection hv with h1 h2 h3
    subst h1 h3
    refine .inr ⟨g, c, cur, rfl, hb, hg, by omega, hm, hs, ?_⟩
    rw [← bvs_take, ← hx, List.take_take]
    congr 1
    omega
theorem Rc.Ok.cut {x : Rc} (h : x.Ok) (m : Nat) (hm : m ≤ maxLen) : (x.cut m).Ok :=
  ⟨h.kind, ⟨h.fits.tenant, h.fits.epoch, h.fits.object, h.fits.seq⟩, by show (x.body.take m).length ≤ maxLen; rw [List.length_take]; have := h.body; omega⟩
theorem cut_small (x : Rc) (m : Nat) : (x.cut m).body.length ≤ m := by
  show (x.body.take m).length ≤ m
  rw [List.length_take]
  omega
end Go.Proofs.YtkdnfikaodkhnaaDoor.Rec
/-
  Plain facts: records found, as a row of structs of seven cells that the call itself made; an append of one more.
-/
namespace Go.Proofs.YtkdnfikaodkhnaaDoor.Rec
open Go.RowKit
set_option linter.unusedVariables false
set_option linter.unusedSimpArgs false

/-- The cells of one record found. -/
def fcells (q : Nat × Rc) : List Value := .int .i64 (q.1 : Int) :: q.2.vals.toList
def flat (l : List (Nat × Rc)) : List Value := l.flatMap fcells
theorem fcells_length (q : Nat × Rc) : (fcells q).length = 7 := rfl
theorem flat_length (l : List (Nat × Rc)) : (flat l).length = l.length * 7 := by
  induction l with
  | nil => rfl
  | cons q l ih =>
    unfold flat at ih ⊢
    rw [List.flatMap_cons, List.length_append, ih, fcells_length, List.length_cons]
    omega
theorem flat_snoc (l : List (Nat × Rc)) (q : Nat × Rc) : flat l ++ fcells q = flat (l ++ [q]) := by
  unfold flat
  rw [List.flatMap_append, List.flatMap_singleton]
theorem fcells_one (q : Nat × Rc) : ∀ u ∈ fcells q, u.oneCell' = true := by
  intro u hu
  simp only [fcells, Rc.vals, List.mem_cons, List.not_mem_nil, or_false] at hu
  rcases hu with rfl | rfl | rfl | rfl | rfl | rfl | rfl <;> rfl
/-- Records found so far: a row of the call's own, of any struct type that has these cells. -/
structure Fd (w0 : World) (e : TypeId) (w : World) (v : Value) (l : List (Nat × Rc)) : Prop where
  row : w.ownsRow w0.heap.size e 7 v l.length (flat l)
  below : Below w0.heap.size w0 w
theorem Fd.nil (w : World) (e : TypeId) : Fd w e w (.slice none 0 0) [] := ⟨World.ownsRow_nil _ _ _ _, Below.refl _ _⟩
theorem Fd.all {w0 w w' : World} {e : TypeId} {v : Value} {l : List (Nat × Rc)} (h : Fd w0 e w v l) (hb : Below w.heap.size w w') : Fd w0 e w' v l :=
  ⟨h.row.kept (row := none) ⟨hb.os, hb.tape, hb.output, hb.size, fun i hi _ => hb.block i hi⟩ (Classical.em _), h.below.trans (hb.mono h.below.size)⟩
section
variable {w0 w : World} {e : TypeId} {v : Value} {l : List (Nat × Rc)} {ops : Array Oper} {rest : List Oper} {o : Oper} {a : Act} {Q : Exit → Act → World → Prop}
theorem fd_append (h : Fd w0 e w v l) (T : TypeId) (z : Value) (by' : Nat) (hT : Tryd.prog.underlying T = some (.slice e)) (hi : (Tryd.prog.info? e).map (fun i => (i.zero, i.size, i.bytes)) = some (some z, 7, by')) (hz : z.cells.size = 7) (hby : by' ≤ 64)
    (hgd : o.guard = none) (s y : Operand) (ho : o.op = .call { callee := .builtin .append, args := #[s, y], argTypes := #[T, T] }) (hs : a.eval s = v)
    (g c : Nat) (q : Nat × Rc) (hy : a.eval y = .slice (some ⟨g, 0, none⟩) 1 c) (hq : ∀ j u, (fcells q)[j]? = some u → w.cell? ⟨g, j, none⟩ = some u) (hl : l.length ≤ 100000000)
    (k : ∀ v' w', Hid (Fd w0 e w' v' (l ++ [q])) → wpList Tryd.prog ops Q rest (a.put o.dst v') w') : wpList Tryd.prog ops Q (o :: rest) a w := by
  obtain ⟨i, hii, hzz⟩ := Option.map_eq_some_iff.1 hi
  simp only [Prod.mk.injEq] at hzz
  obtain ⟨hz0, hs1, hb1⟩ := hzz
  refine wpList_append_own (w := w) hgd s y T ho w0.heap.size e i z 7 by' hT hii hz0 hs1 hb1 hz (by decide) v l.length (flat l) hs h.row ⟨g, 0, none⟩ 1 c (fcells q) hy (fcells_length q) ?_ (fcells_one q) (by unfold maxLen; omega) ?_ h.below.size ?_
  · intro j u hu
    have := hq j u hu
    rw [Addr.add_lit, Nat.zero_add]
    exact this
  · have : (l.length + 1) * by' ≤ (l.length + 1) * 64 := Nat.mul_le_mul_left _ hby
    omega
  · intro v' w' h1 h2 _
    refine k v' w' ⟨?_, own_below h.row h.below (Nat.le_refl _) h.below.size h2⟩
    rw [flat_snoc] at h1
    rw [List.length_append]
    exact h1
end
/-- A block of one record found. -/
theorem one_cells (w : World) (t : TypeId) (fr : Nat × Nat) (q : Nat × Rc) (cs : Array Value) (h : cs.toList = fcells q) : ∀ j u, (fcells q)[j]? = some u → (w.alloc (.cells cs t fr)).cell? ⟨w.heap.size, j, none⟩ = some u := by
  intro j u hu
  rw [cell_of_row _ w.heap.size j cs t fr (heap_alloc_new w _), ← Array.getElem?_toList, h]
  exact hu
end Go.Proofs.YtkdnfikaodkhnaaDoor.Rec
/-
  Plain facts: a record found, built out of its place and the record; a slice of one of these.
-/
namespace Go.Proofs.YtkdnfikaodkhnaaDoor.Rec
open Go.RowKit
set_option linter.unusedVariables false
set_option linter.unusedSimpArgs false

theorem built_ref (p : Nat) (x : Rc) : Tryd.prog.built 54 [(0, .int .i64 (p : Int)), (1, .agg x.vals)] = some (fcells (p, x)).toArray := by kernel_rfl
theorem slice_ref (p : Nat) (x : Rc) : Tryd.prog.builtSlice 54 1 [(0, .agg (fcells (p, x)).toArray)] = some (fcells (p, x)).toArray := by kernel_rfl
section
variable {w : World} {ops : Array Oper} {rest : List Oper} {o : Oper} {a : Act} {Q : Exit → Act → World → Prop}
theorem build_found (hg : o.guard = none) (T : TypeId) (y1 y2 : Operand) (ho : o.op = .build T #[(0, y1), (1, y2)]) (d : Option Tmp) (hd : o.dst = d) (v1 v2 : Value) (h1 : a.eval y1 = v1) (h2 : a.eval y2 = v2) (fc : Array Value)
    (hb : Tryd.prog.built T [(0, v1), (1, v2)] = some fc) (k : wpList Tryd.prog ops Q rest (a.put d (.agg fc)) w) : wpList Tryd.prog ops Q (o :: rest) a w := by
  refine wpList_buildTo hg T _ ho d hd fc ?_ k
  rw [Array.toList_map]
  simp only [List.map_cons, List.map_nil, h1, h2]
  exact hb
theorem build_one (hg : o.guard = none) (T e : TypeId) (y : Operand) (ho : o.op = .buildSlice T 1 #[(0, y)]) (d : Option Tmp) (hd : o.dst = d) (hu : Tryd.prog.underlying T = some (.slice e)) (v : Value) (hy : a.eval y = v) (fc : Array Value)
    (hb : Tryd.prog.builtSlice e 1 [(0, v)] = some fc) (k : wpList Tryd.prog ops Q rest (a.put d (.slice (some ⟨w.heap.size, 0, none⟩) 1 1)) (w.alloc (.cells fc e))) : wpList Tryd.prog ops Q (o :: rest) a w := by
  refine Go.Great.wpList_buildSliceTo hg T e 1 _ ho w.heap.size rfl d hd hu fc ?_ k
  rw [Array.toList_map]
  simp only [List.map_cons, List.map_nil, hy]
  exact hb
end
end Go.Proofs.YtkdnfikaodkhnaaDoor.Rec
/-
  Proved: what withoutBody returns of a whole head.
  Conditions: the slice reads as bytes, at least 39.
-/
namespace Go.Proofs.YtkdnfikaodkhnaaDoor.Rec
open Go.RowKit
set_option linter.unusedVariables false
set_option linter.unusedSimpArgs false

theorem row_heap {w w' : World} {B n : Nat} {A : Option Addr} {vs : List Value} (h : Row w B A n vs) (e : w'.heap = w.heap) : Row w' B A n vs :=
  h.keep fun b o _ => by unfold World.cell?; rw [e]
theorem row_part {w : World} {B n k m b o : Nat} {bs : List UInt8} (h : Row w B (some ⟨b, o, none⟩) n (bvs bs)) (hk : k < m) (hm : m ≤ n) : Row w B (some ⟨b, o + k, none⟩) (m - k) (bvs (part bs k m)) := by
  have := (h.drop (k := k) (by omega)).take (k := m - k) (by omega)
  rw [bvs_drop, bvs_take] at this
  exact this
theorem get_part {w : World} {B n b o c : Nat} {bs : List UInt8} (h : Row w B (some ⟨b, o, none⟩) n (bvs bs)) (hnc : n ≤ c) (hc : c ≤ maxLen) (k m z d : Nat) (hk : k < m) (hm : m ≤ n) (hz : z = m - k) (h8 : z ≤ 8) (hd : d = c - k) :
    Hid (∀ w', w'.heap = w.heap → Calls Tryd.prog 65 #[.slice (some ⟨b, o + k, none⟩) z d] w' fun e w'' => e = .returned (.int .u64 (beN (part bs k m) : Int)) ∧ w'' = w') := by
  intro w' e
  subst hz hd
  refine (get_any _ _ _ B _ w' (row_heap (row_part h hk hm) e) h8 (by omega) (by omega)).mono ?_
  rintro e w'' ⟨h1, rfl⟩
  exact ⟨h1, rfl⟩
set_option maxHeartbeats 2000000 in
set_option maxRecDepth 100000 in
theorem withoutBody_any (b o n c B : Nat) (bs : List UInt8) (w : World) (hR : Row w B (some ⟨b, o, none⟩) n (bvs bs)) (hB : B ≤ w.heap.size) (hn : 39 ≤ n) (hnc : n ≤ c) (hc : c ≤ maxLen) :
    Calls Tryd.prog 64 #[.slice (some ⟨b, o, none⟩) n c] w fun e w' => e = .returned (.agg (headOf bs).vals) ∧ Below w.heap.size w w' := by
  have hm : c ≤ 9223372036854775807 := by unfold maxLen at hc; exact hc
  have h39 : 39 ≤ c := by omega
  have hz := zeroRec
  obtain ⟨w1, hw1⟩ : ∃ w1, w1 = w.alloc (.cells #[.int .i64 0, .int .u32 0, .int .u64 0, .int .u64 0, .int .u64 0, .string ⟨#[]⟩] 33) := ⟨_, rfl⟩
  have hB1 : Below w.heap.size w w1 := by rw [hw1]; exact below_alloc w _
  have hR1 : Row w1 B (some ⟨b, o, none⟩) n (bvs bs) := hR.below (hB1.mono hB)
  have G0 := get_part hR1 hnc hc 2 3 1 (c - 2) (by omega) (by omega) rfl (by omega) rfl
  have G1 := get_part hR1 hnc hc 3 7 4 (c - 3) (by omega) (by omega) rfl (by omega) rfl
  have G2 := get_part hR1 hnc hc 7 15 8 (c - 7) (by omega) (by omega) rfl (by omega) rfl
  have G3 := get_part hR1 hnc hc 15 23 8 (c - 15) (by omega) (by omega) rfl (by omega) rfl
  have G4 := get_part hR1 hnc hc 23 31 8 (c - 23) (by omega) (by omega) rfl (by omega) rfl
  have hl := hR.size
  have b0 : beN (part bs 2 3) < 256 := by have := beN_lt 1 (part bs 2 3) (part_length _ _ _ (by omega) (by omega)); omega
  have b1 : beN (part bs 3 7) < 4294967296 := by have := beN_lt 4 (part bs 3 7) (part_length _ _ _ (by omega) (by omega)); omega
  have hv : (headOf bs).vals = #[.int .i64 ((beN (part bs 2 3) : Nat) : Int), .int .u32 ((beN (part bs 3 7) : Nat) : Int), .int .u64 ((beN (part bs 7 15) : Nat) : Int), .int .u64 ((beN (part bs 15 23) : Nat) : Int), .int .u64 ((beN (part bs 23 31) : Nat) : Int), .string ⟨#[]⟩] := by
    unfold Rc.vals headOf
    rw [part_kind bs (by omega), beN_one]
    rfl
  have HS : Hid (Blk w1.drew w.heap.size 33 zeroRc.vals) := by
    rw [hw1]
    exact Blk.new w 33 zeroRc.vals
  obtain ⟨x, hx⟩ : ∃ x, x = headOf bs := ⟨_, rfl⟩
  rw [← hx] at hv ⊢
  obtain ⟨V0, hV0⟩ : ∃ V, V = beN (part bs 2 3) := ⟨_, rfl⟩
  obtain ⟨V1, hV1⟩ : ∃ V, V = beN (part bs 3 7) := ⟨_, rfl⟩
  obtain ⟨V2, hV2⟩ : ∃ V, V = beN (part bs 7 15) := ⟨_, rfl⟩
  obtain ⟨V3, hV3⟩ : ∃ V, V = beN (part bs 15 23) := ⟨_, rfl⟩
  obtain ⟨V4, hV4⟩ : ∃ V, V = beN (part bs 23 31) := ⟨_, rfl⟩
  rw [← hV0] at G0 b0 hv
  rw [← hV1] at G1 b1 hv
  rw [← hV2] at G2 hv
  rw [← hV3] at G3 hv
  rw [← hV4] at G4 hv
  have w0 : IntKind.i64.wrap (V0 : Int) = (V0 : Int) := by rw [IntKind.wrap_i64]; omega
  have w1' : IntKind.u32.wrap (V1 : Int) = (V1 : Int) := by simp [IntKind.wrap, IntKind.bits, IntKind.signed]; omega
  have HV : Hid (x.vals = #[.int .i64 (IntKind.i64.wrap (V0 : Int)), .int .u32 (IntKind.u32.wrap (V1 : Int)), .int .u64 (V2 : Int), .int .u64 (V3 : Int), .int .u64 (V4 : Int), .string ⟨#[]⟩]) := by
    show _ = _
    rw [w0, w1', hv]
  clear w0 w1'
  have HB1 := Lib.hid hB1
  clear hV0 hV1 hV2 hV3 hV4 hx hv hl hR hR1 hB1 hc hnc hn
  go_enter Tryd.func64, Tryd.ntmps64
  go_upto_region 1 with fail
  rw [← hw1]
  clear hw1
  have i3 : (3 : Int) ≤ (c : Int) := by omega
  have i7 : (7 : Int) ≤ (c : Int) := by omega
  have i15 : (15 : Int) ≤ (c : Int) := by omega
  have i23 : (23 : Int) ≤ (c : Int) := by omega
  have i31 : (31 : Int) ≤ (c : Int) := by omega
  have n2 : ¬ c = 2 := by omega
  have n3 : ¬ c = 3 := by omega
  have n7 : ¬ c = 7 := by omega
  have n15 : ¬ c = 15 := by omega
  have n23 : ¬ c = 23 := by omega
  go_still_tail 18, (by kernel_rfl)
  still_call (G0.out _ rfl)
  repeat still_step
  still_call (G1.out _ rfl)
  repeat still_step
  still_call (G2.out _ rfl)
  repeat still_step
  still_call (G3.out _ rfl)
  repeat still_step
  still_call (G4.out _ rfl)
  repeat still_step
  refine wpStill_nil ?_
  change wpList _ _ _ _ _ w1.drew
  clear G0 G1 G2 G3 G4
  go_wp2_with (refine store_rec HS.out rfl rfl (.tmp 2) (.tmp 20) rfl rfl x (by rw [HV.out]; rfl) ?_; intro w2 G5 G6)
  refine bodyPost_ret (v := .agg x.vals) (result_rec G5.out rfl _ rfl) rfl ?_
  exact ⟨rfl, below_only HB1.out.drew (only_hid G6) (Nat.le_refl _) HB1.out.size⟩
end Go.Proofs.YtkdnfikaodkhnaaDoor.Rec
