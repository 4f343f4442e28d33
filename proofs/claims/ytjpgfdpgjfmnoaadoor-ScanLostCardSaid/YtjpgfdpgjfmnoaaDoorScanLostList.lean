/-
  Plain facts: places in a text of records one behind the other; a text and the ends of its records as two rows of the call's own.
-/
import Derived.Test.YtjpgfdpgjfmnoaaDoorScanLostMath
import Derived.Test.YtjpgfdpgjfmnoaaDoorScanGood
namespace Go.Proofs.YtjpgfdpgjfmnoaaDoor.Rec
open Go.RowKit
set_option linter.unusedVariables false
set_option linter.unusedSimpArgs false

/-- How many bytes the first records take. -/
def upto (g : List Rc) (j : Nat) : Nat := (cat (g.take j)).length
theorem upto_zero (g : List Rc) : upto g 0 = 0 := rfl
theorem snoc_take {g : List Rc} {j : Nat} {x : Rc} (h : g[j]? = some x) : g.take (j + 1) = g.take j ++ [x] := by rw [List.take_add_one, h]; rfl
theorem upto_next {g : List Rc} {j : Nat} {x : Rc} (h : g[j]? = some x) : upto g (j + 1) = upto g j + (enc x).length := by
  unfold upto
  rw [snoc_take h, cat_snoc, List.length_append]
theorem upto_all {g : List Rc} : upto g g.length = (cat g).length := by unfold upto; rw [List.take_length]
theorem upto_add (g : List Rc) (j k : Nat) : upto g j ≤ upto g (j + k) := by
  unfold upto
  rw [List.take_add, cat_append, List.length_append]
  exact Nat.le_add_right _ _
theorem upto_le (g : List Rc) (j k : Nat) (h : j ≤ k) : upto g j ≤ upto g k := by
  have := upto_add g j (k - j)
  rwa [show j + (k - j) = k by omega] at this
theorem split_at {g : List Rc} {K : Nat} {y : Rc} (h : g[K]? = some y) : g = g.take K ++ y :: g.drop (K + 1) := by
  obtain ⟨hk, e⟩ := List.getElem?_eq_some_iff.1 h
  conv => lhs; rw [← List.take_append_drop K g, List.drop_eq_getElem_cons hk, e]
theorem cat_split {g : List Rc} {K : Nat} {y : Rc} (h : g[K]? = some y) : cat g = cat (g.take K) ++ (enc y ++ cat (g.drop (K + 1))) := by
  conv => lhs; rw [split_at h, cat_append, cat_cons]
theorem cat_set {g : List Rc} {K R : Nat} {y : Rc} (h : g[K]? = some y) (hR : R < (enc y).length) (c : UInt8) : (cat g).set (upto g K + R) c = cat (g.take K) ++ ((enc y).set R c ++ cat (g.drop (K + 1))) := by
  rw [cat_split h]
  unfold upto
  rw [List.set_append_right _ _ (Nat.le_add_right _ _), Nat.add_sub_cancel_left, List.set_append_left _ _ hR]
theorem cat_getD {g : List Rc} {K R : Nat} {y : Rc} (h : g[K]? = some y) (hR : R < (enc y).length) : (cat g).getD (upto g K + R) 0 = (enc y).getD R 0 := by
  rw [cat_split h]
  unfold upto
  rw [List.getD_eq_getElem?_getD, List.getElem?_append_right (Nat.le_add_right _ _), Nat.add_sub_cancel_left, List.getElem?_append_left hR, ← List.getD_eq_getElem?_getD]
/-- Which record is found as the i-th where the K-th was spoilt. -/
def kap (K i : Nat) : Nat := if i < K then i else i + 1
theorem lost_get {g : List Rc} {K i : Nat} {y : Rc} (h : g[K]? = some y) (hi : i + 1 < g.length) :
    ∃ x, g[kap K i]? = some x ∧ (places 0 (g.take K) ++ places (upto g K + (enc y).length) (g.drop (K + 1)))[i]? = some (upto g (kap K i), x) := by
  have hk := (List.getElem?_eq_some_iff.1 h).1
  have hl : (places 0 (g.take K)).length = K := by rw [places_length, List.length_take]; omega
  unfold kap
  by_cases hik : i < K
  · rw [if_pos hik]
    obtain ⟨x, hx⟩ : ∃ x, g[i]? = some x := ⟨_, List.getElem?_eq_getElem (by omega)⟩
    refine ⟨x, hx, ?_⟩
    rw [List.getElem?_append_left (by rw [hl]; exact hik), places_get (g.take K) 0 i x (by rw [List.getElem?_take, if_pos hik]; exact hx), List.take_take, Nat.min_eq_left (by omega), Nat.zero_add]
    rfl
  · rw [if_neg hik]
    obtain ⟨x, hx⟩ : ∃ x, g[i + 1]? = some x := ⟨_, List.getElem?_eq_getElem (by omega)⟩
    refine ⟨x, hx, ?_⟩
    have hd : (g.drop (K + 1))[i - K]? = some x := by rw [List.getElem?_drop, show K + 1 + (i - K) = i + 1 by omega]; exact hx
    rw [List.getElem?_append_right (by rw [hl]; omega), hl, places_get _ _ (i - K) x hd]
    have e : g.take (i + 1) = g.take (K + 1) ++ (g.drop (K + 1)).take (i - K) := by
      rw [← List.take_add, show K + 1 + (i - K) = i + 1 by omega]
    have e2 : upto g (i + 1) = upto g (K + 1) + (cat ((g.drop (K + 1)).take (i - K))).length := by
      show (cat (g.take (i + 1))).length = _
      rw [e, cat_append, List.length_append]
      rfl
    rw [e2, upto_next h]
/-- The ends of the first records. -/
def endsOf (g : List Rc) (p : Nat) : List Int := (List.range p).map fun j => (upto g (j + 1) : Int)
theorem endsOf_snoc (g : List Rc) (p : Nat) : endsOf g p ++ [(upto g (p + 1) : Int)] = endsOf g (p + 1) := by
  unfold endsOf
  rw [List.range_succ, List.map_append, List.map_singleton]
theorem endsOf_length (g : List Rc) (p : Nat) : (endsOf g p).length = p := by unfold endsOf; rw [List.length_map, List.length_range]
theorem endsOf_get (g : List Rc) (p j : Nat) (h : j < p) : (endsOf g p)[j]? = some (upto g (j + 1) : Int) := by
  unfold endsOf
  rw [List.getElem?_map, List.getElem?_range h]
  rfl
/-- Two rows of two kinds of cells are two rows. -/
theorem own_apart {w : World} {b1 b2 k1 k2 n1 n2 : Nat} {e1 e2 : TypeId} {v1 v2 : Value} {x1 x2 : List Value} (h1 : w.ownsRow b1 e1 k1 v1 n1 x1) (h2 : w.ownsRow b2 e2 k2 v2 n2 x2) (he : e1 ≠ e2) : v2.ownBlock = none ∨ v2.ownBlock ≠ v1.ownBlock := by
  rcases h2.2 with ⟨h0, _⟩ | ⟨g2, c2, u2, hv2, _, hg2, _⟩
  · exact .inl (by rw [h0]; rfl)
  · refine .inr ?_
    rcases h1.2 with ⟨h0, _⟩ | ⟨g1, c1, u1, hv1, _, hg1, _⟩
    · rw [h0, hv2]
      simp [Value.ownBlock]
    · rw [hv1, hv2]
      intro e
      have e : g2 = g1 := by simpa [Value.ownBlock] using e
      subst e
      rw [hg1] at hg2
      injection hg2 with hg2
      injection hg2 with _ hh _
      exact he hh
theorem kinds_apart : (5 : TypeId) ≠ 3 := by decide
theorem int_info : (Tryd.prog.info? 3).map (fun i => (i.zero, i.size, i.bytes)) = some (some (.int .i64 0), 1, 8) := by kernel_rfl
/-- The text so far and the ends so far. -/
structure Be (w0 w : World) (b en : Value) (g : List Rc) (p : Nat) : Prop where
  text : w.ownsRow w0.heap.size 5 1 b (cat (g.take p)).length (bvs (cat (g.take p)))
  ends : w.ownsRow w0.heap.size 3 1 en p (ivs (endsOf g p))
  below : Below w0.heap.size w0 w
theorem Be.nil (w : World) (g : List Rc) : Be w w (.slice none 0 0) (.slice none 0 0) g 0 := ⟨World.ownsRow_nil _ _ _ _, World.ownsRow_nil _ _ _ _, Below.refl _ _⟩
theorem Be.all {w0 w w' : World} {b en : Value} {g : List Rc} {p : Nat} (h : Be w0 w b en g p) (hb : Below w.heap.size w w') : Be w0 w' b en g p :=
  ⟨h.text.kept (row := none) ⟨hb.os, hb.tape, hb.output, hb.size, fun i hi _ => hb.block i hi⟩ (Classical.em _), h.ends.kept (row := none) ⟨hb.os, hb.tape, hb.output, hb.size, fun i hi _ => hb.block i hi⟩ (Classical.em _), h.below.trans (hb.mono h.below.size)⟩
section
variable {w0 w : World} {b en : Value} {g : List Rc} {p : Nat} {ops : Array Oper} {rest : List Oper} {o : Oper} {a : Act} {Q : Exit → Act → World → Prop}
/-- The text, one record longer; the ends are as they were. -/
structure Bt (w0 w : World) (b en : Value) (g : List Rc) (p : Nat) : Prop where
  text : w.ownsRow w0.heap.size 5 1 b (upto g (p + 1)) (bvs (cat (g.take (p + 1))))
  ends : w.ownsRow w0.heap.size 3 1 en p (ivs (endsOf g p))
  below : Below w0.heap.size w0 w
theorem Bt.all {w0 w w' : World} {b en : Value} {g : List Rc} {p : Nat} (h : Bt w0 w b en g p) (hb : Below w.heap.size w w') : Bt w0 w' b en g p :=
  ⟨h.text.kept (row := none) ⟨hb.os, hb.tape, hb.output, hb.size, fun i hi _ => hb.block i hi⟩ (Classical.em _), h.ends.kept (row := none) ⟨hb.os, hb.tape, hb.output, hb.size, fun i hi _ => hb.block i hi⟩ (Classical.em _), h.below.trans (hb.mono h.below.size)⟩
theorem be_text (h : Be w0 w b en g p) (x : Rc) (hx : g[p]? = some x) (hgd : o.guard = none) (s y : Operand) (ho : o.op = .call { callee := .builtin .append, args := #[s, y], argTypes := #[26, 26] }) (hs : a.eval s = b)
    (B : Nat) (A : Option Addr) (m c : Nat) (hy : a.eval y = .slice A m c) (hr : Row w B A m (bvs (enc x))) (hl : upto g p + m ≤ 1000000)
    (k : ∀ v' w', Hid (Bt w0 w' v' en g p) → wpList Tryd.prog ops Q rest (a.put o.dst v') w') : wpList Tryd.prog ops Q (o :: rest) a w := by
  have hl' : (cat (g.take p)).length + m ≤ 1000000 := hl
  refine wpList_append_reads hgd s y 26 ho w0.heap.size 5 (.int .u8 0) 1 Tryd.underlying26 u8_info rfl b (cat (g.take p)).length (bvs (cat (g.take p))) hs h.text B A m c (bvs (enc x)) hy hr (bvs_one _) (by unfold maxLen; omega) (by omega) h.below.size ?_
  intro v' w' h1 h2
  refine k v' w' ⟨?_, h.ends.kept h2 (own_apart h.text h.ends kinds_apart), own_below h.text h.below (Nat.le_refl _) h.below.size h2⟩
  have e : bvs (cat (g.take p)) ++ bvs (enc x) = bvs (cat (g.take (p + 1))) := by unfold bvs; rw [← List.map_append, snoc_take hx, cat_snoc]
  rw [e] at h1
  rw [upto_next hx, hr.size]
  exact h1
theorem be_ends (h : Bt w0 w b en g p) (hgd : o.guard = none) (s y : Operand) (ho : o.op = .call { callee := .builtin .append, args := #[s, y], argTypes := #[44, 44] }) (hs : a.eval s = en)
    (B : Nat) (A : Option Addr) (c : Nat) (hy : a.eval y = .slice A 1 c) (hr : Row w B A 1 (ivs [(upto g (p + 1) : Int)])) (hl : p ≤ 1000000)
    (k : ∀ v' w', Hid (Be w0 w' b v' g (p + 1)) → wpList Tryd.prog ops Q rest (a.put o.dst v') w') : wpList Tryd.prog ops Q (o :: rest) a w := by
  refine wpList_append_reads hgd s y 44 ho w0.heap.size 3 (.int .i64 0) 8 Tryd.underlying44 int_info rfl en p (ivs (endsOf g p)) hs h.ends B A 1 c (ivs [(upto g (p + 1) : Int)]) hy hr (fun u hu => by simp [ivs] at hu; subst hu; rfl) (by unfold maxLen; omega) (by omega) h.below.size ?_
  intro v' w' h1 h2
  refine k v' w' ⟨h.text.kept h2 ((own_apart h.ends h.text (Ne.symm kinds_apart))), ?_, own_below h.ends h.below (Nat.le_refl _) h.below.size h2⟩
  have e : ivs (endsOf g p) ++ ivs [(upto g (p + 1) : Int)] = ivs (endsOf g (p + 1)) := by
    rw [← endsOf_snoc]
    unfold ivs
    rw [List.map_append]
  rw [e] at h1
  exact h1
end
theorem upto_small {g : List Rc} (hg : ∀ x ∈ g, x.Good) : ∀ j, upto g j ≤ j * 239 := by
  intro j
  induction j with
  | zero => exact Nat.zero_le _
  | succ j ih =>
    by_cases h : j < g.length
    · have hx := List.getElem?_eq_getElem h
      obtain ⟨hm, _, hl⟩ := hg _ (List.getElem_mem h)
      rw [upto_next hx, enc_length _ hm]
      omega
    · have e : upto g (j + 1) = upto g j := by unfold upto; rw [List.take_of_length_le (by omega), List.take_of_length_le (by omega)]
      omega
theorem row_one (w : World) (z : Int) : Row (w.alloc (.cells #[.int .i64 z] 3)) (w.heap.size + 1) (some ⟨w.heap.size, 0, none⟩) 1 (ivs [z]) := Row.fresh w 3 (0, 0) #[.int .i64 z]
/-- One end out of their row. -/
theorem ends_cell {w : World} {base G c : Nat} {ge : Nat} {g : List Rc} (h : w.ownsRow base 3 1 (.slice (some ⟨ge, 0, none⟩) G c) G (ivs (endsOf g G))) (j : Nat) (hj : j < G) : w.cell? ⟨ge, j, none⟩ = some (.int .i64 (upto g (j + 1) : Int)) := by
  rw [h.cellAt j (by omega)]
  unfold ivs
  rw [List.getElem?_map, endsOf_get g G j hj]
  rfl
end Go.Proofs.YtjpgfdpgjfmnoaaDoor.Rec
