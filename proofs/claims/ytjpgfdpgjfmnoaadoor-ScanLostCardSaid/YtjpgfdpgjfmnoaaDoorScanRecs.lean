/-
  Plain facts: rows of structs of several cells: one item out of a row; records among the arguments; records and records found as rows.
-/
import Derived.Test.YtjpgfdpgjfmnoaaDoorScanCom
import Derived.Deep.MidRow
import Derived.Deep.Grids
namespace Go.Proofs.YtjpgfdpgjfmnoaaDoor.Rec
open Go.RowKit
set_option linter.unusedVariables false
set_option linter.unusedSimpArgs false

theorem flat_get {α : Type} (f : α → List Value) (k : Nat) (hf : ∀ a, (f a).length = k) : ∀ (l : List α) (i : Nat) (a : α), l[i]? = some a → ∀ j v, (f a)[j]? = some v → (l.flatMap f)[i * k + j]? = some v := by
  intro l
  induction l with
  | nil => intro i a h; simp at h
  | cons b l ih =>
    intro i a h j v hv
    have hj : j < k := by
      have := (List.getElem?_eq_some_iff.1 hv).1
      rwa [hf] at this
    rw [List.flatMap_cons]
    cases i with
    | zero =>
      have e : b = a := by simpa using h
      subst e
      rw [Nat.zero_mul, Nat.zero_add, List.getElem?_append_left (by rw [hf]; exact hj)]
      exact hv
    | succ i =>
      have h' : l[i]? = some a := by simpa using h
      rw [List.getElem?_append_right (by rw [hf, Nat.succ_mul]; omega), hf, show (i + 1) * k + j - k = i * k + j by rw [Nat.succ_mul]; omega]
      exact ih i a h' j v hv
/-- One item of a row. -/
theorem row_item {α : Type} {f : α → List Value} {k : Nat} (hf : ∀ a, (f a).length = k) {w : World} {B m b o : Nat} {l : List α} (h : Row w B (some ⟨b, o, none⟩) m (l.flatMap f)) (i : Nat) (a : α) (hi : l[i]? = some a) : w.rangeAt b (o + i * k) (f a) := by
  intro j v hv
  have hg := flat_get f k hf l i a hi j v hv
  have hm : i * k + j < m := by
    have := (List.getElem?_eq_some_iff.1 hg).1
    rw [h.1] at this
    exact this
  obtain ⟨b', o', e, _, hc⟩ := h.2 (by omega)
  injection e with e
  injection e with e1 e2
  subst e1 e2
  have := hc (i * k + j) v hg
  rw [← Nat.add_assoc] at this
  exact this
/-- A row that the call owns reads as its cells, whatever its items' size. -/
theorem own_row {w : World} {base k n : Nat} {e : TypeId} {v : Value} {vs : List Value} (h : w.ownsRow base e k v n vs) : ∃ A c, v = .slice A n c ∧ n ≤ c ∧ c ≤ maxLen ∧ Row w w.heap.size A (n * k) vs := by
  rcases h.2 with ⟨h0, h1⟩ | ⟨g, cap, cur, hv, _, hg, hnc, hm, hcs, hx⟩
  · subst h1
    refine ⟨none, 0, h0, Nat.le_refl _, by decide, by rw [h.1], fun hn => ?_⟩
    omega
  · refine ⟨_, cap, hv, hnc, hm, h.1, fun hn => ?_⟩
    have hlt : g < w.heap.size := by
      rcases Nat.lt_or_ge g w.heap.size with h | h
      · exact h
      · rw [Array.getElem?_eq_none h] at hg; cases hg
    refine ⟨g, 0, rfl, hlt, fun i v hv => ?_⟩
    rw [Nat.zero_add, cell_of_row w g i cur e (0, 0) hg]
    rw [← hx, List.getElem?_take] at hv
    split at hv
    · simpa using hv
    · cases hv
/-- The cells of records, one behind the other. -/
def rflat (l : List Rc) : List Value := l.flatMap fun x => x.vals.toList
theorem rcells_length (x : Rc) : x.vals.toList.length = 6 := rfl
theorem rflat_length (l : List Rc) : (rflat l).length = l.length * 6 := by
  induction l with
  | nil => rfl
  | cons q l ih =>
    unfold rflat at ih ⊢
    rw [List.flatMap_cons, List.length_append, ih, rcells_length, List.length_cons]
    omega
theorem rflat_snoc (l : List Rc) (x : Rc) : rflat l ++ x.vals.toList = rflat (l ++ [x]) := by
  unfold rflat
  rw [List.flatMap_append, List.flatMap_singleton]
theorem rcells_one (x : Rc) : ∀ u ∈ x.vals.toList, u.oneCell' = true := by
  intro u hu
  simp only [Rc.vals, List.mem_cons, List.not_mem_nil, or_false] at hu
  rcases hu with rfl | rfl | rfl | rfl | rfl | rfl <;> rfl
theorem rec_item {w : World} {B m b o : Nat} {l : List Rc} (h : Row w B (some ⟨b, o, none⟩) m (rflat l)) (i : Nat) (x : Rc) (hi : l[i]? = some x) : w.rangeAt b (o + i * 6) x.vals.toList := row_item (f := fun x : Rc => x.vals.toList) rcells_length h i x hi
theorem found_item {w : World} {B m b o : Nat} {l : List (Nat × Rc)} (h : Row w B (some ⟨b, o, none⟩) m (flat l)) (i : Nat) (q : Nat × Rc) (hi : l[i]? = some q) : w.rangeAt b (o + i * 7) (fcells q) := row_item (f := fcells) fcells_length h i q hi
/-- The record of an item found. -/
theorem found_rec {w : World} {b o : Nat} {q : Nat × Rc} (h : w.rangeAt b o (fcells q)) : w.cell? ⟨b, o, none⟩ = some (.int .i64 (q.1 : Int)) ∧ w.rangeAt b (o + 1) q.2.vals.toList := by
  refine ⟨h 0 _ rfl, fun j v hv => ?_⟩
  have := h (j + 1) v (by show (_ :: q.2.vals.toList)[j + 1]? = some v; rw [List.getElem?_cons_succ]; exact hv)
  rw [show o + 1 + j = o + (j + 1) by omega]
  exact this
theorem range_rec {w : World} {b o : Nat} {x : Rc} (h : w.rangeAt b o x.vals.toList) : w.cell? ⟨b, o, none⟩ = some (.int .i64 x.kind) ∧ w.cell? ⟨b, o + 1, none⟩ = some (.int .u32 (x.tenant : Int)) ∧ w.cell? ⟨b, o + 2, none⟩ = some (.int .u64 (x.epoch : Int)) ∧ w.cell? ⟨b, o + 3, none⟩ = some (.int .u64 (x.object : Int)) ∧ w.cell? ⟨b, o + 4, none⟩ = some (.int .u64 (x.seq : Int)) ∧ w.cell? ⟨b, o + 5, none⟩ = some (.string (str x.body)) :=
  ⟨h 0 _ rfl, h 1 _ rfl, h 2 _ rfl, h 3 _ rfl, h 4 _ rfl, h 5 _ rfl⟩
theorem Fd.form {w0 w : World} {e : TypeId} {v : Value} {l : List (Nat × Rc)} (h : Fd w0 e w v l) : ∃ A c, v = .slice A l.length c ∧ l.length ≤ c ∧ c ≤ maxLen ∧ Row w w.heap.size A (l.length * 7) (flat l) := own_row h.row
/-- A record, out of the middle of a row. -/
theorem load_recM {w : World} {ops : Array Oper} {rest : List Oper} {o : Oper} {a : Act} {Q : Exit → Act → World → Prop} {b p : Nat} {x : Rc} (h : w.rangeAt b p x.vals.toList) (hgd : o.guard = none) (y : Operand) (ho : o.op = .load 32 y) (hx : a.eval y = .pointer (some ⟨b, p, none⟩))
    (k : wpList Tryd.prog ops Q rest (a.put o.dst (.agg x.vals)) w) : wpList Tryd.prog ops Q (o :: rest) a w :=
  wpList_load_mid hgd 32 y ho b p hx x.vals.toList _ h Tryd.underlying32 rfl rec_info k
/-- Records among the arguments. -/
theorem recs_of_form {H : Type} {enc : TypeId × Value → H} {W : World} {base : Nat} {held : Bool} {n : Nat} {a : Option Addr} {len cap : Nat} {x : DataW H × List MemPlace} (h : DataW.trod enc Tryd.prog W base (fun _ => true) held n 22 [.slice a len cap] = some x) :
    (∃ l : List Rc, l.length = len ∧ (∀ y ∈ l, y.Ok) ∧ Row W W.heap.size a (len * 6) (rflat l)) ∧ len ≤ cap ∧ cap ≤ maxLen := by
  rcases Deep.open_slice Tryd.underlying22 h with ⟨hcs, _⟩ | ⟨p, l, c, m, k, D, Pl, hcs, _, hl, hm, hmm, _, hx⟩
  · injection hcs with hcs
    injection hcs with h1 h2 h3
    subst h1 h2 h3
    exact ⟨⟨[], rfl, fun y hy => by simp at hy, rfl, fun h => absurd h (by omega)⟩, Nat.le_refl _, by decide⟩
  · injection hcs with hcs
    injection hcs with h1 h2 h3
    subst h1 h2 h3
    have e6 : Tryd.prog.cellsOf 32 = 6 := by kernel_rfl
    simp only [if_true] at hmm
    subst hmm
    rw [e6] at hx
    refine ⟨?_, hl, hm⟩
    have hy : ∀ i, i < len → ∃ y : Rc, y.Ok ∧ ∀ j v, y.vals.toList[j]? = some v → W.cell? ((p.add (i * 6)).add j) = some v := by
      intro i hi
      obtain ⟨cs, h1, h2⟩ := hx i (by omega)
      obtain ⟨y, hy, e⟩ := rec_of_trod h2
      obtain ⟨_, hlen, hcell⟩ := World.cells?_some h1
      refine ⟨y, hy, fun j v hv => ?_⟩
      have hj : j < 6 := (List.getElem?_eq_some_iff.1 hv).1
      have h3 := hcell j (by first | exact hj | (rw [hlen]; exact hj) | omega)
      rw [h3, e, hv]
    have key : ∀ k, k ≤ len → ∃ l : List Rc, l.length = k ∧ (∀ y ∈ l, y.Ok) ∧ ∀ i y, l[i]? = some y → ∀ j v, y.vals.toList[j]? = some v → W.cell? ((p.add (i * 6)).add j) = some v := by
      intro k
      induction k with
      | zero => exact fun _ => ⟨[], rfl, fun y hy => by simp at hy, fun i y h => by simp at h⟩
      | succ k ih =>
        intro hk
        obtain ⟨l, hl, hok, hc⟩ := ih (by omega)
        obtain ⟨y, hy1, hy2⟩ := hy k (by omega)
        refine ⟨l ++ [y], by simp [hl], ?_, ?_⟩
        · intro z hz
          rcases List.mem_append.1 hz with hz | hz
          · exact hok z hz
          · obtain rfl := List.mem_singleton.1 hz; exact hy1
        · intro i z hz
          by_cases hi : i < l.length
          · rw [List.getElem?_append_left hi] at hz
            exact hc i z hz
          · have hz2 := (List.getElem?_eq_some_iff.1 hz).1
            rw [List.length_append, List.length_singleton] at hz2
            obtain rfl : i = l.length := by omega
            rw [List.getElem?_append_right (Nat.le_refl _), Nat.sub_self] at hz
            obtain rfl : y = z := by simpa using hz
            rw [hl]
            exact hy2
    obtain ⟨l, hll, hok, hc⟩ := key len (Nat.le_refl _)
    refine ⟨l, hll, hok, by rw [rflat_length, hll], fun hn => ?_⟩
    obtain ⟨b, off, spot⟩ := p
    have h0 : l ≠ [] := by intro e; rw [e] at hll; simp at hll; omega
    obtain ⟨y0, hy0⟩ : ∃ y, l[0]? = some y := ⟨l[0]'(List.length_pos_iff.2 h0), List.getElem?_eq_getElem _⟩
    have h0 := hc 0 y0 hy0 0 _ rfl
    have hspot : spot = none := by
      have := World.cell?_spot h0
      simpa [Addr.add] using this
    subst hspot
    refine ⟨b, off, rfl, by simpa [Addr.add] using World.block_lt_of_cell? W _ h0, fun i v hv => ?_⟩
    have hi : i < len * 6 := by
      have := (List.getElem?_eq_some_iff.1 hv).1
      rwa [rflat_length, hll] at this
    have hq : i / 6 < l.length := by rw [hll]; omega
    have hg := flat_get (fun x : Rc => x.vals.toList) 6 rcells_length l (i / 6) l[i / 6] (List.getElem?_eq_getElem hq) (i % 6)
    have hv2 : (l[i / 6]).vals.toList[i % 6]? = some v := by
      have hlt : i % 6 < (l[i / 6]).vals.toList.length := by rw [rcells_length]; omega
      have h1 := hg _ (List.getElem?_eq_getElem hlt)
      rw [show i / 6 * 6 + i % 6 = i by omega] at h1
      rw [List.getElem?_eq_getElem hlt]
      unfold rflat at hv
      rw [hv] at h1
      exact h1.symm
    have := hc (i / 6) _ (List.getElem?_eq_getElem hq) (i % 6) v hv2
    rw [Addr.add_mid, Addr.add_mid, show off + i / 6 * 6 + i % 6 = off + i by omega] at this
    exact this
end Go.Proofs.YtjpgfdpgjfmnoaaDoor.Rec
