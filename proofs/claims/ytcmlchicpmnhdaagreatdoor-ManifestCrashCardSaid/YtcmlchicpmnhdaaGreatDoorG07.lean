/-
  Texts one behind the other: ScanRecs, TenMath.
-/
import Derived.Deep.MidRow
import Derived.Deep.Grids
import Derived.ProofKit
import Derived.OpenShut
import Derived.WideShapes
import Derived.Test.YtcmlchicpmnhdaaGreatDoorG06
/-
  Plain facts: rows of structs of several cells: one item out of a row; records among the arguments; records and records found as rows.
-/
namespace Go.Proofs.YtcmlchicpmnhdaaGreatDoor.Rec
open Go.RowKit
set_option linter.unusedVariables false
set_option linter.unusedSimpArgs false

theorem flat_get {α : Type} (f : α → List Value) (k : Nat) (hf : ∀ a, (f a).length = k) : ∀ (l : List α) (i : Nat) (a : α), l[i]? = some a → ∀ j v, (f a)[j]? = some v → (l.flatMap f)[i * k + j]? = some v := by
  intro l
  induction l with
  | nil => intro i a h; simp at h
  | cons b l ih =>
    intro i a h j v hv
    have hj : j < k := by
      have := (List.getElem?_eq_some_iff.1 hv).1
      rwa [hf] at this
    rw [List.flatMap_cons]
    cases i with
    | zero =>
      have e : b = a := by simpa using h
      subst e
      rw [Nat.zero_mul, Nat.zero_add, List.getElem?_append_left (by rw [hf]; exact hj)]
      exact hv
    | succ i =>
      have h' : l[i]? = some a := by simpa using h
      rw [List.getElem?_append_right (by rw [hf, Nat.succ_mul]; omega), hf, show (i + 1) * k + j - k = i * k + j by rw [Nat.succ_mul]; omega]
      exact ih i a h' j v hv
/-- One item of a row. -/
theorem row_item {α : Type} {f : α → List Value} {k : Nat} (hf : ∀ a, (f a).length = k) {w : World} {B m b o : Nat} {l : List α} (h : Row w B (some ⟨b, o, none⟩) m (l.flatMap f)) (i : Nat) (a : α) (hi : l[i]? = some a) : w.rangeAt b (o + i * k) (f a) := by
  intro j v hv
  have hg := flat_get f k hf l i a hi j v hv
  have hm : i * k + j < m := by
    have := (List.getElem?_eq_some_iff.1 hg).1
    rw [h.1] at this
    exact this
  obtain ⟨b', o', e, _, hc⟩ := h.2 (by omega)
  injection e with e
  injection e with e1 e2
  subst e1 e2
  have := hc (i * k + j) v hg
  rw [← Nat.add_assoc] at this
  exact this
/-- A row that the call owns reads as its cells, whatever its items' size. -/
theorem own_row {w : World} {base k n : Nat} {e : TypeId} {v : Value} {vs : List Value} (h : w.ownsRow base e k v n vs) : ∃ A c, v = .slice A n c ∧ n ≤ c ∧ c ≤ maxLen ∧ Row w w.heap.size A (n * k) vs := by
  rcases h.2 with ⟨h0, h1⟩ | ⟨g, cap, cur, hv, _, hg, hnc, hm, hcs, hx⟩
  · subst h1
    refine ⟨none, 0, h0, Nat.le_refl _, by decide, by rw [h.1], fun hn => ?_⟩
    omega
  · refine ⟨_, cap, hv, hnc, hm, h.1, fun hn => ?_⟩
    have hlt : g < w.heap.size := by
      rcases Nat.lt_or_ge g w.heap.size with h | h
      · exact h
      · rw [Array.getElem?_eq_none h] at hg; cases hg
    refine ⟨g, 0, rfl, hlt, fun i v hv => ?_⟩
    rw [Nat.zero_add, cell_of_row w g i cur e (0, 0) hg]
    rw [← hx, List.getElem?_take] at hv
    split at hv
    · simpa using hv
    · cases hv
/-- The cells of records, one behind the other. -/
def rflat (l : List Rc) : List Value := l.flatMap fun x => x.vals.toList
theorem rcells_length (x : Rc) : x.vals.toList.length = 6 := rfl
theorem rflat_length (l : List Rc) : (rflat l).length = l.length * 6 := by
  induction l with
  | nil => rfl
  | cons q l ih =>
    unfold rflat at ih ⊢
    rw [List.flatMap_cons, List.length_append, ih, rcells_length, List.length_cons]
    omega
theorem rflat_snoc (l : List Rc) (x : Rc) : rflat l ++ x.vals.toList = rflat (l ++ [x]) := by
  unfold rflat
  rw [List.flatMap_append, List.flatMap_singleton]
theorem rcells_one (x : Rc) : ∀ u ∈ x.vals.toList, u.oneCell' = true := by
  intro u hu
  simp only [Rc.vals, List.mem_cons, List.not_mem_nil, or_false] at hu
  rcases hu with rfl | rfl | rfl | rfl | rfl | rfl <;> rfl
theorem rec_item {w : World} {B m b o : Nat} {l : List Rc} (h : Row w B (some ⟨b, o, none⟩) m (rflat l)) (i : Nat) (x : Rc) (hi : l[i]? = some x) : w.rangeAt b (o + i * 6) x.vals.toList := row_item (f := fun x : Rc => x.vals.toList) rcells_length h i x hi
theorem found_item {w : World} {B m b o : Nat} {l : List (Nat × Rc)} (h : Row w B (some ⟨b, o, none⟩) m (flat l)) (i : Nat) (q : Nat × Rc) (hi : l[i]? = some q) : w.rangeAt b (o + i * 7) (fcells q) := row_item (f := fcells) fcells_length h i q hi
/-- The record of an item found. -/
theorem found_rec {w : World} {b o : Nat} {q : Nat × Rc} (h : w.rangeAt b o (fcells q)) : w.cell? ⟨b, o, none⟩ = some (.int .i64 (q.1 : Int)) ∧ w.rangeAt b (o + 1) q.2.vals.toList := by
  refine ⟨h 0 _ rfl, fun j v hv => ?_⟩
  have := h (j + 1) v (by show (_ :: q.2.vals.toList)[j + 1]? = some v; rw [List.getElem?_cons_succ]; exact hv)
  rw [show o + 1 + j = o + (j + 1) by omega]
  exact this
theorem range_rec {w : World} {b o : Nat} {x : Rc} (h : w.rangeAt b o x.vals.toList) : w.cell? ⟨b, o, none⟩ = some (.int .i64 x.kind) ∧ w.cell? ⟨b, o + 1, none⟩ = some (.int .u32 (x.tenant : Int)) ∧ w.cell? ⟨b, o + 2, none⟩ = some (.int .u64 (x.epoch : Int)) ∧ w.cell? ⟨b, o + 3, none⟩ = some (.int .u64 (x.object : Int)) ∧ w.cell? ⟨b, o + 4, none⟩ = some (.int .u64 (x.seq : Int)) ∧ w.cell? ⟨b, o + 5, none⟩ = some (.string (str x.body)) :=
  ⟨h 0 _ rfl, h 1 _ rfl, h 2 _ rfl, h 3 _ rfl, h 4 _ rfl, h 5 _ rfl⟩
theorem Fd.form {w0 w : World} {e : TypeId} {v : Value} {l : List (Nat × Rc)} (h : Fd w0 e w v l) : ∃ A c, v = .slice A l.length c ∧ l.length ≤ c ∧ c ≤ maxLen ∧ Row w w.heap.size A (l.length * 7) (flat l) := own_row h.row
/-- A record, out of the middle of a row. -/
theorem load_recM {w : World} {ops : Array Oper} {rest : List Oper} {o : Oper} {a : Act} {Q : Exit → Act → World → Prop} {b p : Nat} {x : Rc} (h : w.rangeAt b p x.vals.toList) (hgd : o.guard = none) (y : Operand) (ho : o.op = .load 91 y) (hx : a.eval y = .pointer (some ⟨b, p, none⟩))
    (k : wpList Tryz.prog ops Q rest (a.put o.dst (.agg x.vals)) w) : wpList Tryz.prog ops Q (o :: rest) a w :=
  wpList_load_mid hgd 91 y ho b p hx x.vals.toList _ h Tryz.underlying91 rfl rec_info k
end Go.Proofs.YtcmlchicpmnhdaaGreatDoor.Rec
/-
  Plain facts: tenants as values, as they lie in memory, and among the arguments as the form reads them.
-/
namespace Go.Proofs.YtcmlchicpmnhdaaGreatDoor.Ten
open Go.RowKit Go.Proofs.YtcmlchicpmnhdaaGreatDoor.Rec Go.ChangeShapes Go.WideShapes
set_option linter.unusedVariables false
set_option linter.unusedSimpArgs false

theorem six_cells : ∀ (l : List Value), l.length = 6 → ∃ a b c d e f, l = [a, b, c, d, e, f]
  | [a, b, c, d, e, f], _ => ⟨a, b, c, d, e, f, rfl⟩
/-- A tenant. -/
structure Te where
  id : Nat
  epoch : Nat
  quota : Int
  next : Nat
  nextSeg : Int
  segs : List Int
instance : DecidableEq Te := fun a b => by
  cases a
  cases b
  simp only [Te.mk.injEq]
  exact inferInstance
structure Te.Ok (t : Te) : Prop where
  id : t.id < 4294967296
  epoch : t.epoch < 18446744073709551616
  quota : -9223372036854775808 ≤ t.quota ∧ t.quota ≤ 9223372036854775807
  next : t.next < 18446744073709551616
  nextSeg : -9223372036854775808 ≤ t.nextSeg ∧ t.nextSeg ≤ 9223372036854775807
  segs : ∀ i, -9223372036854775808 ≤ t.segs.getD i 0 ∧ t.segs.getD i 0 ≤ 9223372036854775807
/-- The first n segments rise, each from 1 to below nextSeg. -/
def Te.rises (t : Te) (n : Nat) : Prop := ∀ k, k < n → 1 ≤ t.segs.getD k 0 ∧ t.segs.getD k 0 < t.nextSeg ∧ (0 < k → t.segs.getD (k - 1) 0 < t.segs.getD k 0)
/-- The numbers may be. -/
def Te.nums (t : Te) : Prop := 1 ≤ t.epoch ∧ t.epoch ≤ 1099511627776 ∧ 1 ≤ t.next ∧ t.next ≤ 1099511627776 ∧ 1000 ≤ t.quota ∧ t.quota ≤ 65536 ∧ 1 ≤ t.nextSeg ∧ t.nextSeg ≤ 1099511627776 ∧ t.segs.length ≤ 60
def Te.May (t : Te) : Prop := t.nums ∧ t.rises t.segs.length
def zeroTe : Te := ⟨0, 0, 0, 0, 0, []⟩
/-- The first n tenants may be, by Id rising. -/
def mayUpto (l : List Te) (n : Nat) : Prop := ∀ i, i < n → (0 < i → (l.getD (i - 1) zeroTe).id < (l.getD i zeroTe).id) ∧ (l.getD i zeroTe).May
def May (l : List Te) : Prop := l.length ≤ 6 ∧ mayUpto l l.length
theorem Te.rises_zero (t : Te) : t.rises 0 := fun k hk => absurd hk (by omega)
theorem Te.rises_succ {t : Te} {n : Nat} (h : t.rises n) (h1 : 1 ≤ t.segs.getD n 0) (h2 : t.segs.getD n 0 < t.nextSeg) (h3 : 0 < n → t.segs.getD (n - 1) 0 < t.segs.getD n 0) : t.rises (n + 1) := by
  intro k hk
  by_cases hkn : k < n
  · exact h k hkn
  · obtain rfl : k = n := by omega
    exact ⟨h1, h2, h3⟩
theorem mayUpto_zero (l : List Te) : mayUpto l 0 := fun k hk => absurd hk (by omega)
theorem mayUpto_succ {l : List Te} {n : Nat} (h : mayUpto l n) (h1 : 0 < n → (l.getD (n - 1) zeroTe).id < (l.getD n zeroTe).id) (h2 : (l.getD n zeroTe).May) : mayUpto l (n + 1) := by
  intro k hk
  by_cases hkn : k < n
  · exact h k hkn
  · obtain rfl : k = n := by omega
    exact ⟨h1, h2⟩
/-- A tenant put in its place. -/
def put (t : Te) : Bool → List Te → List Te
  | b, [] => if b then [] else [t]
  | b, x :: l => (if !b && decide (t.id ≤ x.id) then [t] else []) ++ (if x.id = t.id then [] else [x]) ++ put t (b || decide (t.id ≤ x.id)) l
/-- A tenant, and where its segments lie. -/
structure Tv where
  te : Te
  A : Option Addr
  c : Nat
def Tv.vals (v : Tv) : Array Value := #[.int .u32 (v.te.id : Int), .int .u64 (v.te.epoch : Int), .int .i64 v.te.quota, .int .u64 (v.te.next : Int), .int .i64 v.te.nextSeg, .slice v.A v.te.segs.length v.c]
structure Tv.In (w : World) (B : Nat) (v : Tv) : Prop where
  row : Row w B v.A v.te.segs.length (ivs v.te.segs)
  cap : v.te.segs.length ≤ v.c
  most : v.c ≤ maxLen
theorem Tv.In.below {w w' : World} {B : Nat} {v : Tv} (h : v.In w B) (hb : Below B w w') : v.In w' B := ⟨h.row.below hb, h.cap, h.most⟩
theorem Tv.In.more {w : World} {B B' : Nat} {v : Tv} (h : v.In w B) (hb : B ≤ B') : v.In w B' := ⟨h.row.more hb, h.cap, h.most⟩
def putTv (t : Tv) : Bool → List Tv → List Tv
  | b, [] => if b then [] else [t]
  | b, x :: l => (if !b && decide (t.te.id ≤ x.te.id) then [t] else []) ++ (if x.te.id = t.te.id then [] else [x]) ++ putTv t (b || decide (t.te.id ≤ x.te.id)) l
theorem putTv_te (t : Tv) : ∀ (l : List Tv) (b : Bool), (putTv t b l).map Tv.te = put t.te b (l.map Tv.te) := by
  intro l
  induction l with
  | nil => intro b; cases b <;> rfl
  | cons x l ih =>
    intro b
    simp only [putTv, List.map_cons, put, List.map_append, ih]
    congr 1
    congr 1
    · split <;> rfl
    · split <;> rfl
theorem putTv_mem {t : Tv} : ∀ (l : List Tv) (b : Bool) (v : Tv), v ∈ putTv t b l → v = t ∨ v ∈ l := by
  intro l
  induction l with
  | nil => intro b v h; cases b with
    | true => simp [putTv] at h
    | false => exact .inl (by simpa [putTv] using h)
  | cons x l ih =>
    intro b v h
    simp only [putTv, List.mem_append] at h
    rcases h with (h | h) | h
    · split at h
      · exact .inl (by simpa using h)
      · simp at h
    · split at h
      · simp at h
      · exact .inr (by simp at h; simp [h])
    · rcases ih _ _ h with h | h
      · exact .inl h
      · exact .inr (List.mem_cons_of_mem _ h)
theorem putTv_length (t : Tv) : ∀ (l : List Tv) (b : Bool), (putTv t b l).length ≤ l.length + 1 := by
  intro l
  induction l with
  | nil => intro b; cases b <;> simp [putTv]
  | cons x l ih =>
    intro b
    simp only [putTv, List.length_append, List.length_cons]
    have key : ∀ l : List Tv, (putTv t true l).length ≤ l.length := by
      intro l
      induction l with
      | nil => simp [putTv]
      | cons y l ih2 =>
        simp only [putTv, List.length_append, List.length_cons, Bool.not_true, Bool.false_and, Bool.true_or]
        have : ((if y.te.id = t.te.id then [] else [y]) : List Tv).length ≤ 1 := by split <;> simp
        simp
        omega
    have h2 : ((if x.te.id = t.te.id then [] else [x]) : List Tv).length ≤ 1 := by split <;> simp
    cases b with
    | true =>
      have := key l
      simp
      omega
    | false =>
      by_cases hle : t.te.id ≤ x.te.id
      · have := key l
        simp [hle]
        omega
      · have := ih false
        simp [hle]
        omega
/-- The cells of tenants, one behind the other. -/
def tflat (l : List Tv) : List Value := l.flatMap fun x => x.vals.toList
theorem tcells_length (x : Tv) : x.vals.toList.length = 6 := rfl
theorem tflat_length (l : List Tv) : (tflat l).length = l.length * 6 := by
  induction l with
  | nil => rfl
  | cons q l ih =>
    unfold tflat at ih ⊢
    rw [List.flatMap_cons, List.length_append, ih, tcells_length, List.length_cons]
    omega
theorem tflat_snoc (l : List Tv) (x : Tv) : tflat l ++ x.vals.toList = tflat (l ++ [x]) := by
  unfold tflat
  rw [List.flatMap_append, List.flatMap_singleton]
theorem tcells_one (x : Tv) : ∀ u ∈ x.vals.toList, u.oneCell' = true := by
  intro u hu
  simp only [Tv.vals, List.mem_cons, List.not_mem_nil, or_false] at hu
  rcases hu with rfl | rfl | rfl | rfl | rfl | rfl <;> rfl
theorem ten_item {w : World} {B m b o : Nat} {l : List Tv} (h : Row w B (some ⟨b, o, none⟩) m (tflat l)) (i : Nat) (x : Tv) (hi : l[i]? = some x) : w.rangeAt b (o + i * 6) x.vals.toList := row_item (f := fun x : Tv => x.vals.toList) tcells_length h i x hi
theorem range_ten {w : World} {b o : Nat} {x : Tv} (h : w.rangeAt b o x.vals.toList) : w.cell? ⟨b, o, none⟩ = some (.int .u32 (x.te.id : Int)) ∧ w.cell? ⟨b, o + 1, none⟩ = some (.int .u64 (x.te.epoch : Int)) ∧ w.cell? ⟨b, o + 2, none⟩ = some (.int .i64 x.te.quota) ∧ w.cell? ⟨b, o + 3, none⟩ = some (.int .u64 (x.te.next : Int)) ∧ w.cell? ⟨b, o + 4, none⟩ = some (.int .i64 x.te.nextSeg) ∧ w.cell? ⟨b, o + 5, none⟩ = some (.slice x.A x.te.segs.length x.c) :=
  ⟨h 0 _ rfl, h 1 _ rfl, h 2 _ rfl, h 3 _ rfl, h 4 _ rfl, h 5 _ rfl⟩
theorem ten_info : (Tryz.prog.info? 35).map (fun i => i.size) = some 6 := by kernel_rfl
theorem ten_of_trod {H : Type} {enc : TypeId × Value → H} {W : World} {base : Nat} {held : Bool} {n : Nat} {cs : List Value} {x : DataW H × List MemPlace} (h : DataW.trod enc Tryz.prog W base (fun _ => true) held n 35 cs = some x) :
    ∃ y : Tv, y.te.Ok ∧ y.In W W.heap.size ∧ cs = y.vals.toList := by
  obtain ⟨xs, k, rfl, _, hl, hxl, hf⟩ := DataW.trod_struct Tryz.underlying35 h
  obtain ⟨c0, c1, c2, c3, c4, c5, rfl⟩ := six_cells cs (by rw [hl]; kernel_rfl)
  have hz : xs.length = 6 := hxl
  have g0 : DataW.trod enc Tryz.prog W base (fun _ => true) held k 31 (([c0, c1, c2, c3, c4, c5].drop 0).take (Tryz.prog.cellsOf 31)) = xs[0]? := hf 0 _ rfl
  have g1 : DataW.trod enc Tryz.prog W base (fun _ => true) held k 32 (([c0, c1, c2, c3, c4, c5].drop 1).take (Tryz.prog.cellsOf 32)) = xs[1]? := hf 1 _ rfl
  have g2 : DataW.trod enc Tryz.prog W base (fun _ => true) held k 2 (([c0, c1, c2, c3, c4, c5].drop 2).take (Tryz.prog.cellsOf 2)) = xs[2]? := hf 2 _ rfl
  have g3 : DataW.trod enc Tryz.prog W base (fun _ => true) held k 32 (([c0, c1, c2, c3, c4, c5].drop 3).take (Tryz.prog.cellsOf 32)) = xs[3]? := hf 3 _ rfl
  have g4 : DataW.trod enc Tryz.prog W base (fun _ => true) held k 2 (([c0, c1, c2, c3, c4, c5].drop 4).take (Tryz.prog.cellsOf 2)) = xs[4]? := hf 4 _ rfl
  have g5 : DataW.trod enc Tryz.prog W base (fun _ => true) held k 33 (([c0, c1, c2, c3, c4, c5].drop 5).take (Tryz.prog.cellsOf 33)) = xs[5]? := hf 5 _ rfl
  rw [List.getElem?_eq_getElem (by omega)] at g0 g1 g2 g3 g4 g5
  have e1 : Tryz.prog.cellsOf 2 = 1 := by kernel_rfl
  have e2 : Tryz.prog.cellsOf 31 = 1 := by kernel_rfl
  have e3 : Tryz.prog.cellsOf 32 = 1 := by kernel_rfl
  have e4 : Tryz.prog.cellsOf 33 = 1 := by kernel_rfl
  simp only [e1, e2, e3, e4, List.drop_succ_cons, List.drop_zero, List.take_succ_cons, List.take_zero] at g0 g1 g2 g3 g4 g5
  obtain ⟨n0, r0, _, w0⟩ := DataW.trod_int Tryz.underlying31 g0
  obtain ⟨n1, r1, _, w1⟩ := DataW.trod_int Tryz.underlying32 g1
  obtain ⟨n2, r2, _, w2⟩ := DataW.trod_int Tryz.underlying2 g2
  obtain ⟨n3, r3, _, w3⟩ := DataW.trod_int Tryz.underlying32 g3
  obtain ⟨n4, r4, _, w4⟩ := DataW.trod_int Tryz.underlying2 g4
  injection r0 with r0
  injection r1 with r1
  injection r2 with r2
  injection r3 with r3
  injection r4 with r4
  subst r0 r1 r2 r3 r4
  have b0 := bounds_u32 w0
  have b1 := bounds_u64 w1
  have b3 := bounds_u64 w3
  obtain ⟨m0, rfl⟩ : ∃ m : Nat, n0 = m := ⟨n0.toNat, by omega⟩
  obtain ⟨m1, rfl⟩ : ∃ m : Nat, n1 = m := ⟨n1.toNat, by omega⟩
  obtain ⟨m3, rfl⟩ : ∃ m : Nat, n3 = m := ⟨n3.toNat, by omega⟩
  have key : ∃ (A : Option Addr) (l c : Nat) (zs : List Int), c5 = .slice A l c ∧ Row W W.heap.size A l (ivs zs) ∧ l ≤ c ∧ c ≤ maxLen ∧ ∀ i, -9223372036854775808 ≤ zs.getD i 0 ∧ zs.getD i 0 ≤ 9223372036854775807 := by
    rcases open_ints Tryz.underlying33 Tryz.underlying2 (by kernel_rfl) g5 with ⟨hcs, _⟩ | ⟨p, l, c, zs, hcs, _, hl, hm, hzl, _, hcell, hwz⟩
    · obtain ⟨zs, h1, h2, h3, h4⟩ := row_of_ints (W := W) (a := none) (len := 0) (cap := 0) (.inl ⟨rfl, rfl, rfl⟩)
      exact ⟨none, 0, 0, zs, by simpa using hcs, h1, h2, h3, h4⟩
    · obtain ⟨zs', h1, h2, h3, h4⟩ := row_of_ints (W := W) (a := some p) (len := l) (cap := c) (.inr ⟨p, zs, rfl, hl, hm, by simpa using hzl, hcell, hwz⟩)
      exact ⟨some p, l, c, zs', by simpa using hcs, h1, h2, h3, h4⟩
  obtain ⟨A, l, c, zs, rfl, hrow, hlc, hcm, hzb⟩ := key
  have hzl : zs.length = l := by have := hrow.1; rwa [ivs, List.length_map] at this
  subst hzl
  exact ⟨⟨⟨m0, m1, n2, m3, n4, zs⟩, A, c⟩, ⟨by show m0 < _; omega, by show m1 < _; omega, bounds_i64 w2, by show m3 < _; omega, bounds_i64 w4, hzb⟩, ⟨hrow, hlc, hcm⟩, rfl⟩
/-- Tenants among the arguments. -/
theorem tens_of_form {H : Type} {enc : TypeId × Value → H} {W : World} {base : Nat} {held : Bool} {n : Nat} {a : Option Addr} {len cap : Nat} {x : DataW H × List MemPlace} (h : DataW.trod enc Tryz.prog W base (fun _ => true) held n 22 [.slice a len cap] = some x) :
    (∃ l : List Tv, l.length = len ∧ (∀ y ∈ l, y.te.Ok ∧ y.In W W.heap.size) ∧ Row W W.heap.size a (len * 6) (tflat l)) ∧ len ≤ cap ∧ cap ≤ maxLen := by
  rcases Deep.open_slice Tryz.underlying22 h with ⟨hcs, _⟩ | ⟨p, l, c, m, k, D, Pl, hcs, _, hl, hm, hmm, _, hx⟩
  · injection hcs with hcs
    injection hcs with h1 h2 h3
    subst h1 h2 h3
    exact ⟨⟨[], rfl, fun y hy => by simp at hy, rfl, fun h => absurd h (by omega)⟩, Nat.le_refl _, by decide⟩
  · injection hcs with hcs
    injection hcs with h1 h2 h3
    subst h1 h2 h3
    have e6 : Tryz.prog.cellsOf 35 = 6 := by kernel_rfl
    simp only [if_true] at hmm
    subst hmm
    rw [e6] at hx
    refine ⟨?_, hl, hm⟩
    have hy : ∀ i, i < len → ∃ y : Tv, (y.te.Ok ∧ y.In W W.heap.size) ∧ ∀ j v, y.vals.toList[j]? = some v → W.cell? ((p.add (i * 6)).add j) = some v := by
      intro i hi
      obtain ⟨cs, h1, h2⟩ := hx i (by omega)
      obtain ⟨y, hy, hin, e⟩ := ten_of_trod h2
      obtain ⟨_, hlen, hcell⟩ := World.cells?_some h1
      refine ⟨y, ⟨hy, hin⟩, fun j v hv => ?_⟩
      have hj : j < 6 := (List.getElem?_eq_some_iff.1 hv).1
      have h3 := hcell j (by first | exact hj | (rw [hlen]; exact hj) | omega)
      rw [h3, e, hv]
    have key : ∀ k, k ≤ len → ∃ l : List Tv, l.length = k ∧ (∀ y ∈ l, y.te.Ok ∧ y.In W W.heap.size) ∧ ∀ i y, l[i]? = some y → ∀ j v, y.vals.toList[j]? = some v → W.cell? ((p.add (i * 6)).add j) = some v := by
      intro k
      induction k with
      | zero => exact fun _ => ⟨[], rfl, fun y hy => by simp at hy, fun i y h => by simp at h⟩
      | succ k ih =>
        intro hk
        obtain ⟨l, hl, hok, hc⟩ := ih (by omega)
        obtain ⟨y, hy1, hy2⟩ := hy k (by omega)
        refine ⟨l ++ [y], by simp [hl], ?_, ?_⟩
        · intro z hz
          rcases List.mem_append.1 hz with hz | hz
          · exact hok z hz
          · obtain rfl := List.mem_singleton.1 hz; exact hy1
        · intro i z hz
          by_cases hi : i < l.length
          · rw [List.getElem?_append_left hi] at hz
            exact hc i z hz
          · have hz2 := (List.getElem?_eq_some_iff.1 hz).1
            rw [List.length_append, List.length_singleton] at hz2
            obtain rfl : i = l.length := by omega
            rw [List.getElem?_append_right (Nat.le_refl _), Nat.sub_self] at hz
            obtain rfl : y = z := by simpa using hz
            rw [hl]
            exact hy2
    obtain ⟨l, hll, hok, hc⟩ := key len (Nat.le_refl _)
    refine ⟨l, hll, hok, by rw [tflat_length, hll], fun hn => ?_⟩
    obtain ⟨b, off, spot⟩ := p
    have h0 : l ≠ [] := by intro e; rw [e] at hll; simp at hll; omega
    obtain ⟨y0, hy0⟩ : ∃ y, l[0]? = some y := ⟨l[0]'(List.length_pos_iff.2 h0), List.getElem?_eq_getElem _⟩
    have h0 := hc 0 y0 hy0 0 _ rfl
    have hspot : spot = none := by
      have := World.cell?_spot h0
      simpa [Addr.add] using this
    subst hspot
    refine ⟨b, off, rfl, by simpa [Addr.add] using World.block_lt_of_cell? W _ h0, fun i v hv => ?_⟩
    have hi : i < len * 6 := by
      have := (List.getElem?_eq_some_iff.1 hv).1
      rwa [tflat_length, hll] at this
    have hq : i / 6 < l.length := by rw [hll]; omega
    have hg := flat_get (fun x : Tv => x.vals.toList) 6 tcells_length l (i / 6) l[i / 6] (List.getElem?_eq_getElem hq) (i % 6)
    have hv2 : (l[i / 6]).vals.toList[i % 6]? = some v := by
      have hlt : i % 6 < (l[i / 6]).vals.toList.length := by rw [tcells_length]; omega
      have h1 := hg _ (List.getElem?_eq_getElem hlt)
      rw [show i / 6 * 6 + i % 6 = i by omega] at h1
      rw [List.getElem?_eq_getElem hlt]
      unfold tflat at hv
      rw [hv] at h1
      exact h1.symm
    have := hc (i / 6) _ (List.getElem?_eq_getElem hq) (i % 6) v hv2
    rw [Addr.add_mid, Addr.add_mid, show off + i / 6 * 6 + i % 6 = off + i by omega] at this
    exact this
end Go.Proofs.YtcmlchicpmnhdaaGreatDoor.Ten
