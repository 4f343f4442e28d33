/-
  Texts one behind the other: ScanRecs, DiskShelf.
-/
import Derived.Deep.MidRow
import Derived.Deep.Grids
import Derived.Shelf.Bytes.SlClone
import Derived.Shelf.SlMaps.Copy
import Derived.Shelf.SlIter.Nil
import Derived.Shelf.SortM.Plain
import Derived.Shelf.SortM.SortNone
import Derived.Shelf.SlIterI.Nil
import Derived.Test.YtkdnfikaodkhnaaGreatDoorProg
import Derived.Test.YtkdnfikaodkhnaaGreatDoorG07
/-
  Plain facts: rows of structs of several cells: one item out of a row; records among the arguments; records and records found as rows.
-/
namespace Go.Proofs.YtkdnfikaodkhnaaGreatDoor.Rec
open Go.RowKit
set_option linter.unusedVariables false
set_option linter.unusedSimpArgs false

theorem flat_get {α : Type} (f : α → List Value) (k : Nat) (hf : ∀ a, (f a).length = k) : ∀ (l : List α) (i : Nat) (a : α), l[i]? = some a → ∀ j v, (f a)[j]? = some v → (l.flatMap f)[i * k + j]? = some v := by
  intro l
  induction l with
  | nil => intro i a h; simp at h
  | cons b l ih =>
    intro i a h j v hv
    have hj : j < k := by
      have := (List.getElem?_eq_some_iff.1 hv).1
      rwa [hf] at this
    rw [List.flatMap_cons]
    cases i with
    | zero =>
      have e : b = a := by simpa using h
      subst e
      rw [Nat.zero_mul, Nat.zero_add, List.getElem?_append_left (by rw [hf]; exact hj)]
      exact hv
    | succ i =>
      have h' : l[i]? = some a := by simpa using h
      rw [List.getElem?_append_right (by rw [hf, Nat.succ_mul]; omega), hf, show (i + 1) * k + j - k = i * k + j by rw [Nat.succ_mul]; omega]
      exact ih i a h' j v hv
/-- One item of a row. -/
theorem row_item {α : Type} {f : α → List Value} {k : Nat} (hf : ∀ a, (f a).length = k) {w : World} {B m b o : Nat} {l : List α} (h : Row w B (some ⟨b, o, none⟩) m (l.flatMap f)) (i : Nat) (a : α) (hi : l[i]? = some a) : w.rangeAt b (o + i * k) (f a) := by
  intro j v hv
  have hg := flat_get f k hf l i a hi j v hv
  have hm : i * k + j < m := by
    have := (List.getElem?_eq_some_iff.1 hg).1
    rw [h.1] at this
    exact this
  obtain ⟨b', o', e, _, hc⟩ := h.2 (by omega)
  injection e with e
  injection e with e1 e2
  subst e1 e2
  have := hc (i * k + j) v hg
  rw [← Nat.add_assoc] at this
  exact this
/-- A row that the call owns reads as its cells, whatever its items' size. -/
theorem own_row {w : World} {base k n : Nat} {e : TypeId} {v : Value} {vs : List Value} (h : w.ownsRow base e k v n vs) : ∃ A c, v = .slice A n c ∧ n ≤ c ∧ c ≤ maxLen ∧ Row w w.heap.size A (n * k) vs := by
  rcases h.2 with ⟨h0, h1⟩ | ⟨g, cap, cur, hv, _, hg, hnc, hm, hcs, hx⟩
  · subst h1
    refine ⟨none, 0, h0, Nat.le_refl _, by decide, by rw [h.1], fun hn => ?_⟩
    omega
  · refine ⟨_, cap, hv, hnc, hm, h.1, fun hn => ?_⟩
    have hlt : g < w.heap.size := by
      rcases Nat.lt_or_ge g w.heap.size with h | h
      · exact h
      · rw [Array.getElem?_eq_none h] at hg; cases hg
    refine ⟨g, 0, rfl, hlt, fun i v hv => ?_⟩
    rw [Nat.zero_add, cell_of_row w g i cur e (0, 0) hg]
    rw [← hx, List.getElem?_take] at hv
    split at hv
    · simpa using hv
    · cases hv
/-- The cells of records, one behind the other. -/
def rflat (l : List Rc) : List Value := l.flatMap fun x => x.vals.toList
theorem rcells_length (x : Rc) : x.vals.toList.length = 6 := rfl
theorem rflat_length (l : List Rc) : (rflat l).length = l.length * 6 := by
  induction l with
  | nil => rfl
  | cons q l ih =>
    unfold rflat at ih ⊢
    rw [List.flatMap_cons, List.length_append, ih, rcells_length, List.length_cons]
    omega
theorem rflat_snoc (l : List Rc) (x : Rc) : rflat l ++ x.vals.toList = rflat (l ++ [x]) := by
  unfold rflat
  rw [List.flatMap_append, List.flatMap_singleton]
theorem rcells_one (x : Rc) : ∀ u ∈ x.vals.toList, u.oneCell' = true := by
  intro u hu
  simp only [Rc.vals, List.mem_cons, List.not_mem_nil, or_false] at hu
  rcases hu with rfl | rfl | rfl | rfl | rfl | rfl <;> rfl
theorem rec_item {w : World} {B m b o : Nat} {l : List Rc} (h : Row w B (some ⟨b, o, none⟩) m (rflat l)) (i : Nat) (x : Rc) (hi : l[i]? = some x) : w.rangeAt b (o + i * 6) x.vals.toList := row_item (f := fun x : Rc => x.vals.toList) rcells_length h i x hi
theorem found_item {w : World} {B m b o : Nat} {l : List (Nat × Rc)} (h : Row w B (some ⟨b, o, none⟩) m (flat l)) (i : Nat) (q : Nat × Rc) (hi : l[i]? = some q) : w.rangeAt b (o + i * 7) (fcells q) := row_item (f := fcells) fcells_length h i q hi
/-- The record of an item found. -/
theorem found_rec {w : World} {b o : Nat} {q : Nat × Rc} (h : w.rangeAt b o (fcells q)) : w.cell? ⟨b, o, none⟩ = some (.int .i64 (q.1 : Int)) ∧ w.rangeAt b (o + 1) q.2.vals.toList := by
  refine ⟨h 0 _ rfl, fun j v hv => ?_⟩
  have := h (j + 1) v (by show (_ :: q.2.vals.toList)[j + 1]? = some v; rw [List.getElem?_cons_succ]; exact hv)
  rw [show o + 1 + j = o + (j + 1) by omega]
  exact this
theorem range_rec {w : World} {b o : Nat} {x : Rc} (h : w.rangeAt b o x.vals.toList) : w.cell? ⟨b, o, none⟩ = some (.int .i64 x.kind) ∧ w.cell? ⟨b, o + 1, none⟩ = some (.int .u32 (x.tenant : Int)) ∧ w.cell? ⟨b, o + 2, none⟩ = some (.int .u64 (x.epoch : Int)) ∧ w.cell? ⟨b, o + 3, none⟩ = some (.int .u64 (x.object : Int)) ∧ w.cell? ⟨b, o + 4, none⟩ = some (.int .u64 (x.seq : Int)) ∧ w.cell? ⟨b, o + 5, none⟩ = some (.string (str x.body)) :=
  ⟨h 0 _ rfl, h 1 _ rfl, h 2 _ rfl, h 3 _ rfl, h 4 _ rfl, h 5 _ rfl⟩
theorem Fd.form {w0 w : World} {e : TypeId} {v : Value} {l : List (Nat × Rc)} (h : Fd w0 e w v l) : ∃ A c, v = .slice A l.length c ∧ l.length ≤ c ∧ c ≤ maxLen ∧ Row w w.heap.size A (l.length * 7) (flat l) := own_row h.row
/-- A record, out of the middle of a row. -/
theorem load_recM {w : World} {ops : Array Oper} {rest : List Oper} {o : Oper} {a : Act} {Q : Exit → Act → World → Prop} {b p : Nat} {x : Rc} (h : w.rangeAt b p x.vals.toList) (hgd : o.guard = none) (y : Operand) (ho : o.op = .load 40 y) (hx : a.eval y = .pointer (some ⟨b, p, none⟩))
    (k : wpList Tryz.prog ops Q rest (a.put o.dst (.agg x.vals)) w) : wpList Tryz.prog ops Q (o :: rest) a w :=
  wpList_load_mid hgd 40 y ho b p hx x.vals.toList _ h Tryz.underlying40 rfl rec_info k
/-- Records among the arguments. -/
theorem recs_of_form {H : Type} {enc : TypeId × Value → H} {W : World} {base : Nat} {held : Bool} {n : Nat} {a : Option Addr} {len cap : Nat} {x : DataW H × List MemPlace} (h : DataW.trod enc Tryz.prog W base (fun _ => true) held n 33 [.slice a len cap] = some x) :
    (∃ l : List Rc, l.length = len ∧ (∀ y ∈ l, y.Ok) ∧ Row W W.heap.size a (len * 6) (rflat l)) ∧ len ≤ cap ∧ cap ≤ maxLen := by
  rcases Deep.open_slice Tryz.underlying33 h with ⟨hcs, _⟩ | ⟨p, l, c, m, k, D, Pl, hcs, _, hl, hm, hmm, _, hx⟩
  · injection hcs with hcs
    injection hcs with h1 h2 h3
    subst h1 h2 h3
    exact ⟨⟨[], rfl, fun y hy => by simp at hy, rfl, fun h => absurd h (by omega)⟩, Nat.le_refl _, by decide⟩
  · injection hcs with hcs
    injection hcs with h1 h2 h3
    subst h1 h2 h3
    have e6 : Tryz.prog.cellsOf 40 = 6 := by kernel_rfl
    simp only [if_true] at hmm
    subst hmm
    rw [e6] at hx
    refine ⟨?_, hl, hm⟩
    have hy : ∀ i, i < len → ∃ y : Rc, y.Ok ∧ ∀ j v, y.vals.toList[j]? = some v → W.cell? ((p.add (i * 6)).add j) = some v := by
      intro i hi
      obtain ⟨cs, h1, h2⟩ := hx i (by omega)
      obtain ⟨y, hy, e⟩ := rec_of_trod h2
      obtain ⟨_, hlen, hcell⟩ := World.cells?_some h1
      refine ⟨y, hy, fun j v hv => ?_⟩
      have hj : j < 6 := (List.getElem?_eq_some_iff.1 hv).1
      have h3 := hcell j (by first | exact hj | (rw [hlen]; exact hj) | omega)
      rw [h3, e, hv]
    have key : ∀ k, k ≤ len → ∃ l : List Rc, l.length = k ∧ (∀ y ∈ l, y.Ok) ∧ ∀ i y, l[i]? = some y → ∀ j v, y.vals.toList[j]? = some v → W.cell? ((p.add (i * 6)).add j) = some v := by
      intro k
      induction k with
      | zero => exact fun _ => ⟨[], rfl, fun y hy => by simp at hy, fun i y h => by simp at h⟩
      | succ k ih =>
        intro hk
        obtain ⟨l, hl, hok, hc⟩ := ih (by omega)
        obtain ⟨y, hy1, hy2⟩ := hy k (by omega)
        refine ⟨l ++ [y], by simp [hl], ?_, ?_⟩
        · intro z hz
          rcases List.mem_append.1 hz with hz | hz
          · exact hok z hz
          · obtain rfl := List.mem_singleton.1 hz; exact hy1
        · intro i z hz
          by_cases hi : i < l.length
          · rw [List.getElem?_append_left hi] at hz
            exact hc i z hz
          · have hz2 := (List.getElem?_eq_some_iff.1 hz).1
            rw [List.length_append, List.length_singleton] at hz2
            obtain rfl : i = l.length := by omega
            rw [List.getElem?_append_right (Nat.le_refl _), Nat.sub_self] at hz
            obtain rfl : y = z := by simpa using hz
            rw [hl]
            exact hy2
    obtain ⟨l, hll, hok, hc⟩ := key len (Nat.le_refl _)
    refine ⟨l, hll, hok, by rw [rflat_length, hll], fun hn => ?_⟩
    obtain ⟨b, off, spot⟩ := p
    have h0 : l ≠ [] := by intro e; rw [e] at hll; simp at hll; omega
    obtain ⟨y0, hy0⟩ : ∃ y, l[0]? = some y := ⟨l[0]'(List.length_pos_iff.2 h0), List.getElem?_eq_getElem _⟩
    have h0 := hc 0 y0 hy0 0 _ rfl
    have hspot : spot = none := by
      have := World.cell?_spot h0
      simpa [Addr.add] using this
    subst hspot
    refine ⟨b, off, rfl, by simpa [Addr.add] using World.block_lt_of_cell? W _ h0, fun i v hv => ?_⟩
    have hi : i < len * 6 := by
      have := (List.getElem?_eq_some_iff.1 hv).1
      rwa [rflat_length, hll] at this
    have hq : i / 6 < l.length := by rw [hll]; omega
    have hg := flat_get (fun x : Rc => x.vals.toList) 6 rcells_length l (i / 6) l[i / 6] (List.getElem?_eq_getElem hq) (i % 6)
    have hv2 : (l[i / 6]).vals.toList[i % 6]? = some v := by
      have hlt : i % 6 < (l[i / 6]).vals.toList.length := by rw [rcells_length]; omega
      have h1 := hg _ (List.getElem?_eq_getElem hlt)
      rw [show i / 6 * 6 + i % 6 = i by omega] at h1
      rw [List.getElem?_eq_getElem hlt]
      unfold rflat at hv
      rw [hv] at h1
      exact h1.symm
    have := hc (i / 6) _ (List.getElem?_eq_getElem hq) (i % 6) v hv2
    rw [Addr.add_mid, Addr.add_mid, show off + i / 6 * 6 + i % 6 = off + i by omega] at this
    exact this
end Go.Proofs.YtkdnfikaodkhnaaGreatDoor.Rec
/-
  The contracts of Go's library that the proofs of this seat use, laid at the numbers of its program.
-/
namespace Go.Proofs.YtkdnfikaodkhnaaGreatDoor
open Go.Shelf
def Shelf.clone_ren : Go.Shelf.Ren := ⟨fun | 4 => 65 | n => n, fun | 22 => 53 | 4 => 4 | 5 => 5 | n => n, fun | n => n⟩
theorem Shelf.clone : Go.Proofs.SlLaysK.n4 Tryz.prog Shelf.clone_ren := {
  mixed := by kernel_rfl,
  f4 := Tryz.func65.trans (congrArg some (by kernel_rfl)),
  t4 := Tryz.underlying4,
  a4 := Tryz.isAgg4,
  z4 := Tryz.sizeOf4,
  v4 := Tryz.zeroValue4,
  t22 := Tryz.underlying53,
  a22 := Tryz.isAgg53,
  z22 := Tryz.sizeOf53,
  v22 := Tryz.zeroValue53,
  t5 := Tryz.underlying5,
  i5 := by kernel_rfl }
def Shelf.mcopy_ren : Go.Shelf.Ren := ⟨fun | 5 => 32 | n => n, fun | 23 => 60 | 24 => 60 | 26 => 9 | 27 => 77 | 0 => 0 | 4 => 4 | n => n, fun | n => n⟩
theorem Shelf.mcopy : Go.Proofs.SlLaysX.n5 Tryz.prog Shelf.mcopy_ren := {
  mixed := by kernel_rfl,
  f5 := ⟨Tryz.f32.name, by decide, Tryz.func32.trans (congrArg some (by kernel_rfl))⟩,
  t0 := Tryz.underlying0,
  a0 := Tryz.isAgg0,
  z0 := Tryz.sizeOf0,
  v0 := Tryz.zeroValue0,
  t4 := Tryz.underlying4,
  a4 := Tryz.isAgg4,
  z4 := Tryz.sizeOf4,
  v4 := Tryz.zeroValue4,
  t23 := Tryz.underlying60,
  a23 := Tryz.isAgg60,
  z23 := Tryz.sizeOf60,
  v23 := Tryz.zeroValue60,
  t24 := Tryz.underlying60,
  a24 := Tryz.isAgg60,
  z24 := Tryz.sizeOf60,
  v24 := Tryz.zeroValue60,
  a26 := Tryz.isAgg9,
  z26 := Tryz.sizeOf9,
  a27 := Tryz.isAgg77,
  z27 := Tryz.sizeOf77 }
def Shelf.keysS_ren : Go.Shelf.Ren := ⟨fun | 7 => 61 | 10 => 86 | n => n, fun | 23 => 60 | 26 => 9 | 3 => 77 | 28 => 109 | 0 => 0 | 27 => 108 | 33 => 100 | 4 => 4 | n => n, fun | n => n⟩
theorem Shelf.keysS : Go.Proofs.SlLaysZ.n7 Tryz.prog Shelf.keysS_ren := {
  mixed := by kernel_rfl,
  f7 := ⟨Tryz.f61.name, by decide, Tryz.func61.trans (congrArg some (by kernel_rfl))⟩,
  f10 := ⟨Tryz.f86.name, by decide, Tryz.func86.trans (congrArg some (by kernel_rfl))⟩,
  t0 := Tryz.underlying0,
  a0 := Tryz.isAgg0,
  z0 := Tryz.sizeOf0,
  v0 := Tryz.zeroValue0,
  t4 := Tryz.underlying4,
  a4 := Tryz.isAgg4,
  z4 := Tryz.sizeOf4,
  v4 := Tryz.zeroValue4,
  t23 := Tryz.underlying60,
  a23 := Tryz.isAgg60,
  z23 := Tryz.sizeOf60,
  v23 := Tryz.zeroValue60,
  t26 := Tryz.underlying9,
  a26 := Tryz.isAgg9,
  z26 := Tryz.sizeOf9,
  v26 := Tryz.zeroValue9,
  t27 := Tryz.underlying108,
  a27 := Tryz.isAgg108,
  z27 := Tryz.sizeOf108,
  v27 := Tryz.zeroValue108,
  t28 := Tryz.underlying109,
  a28 := Tryz.isAgg109,
  z28 := Tryz.sizeOf109,
  v28 := Tryz.zeroValue109,
  t33 := Tryz.underlying100,
  a33 := Tryz.isAgg100,
  z33 := Tryz.sizeOf100,
  v33 := Tryz.zeroValue100 }
def Shelf.sortedS_ren : Go.Shelf.Ren := ⟨fun | 6 => 60 | 8 => 84 | 9 => 85 | 11 => 97 | 13 => 99 | 12 => 98 | 23 => 118 | 24 => 105 | 14 => 109 | 15 => 110 | 16 => 111 | 17 => 112 | 18 => 113 | 19 => 114 | 20 => 115 | 21 => 116 | 22 => 117 | 25 => 130 | 26 => 131 | 27 => 132 | 28 => 133 | 29 => 134 | 30 => 135 | 31 => 140 | n => n, fun | 26 => 9 | 28 => 109 | 24 => 81 | 0 => 0 | 3 => 3 | 37 => 134 | 48 => 22 | 50 => 38 | 4 => 4 | 40 => 155 | 39 => 154 | 45 => 159 | 5 => 5 | 9 => 9 | 51 => 168 | 55 => 172 | 57 => 178 | 58 => 179 | 33 => 100 | n => n, fun | n => n⟩
theorem Shelf.sortedS : Go.Proofs.SlLaysZ.n6 Tryz.prog Shelf.sortedS_ren := {
  mixed := by kernel_rfl,
  f6 := ⟨Tryz.f60.name, by decide, Tryz.func60.trans (congrArg some (by kernel_rfl))⟩,
  f8 := ⟨Tryz.f84.name, by decide, Tryz.func84.trans (congrArg some (by kernel_rfl))⟩,
  f11 := ⟨Tryz.f97.name, by decide, Tryz.func97.trans (congrArg some (by kernel_rfl))⟩,
  t0 := Tryz.underlying0,
  a0 := Tryz.isAgg0,
  z0 := Tryz.sizeOf0,
  v0 := Tryz.zeroValue0,
  t24 := Tryz.underlying81,
  a24 := Tryz.isAgg81,
  z24 := Tryz.sizeOf81,
  v24 := Tryz.zeroValue81,
  t26 := Tryz.underlying9,
  a26 := Tryz.isAgg9,
  z26 := Tryz.sizeOf9,
  v26 := Tryz.zeroValue9,
  t28 := Tryz.underlying109,
  a28 := Tryz.isAgg109,
  z28 := Tryz.sizeOf109,
  v28 := Tryz.zeroValue109,
  i26 := by kernel_rfl }
def Shelf.sortS_ren : Go.Shelf.Ren := ⟨fun | 6 => 85 | 8 => 99 | 9 => 98 | 19 => 118 | 20 => 105 | 21 => 109 | 22 => 110 | 23 => 111 | 24 => 112 | 25 => 113 | 26 => 114 | 27 => 115 | 28 => 116 | 29 => 117 | 36 => 130 | 31 => 131 | 32 => 132 | 37 => 133 | 38 => 134 | 39 => 135 | 41 => 140 | n => n, fun | 27 => 81 | 29 => 9 | 3 => 3 | 32 => 134 | 26 => 81 | 0 => 0 | 44 => 22 | 46 => 38 | 4 => 4 | 36 => 155 | 35 => 154 | 41 => 159 | 5 => 5 | 9 => 9 | 53 => 168 | 57 => 172 | 63 => 178 | 64 => 179 | n => n, fun | n => n⟩
theorem Shelf.sortS : Go.Proofs.SlLaysM.n6 Tryz.prog Shelf.sortS_ren := {
  mixed := by kernel_rfl,
  f6 := ⟨Tryz.f85.name, by decide, Tryz.func85.trans (congrArg some (by kernel_rfl))⟩,
  f8 := Tryz.func99.trans (congrArg some (by kernel_rfl)),
  f9 := ⟨Tryz.f98.name, by decide, Tryz.func98.trans (congrArg some (by kernel_rfl))⟩,
  f19 := Tryz.func118.trans (congrArg some (by kernel_rfl)),
  f20 := Tryz.func105.trans (congrArg some (by kernel_rfl)),
  f21 := ⟨Tryz.f109.name, by decide, Tryz.func109.trans (congrArg some (by kernel_rfl))⟩,
  f22 := ⟨Tryz.f110.name, by decide, Tryz.func110.trans (congrArg some (by kernel_rfl))⟩,
  f23 := ⟨Tryz.f111.name, by decide, Tryz.func111.trans (congrArg some (by kernel_rfl))⟩,
  f24 := ⟨Tryz.f112.name, by decide, Tryz.func112.trans (congrArg some (by kernel_rfl))⟩,
  f25 := ⟨Tryz.f113.name, by decide, Tryz.func113.trans (congrArg some (by kernel_rfl))⟩,
  f26 := ⟨Tryz.f114.name, by decide, Tryz.func114.trans (congrArg some (by kernel_rfl))⟩,
  f27 := ⟨Tryz.f115.name, by decide, Tryz.func115.trans (congrArg some (by kernel_rfl))⟩,
  f28 := ⟨Tryz.f116.name, by decide, Tryz.func116.trans (congrArg some (by kernel_rfl))⟩,
  f29 := ⟨Tryz.f117.name, by decide, Tryz.func117.trans (congrArg some (by kernel_rfl))⟩,
  f31 := Tryz.func131.trans (congrArg some (by kernel_rfl)),
  f32 := Tryz.func132.trans (congrArg some (by kernel_rfl)),
  f36 := ⟨Tryz.f130.name, by decide, Tryz.func130.trans (congrArg some (by kernel_rfl))⟩,
  f37 := ⟨Tryz.f133.name, by decide, Tryz.func133.trans (congrArg some (by kernel_rfl))⟩,
  f38 := ⟨Tryz.f134.name, by decide, Tryz.func134.trans (congrArg some (by kernel_rfl))⟩,
  f39 := ⟨Tryz.f135.name, by decide, Tryz.func135.trans (congrArg some (by kernel_rfl))⟩,
  f41 := ⟨Tryz.f140.name, by decide, Tryz.func140.trans (congrArg some (by kernel_rfl))⟩,
  t0 := Tryz.underlying0,
  a0 := Tryz.isAgg0,
  z0 := Tryz.sizeOf0,
  v0 := Tryz.zeroValue0,
  t3 := Tryz.underlying3,
  a3 := Tryz.isAgg3,
  z3 := Tryz.sizeOf3,
  v3 := Tryz.zeroValue3,
  t4 := Tryz.underlying4,
  a4 := Tryz.isAgg4,
  z4 := Tryz.sizeOf4,
  v4 := Tryz.zeroValue4,
  t5 := Tryz.underlying5,
  a5 := Tryz.isAgg5,
  z5 := Tryz.sizeOf5,
  v5 := Tryz.zeroValue5,
  t9 := Tryz.underlying9,
  a9 := Tryz.isAgg9,
  z9 := Tryz.sizeOf9,
  v9 := Tryz.zeroValue9,
  t26 := Tryz.underlying81,
  a26 := Tryz.isAgg81,
  z26 := Tryz.sizeOf81,
  v26 := Tryz.zeroValue81,
  t27 := Tryz.underlying81,
  a27 := Tryz.isAgg81,
  z27 := Tryz.sizeOf81,
  v27 := Tryz.zeroValue81,
  t29 := Tryz.underlying9,
  a29 := Tryz.isAgg9,
  z29 := Tryz.sizeOf9,
  v29 := Tryz.zeroValue9,
  t32 := Tryz.underlying134,
  a32 := Tryz.isAgg134,
  z32 := Tryz.sizeOf134,
  v32 := Tryz.zeroValue134,
  t35 := Tryz.underlying154,
  a35 := Tryz.isAgg154,
  z35 := Tryz.sizeOf154,
  v35 := Tryz.zeroValue154,
  t36 := Tryz.underlying155,
  a36 := Tryz.isAgg155,
  z36 := Tryz.sizeOf155,
  v36 := Tryz.zeroValue155,
  t41 := Tryz.underlying159,
  a41 := Tryz.isAgg159,
  z41 := Tryz.sizeOf159,
  v41 := Tryz.zeroValue159,
  t44 := Tryz.underlying22,
  a44 := Tryz.isAgg22,
  z44 := Tryz.sizeOf22,
  v44 := Tryz.zeroValue22,
  t46 := Tryz.underlying38,
  a46 := Tryz.isAgg38,
  z46 := Tryz.sizeOf38,
  v46 := Tryz.zeroValue38,
  t53 := Tryz.underlying168,
  a53 := Tryz.isAgg168,
  z53 := Tryz.sizeOf168,
  v53 := Tryz.zeroValue168,
  t57 := Tryz.underlying172,
  a57 := Tryz.isAgg172,
  z57 := Tryz.sizeOf172,
  v57 := Tryz.zeroValue172,
  t63 := Tryz.underlying178,
  a63 := Tryz.isAgg178,
  z63 := Tryz.sizeOf178,
  v63 := Tryz.zeroValue178,
  t64 := Tryz.underlying179,
  a64 := Tryz.isAgg179,
  z64 := Tryz.sizeOf179,
  v64 := Tryz.zeroValue179 }
def Shelf.keysI_ren : Go.Shelf.Ren := ⟨fun | 7 => 63 | 10 => 89 | n => n, fun | 23 => 83 | 26 => 3 | 3 => 53 | 28 => 113 | 0 => 0 | 27 => 112 | 33 => 128 | 4 => 4 | n => n, fun | n => n⟩
theorem Shelf.keysI : Go.Proofs.SlLaysZI.n7 Tryz.prog Shelf.keysI_ren := {
  mixed := by kernel_rfl,
  f7 := ⟨Tryz.f63.name, by decide, Tryz.func63.trans (congrArg some (by kernel_rfl))⟩,
  f10 := ⟨Tryz.f89.name, by decide, Tryz.func89.trans (congrArg some (by kernel_rfl))⟩,
  t0 := Tryz.underlying0,
  a0 := Tryz.isAgg0,
  z0 := Tryz.sizeOf0,
  v0 := Tryz.zeroValue0,
  t4 := Tryz.underlying4,
  a4 := Tryz.isAgg4,
  z4 := Tryz.sizeOf4,
  v4 := Tryz.zeroValue4,
  t23 := Tryz.underlying83,
  a23 := Tryz.isAgg83,
  z23 := Tryz.sizeOf83,
  v23 := Tryz.zeroValue83,
  t26 := Tryz.underlying3,
  a26 := Tryz.isAgg3,
  z26 := Tryz.sizeOf3,
  v26 := Tryz.zeroValue3,
  t27 := Tryz.underlying112,
  a27 := Tryz.isAgg112,
  z27 := Tryz.sizeOf112,
  v27 := Tryz.zeroValue112,
  t28 := Tryz.underlying113,
  a28 := Tryz.isAgg113,
  z28 := Tryz.sizeOf113,
  v28 := Tryz.zeroValue113,
  t33 := Tryz.underlying128,
  a33 := Tryz.isAgg128,
  z33 := Tryz.sizeOf128,
  v33 := Tryz.zeroValue128 }
def Shelf.sortedI_ren : Go.Shelf.Ren := ⟨fun | 6 => 62 | 8 => 87 | 9 => 88 | 11 => 100 | 13 => 99 | 12 => 101 | 23 => 118 | 24 => 105 | 14 => 119 | 15 => 120 | 16 => 121 | 17 => 122 | 18 => 123 | 19 => 124 | 20 => 125 | 21 => 126 | 22 => 127 | 25 => 136 | 26 => 131 | 27 => 132 | 28 => 137 | 29 => 138 | 30 => 139 | 31 => 141 | n => n, fun | 26 => 3 | 28 => 113 | 24 => 35 | 0 => 0 | 3 => 3 | 37 => 134 | 48 => 22 | 50 => 38 | 4 => 4 | 40 => 155 | 39 => 154 | 45 => 159 | 5 => 5 | 9 => 9 | 51 => 168 | 55 => 172 | 57 => 178 | 58 => 179 | 33 => 128 | n => n, fun | n => n⟩
theorem Shelf.sortedI : Go.Proofs.SlLaysZI.n6 Tryz.prog Shelf.sortedI_ren := {
  mixed := by kernel_rfl,
  f6 := ⟨Tryz.f62.name, by decide, Tryz.func62.trans (congrArg some (by kernel_rfl))⟩,
  f8 := ⟨Tryz.f87.name, by decide, Tryz.func87.trans (congrArg some (by kernel_rfl))⟩,
  f11 := ⟨Tryz.f100.name, by decide, Tryz.func100.trans (congrArg some (by kernel_rfl))⟩,
  t0 := Tryz.underlying0,
  a0 := Tryz.isAgg0,
  z0 := Tryz.sizeOf0,
  v0 := Tryz.zeroValue0,
  t24 := Tryz.underlying35,
  a24 := Tryz.isAgg35,
  z24 := Tryz.sizeOf35,
  v24 := Tryz.zeroValue35,
  t26 := Tryz.underlying3,
  a26 := Tryz.isAgg3,
  z26 := Tryz.sizeOf3,
  v26 := Tryz.zeroValue3,
  t28 := Tryz.underlying113,
  a28 := Tryz.isAgg113,
  z28 := Tryz.sizeOf113,
  v28 := Tryz.zeroValue113,
  i26 := by kernel_rfl }
def Shelf.sortI_ren : Go.Shelf.Ren := ⟨fun | 5 => 88 | 8 => 99 | 7 => 101 | 19 => 118 | 20 => 105 | 10 => 119 | 11 => 120 | 12 => 121 | 13 => 122 | 14 => 123 | 15 => 124 | 16 => 125 | 17 => 126 | 18 => 127 | 30 => 136 | 31 => 131 | 32 => 132 | 33 => 137 | 34 => 138 | 35 => 139 | 40 => 141 | n => n, fun | 23 => 35 | 25 => 3 | 3 => 3 | 32 => 134 | 22 => 35 | 0 => 0 | 44 => 22 | 46 => 38 | 4 => 4 | 36 => 155 | 35 => 154 | 41 => 159 | 5 => 5 | 9 => 9 | 53 => 168 | 57 => 172 | 63 => 178 | 64 => 179 | n => n, fun | n => n⟩
theorem Shelf.sortI : Go.Proofs.SlLaysM.n5 Tryz.prog Shelf.sortI_ren := {
  mixed := by kernel_rfl,
  f5 := ⟨Tryz.f88.name, by decide, Tryz.func88.trans (congrArg some (by kernel_rfl))⟩,
  f7 := ⟨Tryz.f101.name, by decide, Tryz.func101.trans (congrArg some (by kernel_rfl))⟩,
  f8 := Tryz.func99.trans (congrArg some (by kernel_rfl)),
  f10 := ⟨Tryz.f119.name, by decide, Tryz.func119.trans (congrArg some (by kernel_rfl))⟩,
  f11 := ⟨Tryz.f120.name, by decide, Tryz.func120.trans (congrArg some (by kernel_rfl))⟩,
  f12 := ⟨Tryz.f121.name, by decide, Tryz.func121.trans (congrArg some (by kernel_rfl))⟩,
  f13 := ⟨Tryz.f122.name, by decide, Tryz.func122.trans (congrArg some (by kernel_rfl))⟩,
  f14 := ⟨Tryz.f123.name, by decide, Tryz.func123.trans (congrArg some (by kernel_rfl))⟩,
  f15 := ⟨Tryz.f124.name, by decide, Tryz.func124.trans (congrArg some (by kernel_rfl))⟩,
  f16 := ⟨Tryz.f125.name, by decide, Tryz.func125.trans (congrArg some (by kernel_rfl))⟩,
  f17 := ⟨Tryz.f126.name, by decide, Tryz.func126.trans (congrArg some (by kernel_rfl))⟩,
  f18 := ⟨Tryz.f127.name, by decide, Tryz.func127.trans (congrArg some (by kernel_rfl))⟩,
  f19 := Tryz.func118.trans (congrArg some (by kernel_rfl)),
  f20 := Tryz.func105.trans (congrArg some (by kernel_rfl)),
  f30 := ⟨Tryz.f136.name, by decide, Tryz.func136.trans (congrArg some (by kernel_rfl))⟩,
  f31 := Tryz.func131.trans (congrArg some (by kernel_rfl)),
  f32 := Tryz.func132.trans (congrArg some (by kernel_rfl)),
  f33 := ⟨Tryz.f137.name, by decide, Tryz.func137.trans (congrArg some (by kernel_rfl))⟩,
  f34 := ⟨Tryz.f138.name, by decide, Tryz.func138.trans (congrArg some (by kernel_rfl))⟩,
  f35 := ⟨Tryz.f139.name, by decide, Tryz.func139.trans (congrArg some (by kernel_rfl))⟩,
  f40 := ⟨Tryz.f141.name, by decide, Tryz.func141.trans (congrArg some (by kernel_rfl))⟩,
  t0 := Tryz.underlying0,
  a0 := Tryz.isAgg0,
  z0 := Tryz.sizeOf0,
  v0 := Tryz.zeroValue0,
  t3 := Tryz.underlying3,
  a3 := Tryz.isAgg3,
  z3 := Tryz.sizeOf3,
  v3 := Tryz.zeroValue3,
  t4 := Tryz.underlying4,
  a4 := Tryz.isAgg4,
  z4 := Tryz.sizeOf4,
  v4 := Tryz.zeroValue4,
  t5 := Tryz.underlying5,
  a5 := Tryz.isAgg5,
  z5 := Tryz.sizeOf5,
  v5 := Tryz.zeroValue5,
  t9 := Tryz.underlying9,
  a9 := Tryz.isAgg9,
  z9 := Tryz.sizeOf9,
  v9 := Tryz.zeroValue9,
  t22 := Tryz.underlying35,
  a22 := Tryz.isAgg35,
  z22 := Tryz.sizeOf35,
  v22 := Tryz.zeroValue35,
  t23 := Tryz.underlying35,
  a23 := Tryz.isAgg35,
  z23 := Tryz.sizeOf35,
  v23 := Tryz.zeroValue35,
  t25 := Tryz.underlying3,
  a25 := Tryz.isAgg3,
  z25 := Tryz.sizeOf3,
  v25 := Tryz.zeroValue3,
  t32 := Tryz.underlying134,
  a32 := Tryz.isAgg134,
  z32 := Tryz.sizeOf134,
  v32 := Tryz.zeroValue134,
  t35 := Tryz.underlying154,
  a35 := Tryz.isAgg154,
  z35 := Tryz.sizeOf154,
  v35 := Tryz.zeroValue154,
  t36 := Tryz.underlying155,
  a36 := Tryz.isAgg155,
  z36 := Tryz.sizeOf155,
  v36 := Tryz.zeroValue155,
  t41 := Tryz.underlying159,
  a41 := Tryz.isAgg159,
  z41 := Tryz.sizeOf159,
  v41 := Tryz.zeroValue159,
  t44 := Tryz.underlying22,
  a44 := Tryz.isAgg22,
  z44 := Tryz.sizeOf22,
  v44 := Tryz.zeroValue22,
  t46 := Tryz.underlying38,
  a46 := Tryz.isAgg38,
  z46 := Tryz.sizeOf38,
  v46 := Tryz.zeroValue38,
  t53 := Tryz.underlying168,
  a53 := Tryz.isAgg168,
  z53 := Tryz.sizeOf168,
  v53 := Tryz.zeroValue168,
  t57 := Tryz.underlying172,
  a57 := Tryz.isAgg172,
  z57 := Tryz.sizeOf172,
  v57 := Tryz.zeroValue172,
  t63 := Tryz.underlying178,
  a63 := Tryz.isAgg178,
  z63 := Tryz.sizeOf178,
  v63 := Tryz.zeroValue178,
  t64 := Tryz.underlying179,
  a64 := Tryz.isAgg179,
  z64 := Tryz.sizeOf179,
  v64 := Tryz.zeroValue179 }
end Go.Proofs.YtkdnfikaodkhnaaGreatDoor
