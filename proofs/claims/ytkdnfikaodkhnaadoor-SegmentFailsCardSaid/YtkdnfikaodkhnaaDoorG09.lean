/-
  Texts one behind the other: ScanRecs, DiskShelf, DiskSpec.
-/
import Derived.Deep.MidRow
import Derived.Deep.Grids
import Derived.Shelf.Bytes.SlClone
import Derived.Test.YtkdnfikaodkhnaaDoorProg
import Derived.Maps.OwnSet
import Derived.Maps.RangeWalk
import Derived.Lib.SlMapMerge
import Derived.Lib.SlKeysI
import Derived.Test.YtkdnfikaodkhnaaDoorG03
import Derived.Test.YtkdnfikaodkhnaaDoorG08
/-
  Plain facts: rows of structs of several cells: one item out of a row; records among the arguments; records and records found as rows.
-/
namespace Go.Proofs.YtkdnfikaodkhnaaDoor.Rec
open Go.RowKit
set_option linter.unusedVariables false
set_option linter.unusedSimpArgs false

theorem flat_get {α : Type} (f : α → List Value) (k : Nat) (hf : ∀ a, (f a).length = k) : ∀ (l : List α) (i : Nat) (a : α), l[i]? = some a → ∀ j v, (f a)[j]? = some v → (l.flatMap f)[i * k + j]? = some v := by
  intro l
  induction l with
  | nil => intro i a h; simp at h
  | cons b l ih =>
    intro i a h j v hv
    have hj : j < k := by
      have := (List.getElem?_eq_some_iff.1 hv).1
      rwa [hf] at this
    rw [List.flatMap_cons]
    cases i with
    | zero =>
      have e : b = a := by simpa using h
      subst e
      rw [Nat.zero_mul, Nat.zero_add, List.getElem?_append_left (by rw [hf]; exact hj)]
      exact hv
    | succ i =>
      have h' : l[i]? = some a := by simpa using h
      rw [List.getElem?_append_right (by rw [hf, Nat.succ_mul]; omega), hf, show (i + 1) * k + j - k = i * k + j by rw [Nat.succ_mul]; omega]
      exact ih i a h' j v hv
/-- One item of a row. -/
theorem row_item {α : Type} {f : α → List Value} {k : Nat} (hf : ∀ a, (f a).length = k) {w : World} {B m b o : Nat} {l : List α} (h : Row w B (some ⟨b, o, none⟩) m (l.flatMap f)) (i : Nat) (a : α) (hi : l[i]? = some a) : w.rangeAt b (o + i * k) (f a) := by
  intro j v hv
  have hg := flat_get f k hf l i a hi j v hv
  have hm : i * k + j < m := by
    have := (List.getElem?_eq_some_iff.1 hg).1
    rw [h.1] at this
    exact this
  obtain ⟨b', o', e, _, hc⟩ := h.2 (by omega)
  injection e with e
  injection e with e1 e2
  subst e1 e2
  have := hc (i * k + j) v hg
  rw [← Nat.add_assoc] at this
  exact this
/-- A row that the call owns reads as its cells, whatever its items' size. -/
theorem own_row {w : World} {base k n : Nat} {e : TypeId} {v : Value} {vs : List Value} (h : w.ownsRow base e k v n vs) : ∃ A c, v = .slice A n c ∧ n ≤ c ∧ c ≤ maxLen ∧ Row w w.heap.size A (n * k) vs := by
  rcases h.2 with ⟨h0, h1⟩ | ⟨g, cap, cur, hv, _, hg, hnc, hm, hcs, hx⟩
  · subst h1
    refine ⟨none, 0, h0, Nat.le_refl _, by decide, by rw [h.1], fun hn => ?_⟩
    omega
  · refine ⟨_, cap, hv, hnc, hm, h.1, fun hn => ?_⟩
    have hlt : g < w.heap.size := by
      rcases Nat.lt_or_ge g w.heap.size with h | h
      · exact h
      · rw [Array.getElem?_eq_none h] at hg; cases hg
    refine ⟨g, 0, rfl, hlt, fun i v hv => ?_⟩
    rw [Nat.zero_add, cell_of_row w g i cur e (0, 0) hg]
    rw [← hx, List.getElem?_take] at hv
    split at hv
    · simpa using hv
    · cases hv
/-- The cells of records, one behind the other. -/
def rflat (l : List Rc) : List Value := l.flatMap fun x => x.vals.toList
theorem rcells_length (x : Rc) : x.vals.toList.length = 6 := rfl
theorem rflat_length (l : List Rc) : (rflat l).length = l.length * 6 := by
  induction l with
  | nil => rfl
  | cons q l ih =>
    unfold rflat at ih ⊢
    rw [List.flatMap_cons, List.length_append, ih, rcells_length, List.length_cons]
    omega
theorem rflat_snoc (l : List Rc) (x : Rc) : rflat l ++ x.vals.toList = rflat (l ++ [x]) := by
  unfold rflat
  rw [List.flatMap_append, List.flatMap_singleton]
theorem rcells_one (x : Rc) : ∀ u ∈ x.vals.toList, u.oneCell' = true := by
  intro u hu
  simp only [Rc.vals, List.mem_cons, List.not_mem_nil, or_false] at hu
  rcases hu with rfl | rfl | rfl | rfl | rfl | rfl <;> rfl
theorem rec_item {w : World} {B m b o : Nat} {l : List Rc} (h : Row w B (some ⟨b, o, none⟩) m (rflat l)) (i : Nat) (x : Rc) (hi : l[i]? = some x) : w.rangeAt b (o + i * 6) x.vals.toList := row_item (f := fun x : Rc => x.vals.toList) rcells_length h i x hi
theorem found_item {w : World} {B m b o : Nat} {l : List (Nat × Rc)} (h : Row w B (some ⟨b, o, none⟩) m (flat l)) (i : Nat) (q : Nat × Rc) (hi : l[i]? = some q) : w.rangeAt b (o + i * 7) (fcells q) := row_item (f := fcells) fcells_length h i q hi
/-- The record of an item found. -/
theorem found_rec {w : World} {b o : Nat} {q : Nat × Rc} (h : w.rangeAt b o (fcells q)) : w.cell? ⟨b, o, none⟩ = some (.int .i64 (q.1 : Int)) ∧ w.rangeAt b (o + 1) q.2.vals.toList := by
  refine ⟨h 0 _ rfl, fun j v hv => ?_⟩
  have := h (j + 1) v (by show (_ :: q.2.vals.toList)[j + 1]? = some v; rw [List.getElem?_cons_succ]; exact hv)
  rw [show o + 1 + j = o + (j + 1) by omega]
  exact this
theorem range_rec {w : World} {b o : Nat} {x : Rc} (h : w.rangeAt b o x.vals.toList) : w.cell? ⟨b, o, none⟩ = some (.int .i64 x.kind) ∧ w.cell? ⟨b, o + 1, none⟩ = some (.int .u32 (x.tenant : Int)) ∧ w.cell? ⟨b, o + 2, none⟩ = some (.int .u64 (x.epoch : Int)) ∧ w.cell? ⟨b, o + 3, none⟩ = some (.int .u64 (x.object : Int)) ∧ w.cell? ⟨b, o + 4, none⟩ = some (.int .u64 (x.seq : Int)) ∧ w.cell? ⟨b, o + 5, none⟩ = some (.string (str x.body)) :=
  ⟨h 0 _ rfl, h 1 _ rfl, h 2 _ rfl, h 3 _ rfl, h 4 _ rfl, h 5 _ rfl⟩
theorem Fd.form {w0 w : World} {e : TypeId} {v : Value} {l : List (Nat × Rc)} (h : Fd w0 e w v l) : ∃ A c, v = .slice A l.length c ∧ l.length ≤ c ∧ c ≤ maxLen ∧ Row w w.heap.size A (l.length * 7) (flat l) := own_row h.row
/-- A record, out of the middle of a row. -/
theorem load_recM {w : World} {ops : Array Oper} {rest : List Oper} {o : Oper} {a : Act} {Q : Exit → Act → World → Prop} {b p : Nat} {x : Rc} (h : w.rangeAt b p x.vals.toList) (hgd : o.guard = none) (y : Operand) (ho : o.op = .load 33 y) (hx : a.eval y = .pointer (some ⟨b, p, none⟩))
    (k : wpList Tryd.prog ops Q rest (a.put o.dst (.agg x.vals)) w) : wpList Tryd.prog ops Q (o :: rest) a w :=
  wpList_load_mid hgd 33 y ho b p hx x.vals.toList _ h Tryd.underlying33 rfl rec_info k
/-- Records among the arguments. -/
theorem recs_of_form {H : Type} {enc : TypeId × Value → H} {W : World} {base : Nat} {held : Bool} {n : Nat} {a : Option Addr} {len cap : Nat} {x : DataW H × List MemPlace} (h : DataW.trod enc Tryd.prog W base (fun _ => true) held n 23 [.slice a len cap] = some x) :
    (∃ l : List Rc, l.length = len ∧ (∀ y ∈ l, y.Ok) ∧ Row W W.heap.size a (len * 6) (rflat l)) ∧ len ≤ cap ∧ cap ≤ maxLen := by
  rcases Deep.open_slice Tryd.underlying23 h with ⟨hcs, _⟩ | ⟨p, l, c, m, k, D, Pl, hcs, _, hl, hm, hmm, _, hx⟩
  · injection hcs with hcs
    injection hcs with h1 h2 h3
    subst h1 h2 h3
    exact ⟨⟨[], rfl, fun y hy => by simp at hy, rfl, fun h => absurd h (by omega)⟩, Nat.le_refl _, by decide⟩
  · injection hcs with hcs
    injection hcs with h1 h2 h3
    subst h1 h2 h3
    have e6 : Tryd.prog.cellsOf 33 = 6 := by kernel_rfl
    simp only [if_true] at hmm
    subst hmm
    rw [e6] at hx
    refine ⟨?_, hl, hm⟩
    have hy : ∀ i, i < len → ∃ y : Rc, y.Ok ∧ ∀ j v, y.vals.toList[j]? = some v → W.cell? ((p.add (i * 6)).add j) = some v := by
      intro i hi
      obtain ⟨cs, h1, h2⟩ := hx i (by omega)
      obtain ⟨y, hy, e⟩ := rec_of_trod h2
      obtain ⟨_, hlen, hcell⟩ := World.cells?_some h1
      refine ⟨y, hy, fun j v hv => ?_⟩
      have hj : j < 6 := (List.getElem?_eq_some_iff.1 hv).1
      have h3 := hcell j (by first | exact hj | (rw [hlen]; exact hj) | omega)
      rw [h3, e, hv]
    have key : ∀ k, k ≤ len → ∃ l : List Rc, l.length = k ∧ (∀ y ∈ l, y.Ok) ∧ ∀ i y, l[i]? = some y → ∀ j v, y.vals.toList[j]? = some v → W.cell? ((p.add (i * 6)).add j) = some v := by
      intro k
      induction k with
      | zero => exact fun _ => ⟨[], rfl, fun y hy => by simp at hy, fun i y h => by simp at h⟩
      | succ k ih =>
        intro hk
        obtain ⟨l, hl, hok, hc⟩ := ih (by omega)
        obtain ⟨y, hy1, hy2⟩ := hy k (by omega)
        refine ⟨l ++ [y], by simp [hl], ?_, ?_⟩
        · intro z hz
          rcases List.mem_append.1 hz with hz | hz
          · exact hok z hz
          · obtain rfl := List.mem_singleton.1 hz; exact hy1
        · intro i z hz
          by_cases hi : i < l.length
          · rw [List.getElem?_append_left hi] at hz
            exact hc i z hz
          · have hz2 := (List.getElem?_eq_some_iff.1 hz).1
            rw [List.length_append, List.length_singleton] at hz2
            obtain rfl : i = l.length := by omega
            rw [List.getElem?_append_right (Nat.le_refl _), Nat.sub_self] at hz
            obtain rfl : y = z := by simpa using hz
            rw [hl]
            exact hy2
    obtain ⟨l, hll, hok, hc⟩ := key len (Nat.le_refl _)
    refine ⟨l, hll, hok, by rw [rflat_length, hll], fun hn => ?_⟩
    obtain ⟨b, off, spot⟩ := p
    have h0 : l ≠ [] := by intro e; rw [e] at hll; simp at hll; omega
    obtain ⟨y0, hy0⟩ : ∃ y, l[0]? = some y := ⟨l[0]'(List.length_pos_iff.2 h0), List.getElem?_eq_getElem _⟩
    have h0 := hc 0 y0 hy0 0 _ rfl
    have hspot : spot = none := by
      have := World.cell?_spot h0
      simpa [Addr.add] using this
    subst hspot
    refine ⟨b, off, rfl, by simpa [Addr.add] using World.block_lt_of_cell? W _ h0, fun i v hv => ?_⟩
    have hi : i < len * 6 := by
      have := (List.getElem?_eq_some_iff.1 hv).1
      rwa [rflat_length, hll] at this
    have hq : i / 6 < l.length := by rw [hll]; omega
    have hg := flat_get (fun x : Rc => x.vals.toList) 6 rcells_length l (i / 6) l[i / 6] (List.getElem?_eq_getElem hq) (i % 6)
    have hv2 : (l[i / 6]).vals.toList[i % 6]? = some v := by
      have hlt : i % 6 < (l[i / 6]).vals.toList.length := by rw [rcells_length]; omega
      have h1 := hg _ (List.getElem?_eq_getElem hlt)
      rw [show i / 6 * 6 + i % 6 = i by omega] at h1
      rw [List.getElem?_eq_getElem hlt]
      unfold rflat at hv
      rw [hv] at h1
      exact h1.symm
    have := hc (i / 6) _ (List.getElem?_eq_getElem hq) (i % 6) v hv2
    rw [Addr.add_mid, Addr.add_mid, show off + i / 6 * 6 + i % 6 = off + i by omega] at this
    exact this
end Go.Proofs.YtkdnfikaodkhnaaDoor.Rec
/-
  The contracts of Go's library that the proofs of this seat use, laid at the numbers of its program.
-/
namespace Go.Proofs.YtkdnfikaodkhnaaDoor
open Go.Shelf
def Shelf.clone_ren : Go.Shelf.Ren := ⟨fun | 4 => 76 | n => n, fun | 22 => 43 | 4 => 4 | 5 => 5 | n => n, fun | n => n⟩
theorem Shelf.clone : Go.Proofs.SlLaysK.n4 Tryd.prog Shelf.clone_ren := {
  mixed := by kernel_rfl,
  f4 := Tryd.func76.trans (congrArg some (by kernel_rfl)),
  t4 := Tryd.underlying4,
  a4 := Tryd.isAgg4,
  z4 := Tryd.sizeOf4,
  v4 := Tryd.zeroValue4,
  t22 := Tryd.underlying43,
  a22 := Tryd.isAgg43,
  z22 := Tryd.sizeOf43,
  v22 := Tryd.zeroValue43,
  t5 := Tryd.underlying5,
  i5 := by kernel_rfl }
end Go.Proofs.YtkdnfikaodkhnaaDoor
/-
  Plain facts: directories and sectors as rising lists, and the maps that they read as; what a disk of package disk is, as a value; nothing of a program.
-/
namespace Go.Proofs.YtkdnfikaodkhnaaDoor.Disk
open Go.RowKit Go.Maps
set_option linter.unusedVariables false
set_option linter.unusedSimpArgs false

/-- How an element of a map reads: as itself. -/
def held (v : Value) : Option (DataW Value × List MemPlace) := some (.held v, [])
abbrev Nm := List UInt8
abbrev Dir := List (Nm × Nat)
/-- A file's pointer. -/
def fp (g : Nat) : Value := .pointer (some ⟨g, 0, none⟩)
def dirEnt (p : Nm × Nat) : Lit × DataW Value := (.string p.1, .held (fp p.2))
def dirMap (N : Dir) : DataW Value := .map (N.map dirEnt)
def dins (x : Nm × Nat) : Dir → Dir
  | [] => [x]
  | y :: r => if bytesBefore x.1 y.1 then x :: y :: r else y :: dins x r
def ddel (n : Nm) (N : Dir) : Dir := N.filter fun p => !(p.1 == n)
def dput (n : Nm) (g : Nat) (N : Dir) : Dir := dins (n, g) (ddel n N)
def dget (n : Nm) (N : Dir) : Option Nat := (N.find? fun p => p.1 == n).map (·.2)

theorem dirMap_del (n : Nm) (N : Dir) : (dirMap N).del (.string n) = dirMap (ddel n N) := by
  show DataW.map ((N.map dirEnt).filter _) = .map ((N.filter _).map dirEnt)
  rw [List.filter_map]
  rfl
theorem dirMap_ins (x : Nm × Nat) : ∀ N : Dir, DataW.insert (dirEnt x) (N.map dirEnt) = (dins x N).map dirEnt
  | [] => rfl
  | y :: r => by
    show (if bytesBefore x.1 y.1 = true then _ else _) = _
    unfold dins
    split
    · rfl
    · rw [List.map_cons, dirMap_ins x r]
theorem dirMap_put (n : Nm) (g : Nat) (N : Dir) : (dirMap N).put (.string n) (.held (fp g)) = dirMap (dput n g N) := by
  show DataW.map (DataW.insert (dirEnt (n, g)) ((N.map dirEnt).filter _)) = .map ((dput n g N).map dirEnt)
  rw [List.filter_map]
  exact congrArg _ (dirMap_ins (n, g) _)
theorem dirMap_at (n : Nm) (N : Dir) (z : DataW Value) : (dirMap N).atKey (.string n) z = match dget n N with | some g => .held (fp g) | none => z := by
  have e : (N.map dirEnt).find? (fun p => p.1.sameKey (.string n)) = (N.find? fun p => p.1 == n).map dirEnt := by
    rw [List.find?_map]
    rfl
  unfold dget dirMap DataW.atKey
  simp only [e]
  cases N.find? (fun p => p.1 == n) <;> rfl
theorem dirMap_size (N : Dir) : Maps.size (dirMap N) = N.length := by simp [dirMap, Maps.size]
theorem dirMap_keys (N : Dir) : strKeys (dirMap N) = N.map (·.1) := by
  show (N.map dirEnt).map _ = _
  rw [List.map_map]
  rfl
theorem dget_mem {n : Nm} {N : Dir} {g : Nat} (h : dget n N = some g) : (n, g) ∈ N := by
  unfold dget at h
  obtain ⟨p, hp, rfl⟩ := Option.map_eq_some_iff.1 h
  have := List.find?_some hp
  have hm := List.mem_of_find?_eq_some hp
  simp only [beq_iff_eq] at this
  subst this
  exact hm
theorem dget_none {n : Nm} {N : Dir} (h : dget n N = none) : ∀ p ∈ N, p.1 ≠ n := by
  intro p hp e
  have h' := (Option.map_eq_none_iff.1 h)
  have := List.find?_eq_none.1 h' p hp
  simp [e] at this
theorem ddel_len (n : Nm) (N : Dir) : (ddel n N).length ≤ N.length := List.length_filter_le _ _
theorem dins_len (x : Nm × Nat) : ∀ N : Dir, (dins x N).length = N.length + 1
  | [] => rfl
  | y :: r => by
    unfold dins
    split
    · rfl
    · simp [dins_len x r]
theorem dput_len (n : Nm) (g : Nat) (N : Dir) : (dput n g N).length ≤ N.length + 1 := by
  rw [dput, dins_len]
  have := ddel_len n N
  omega
theorem dins_mem {x p : Nm × Nat} : ∀ {N : Dir}, p ∈ dins x N ↔ p = x ∨ p ∈ N
  | [] => by simp [dins]
  | y :: r => by
    unfold dins
    split
    · simp
    · rw [List.mem_cons, dins_mem, List.mem_cons]
      constructor
      · rintro (h | h | h) <;> simp [h]
      · rintro (h | h | h) <;> simp [h]
theorem dput_mem {n : Nm} {g : Nat} {p : Nm × Nat} {N : Dir} (h : p ∈ dput n g N) : p = (n, g) ∨ p ∈ N := by
  rcases dins_mem.1 h with h | h
  · exact .inl h
  · exact .inr (List.mem_filter.1 h).1
theorem ddel_mem {n : Nm} {p : Nm × Nat} {N : Dir} (h : p ∈ ddel n N) : p ∈ N := (List.mem_filter.1 h).1

/-! Sectors. -/
abbrev Secs := List (Nat × Value)
def secEnt (p : Nat × Value) : Lit × DataW Value := (.int .i64 (p.1 : Int), .held p.2)
def secMap (L : Secs) : DataW Value := .map (L.map secEnt)
def sins (x : Nat × Value) : Secs → Secs
  | [] => [x]
  | y :: r => if x.1 < y.1 then x :: y :: r else y :: sins x r
def sput (s : Nat) (v : Value) (L : Secs) : Secs := sins (s, v) (L.filter fun p => !decide (p.1 = s))
def shas (s : Nat) (L : Secs) : Bool := L.any fun p => decide (p.1 = s)
def sget (s : Nat) (L : Secs) : Option Value := (L.find? fun p => decide (p.1 = s)).map (·.2)
theorem sec_same (p : Nat × Value) (s : Nat) : (secEnt p).1.sameKey (.int .i64 (s : Int)) = decide (p.1 = s) := by
  show decide (IntKind.i64 = IntKind.i64 ∧ (p.1 : Int) = (s : Int)) = _
  by_cases h : p.1 = s
  · simp [h]
  · have : ¬ ((p.1 : Int) = (s : Int)) := by omega
    simp [h, this]
theorem secMap_ins (x : Nat × Value) : ∀ L : Secs, DataW.insert (secEnt x) (L.map secEnt) = (sins x L).map secEnt
  | [] => rfl
  | y :: r => by
    show (if decide ((x.1 : Int) < (y.1 : Int)) = true then _ else _) = _
    unfold sins
    by_cases h : x.1 < y.1
    · rw [if_pos (by simp; omega), if_pos h]
      rfl
    · rw [if_neg (by simp; omega), if_neg h, List.map_cons, secMap_ins x r]
theorem secMap_put (s : Nat) (v : Value) (L : Secs) : (secMap L).put (.int .i64 (s : Int)) (.held v) = secMap (sput s v L) := by
  show DataW.map (DataW.insert (secEnt (s, v)) ((L.map secEnt).filter _)) = .map ((sput s v L).map secEnt)
  rw [List.filter_map]
  have e : (L.filter ((fun p : Lit × DataW Value => !p.1.sameKey (.int .i64 (s : Int))) ∘ secEnt)) = L.filter fun p => !decide (p.1 = s) := by
    apply List.filter_congr
    intro p _
    show (!(secEnt p).1.sameKey _) = _
    rw [sec_same]
  rw [e]
  exact congrArg _ (secMap_ins (s, v) _)
theorem secMap_has (s : Nat) (L : Secs) : Maps.has (secMap L) (.int .i64 (s : Int)) = shas s L := by
  show (L.map secEnt).any _ = _
  rw [List.any_map]
  unfold shas
  congr 1
  funext p
  exact sec_same p s
theorem secMap_at (s : Nat) (L : Secs) (z : DataW Value) : (secMap L).atKey (.int .i64 (s : Int)) z = match sget s L with | some v => .held v | none => z := by
  have e : (L.map secEnt).find? (fun p => p.1.sameKey (.int .i64 (s : Int))) = (L.find? fun p => decide (p.1 = s)).map secEnt := by
    rw [List.find?_map]
    congr 2
    funext p
    exact sec_same p s
  unfold sget secMap DataW.atKey
  simp only [e]
  cases L.find? (fun p => decide (p.1 = s)) <;> rfl
theorem secMap_size (L : Secs) : Maps.size (secMap L) = L.length := by simp [secMap, Maps.size]
theorem secMap_keys (L : Secs) : intKeys (secMap L) = L.map fun p => (p.1 : Int) := by
  show (L.map secEnt).map _ = _
  rw [List.map_map]
  rfl
theorem sins_mem {x p : Nat × Value} : ∀ {L : Secs}, p ∈ sins x L ↔ p = x ∨ p ∈ L
  | [] => by simp [sins]
  | y :: r => by
    unfold sins
    split
    · simp
    · rw [List.mem_cons, sins_mem, List.mem_cons]
      constructor
      · rintro (h | h | h) <;> simp [h]
      · rintro (h | h | h) <;> simp [h]
theorem sins_rising (x : Nat × Value) : ∀ {L : Secs}, L.Pairwise (fun p q => p.1 < q.1) → (∀ p ∈ L, p.1 ≠ x.1) → (sins x L).Pairwise (fun p q => p.1 < q.1)
  | [], _, _ => by simp [sins]
  | y :: r, h, hne => by
    obtain ⟨h1, h2⟩ := List.pairwise_cons.1 h
    have hy := hne y (by simp)
    unfold sins
    split
    · rename_i hlt
      refine List.pairwise_cons.2 ⟨fun q hq => ?_, h⟩
      rcases List.mem_cons.1 hq with rfl | hq
      · exact hlt
      · have := h1 q hq; omega
    · refine List.pairwise_cons.2 ⟨fun q hq => ?_, sins_rising x h2 (fun p hp => hne p (by simp [hp]))⟩
      rcases sins_mem.1 hq with rfl | hq
      · omega
      · exact h1 q hq
theorem shas_mem {s : Nat} {L : Secs} : shas s L = true ↔ s ∈ L.map (·.1) := by
  unfold shas
  rw [List.any_eq_true, List.mem_map]
  constructor
  · rintro ⟨p, hp, h⟩; exact ⟨p, hp, by simpa using h⟩
  · rintro ⟨p, hp, h⟩; exact ⟨p, hp, by simpa using h⟩
theorem sput_new {s : Nat} {L : Secs} (v : Value) (h : shas s L = false) : sput s v L = sins (s, v) L := by
  unfold sput
  rw [List.filter_eq_self.2]
  intro p hp
  have : ¬ s ∈ L.map (·.1) := by rw [← shas_mem]; simp [h]
  have : p.1 ≠ s := fun e => this (List.mem_map.2 ⟨p, hp, e⟩)
  simp [this]
theorem sins_len (x : Nat × Value) : ∀ L : Secs, (sins x L).length = L.length + 1
  | [] => rfl
  | y :: r => by
    unfold sins
    split
    · rfl
    · simp [sins_len x r]
theorem rising_len : ∀ (L : Secs) (a m : Nat), L.Pairwise (fun p q => p.1 < q.1) → (∀ p ∈ L, a ≤ p.1 ∧ p.1 < m) → L.length ≤ m - a
  | [], _, _, _, _ => by simp
  | y :: r, a, m, h, hb => by
    obtain ⟨h1, h2⟩ := List.pairwise_cons.1 h
    have hy := hb y (by simp)
    have := rising_len r (y.1 + 1) m h2 (fun p hp => ⟨h1 p hp, (hb p (by simp [hp])).2⟩)
    rw [List.length_cons]
    omega

/-! Files, changes, disks. -/
/-- A file: its bytes, those that were synced, and the dirty sectors, each with the slice that keeps its bytes of then. -/
structure Fl where
  now : List UInt8
  was : List UInt8
  soiled : Secs
structure Fl.Ok (x : Fl) : Prop where
  le : x.was.length ≤ x.now.length
  max : x.now.length ≤ 4194304
  rising : x.soiled.Pairwise fun p q => p.1 < q.1
  within : ∀ p ∈ x.soiled, 64 * p.1 < 4194304
  clean : ∀ i, i < x.was.length → shas (i / 64) x.soiled = false → x.now[i]? = x.was[i]?
theorem Fl.Ok.count {x : Fl} (h : x.Ok) : x.soiled.length ≤ 65536 := by
  have := rising_len x.soiled 0 65536 h.rising (fun p hp => ⟨by omega, by have := h.within p hp; omega⟩)
  omega
structure Chg where
  gone : ByteArray
  name : ByteArray
  file : Option Nat
def Chg.ptr (c : Chg) : Value := .pointer (c.file.map fun g => ⟨g, 0, none⟩)
def Chg.cells (c : Chg) : List Value := [.string c.gone, .string c.name, c.ptr]
def Chg.on (c : Chg) (N : Dir) : Dir :=
  match c.file with
  | some g => dput c.name.data.toList g (ddel c.gone.data.toList N)
  | none => ddel c.gone.data.toList N
def chgCells (l : List Chg) : List Value := l.flatMap Chg.cells
theorem chgCells_len (l : List Chg) : (chgCells l).length = l.length * 3 := by
  induction l with
  | nil => rfl
  | cons c r ih =>
    show (c.cells ++ chgCells r).length = _
    rw [List.length_append, ih, List.length_cons, Nat.add_mul, Nat.add_comm]
    rfl
theorem chgCells_snoc (l : List Chg) (c : Chg) : chgCells (l ++ [c]) = chgCells l ++ c.cells := by simp [chgCells]
structure Dk where
  room : Int
  N : Dir
  S : Dir
  wait : List Chg
  calls : Int
  reads : Int
  failing : Bool
  others : Int
  fl : Nat → Fl
/-- The files that a disk reaches. -/
def Dk.refs (d : Dk) (g : Nat) : Prop := g ∈ d.N.map (·.2) ∨ g ∈ d.S.map (·.2) ∨ ∃ c ∈ d.wait, c.file = some g
structure Dk.Ok (d : Dk) (K : Nat) : Prop where
  big : K ≤ 1073741824
  room : 0 ≤ d.room ∧ d.room ≤ 4194304
  N : d.N.length ≤ K
  S : d.S.length + d.wait.length ≤ K
  names : ∀ c ∈ d.wait, c.gone.size ≤ maxLen ∧ c.name.size ≤ maxLen
  calls : 0 ≤ d.calls ∧ d.calls ≤ K
  reads : 0 ≤ d.reads ∧ d.reads ≤ K * 4194304
  others : 0 ≤ d.others ∧ d.others ≤ 9223372036854775807
def upd (fl : Nat → Fl) (g : Nat) (x : Fl) : Nat → Fl := fun j => if j = g then x else fl j
end Go.Proofs.YtkdnfikaodkhnaaDoor.Disk
