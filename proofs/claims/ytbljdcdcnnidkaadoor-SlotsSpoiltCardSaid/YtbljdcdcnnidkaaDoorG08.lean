/-
  Texts one behind the other: DiskSpec, DiskMem.
-/
import Derived.Maps.OwnSet
import Derived.Maps.RangeWalk
import Derived.Lib.SlMapMerge
import Derived.Lib.SlKeysI
import Derived.Maps.Ext
import Derived.Test.YtbljdcdcnnidkaaDoorG03
/-
  Plain facts: directories and sectors as rising lists, and the maps that they read as; what a disk of package disk is, as a value; nothing of a program.
-/
namespace Go.Proofs.YtbljdcdcnnidkaaDoor.Disk
open Go.RowKit Go.Maps
set_option linter.unusedVariables false
set_option linter.unusedSimpArgs false

/-- How an element of a map reads: as itself. -/
def held (v : Value) : Option (DataW Value × List MemPlace) := some (.held v, [])
abbrev Nm := List UInt8
abbrev Dir := List (Nm × Nat)
/-- A file's pointer. -/
def fp (g : Nat) : Value := .pointer (some ⟨g, 0, none⟩)
def dirEnt (p : Nm × Nat) : Lit × DataW Value := (.string p.1, .held (fp p.2))
def dirMap (N : Dir) : DataW Value := .map (N.map dirEnt)
def dins (x : Nm × Nat) : Dir → Dir
  | [] => [x]
  | y :: r => if bytesBefore x.1 y.1 then x :: y :: r else y :: dins x r
def ddel (n : Nm) (N : Dir) : Dir := N.filter fun p => !(p.1 == n)
def dput (n : Nm) (g : Nat) (N : Dir) : Dir := dins (n, g) (ddel n N)
def dget (n : Nm) (N : Dir) : Option Nat := (N.find? fun p => p.1 == n).map (·.2)

theorem dirMap_del (n : Nm) (N : Dir) : (dirMap N).del (.string n) = dirMap (ddel n N) := by
  show DataW.map ((N.map dirEnt).filter _) = .map ((N.filter _).map dirEnt)
  rw [List.filter_map]
  rfl
theorem dirMap_ins (x : Nm × Nat) : ∀ N : Dir, DataW.insert (dirEnt x) (N.map dirEnt) = (dins x N).map dirEnt
  | [] => rfl
  | y :: r => by
    show (if bytesBefore x.1 y.1 = true then _ else _) = _
    unfold dins
    split
    · rfl
    · rw [List.map_cons, dirMap_ins x r]
theorem dirMap_put (n : Nm) (g : Nat) (N : Dir) : (dirMap N).put (.string n) (.held (fp g)) = dirMap (dput n g N) := by
  show DataW.map (DataW.insert (dirEnt (n, g)) ((N.map dirEnt).filter _)) = .map ((dput n g N).map dirEnt)
  rw [List.filter_map]
  exact congrArg _ (dirMap_ins (n, g) _)
theorem dirMap_at (n : Nm) (N : Dir) (z : DataW Value) : (dirMap N).atKey (.string n) z = match dget n N with | some g => .held (fp g) | none => z := by
  have e : (N.map dirEnt).find? (fun p => p.1.sameKey (.string n)) = (N.find? fun p => p.1 == n).map dirEnt := by
    rw [List.find?_map]
    rfl
  unfold dget dirMap DataW.atKey
  simp only [e]
  cases N.find? (fun p => p.1 == n) <;> rfl
theorem dirMap_size (N : Dir) : Maps.size (dirMap N) = N.length := by simp [dirMap, Maps.size]
theorem dirMap_keys (N : Dir) : strKeys (dirMap N) = N.map (·.1) := by
  show (N.map dirEnt).map _ = _
  rw [List.map_map]
  rfl
theorem dget_mem {n : Nm} {N : Dir} {g : Nat} (h : dget n N = some g) : (n, g) ∈ N := by
  unfold dget at h
  obtain ⟨p, hp, rfl⟩ := Option.map_eq_some_iff.1 h
  have := List.find?_some hp
  have hm := List.mem_of_find?_eq_some hp
  simp only [beq_iff_eq] at this
  subst this
  exact hm
theorem dget_none {n : Nm} {N : Dir} (h : dget n N = none) : ∀ p ∈ N, p.1 ≠ n := by
  intro p hp e
  have h' := (Option.map_eq_none_iff.1 h)
  have := List.find?_eq_none.1 h' p hp
  simp [e] at this
theorem ddel_len (n : Nm) (N : Dir) : (ddel n N).length ≤ N.length := List.length_filter_le _ _
theorem dins_len (x : Nm × Nat) : ∀ N : Dir, (dins x N).length = N.length + 1
  | [] => rfl
  | y :: r => by
    unfold dins
    split
    · rfl
    · simp [dins_len x r]
theorem dput_len (n : Nm) (g : Nat) (N : Dir) : (dput n g N).length ≤ N.length + 1 := by
  rw [dput, dins_len]
  have := ddel_len n N
  omega
theorem dins_mem {x p : Nm × Nat} : ∀ {N : Dir}, p ∈ dins x N ↔ p = x ∨ p ∈ N
  | [] => by simp [dins]
  | y :: r => by
    unfold dins
    split
    · simp
    · rw [List.mem_cons, dins_mem, List.mem_cons]
      constructor
      · rintro (h | h | h) <;> simp [h]
      · rintro (h | h | h) <;> simp [h]
theorem dput_mem {n : Nm} {g : Nat} {p : Nm × Nat} {N : Dir} (h : p ∈ dput n g N) : p = (n, g) ∨ p ∈ N := by
  rcases dins_mem.1 h with h | h
  · exact .inl h
  · exact .inr (List.mem_filter.1 h).1
theorem ddel_mem {n : Nm} {p : Nm × Nat} {N : Dir} (h : p ∈ ddel n N) : p ∈ N := (List.mem_filter.1 h).1

/-! Sectors. -/
abbrev Secs := List (Nat × Value)
def secEnt (p : Nat × Value) : Lit × DataW Value := (.int .i64 (p.1 : Int), .held p.2)
def secMap (L : Secs) : DataW Value := .map (L.map secEnt)
def sins (x : Nat × Value) : Secs → Secs
  | [] => [x]
  | y :: r => if x.1 < y.1 then x :: y :: r else y :: sins x r
def sput (s : Nat) (v : Value) (L : Secs) : Secs := sins (s, v) (L.filter fun p => !decide (p.1 = s))
def shas (s : Nat) (L : Secs) : Bool := L.any fun p => decide (p.1 = s)
def sget (s : Nat) (L : Secs) : Option Value := (L.find? fun p => decide (p.1 = s)).map (·.2)
theorem sec_same (p : Nat × Value) (s : Nat) : (secEnt p).1.sameKey (.int .i64 (s : Int)) = decide (p.1 = s) := by
  show decide (IntKind.i64 = IntKind.i64 ∧ (p.1 : Int) = (s : Int)) = _
  by_cases h : p.1 = s
  · simp [h]
  · have : ¬ ((p.1 : Int) = (s : Int)) := by omega
    simp [h, this]
theorem secMap_ins (x : Nat × Value) : ∀ L : Secs, DataW.insert (secEnt x) (L.map secEnt) = (sins x L).map secEnt
  | [] => rfl
  | y :: r => by
    show (if decide ((x.1 : Int) < (y.1 : Int)) = true then _ else _) = _
    unfold sins
    by_cases h : x.1 < y.1
    · rw [if_pos (by simp; omega), if_pos h]
      rfl
    · rw [if_neg (by simp; omega), if_neg h, List.map_cons, secMap_ins x r]
theorem secMap_put (s : Nat) (v : Value) (L : Secs) : (secMap L).put (.int .i64 (s : Int)) (.held v) = secMap (sput s v L) := by
  show DataW.map (DataW.insert (secEnt (s, v)) ((L.map secEnt).filter _)) = .map ((sput s v L).map secEnt)
  rw [List.filter_map]
  have e : (L.filter ((fun p : Lit × DataW Value => !p.1.sameKey (.int .i64 (s : Int))) ∘ secEnt)) = L.filter fun p => !decide (p.1 = s) := by
    apply List.filter_congr
    intro p _
    show (!(secEnt p).1.sameKey _) = _
    rw [sec_same]
  rw [e]
  exact congrArg _ (secMap_ins (s, v) _)
theorem secMap_has (s : Nat) (L : Secs) : Maps.has (secMap L) (.int .i64 (s : Int)) = shas s L := by
  show (L.map secEnt).any _ = _
  rw [List.any_map]
  unfold shas
  congr 1
  funext p
  exact sec_same p s
theorem secMap_at (s : Nat) (L : Secs) (z : DataW Value) : (secMap L).atKey (.int .i64 (s : Int)) z = match sget s L with | some v => .held v | none => z := by
  have e : (L.map secEnt).find? (fun p => p.1.sameKey (.int .i64 (s : Int))) = (L.find? fun p => decide (p.1 = s)).map secEnt := by
    rw [List.find?_map]
    congr 2
    funext p
    exact sec_same p s
  unfold sget secMap DataW.atKey
  simp only [e]
  cases L.find? (fun p => decide (p.1 = s)) <;> rfl
theorem secMap_size (L : Secs) : Maps.size (secMap L) = L.length := by simp [secMap, Maps.size]
theorem secMap_keys (L : Secs) : intKeys (secMap L) = L.map fun p => (p.1 : Int) := by
  show (L.map secEnt).map _ = _
  rw [List.map_map]
  rfl
theorem sins_mem {x p : Nat × Value} : ∀ {L : Secs}, p ∈ sins x L ↔ p = x ∨ p ∈ L
  | [] => by simp [sins]
  | y :: r => by
    unfold sins
    split
    · simp
    · rw [List.mem_cons, sins_mem, List.mem_cons]
      constructor
      · rintro (h | h | h) <;> simp [h]
      · rintro (h | h | h) <;> simp [h]
theorem sins_rising (x : Nat × Value) : ∀ {L : Secs}, L.Pairwise (fun p q => p.1 < q.1) → (∀ p ∈ L, p.1 ≠ x.1) → (sins x L).Pairwise (fun p q => p.1 < q.1)
  | [], _, _ => by simp [sins]
  | y :: r, h, hne => by
    obtain ⟨h1, h2⟩ := List.pairwise_cons.1 h
    have hy := hne y (by simp)
    unfold sins
    split
    · rename_i hlt
      refine List.pairwise_cons.2 ⟨fun q hq => ?_, h⟩
      rcases List.mem_cons.1 hq with rfl | hq
      · exact hlt
      · have := h1 q hq; omega
    · refine List.pairwise_cons.2 ⟨fun q hq => ?_, sins_rising x h2 (fun p hp => hne p (by simp [hp]))⟩
      rcases sins_mem.1 hq with rfl | hq
      · omega
      · exact h1 q hq
theorem shas_mem {s : Nat} {L : Secs} : shas s L = true ↔ s ∈ L.map (·.1) := by
  unfold shas
  rw [List.any_eq_true, List.mem_map]
  constructor
  · rintro ⟨p, hp, h⟩; exact ⟨p, hp, by simpa using h⟩
  · rintro ⟨p, hp, h⟩; exact ⟨p, hp, by simpa using h⟩
theorem sput_new {s : Nat} {L : Secs} (v : Value) (h : shas s L = false) : sput s v L = sins (s, v) L := by
  unfold sput
  rw [List.filter_eq_self.2]
  intro p hp
  have : ¬ s ∈ L.map (·.1) := by rw [← shas_mem]; simp [h]
  have : p.1 ≠ s := fun e => this (List.mem_map.2 ⟨p, hp, e⟩)
  simp [this]
theorem sins_len (x : Nat × Value) : ∀ L : Secs, (sins x L).length = L.length + 1
  | [] => rfl
  | y :: r => by
    unfold sins
    split
    · rfl
    · simp [sins_len x r]
theorem rising_len : ∀ (L : Secs) (a m : Nat), L.Pairwise (fun p q => p.1 < q.1) → (∀ p ∈ L, a ≤ p.1 ∧ p.1 < m) → L.length ≤ m - a
  | [], _, _, _, _ => by simp
  | y :: r, a, m, h, hb => by
    obtain ⟨h1, h2⟩ := List.pairwise_cons.1 h
    have hy := hb y (by simp)
    have := rising_len r (y.1 + 1) m h2 (fun p hp => ⟨h1 p hp, (hb p (by simp [hp])).2⟩)
    rw [List.length_cons]
    omega

/-! Files, changes, disks. -/
/-- A file: its bytes, those that were synced, and the dirty sectors, each with the slice that keeps its bytes of then. -/
structure Fl where
  now : List UInt8
  was : List UInt8
  soiled : Secs
structure Fl.Ok (x : Fl) : Prop where
  le : x.was.length ≤ x.now.length
  max : x.now.length ≤ 4194304
  rising : x.soiled.Pairwise fun p q => p.1 < q.1
  within : ∀ p ∈ x.soiled, 64 * p.1 < 4194304
  clean : ∀ i, i < x.was.length → shas (i / 64) x.soiled = false → x.now[i]? = x.was[i]?
theorem Fl.Ok.count {x : Fl} (h : x.Ok) : x.soiled.length ≤ 65536 := by
  have := rising_len x.soiled 0 65536 h.rising (fun p hp => ⟨by omega, by have := h.within p hp; omega⟩)
  omega
structure Chg where
  gone : ByteArray
  name : ByteArray
  file : Option Nat
def Chg.ptr (c : Chg) : Value := .pointer (c.file.map fun g => ⟨g, 0, none⟩)
def Chg.cells (c : Chg) : List Value := [.string c.gone, .string c.name, c.ptr]
def Chg.on (c : Chg) (N : Dir) : Dir :=
  match c.file with
  | some g => dput c.name.data.toList g (ddel c.gone.data.toList N)
  | none => ddel c.gone.data.toList N
def chgCells (l : List Chg) : List Value := l.flatMap Chg.cells
theorem chgCells_len (l : List Chg) : (chgCells l).length = l.length * 3 := by
  induction l with
  | nil => rfl
  | cons c r ih =>
    show (c.cells ++ chgCells r).length = _
    rw [List.length_append, ih, List.length_cons, Nat.add_mul, Nat.add_comm]
    rfl
theorem chgCells_snoc (l : List Chg) (c : Chg) : chgCells (l ++ [c]) = chgCells l ++ c.cells := by simp [chgCells]
structure Dk where
  room : Int
  N : Dir
  S : Dir
  wait : List Chg
  calls : Int
  reads : Int
  failing : Bool
  others : Int
  fl : Nat → Fl
/-- The files that a disk reaches. -/
def Dk.refs (d : Dk) (g : Nat) : Prop := g ∈ d.N.map (·.2) ∨ g ∈ d.S.map (·.2) ∨ ∃ c ∈ d.wait, c.file = some g
structure Dk.Ok (d : Dk) (K : Nat) : Prop where
  big : K ≤ 1073741824
  room : 0 ≤ d.room ∧ d.room ≤ 4194304
  N : d.N.length ≤ K
  S : d.S.length + d.wait.length ≤ K
  names : ∀ c ∈ d.wait, c.gone.size ≤ maxLen ∧ c.name.size ≤ maxLen
  calls : 0 ≤ d.calls ∧ d.calls ≤ K
  reads : 0 ≤ d.reads ∧ d.reads ≤ K * 4194304
  others : 0 ≤ d.others ∧ d.others ≤ 9223372036854775807
def upd (fl : Nat → Fl) (g : Nat) (x : Fl) : Nat → Fl := fun j => if j = g then x else fl j
end Go.Proofs.YtbljdcdcnnidkaaDoor.Disk
/-
  How a disk of package disk lies in memory, and how that is kept where other blocks turn: plain facts on worlds.
-/
namespace Go.Proofs.YtbljdcdcnnidkaaDoor.Disk
open Go.RowKit Go.Maps
set_option linter.unusedVariables false
set_option linter.unusedSimpArgs false

theorem lawS : Keyed Tryd.prog 9 := string_keyed Tryd.underlying9
theorem lawI : Keyed Tryd.prog 3 := int_keyed Tryd.underlying3
/-- Whose a block is: a disk's, and within it a file's. -/
abbrev Own := Nat → Option (Nat × Nat)

/-- A slice that reads as these values, in a block of p's. -/
def RowO (own : Own) (p : Nat × Nat) (w : World) (A : Option Addr) (n : Nat) (vs : List Value) : Prop :=
  vs.length = n ∧ (0 < n → ∃ b o, A = some ⟨b, o, none⟩ ∧ own b = some p ∧ b < w.heap.size ∧ ∀ i v, vs[i]? = some v → w.cell? ⟨b, o + i, none⟩ = some v)
theorem RowO.keep {own own' : Own} {p : Nat × Nat} {w w' : World} {A : Option Addr} {n : Nat} {vs : List Value} (h : RowO own p w A n vs) (hs : w.heap.size ≤ w'.heap.size)
    (ho : ∀ b, b < w.heap.size → own' b = own b) (hk : ∀ b, b < w.heap.size → own b = some p → w'.heap[b]? = w.heap[b]?) : RowO own' p w' A n vs := by
  refine ⟨h.1, fun hn => ?_⟩
  obtain ⟨b, o, e, hp, hb, hc⟩ := h.2 hn
  exact ⟨b, o, e, (ho b hb).trans hp, Nat.lt_of_lt_of_le hb hs, fun i v hv => (World.cell?_of_block (hk b hb hp)).trans (hc i v hv)⟩
theorem RowO.row {own : Own} {p : Nat × Nat} {w : World} {A : Option Addr} {n : Nat} {vs : List Value} (h : RowO own p w A n vs) : Row w w.heap.size A n vs := by
  refine ⟨h.1, fun hn => ?_⟩
  obtain ⟨b, o, e, _, hb, hc⟩ := h.2 hn
  exact ⟨b, o, e, hb, hc⟩
theorem map_keep {w w' : World} {P : Program} {k : TypeId} {R : Value → Option (DataW Value × List MemPlace)} {b n : Nat} {D : DataW Value} (h : w.ownsMap P k R b n D) (hk : w'.heap[b]? = w.heap[b]?) : w'.ownsMap P k R b n D := by
  obtain ⟨es, clock, hb, r⟩ := h
  exact ⟨es, clock, hk.trans hb, r⟩
theorem map_tight {w : World} {P : Program} {k : TypeId} {R : Value → Option (DataW Value × List MemPlace)} {b n : Nat} {D : DataW Value} (h : w.ownsMap P k R b n D) : w.ownsMap P k R b (Maps.size D) D := by
  obtain ⟨es, clock, hb, F, hs, rfl⟩ := h
  exact ⟨es, clock, hb, F, by simp [Maps.size, length_sorted], rfl⟩
theorem row_keep {w w' : World} {base : Nat} {e : TypeId} {size n : Nat} {v : Value} {xs : List Value} (h : w.ownsRow base e size v n xs) (hk : ∀ b, v.ownBlock = some b → w'.heap[b]? = w.heap[b]?) : w'.ownsRow base e size v n xs := by
  refine ⟨h.1, ?_⟩
  rcases h.2 with h | ⟨g, cap, cur, hv, hb, hg, r⟩
  · exact .inl h
  · exact .inr ⟨g, cap, cur, hv, hb, (hk g (by rw [hv]; rfl)).trans hg, r⟩
theorem row_lt {w : World} {base : Nat} {e : TypeId} {size n : Nat} {v : Value} {xs : List Value} (h : w.ownsRow base e size v n xs) (b : Nat) (hb : v.ownBlock = some b) : b < w.heap.size := by
  rcases h.2 with ⟨rfl, _⟩ | ⟨g, cap, cur, rfl, _, hg, _⟩
  · cases hb
  · cases hb
    exact (Array.getElem?_eq_some_iff.1 hg).1

/-- A file lies at block g. -/
structure FileIn (own : Own) (w : World) (f g : Nat) (x : Fl) (v : Value) (ob : Nat) : Prop where
  ok : x.Ok
  blk : Blk w g 71 #[v, .int .i64 (x.was.length : Int), .map (some ob)]
  og : own g = some (f, g)
  oo : own ob = some (f, g)
  row : w.ownsRow 0 5 1 v x.now.length (bvs x.now)
  orow : ∀ b, v.ownBlock = some b → own b = some (f, g)
  map : w.ownsMap Tryd.prog 3 held ob x.soiled.length (secMap x.soiled)
  olds : ∀ p ∈ x.soiled, ∃ A n c, p.2 = .slice A n c ∧ n ≤ c ∧ c ≤ maxLen ∧ RowO own (f, g) w A n (bvs ((x.was.drop (64 * p.1)).take 64)) ∧ (0 < n → ∀ a, A = some a → v.ownBlock ≠ some a.block ∧ a.block ≠ g)
def FileAt (own : Own) (w : World) (f g : Nat) (x : Fl) : Prop := ∃ v ob, FileIn own w f g x v ob
theorem blk_lt' {w : World} {g : Nat} {t : TypeId} {cs : Array Value} (h : Blk w g t cs) : g < w.heap.size := by
  rcases Nat.lt_or_ge g w.heap.size with hh | hh
  · exact hh
  · unfold Blk at h; rw [Array.getElem?_eq_none hh] at h; cases h
theorem FileIn.keep {own own' : Own} {w w' : World} {f g : Nat} {x : Fl} {v : Value} {ob : Nat} (h : FileIn own w f g x v ob) (hs : w.heap.size ≤ w'.heap.size)
    (ho : ∀ b, b < w.heap.size → own' b = own b) (hk : ∀ b, b < w.heap.size → own b = some (f, g) → w'.heap[b]? = w.heap[b]?) : FileIn own' w' f g x v ob where
  ok := h.ok
  blk := (hk g (blk_lt' h.blk) h.og).trans h.blk
  og := (ho g (blk_lt' h.blk)).trans h.og
  oo := (ho ob h.map.lt).trans h.oo
  row := row_keep h.row fun b hb => hk b (row_lt h.row b hb) (h.orow b hb)
  orow := fun b hb => (ho b (row_lt h.row b hb)).trans (h.orow b hb)
  map := map_keep h.map (hk ob h.map.lt h.oo)
  olds := fun p hp => by
    obtain ⟨A, n, c, e, h1, h2, h3, h4⟩ := h.olds p hp
    exact ⟨A, n, c, e, h1, h2, h3.keep hs ho hk, h4⟩

/-- A disk lies at block f. -/
structure DiskIn (own : Own) (w : World) (f : Nat) (d : Dk) (K nb sb : Nat) (wv : Value) : Prop where
  ok : d.Ok K
  top : ∀ b p, own b = some p → b < w.heap.size
  blk : Blk w f 55 #[.int .i64 d.room, .map (some nb), .map (some sb), wv, .int .i64 d.calls, .int .i64 d.reads, .bool d.failing, .int .i64 d.others]
  of : own f = some (f, f)
  on : own nb = some (f, f)
  os : own sb = some (f, f)
  ne : nb ≠ sb
  mapN : w.ownsMap Tryd.prog 9 held nb d.N.length (dirMap d.N)
  mapS : w.ownsMap Tryd.prog 9 held sb d.S.length (dirMap d.S)
  row : w.ownsRow 0 65 3 wv d.wait.length (chgCells d.wait)
  orow : ∀ b, wv.ownBlock = some b → own b = some (f, f)
  files : ∀ g, d.refs g → g ≠ f ∧ FileAt own w f g (d.fl g)
def DiskAt (own : Own) (w : World) (f : Nat) (d : Dk) (K : Nat) : Prop := ∃ nb sb wv, DiskIn own w f d K nb sb wv
theorem DiskIn.keep {own own' : Own} {w w' : World} {f K nb sb : Nat} {d : Dk} {wv : Value} (h : DiskIn own w f d K nb sb wv) (hs : w.heap.size ≤ w'.heap.size)
    (ho : ∀ b, b < w.heap.size → own' b = own b) (ht : ∀ b p, own' b = some p → b < w'.heap.size) (hk : ∀ b, b < w.heap.size → ∀ g, own b = some (f, g) → w'.heap[b]? = w.heap[b]?) : DiskIn own' w' f d K nb sb wv where
  ok := h.ok
  top := ht
  blk := (hk f (blk_lt' h.blk) f h.of).trans h.blk
  of := (ho f (blk_lt' h.blk)).trans h.of
  on := (ho nb h.mapN.lt).trans h.on
  os := (ho sb h.mapS.lt).trans h.os
  ne := h.ne
  mapN := map_keep h.mapN (hk nb h.mapN.lt f h.on)
  mapS := map_keep h.mapS (hk sb h.mapS.lt f h.os)
  row := row_keep h.row fun b hb => hk b (row_lt h.row b hb) f (h.orow b hb)
  orow := fun b hb => (ho b (row_lt h.row b hb)).trans (h.orow b hb)
  files := fun g hg => by
    obtain ⟨h1, v, ob, hf⟩ := h.files g hg
    exact ⟨h1, v, ob, hf.keep hs ho fun b hb hp => hk b hb g hp⟩
theorem DiskAt.keep {own own' : Own} {w w' : World} {f K : Nat} {d : Dk} (h : DiskAt own w f d K) (hs : w.heap.size ≤ w'.heap.size)
    (ho : ∀ b, b < w.heap.size → own' b = own b) (ht : ∀ b p, own' b = some p → b < w'.heap.size) (hk : ∀ b, b < w.heap.size → ∀ g, own b = some (f, g) → w'.heap[b]? = w.heap[b]?) : DiskAt own' w' f d K := by
  obtain ⟨nb, sb, wv, h⟩ := h
  exact ⟨nb, sb, wv, h.keep hs ho ht hk⟩
theorem DiskAt.top {own : Own} {w : World} {f K : Nat} {d : Dk} (h : DiskAt own w f d K) : ∀ b p, own b = some p → b < w.heap.size := by
  obtain ⟨nb, sb, wv, h⟩ := h
  exact h.top
theorem DiskAt.lt {own : Own} {w : World} {f K : Nat} {d : Dk} (h : DiskAt own w f d K) : f < w.heap.size := by
  obtain ⟨nb, sb, wv, h⟩ := h
  exact blk_lt' h.blk
/-- Nothing that lay has turned. -/
theorem DiskAt.below {own : Own} {w w' : World} {f K : Nat} {d : Dk} (h : DiskAt own w f d K) (hb : Below w.heap.size w w') : DiskAt own w' f d K :=
  h.keep hb.size (fun _ _ => rfl) (fun b p hp => Nat.lt_of_lt_of_le (h.top b p hp) hb.size) (fun b hb' _ _ => hb.block b hb')

/-- What a call on disk f does to memory: only blocks of f's turn. -/
structure Step (own own' : Own) (f : Nat) (w w' : World) : Prop where
  os : w'.os = w.os
  tape : w'.tape = w.tape
  output : w'.output = w.output
  size : w.heap.size ≤ w'.heap.size
  same : ∀ b, b < w.heap.size → own' b = own b
  block : ∀ b, b < w.heap.size → (∀ g, own b ≠ some (f, g)) → w'.heap[b]? = w.heap[b]?
  new : ∀ b, w.heap.size ≤ b → ∀ p, own' b = some p → p.1 = f
theorem Step.refl (own : Own) (f : Nat) (w : World) (ht : ∀ b p, own b = some p → b < w.heap.size) : Step own own f w w :=
  ⟨rfl, rfl, rfl, Nat.le_refl _, fun _ _ => rfl, fun _ _ _ => rfl, fun b hb p hp => absurd (ht b p hp) (by omega)⟩
theorem Step.trans {o1 o2 o3 : Own} {f : Nat} {w1 w2 w3 : World} (h : Step o1 o2 f w1 w2) (k : Step o2 o3 f w2 w3) : Step o1 o3 f w1 w3 where
  os := k.os.trans h.os
  tape := k.tape.trans h.tape
  output := k.output.trans h.output
  size := Nat.le_trans h.size k.size
  same := fun b hb => (k.same b (Nat.lt_of_lt_of_le hb h.size)).trans (h.same b hb)
  block := fun b hb hne => (k.block b (Nat.lt_of_lt_of_le hb h.size) (by rw [h.same b hb]; exact hne)).trans (h.block b hb hne)
  new := fun b hb p hp => by
    rcases Nat.lt_or_ge b w2.heap.size with hh | hh
    · exact h.new b hb p ((k.same b hh).symm.trans hp)
    · exact k.new b hh p hp
/-- Nothing that lay has turned. -/
theorem Step.of_below {own : Own} {f : Nat} {w w' : World} (ht : ∀ b p, own b = some p → b < w.heap.size) (hb : Below w.heap.size w w') : Step own own f w w' :=
  ⟨hb.os, hb.tape, hb.output, hb.size, fun _ _ => rfl, fun b hb' _ => hb.block b hb', fun b hb' p hp => absurd (ht b p hp) (by omega)⟩
/-- One block of f's has turned. -/
theorem Step.of_grown {own : Own} {f g b : Nat} {w w' : World} (ht : ∀ b p, own b = some p → b < w.heap.size) (hb : own b = some (f, g)) (hg : w.grownBy w' (some b)) : Step own own f w w' :=
  ⟨hg.os, hg.tape, hg.output, hg.size, fun _ _ => rfl, fun b' hb' hne => hg.block b' hb' (fun e => hne g (by injection e with e; rw [e]; exact hb)), fun b' hb' p hp => absurd (ht b' p hp) (by omega)⟩
theorem Step.below {own own' : Own} {f B : Nat} {w w' : World} (h : Step own own' f w w') (hB : B ≤ w.heap.size) (hn : ∀ b, b < B → own b = none) : Below B w w' :=
  ⟨h.os, h.tape, h.output, h.size, fun b hb => h.block b (by omega) (fun g => by rw [hn b hb]; simp)⟩
/-- Another disk's memory is kept. -/
theorem Step.other {own own' : Own} {f f' K : Nat} {w w' : World} {d : Dk} (h : Step own own' f w w') (hne : f' ≠ f) (ht : ∀ b p, own' b = some p → b < w'.heap.size) (hd : DiskAt own w f' d K) : DiskAt own' w' f' d K :=
  hd.keep h.size h.same ht fun b hb g hg => h.block b hb fun g' e => hne (by rw [hg] at e; injection e with e; injection e)
end Go.Proofs.YtbljdcdcnnidkaaDoor.Disk
