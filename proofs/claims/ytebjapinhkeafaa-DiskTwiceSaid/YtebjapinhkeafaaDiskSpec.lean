/-
  Plain facts: directories and sectors as rising lists, and the maps that they read as; what a disk of package disk is, as a value; nothing of a program.
-/
import Derived.Test.YtebjapinhkeafaaMem
import Derived.Maps.OwnSet
import Derived.Maps.RangeWalk
import Derived.Lib.SlMapMerge
import Derived.Lib.SlKeysI
namespace Go.Proofs.Ytebjapinhkeafaa.Disk
open Go.RowKit Go.Maps
set_option linter.unusedVariables false
set_option linter.unusedSimpArgs false

/-- How an element of a map reads: as itself. -/
def held (v : Value) : Option (DataW Value × List MemPlace) := some (.held v, [])
abbrev Nm := List UInt8
abbrev Dir := List (Nm × Nat)
/-- A file's pointer. -/
def fp (g : Nat) : Value := .pointer (some ⟨g, 0, none⟩)
def dirEnt (p : Nm × Nat) : Lit × DataW Value := (.string p.1, .held (fp p.2))
def dirMap (N : Dir) : DataW Value := .map (N.map dirEnt)
def dins (x : Nm × Nat) : Dir → Dir
  | [] => [x]
  | y :: r => if bytesBefore x.1 y.1 then x :: y :: r else y :: dins x r
def ddel (n : Nm) (N : Dir) : Dir := N.filter fun p => !(p.1 == n)
def dput (n : Nm) (g : Nat) (N : Dir) : Dir := dins (n, g) (ddel n N)
def dget (n : Nm) (N : Dir) : Option Nat := (N.find? fun p => p.1 == n).map (·.2)

theorem dirMap_del (n : Nm) (N : Dir) : (dirMap N).del (.string n) = dirMap (ddel n N) := by
  show DataW.map ((N.map dirEnt).filter _) = .map ((N.filter _).map dirEnt)
  rw [List.filter_map]
  rfl
theorem dirMap_ins (x : Nm × Nat) : ∀ N : Dir, DataW.insert (dirEnt x) (N.map dirEnt) = (dins x N).map dirEnt
  | [] => rfl
  | y :: r => by
    show (if bytesBefore x.1 y.1 = true then _ else _) = _
    unfold dins
    split
    · rfl
    · rw [List.map_cons, dirMap_ins x r]
theorem dirMap_put (n : Nm) (g : Nat) (N : Dir) : (dirMap N).put (.string n) (.held (fp g)) = dirMap (dput n g N) := by
  show DataW.map (DataW.insert (dirEnt (n, g)) ((N.map dirEnt).filter _)) = .map ((dput n g N).map dirEnt)
  rw [List.filter_map]
  exact congrArg _ (dirMap_ins (n, g) _)
theorem dirMap_at (n : Nm) (N : Dir) (z : DataW Value) : (dirMap N).atKey (.string n) z = match dget n N with | some g => .held (fp g) | none => z := by
  have e : (N.map dirEnt).find? (fun p => p.1.sameKey (.string n)) = (N.find? fun p => p.1 == n).map dirEnt := by
    rw [List.find?_map]
    rfl
  unfold dget dirMap DataW.atKey
  simp only [e]
  cases N.find? (fun p => p.1 == n) <;> rfl
theorem dirMap_size (N : Dir) : Maps.size (dirMap N) = N.length := by simp [dirMap, Maps.size]
theorem dirMap_keys (N : Dir) : strKeys (dirMap N) = N.map (·.1) := by
  show (N.map dirEnt).map _ = _
  rw [List.map_map]
  rfl
theorem dget_mem {n : Nm} {N : Dir} {g : Nat} (h : dget n N = some g) : (n, g) ∈ N := by
  unfold dget at h
  obtain ⟨p, hp, rfl⟩ := Option.map_eq_some_iff.1 h
  have := List.find?_some hp
  have hm := List.mem_of_find?_eq_some hp
  simp only [beq_iff_eq] at this
  subst this
  exact hm
theorem dget_none {n : Nm} {N : Dir} (h : dget n N = none) : ∀ p ∈ N, p.1 ≠ n := by
  intro p hp e
  have h' := (Option.map_eq_none_iff.1 h)
  have := List.find?_eq_none.1 h' p hp
  simp [e] at this
theorem ddel_len (n : Nm) (N : Dir) : (ddel n N).length ≤ N.length := List.length_filter_le _ _
theorem dins_len (x : Nm × Nat) : ∀ N : Dir, (dins x N).length = N.length + 1
  | [] => rfl
  | y :: r => by
    unfold dins
    split
    · rfl
    · simp [dins_len x r]
theorem dput_len (n : Nm) (g : Nat) (N : Dir) : (dput n g N).length ≤ N.length + 1 := by
  rw [dput, dins_len]
  have := ddel_len n N
  omega
theorem dins_mem {x p : Nm × Nat} : ∀ {N : Dir}, p ∈ dins x N ↔ p = x ∨ p ∈ N
  | [] => by simp [dins]
  | y :: r => by
    unfold dins
    split
    · simp
    · rw [List.mem_cons, dins_mem, List.mem_cons]
      constructor
      · rintro (h | h | h) <;> simp [h]
      · rintro (h | h | h) <;> simp [h]
theorem dput_mem {n : Nm} {g : Nat} {p : Nm × Nat} {N : Dir} (h : p ∈ dput n g N) : p = (n, g) ∨ p ∈ N := by
  rcases dins_mem.1 h with h | h
  · exact .inl h
  · exact .inr (List.mem_filter.1 h).1
theorem ddel_mem {n : Nm} {p : Nm × Nat} {N : Dir} (h : p ∈ ddel n N) : p ∈ N := (List.mem_filter.1 h).1

/-! Sectors. -/
abbrev Secs := List (Nat × Value)
def secEnt (p : Nat × Value) : Lit × DataW Value := (.int .i64 (p.1 : Int), .held p.2)
def secMap (L : Secs) : DataW Value := .map (L.map secEnt)
def sins (x : Nat × Value) : Secs → Secs
  | [] => [x]
  | y :: r => if x.1 < y.1 then x :: y :: r else y :: sins x r
def sput (s : Nat) (v : Value) (L : Secs) : Secs := sins (s, v) (L.filter fun p => !decide (p.1 = s))
def shas (s : Nat) (L : Secs) : Bool := L.any fun p => decide (p.1 = s)
def sget (s : Nat) (L : Secs) : Option Value := (L.find? fun p => decide (p.1 = s)).map (·.2)
theorem sec_same (p : Nat × Value) (s : Nat) : (secEnt p).1.sameKey (.int .i64 (s : Int)) = decide (p.1 = s) := by
  show decide (IntKind.i64 = IntKind.i64 ∧ (p.1 : Int) = (s : Int)) = _
  by_cases h : p.1 = s
  · simp [h]
  · have : ¬ ((p.1 : Int) = (s : Int)) := by omega
    simp [h, this]
theorem secMap_ins (x : Nat × Value) : ∀ L : Secs, DataW.insert (secEnt x) (L.map secEnt) = (sins x L).map secEnt
  | [] => rfl
  | y :: r => by
    show (if decide ((x.1 : Int) < (y.1 : Int)) = true then _ else _) = _
    unfold sins
    by_cases h : x.1 < y.1
    · rw [if_pos (by simp; omega), if_pos h]
      rfl
    · rw [if_neg (by simp; omega), if_neg h, List.map_cons, secMap_ins x r]
theorem secMap_put (s : Nat) (v : Value) (L : Secs) : (secMap L).put (.int .i64 (s : Int)) (.held v) = secMap (sput s v L) := by
  show DataW.map (DataW.insert (secEnt (s, v)) ((L.map secEnt).filter _)) = .map ((sput s v L).map secEnt)
  rw [List.filter_map]
  have e : (L.filter ((fun p : Lit × DataW Value => !p.1.sameKey (.int .i64 (s : Int))) ∘ secEnt)) = L.filter fun p => !decide (p.1 = s) := by
    apply List.filter_congr
    intro p _
    show (!(secEnt p).1.sameKey _) = _
    rw [sec_same]
  rw [e]
  exact congrArg _ (secMap_ins (s, v) _)
theorem secMap_has (s : Nat) (L : Secs) : Maps.has (secMap L) (.int .i64 (s : Int)) = shas s L := by
  show (L.map secEnt).any _ = _
  rw [List.any_map]
  unfold shas
  congr 1
  funext p
  exact sec_same p s
theorem secMap_at (s : Nat) (L : Secs) (z : DataW Value) : (secMap L).atKey (.int .i64 (s : Int)) z = match sget s L with | some v => .held v | none => z := by
  have e : (L.map secEnt).find? (fun p => p.1.sameKey (.int .i64 (s : Int))) = (L.find? fun p => decide (p.1 = s)).map secEnt := by
    rw [List.find?_map]
    congr 2
    funext p
    exact sec_same p s
  unfold sget secMap DataW.atKey
  simp only [e]
  cases L.find? (fun p => decide (p.1 = s)) <;> rfl
theorem secMap_size (L : Secs) : Maps.size (secMap L) = L.length := by simp [secMap, Maps.size]
theorem secMap_keys (L : Secs) : intKeys (secMap L) = L.map fun p => (p.1 : Int) := by
  show (L.map secEnt).map _ = _
  rw [List.map_map]
  rfl
theorem sins_mem {x p : Nat × Value} : ∀ {L : Secs}, p ∈ sins x L ↔ p = x ∨ p ∈ L
  | [] => by simp [sins]
  | y :: r => by
    unfold sins
    split
    · simp
    · rw [List.mem_cons, sins_mem, List.mem_cons]
      constructor
      · rintro (h | h | h) <;> simp [h]
      · rintro (h | h | h) <;> simp [h]
theorem sins_rising (x : Nat × Value) : ∀ {L : Secs}, L.Pairwise (fun p q => p.1 < q.1) → (∀ p ∈ L, p.1 ≠ x.1) → (sins x L).Pairwise (fun p q => p.1 < q.1)
  | [], _, _ => by simp [sins]
  | y :: r, h, hne => by
    obtain ⟨h1, h2⟩ := List.pairwise_cons.1 h
    have hy := hne y (by simp)
    unfold sins
    split
    · rename_i hlt
      refine List.pairwise_cons.2 ⟨fun q hq => ?_, h⟩
      rcases List.mem_cons.1 hq with rfl | hq
      · exact hlt
      · have := h1 q hq; omega
    · refine List.pairwise_cons.2 ⟨fun q hq => ?_, sins_rising x h2 (fun p hp => hne p (by simp [hp]))⟩
      rcases sins_mem.1 hq with rfl | hq
      · omega
      · exact h1 q hq
theorem shas_mem {s : Nat} {L : Secs} : shas s L = true ↔ s ∈ L.map (·.1) := by
  unfold shas
  rw [List.any_eq_true, List.mem_map]
  constructor
  · rintro ⟨p, hp, h⟩; exact ⟨p, hp, by simpa using h⟩
  · rintro ⟨p, hp, h⟩; exact ⟨p, hp, by simpa using h⟩
theorem sput_new {s : Nat} {L : Secs} (v : Value) (h : shas s L = false) : sput s v L = sins (s, v) L := by
  unfold sput
  rw [List.filter_eq_self.2]
  intro p hp
  have : ¬ s ∈ L.map (·.1) := by rw [← shas_mem]; simp [h]
  have : p.1 ≠ s := fun e => this (List.mem_map.2 ⟨p, hp, e⟩)
  simp [this]
theorem sins_len (x : Nat × Value) : ∀ L : Secs, (sins x L).length = L.length + 1
  | [] => rfl
  | y :: r => by
    unfold sins
    split
    · rfl
    · simp [sins_len x r]
theorem rising_len : ∀ (L : Secs) (a m : Nat), L.Pairwise (fun p q => p.1 < q.1) → (∀ p ∈ L, a ≤ p.1 ∧ p.1 < m) → L.length ≤ m - a
  | [], _, _, _, _ => by simp
  | y :: r, a, m, h, hb => by
    obtain ⟨h1, h2⟩ := List.pairwise_cons.1 h
    have hy := hb y (by simp)
    have := rising_len r (y.1 + 1) m h2 (fun p hp => ⟨h1 p hp, (hb p (by simp [hp])).2⟩)
    rw [List.length_cons]
    omega

/-! Files, changes, disks. -/
/-- A file: its bytes, those that were synced, and the dirty sectors, each with the slice that keeps its bytes of then. -/
structure Fl where
  now : List UInt8
  was : List UInt8
  soiled : Secs
structure Fl.Ok (x : Fl) : Prop where
  le : x.was.length ≤ x.now.length
  max : x.now.length ≤ 4194304
  rising : x.soiled.Pairwise fun p q => p.1 < q.1
  within : ∀ p ∈ x.soiled, 64 * p.1 < 4194304
  clean : ∀ i, i < x.was.length → shas (i / 64) x.soiled = false → x.now[i]? = x.was[i]?
theorem Fl.Ok.count {x : Fl} (h : x.Ok) : x.soiled.length ≤ 65536 := by
  have := rising_len x.soiled 0 65536 h.rising (fun p hp => ⟨by omega, by have := h.within p hp; omega⟩)
  omega
structure Chg where
  gone : ByteArray
  name : ByteArray
  file : Option Nat
def Chg.ptr (c : Chg) : Value := .pointer (c.file.map fun g => ⟨g, 0, none⟩)
def Chg.cells (c : Chg) : List Value := [.string c.gone, .string c.name, c.ptr]
def Chg.on (c : Chg) (N : Dir) : Dir :=
  match c.file with
  | some g => dput c.name.data.toList g (ddel c.gone.data.toList N)
  | none => ddel c.gone.data.toList N
def chgCells (l : List Chg) : List Value := l.flatMap Chg.cells
theorem chgCells_len (l : List Chg) : (chgCells l).length = l.length * 3 := by
  induction l with
  | nil => rfl
  | cons c r ih =>
    show (c.cells ++ chgCells r).length = _
    rw [List.length_append, ih, List.length_cons, Nat.add_mul, Nat.add_comm]
    rfl
theorem chgCells_snoc (l : List Chg) (c : Chg) : chgCells (l ++ [c]) = chgCells l ++ c.cells := by simp [chgCells]
structure Dk where
  room : Int
  N : Dir
  S : Dir
  wait : List Chg
  calls : Int
  reads : Int
  failing : Bool
  others : Int
  fl : Nat → Fl
/-- The files that a disk reaches. -/
def Dk.refs (d : Dk) (g : Nat) : Prop := g ∈ d.N.map (·.2) ∨ g ∈ d.S.map (·.2) ∨ ∃ c ∈ d.wait, c.file = some g
structure Dk.Ok (d : Dk) (K : Nat) : Prop where
  big : K ≤ 1073741824
  room : 0 ≤ d.room ∧ d.room ≤ 4194304
  N : d.N.length ≤ K
  S : d.S.length + d.wait.length ≤ K
  names : ∀ c ∈ d.wait, c.gone.size ≤ maxLen ∧ c.name.size ≤ maxLen
  calls : 0 ≤ d.calls ∧ d.calls ≤ K
  reads : 0 ≤ d.reads ∧ d.reads ≤ K * 4194304
  others : 0 ≤ d.others ∧ d.others ≤ 9223372036854775807
def upd (fl : Nat → Fl) (g : Nat) (x : Fl) : Nat → Fl := fun j => if j = g then x else fl j
end Go.Proofs.Ytebjapinhkeafaa.Disk
