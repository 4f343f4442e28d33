/-
  Texts one behind the other: SegFace, NumShelf, NumText.
-/
import Derived.Shelf.Strconv.Itoa4
import Derived.Test.YtkdnfikaodkhnaaDoorProg
import Derived.Lib.AppendIntMem
import Derived.BigGuard
import Derived.BigCall
import Derived.Test.YtkdnfikaodkhnaaDoorG22
import Derived.Test.YtkdnfikaodkhnaaDoorG24
/-
  What a segment is to those that use it: a predicate, and what each call does to it. The laws of layer 8 are walked against this face alone; the package's own code is held against it elsewhere.
-/
namespace Go.Proofs.YtkdnfikaodkhnaaDoor.Seg
open Go.RowKit Go.Proofs.YtkdnfikaodkhnaaDoor.Disk Go.Proofs.YtkdnfikaodkhnaaDoor.Rec
set_option linter.unusedVariables false
set_option linter.unusedSimpArgs false

/-- Nothing that is no disk's and no segment's was changed. -/
structure Fr (own own' : Own) (w w' : World) : Prop where
  os : w'.os = w.os
  tape : w'.tape = w.tape
  output : w'.output = w.output
  size : w.heap.size ≤ w'.heap.size
  same : ∀ b, b < w.heap.size → own' b = own b
  block : ∀ b, b < w.heap.size → own b = none → w'.heap[b]? = w.heap[b]?
theorem Fr.refl (own : Own) (w : World) : Fr own own w w := ⟨rfl, rfl, rfl, Nat.le_refl _, fun _ _ => rfl, fun _ _ _ => rfl⟩
theorem Fr.trans {o1 o2 o3 : Own} {w1 w2 w3 : World} (h : Fr o1 o2 w1 w2) (k : Fr o2 o3 w2 w3) : Fr o1 o3 w1 w3 :=
  ⟨k.os.trans h.os, k.tape.trans h.tape, k.output.trans h.output, Nat.le_trans h.size k.size, fun b hb => (k.same b (Nat.lt_of_lt_of_le hb h.size)).trans (h.same b hb),
   fun b hb ho => (k.block b (Nat.lt_of_lt_of_le hb h.size) ((h.same b hb).trans ho)).trans (h.block b hb ho)⟩
theorem Fr.of_below {own : Own} {w w' : World} (h : Below w.heap.size w w') : Fr own own w w' := ⟨h.os, h.tape, h.output, h.size, fun _ _ => rfl, fun b hb _ => h.block b hb⟩
theorem Fr.of_step {own own' : Own} {f : Nat} {w w' : World} (h : Step own own' f w w') : Fr own own' w w' := ⟨h.os, h.tape, h.output, h.size, h.same, fun b hb ho => h.block b hb (fun g e => by rw [ho] at e; cases e)⟩
theorem Grow.fr {own own' : Own} {base k n : Nat} {w w' : World} {e : TypeId} {v : Value} {xs : List Value} (h : Grow own w base e k v n xs) (hs : Fr own own' w w') : Grow own' w' base e k v n xs := by
  have hlt : ∀ g, v.ownBlock = some g → g < w.heap.size := fun g hg => (h.row.lt g hg).2
  exact ⟨owns_same h.row fun g hg => hs.block g (hlt g hg) (h.free g hg), fun g hg => (hs.same g (hlt g hg)).trans (h.free g hg)⟩
theorem free_fr {own own' : Own} {w w' : World} {A : Option Addr} {n : Nat} {vs : List Value} (h : Free own w A n vs) (hs : Fr own own' w w') : Free own' w' A n vs := by
  refine ⟨h.1, fun hn => ?_⟩
  obtain ⟨b, o, rfl, ho, hb, hc⟩ := h.2 hn
  exact ⟨b, o, rfl, (hs.same b hb).trans ho, Nat.lt_of_lt_of_le hb hs.size, fun i v hv => (World.cell?_of_block (a := ⟨b, o + i, none⟩) (hs.block b hb ho)).trans (hc i v hv)⟩
theorem free_at {own : Own} {w : World} {b o n : Nat} {vs : List Value} (h : Free own w (some ⟨b, o, none⟩) n vs) (i : Nat) (v : Value) (hv : vs[i]? = some v) : w.cell? ⟨b, o + i, none⟩ = some v := by
  have hi : 0 < n := by
    have := (List.getElem?_eq_some_iff.1 hv).1
    have := h.1
    omega
  obtain ⟨b', o', e, _, _, hc⟩ := h.2 hi
  injection e with e
  injection e with e1 e2
  subst e1 e2
  exact hc i v hv
/-- A segment, as values: its disk, itself, whose it is, its file. -/
structure Sv where
  f : Nat
  sg : Nat
  id : Nat
  num : Nat
  rm : Int
  N : Dir
  S : Dir
  wt : List Chg
  g : Nat
  x : Fl
  K : Nat
/-- Records that may be appended. -/
def Fit (id : Nat) (l : List Rc) : Prop := ∀ x ∈ l, x.May ∧ x.Fits ∧ x.tenant = id
def ptr (a : Nat) : Value := .pointer (some ⟨a, 0, none⟩)
/-- Nothing was changed but this disk and this segment: other segments, on other disks, are as they were. -/
structure FrS (SG : Own → World → World → Sv → Prop) (f sg : Nat) (own own' : Own) (w w' : World) : Prop where
  fr : Fr own own' w w'
  other : ∀ (w2 : World) (v2 : Sv), v2.f ≠ f → v2.sg ≠ sg → v2.f ≠ sg → v2.sg ≠ f → SG own w2 w v2 → SG own' w2 w' v2
/-- The face. -/
structure Face (SG : Own → World → World → Sv → Prop) : Prop where
  all : ∀ {own : Own} {w0 w w' : World} {v : Sv}, SG own w0 w v → Below w.heap.size w w' → SG own w0 w' v
  top : ∀ {own : Own} {w0 w : World} {v : Sv}, SG own w0 w v → ∀ b p, own b = some p → b < w.heap.size
  below : ∀ {own : Own} {w0 w : World} {v : Sv}, SG own w0 w v → Below w0.heap.size w0 w
  held : ∀ {own : Own} {w0 w : World} {v : Sv}, SG own w0 w v → ∃ d, Held own w0 w v.f d v.K ∧ St d v.rm v.N v.S v.wt [(v.g, v.x)] ∧ dget (segName v.id v.num) v.N = some v.g
  create : ∀ {own : Own} {w0 w : World} {f K id num : Nat} {d : Dk} {rm : Int}, Tabs w0 → Held own w0 w f d K → St d rm [] [] [] [] → id < 4294967296 → num ≤ 1099511627776 → K + 8 ≤ 1073741824 →
    Calls Tryd.prog 9 #[ptr f, .int .u32 (id : Int), .int .i64 (num : Int)] w fun e w' => ∃ own' sg g K', e = .returned (.tuple #[ptr sg, .int .i64 0]) ∧ K' ≤ K + 8 ∧
      SG own' w0 w' ⟨f, sg, id, num, rm, [(segName id num, g)], [(segName id num, g)], [], g, emptyFl, K'⟩ ∧ FrS SG f sg own own' w w'
  append_ok : ∀ {own : Own} {w0 w : World} {v : Sv} {A : Option Addr} {n c : Nat} {g0 l : List Rc}, Tabs w0 → SG own w0 w v → v.x.now = cat g0 → Fit v.id g0 → Fit v.id l → l.length = n → 0 < n → n ≤ 1000 → n ≤ c → c ≤ maxLen → Free own w A (n * 6) (rflat l) →
    ((cat (g0 ++ l)).length : Int) ≤ v.rm → v.K + 8 ≤ 1073741824 →
    Calls Tryd.prog 12 #[ptr v.sg, .slice A n c] w fun e w' => ∃ own' P cp L K', e = .returned (.tuple #[.slice P n cp, .int .i64 0]) ∧ n ≤ cp ∧ cp ≤ maxLen ∧ Free own' w' P n (ivs ((List.range n).map fun j => (((cat g0).length + (cat (l.take j)).length : Nat) : Int))) ∧ K' ≤ v.K + 8 ∧
      SG own' w0 w' { v with x := ⟨cat (g0 ++ l), v.x.was, L⟩, K := K' } ∧ FrS SG v.f v.sg own own' w w'
  append_form : ∀ {own : Own} {w0 w : World} {v : Sv} {A : Option Addr} {n c : Nat} {g0 l : List Rc}, Tabs w0 → SG own w0 w v → v.x.now = cat g0 → Fit v.id g0 → ¬ (0 < n ∧ Fit v.id l) → (∀ y ∈ l, y.Ok) → l.length = n → n ≤ 1000 → n ≤ c → c ≤ maxLen → Free own w A (n * 6) (rflat l) → v.K + 8 ≤ 1073741824 →
    Calls Tryd.prog 12 #[ptr v.sg, .slice A n c] w fun e w' => ∃ own' P cp K', e = .returned (.tuple #[.slice P 0 cp, .int .i64 5]) ∧ K' ≤ v.K + 8 ∧ SG own' w0 w' { v with K := K' } ∧ FrS SG v.f v.sg own own' w w'
  append_corrupt : ∀ {own : Own} {w0 w : World} {v : Sv} {A : Option Addr} {n c : Nat} {l : List Rc}, Tabs w0 → SG own w0 w v → endOf 0 (frontFrom 0 v.x.now) ≠ v.x.now.length ∨ ownOf v.id (frontFrom 0 v.x.now) ≠ frontFrom 0 v.x.now → Fit v.id l → l.length = n → 0 < n → n ≤ 1000 → n ≤ c → c ≤ maxLen → Free own w A (n * 6) (rflat l) → v.K + 8 ≤ 1073741824 →
    Calls Tryd.prog 12 #[ptr v.sg, .slice A n c] w fun e w' => ∃ own' P cp K', e = .returned (.tuple #[.slice P 0 cp, .int .i64 4]) ∧ K' ≤ v.K + 8 ∧ SG own' w0 w' { v with K := K' } ∧ FrS SG v.f v.sg own own' w w'
  records : ∀ {own : Own} {w0 w : World} {v : Sv}, Tabs w0 → SG own w0 w v → v.K + 8 ≤ 1073741824 →
    Calls Tryd.prog 14 #[ptr v.sg] w fun e w' => ∃ own' A c K', e = .returned (.slice A (ownOf v.id (frontFrom 0 v.x.now)).length c) ∧ (ownOf v.id (frontFrom 0 v.x.now)).length ≤ c ∧ c ≤ maxLen ∧ Free own' w' A ((ownOf v.id (frontFrom 0 v.x.now)).length * 7) (flat (ownOf v.id (frontFrom 0 v.x.now))) ∧ K' ≤ v.K + 8 ∧
      SG own' w0 w' { v with K := K' } ∧ FrS SG v.f v.sg own own' w w'
  name : ∀ {w0 : World} (id num : Nat) (w : World), Tabs w0 → Below w0.heap.size w0 w → id < 4294967296 → num ≤ 1099511627776 → Calls Tryd.prog 19 #[.int .u32 (id : Int), .int .i64 (num : Int)] w fun e w' => e = .returned (.string (str (segName id num))) ∧ Below w.heap.size w w'
  name_none : ∀ (id : Nat) (num : Int) (w : World), id < 4294967296 → num < 0 ∨ 1099511627776 < num → -9223372036854775808 ≤ num ∧ num ≤ 9223372036854775807 → Calls Tryd.prog 19 #[.int .u32 (id : Int), .int .i64 num] w fun e w' => e = .returned (.string ⟨#[]⟩) ∧ Below w.heap.size w w'
  create_range : ∀ {own : Own} {w0 w : World} {f K id : Nat} {num : Int} {d : Dk} {rm : Int}, Tabs w0 → Held own w0 w f d K → St d rm [] [] [] [] → id < 4294967296 → num < 0 ∨ 1099511627776 < num → -9223372036854775808 ≤ num ∧ num ≤ 9223372036854775807 → K + 8 ≤ 1073741824 →
    Calls Tryd.prog 9 #[ptr f, .int .u32 (id : Int), .int .i64 num] w fun e w' => ∃ own' d' K' u, e = .returned (.tuple #[u, .int .i64 6]) ∧ K' ≤ K + 8 ∧ Held own' w0 w' f d' K' ∧ St d' rm [] [] [] [] ∧ Fr own own' w w'
  open_none : ∀ {own : Own} {w0 w : World} {f K id num : Nat} {d : Dk} {rm : Int}, Tabs w0 → Held own w0 w f d K → St d rm [] [] [] [] → id < 4294967296 → num ≤ 1099511627776 → K + 8 ≤ 1073741824 →
    Calls Tryd.prog 21 #[ptr f, .int .u32 (id : Int), .int .i64 (num : Int)] w fun e w' => ∃ own' d' K' u, e = .returned (.tuple #[u, .int .i64 1]) ∧ K' ≤ K + 8 ∧ Held own' w0 w' f d' K' ∧ St d' rm [] [] [] [] ∧ Fr own own' w w'
  create_exists : ∀ {own : Own} {w0 w : World} {v : Sv}, Tabs w0 → SG own w0 w v → v.id < 4294967296 → v.num ≤ 1099511627776 → v.K + 8 ≤ 1073741824 →
    Calls Tryd.prog 9 #[ptr v.f, .int .u32 (v.id : Int), .int .i64 (v.num : Int)] w fun e w' => ∃ u, e = .returned (.tuple #[u, .int .i64 7]) ∧ Below w0.heap.size w0 w'
  nil_append : ∀ (A : Option Addr) (n c : Nat) (w : World), Calls Tryd.prog 12 #[.pointer none, .slice A n c] w fun e w' => ∃ u, e = .returned (.tuple #[u, .int .i64 10]) ∧ Below w.heap.size w w'
  nil_read : ∀ (a : Int) (w : World), Calls Tryd.prog 25 #[.pointer none, .int .i64 a] w fun e w' => ∃ z, e = .returned (.tuple #[.agg (Rc.vals z), .int .i64 10]) ∧ Below w.heap.size w w'
  nil_records : ∀ (w : World), Calls Tryd.prog 14 #[.pointer none] w fun e w' => ∃ A c, e = .returned (.slice A 0 c) ∧ Below w.heap.size w w'
  nil_sync : ∀ (w : World), Calls Tryd.prog 26 #[.pointer none] w fun e w' => e = .returned (.int .i64 10) ∧ Below w.heap.size w w'
  nil_size : ∀ (w : World), Calls Tryd.prog 13 #[.pointer none] w fun e w' => e = .returned (.int .i64 0) ∧ Below w.heap.size w w'
  open_ : ∀ {own : Own} {w0 w : World} {f K id num g : Nat} {d : Dk} {rm : Int} {N S : Dir} {wt : List Chg} {x : Fl}, Tabs w0 → Held own w0 w f d K → St d rm N S wt [(g, x)] → N = [(segName id num, g)] → id < 4294967296 → num ≤ 1099511627776 → K + 8 ≤ 1073741824 →
    Calls Tryd.prog 21 #[ptr f, .int .u32 (id : Int), .int .i64 (num : Int)] w fun e w' => ∃ own' sg K', e = .returned (.tuple #[ptr sg, .int .i64 0]) ∧ K' ≤ K + 8 ∧ SG own' w0 w' ⟨f, sg, id, num, rm, N, S, wt, g, x, K'⟩ ∧ FrS SG f sg own own' w w'
  read_ok : ∀ {own : Own} {w0 w : World} {v : Sv} {a n : Nat} {x : Rc}, Tabs w0 → SG own w0 w v → a < v.x.now.length → dec (v.x.now.drop a) = .ok x n → x.tenant = v.id → v.K + 8 ≤ 1073741824 →
    Calls Tryd.prog 25 #[ptr v.sg, .int .i64 (a : Int)] w fun e w' => ∃ own' K', e = .returned (.tuple #[.agg x.vals, .int .i64 0]) ∧ K' ≤ v.K + 8 ∧ SG own' w0 w' { v with K := K' } ∧ FrS SG v.f v.sg own own' w w'
  read_range : ∀ {own : Own} {w0 w : World} {v : Sv} {a : Int}, Tabs w0 → SG own w0 w v → a < 0 ∨ (v.x.now.length : Int) ≤ a → -9223372036854775808 ≤ a ∧ a ≤ 9223372036854775807 → v.K + 8 ≤ 1073741824 →
    Calls Tryd.prog 25 #[ptr v.sg, .int .i64 a] w fun e w' => ∃ own' K' z, e = .returned (.tuple #[.agg (Rc.vals z), .int .i64 6]) ∧ K' ≤ v.K + 8 ∧ SG own' w0 w' { v with K := K' } ∧ FrS SG v.f v.sg own own' w w'
  read_bad : ∀ {own : Own} {w0 w : World} {v : Sv} {a : Nat}, Tabs w0 → SG own w0 w v → a < v.x.now.length → (∀ x n, dec (v.x.now.drop a) = .ok x n → x.tenant ≠ v.id) → v.K + 8 ≤ 1073741824 →
    Calls Tryd.prog 25 #[ptr v.sg, .int .i64 (a : Int)] w fun e w' => ∃ own' K' z, e = .returned (.tuple #[.agg (Rc.vals z), .int .i64 4]) ∧ K' ≤ v.K + 8 ∧ SG own' w0 w' { v with K := K' } ∧ FrS SG v.f v.sg own own' w w'
  sync : ∀ {own : Own} {w0 w : World} {v : Sv}, Tabs w0 → SG own w0 w v → v.K + 8 ≤ 1073741824 →
    Calls Tryd.prog 26 #[ptr v.sg] w fun e w' => ∃ own' K', e = .returned (.int .i64 0) ∧ K' ≤ v.K + 8 ∧ SG own' w0 w' { v with x := ⟨v.x.now, v.x.now, []⟩, K := K' } ∧ FrS SG v.f v.sg own own' w w'
  size : ∀ {own : Own} {w0 w : World} {v : Sv}, SG own w0 w v → Calls Tryd.prog 13 #[ptr v.sg] w fun e w' => e = .returned (.int .i64 (v.x.now.length : Int)) ∧ Below w.heap.size w w'
theorem Face.append_other {SG : Own → World → World → Sv → Prop} (F : Face SG) {own : Own} {w0 w : World} {v : Sv} {A : Option Addr} {n c : Nat} {l : List Rc} (hT : Tabs w0) (h : SG own w0 w v) (hne : ownOf v.id (frontFrom 0 v.x.now) ≠ frontFrom 0 v.x.now) (hf : Fit v.id l) (hl : l.length = n) (hn : 0 < n) (hn2 : n ≤ 1000) (hc : n ≤ c) (hc2 : c ≤ maxLen) (hr : Free own w A (n * 6) (rflat l)) (hK : v.K + 8 ≤ 1073741824) :
    Calls Tryd.prog 12 #[ptr v.sg, .slice A n c] w fun e w' => ∃ u k, e = .returned (.tuple #[u, .int .i64 k]) ∧ Below w0.heap.size w0 w' :=
  (F.append_corrupt hT h (.inr hne) hf hl hn hn2 hc hc2 hr hK).mono fun e w' ⟨own', P, cp, K', he, _, hs, _⟩ => ⟨_, 4, he, F.below hs⟩
end Go.Proofs.YtkdnfikaodkhnaaDoor.Seg
/-
  The contracts of Go's library that the proofs of this seat use, laid at the numbers of its program.
-/
namespace Go.Proofs.YtkdnfikaodkhnaaDoor
open Go.Shelf
def Shelf.fint_ren : Go.Shelf.Ren := ⟨fun | 173 => 42 | 246 => 59 | 283 => 72 | 284 => 73 | 285 => 74 | 286 => 75 | 129 => 81 | 317 => 80 | 318 => 82 | 319 => 83 | 320 => 84 | 337 => 87 | 338 => 88 | n => n, fun | 2 => 2 | 3 => 3 | 9 => 9 | 4 => 4 | 171 => 113 | 0 => 0 | 53 => 31 | 37 => 43 | 5 => 5 | 173 => 116 | 212 => 123 | 51 => 22 | 20 => 20 | 213 => 124 | 46 => 101 | 232 => 129 | 233 => 130 | n => n, fun | 17 => 0 | 18 => 2 | 19 => 3 | n => n⟩
theorem Shelf.fint : Go.Proofs.LaysM.n173 Tryd.prog Shelf.fint_ren := {
  mixed := by kernel_rfl,
  f129 := Tryd.func81.trans (congrArg some (by kernel_rfl)),
  f173 := Tryd.func42.trans (congrArg some (by kernel_rfl)),
  f246 := Tryd.func59.trans (congrArg some (by kernel_rfl)),
  f283 := Tryd.func72.trans (congrArg some (by kernel_rfl)),
  f284 := Tryd.func73.trans (congrArg some (by kernel_rfl)),
  f285 := Tryd.func74.trans (congrArg some (by kernel_rfl)),
  f286 := Tryd.func75.trans (congrArg some (by kernel_rfl)),
  f317 := Tryd.func80.trans (congrArg some (by kernel_rfl)),
  f318 := Tryd.func82.trans (congrArg some (by kernel_rfl)),
  f319 := Tryd.func83.trans (congrArg some (by kernel_rfl)),
  f320 := Tryd.func84.trans (congrArg some (by kernel_rfl)),
  f337 := Tryd.func87.trans (congrArg some (by kernel_rfl)),
  f338 := Tryd.func88.trans (congrArg some (by kernel_rfl)),
  t0 := Tryd.underlying0,
  a0 := Tryd.isAgg0,
  z0 := Tryd.sizeOf0,
  v0 := Tryd.zeroValue0,
  t2 := Tryd.underlying2,
  a2 := Tryd.isAgg2,
  z2 := Tryd.sizeOf2,
  v2 := Tryd.zeroValue2,
  t3 := Tryd.underlying3,
  a3 := Tryd.isAgg3,
  z3 := Tryd.sizeOf3,
  v3 := Tryd.zeroValue3,
  t4 := Tryd.underlying4,
  a4 := Tryd.isAgg4,
  z4 := Tryd.sizeOf4,
  v4 := Tryd.zeroValue4,
  t5 := Tryd.underlying5,
  a5 := Tryd.isAgg5,
  z5 := Tryd.sizeOf5,
  v5 := Tryd.zeroValue5,
  t9 := Tryd.underlying9,
  a9 := Tryd.isAgg9,
  z9 := Tryd.sizeOf9,
  v9 := Tryd.zeroValue9,
  t20 := Tryd.underlying20,
  a20 := Tryd.isAgg20,
  z20 := Tryd.sizeOf20,
  v20 := Tryd.zeroValue20,
  t37 := Tryd.underlying43,
  a37 := Tryd.isAgg43,
  z37 := Tryd.sizeOf43,
  v37 := Tryd.zeroValue43,
  t46 := Tryd.underlying101,
  a46 := Tryd.isAgg101,
  z46 := Tryd.sizeOf101,
  v46 := Tryd.zeroValue101,
  t51 := Tryd.underlying22,
  a51 := Tryd.isAgg22,
  z51 := Tryd.sizeOf22,
  v51 := Tryd.zeroValue22,
  t53 := Tryd.underlying31,
  a53 := Tryd.isAgg31,
  z53 := Tryd.sizeOf31,
  v53 := Tryd.zeroValue31,
  t171 := Tryd.underlying113,
  a171 := Tryd.isAgg113,
  z171 := Tryd.sizeOf113,
  v171 := Tryd.zeroValue113,
  t173 := Tryd.underlying116,
  a173 := Tryd.isAgg116,
  z173 := Tryd.sizeOf116,
  v173 := Tryd.zeroValue116,
  t212 := Tryd.underlying123,
  a212 := Tryd.isAgg123,
  z212 := Tryd.sizeOf123,
  v212 := Tryd.zeroValue123,
  t213 := Tryd.underlying124,
  a213 := Tryd.isAgg124,
  z213 := Tryd.sizeOf124,
  t232 := Tryd.underlying129,
  a232 := Tryd.isAgg129,
  z232 := Tryd.sizeOf129,
  v232 := Tryd.zeroValue129,
  t233 := Tryd.underlying130,
  a233 := Tryd.isAgg130,
  z233 := Tryd.sizeOf130,
  v233 := Tryd.zeroValue130,
  g17 := by kernel_rfl,
  g18 := by kernel_rfl,
  g19 := by kernel_rfl,
  i0 := by kernel_rfl,
  i2 := by kernel_rfl,
  i3 := by kernel_rfl,
  i4 := by kernel_rfl,
  i5 := by kernel_rfl,
  i9 := by kernel_rfl,
  i20 := by kernel_rfl,
  i37 := by kernel_rfl,
  i46 := by kernel_rfl,
  i51 := by kernel_rfl,
  i53 := by kernel_rfl,
  i171 := by kernel_rfl,
  i173 := by kernel_rfl,
  i212 := by kernel_rfl,
  i232 := by kernel_rfl,
  i233 := by kernel_rfl,
  m17 := by kernel_rfl,
  m18 := by kernel_rfl,
  m19 := by kernel_rfl }
end Go.Proofs.YtkdnfikaodkhnaaDoor
/-
  Proved: what FormatUint and FormatInt of package strconv return at base 10: the digits of a number that is not negative.
-/
namespace Go.Proofs.YtkdnfikaodkhnaaDoor.Seg
open Go.RowKit Go.Sort Go.Proofs.YtkdnfikaodkhnaaDoor.Rec
set_option linter.unusedVariables false
set_option linter.unusedSimpArgs false

theorem dec_digits (n : Nat) : Lib.decDigits n = digits n := by
  induction n using Nat.strongRecOn with
  | _ n ih =>
    rw [Lib.decDigits]
    by_cases h : n < 10
    · rw [dif_pos h, digits_low h]
    · rw [dif_neg h, digits_high h, ih (n / 10) (by omega)]
theorem grow_below (w : World) (k : Nat) (os : Array Obj) : Below w.heap.size w (grow (w.drewN k) os) := Lib.below_grow w.heap.size w (Nat.le_refl _) k os
set_option maxHeartbeats 6400000 in
set_option maxRecDepth 100000 in
theorem uint10_any (u : Nat) (hu64 : u < 18446744073709551616) (w : World) (htab : Lib.TabIs Tryd.prog w "internal/strconv.uint64pow10" .u64 Lib.pow10Tab) :
    Calls Tryd.prog 58 #[.int .u64 (u : Int), .int .i64 10] w fun e w' => e = .returned (.string (str (digits u))) ∧ Below w.heap.size w w' := by
  have L := Shelf.fint
  by_cases hs : u < 100
  · have CS := Lib.hid (fun W : World => Any.internal_strconv_small { L with } u hs W)
    rw [dec_digits] at CS
    clear L
    go_enter Tryd.func58, Tryd.ntmps58
    go_wp2_with (go_at_call 72; refine (CS.out _).mono ?_; rintro e w' ⟨rfl, rfl⟩)
    go_ret
    exact ⟨rfl, Below.refl _ _⟩
  · have hu1 : 1 ≤ u := by omega
    have hnd20 : Lib.nDigits u ≤ 20 := by have := Lib.numDigits_eq u hu1 hu64; split at this <;> omega
    have hal : Tryd.prog.arrayLen 113 = 24 := by kernel_rfl
    have hsl : ∀ W, (Instr.sliceAt 113 (.pointer (some ⟨w.heap.size, 0, none⟩)) none (some (.int .i64 (Lib.nDigits u : Int))) none).run Tryd.prog W = .ok (.slice (some ⟨w.heap.size, 0, none⟩) (Lib.nDigits u) 24) W := fun W => by
      rw [run_sliceAt_array_h W 113 ⟨w.heap.size, 0, none⟩ (by kernel_rfl) .i64 (Lib.nDigits u : Int) (by omega) (by rw [hal]; omega)]
      go_simp
    have hH0 := Lib.holds_zero0 w 113 (Lib.nDigits u) (by omega)
    have hfmt := Any.internal_strconv_formatBase10 { L with } w.heap.size 0 24 u (Array.replicate (Lib.nDigits u) 0) (w.alloc (.cells Lib.zeros24 113)) hH0 (by rw [Array.size_replicate]; exact Lib.lt_pow_nDigits u) hu64 (by rw [Array.size_replicate]; omega)
    rw [Array.size_replicate] at hfmt
    have HH0 := Lib.hid hH0
    have HFMT := Lib.hid hfmt
    have CD := Lib.hid (Any.internal_strconv_numDigits { L with } u hu1 hu64 _ (Lib.tabIs_alloc htab (.cells Lib.zeros24 113)))
    have iu : (100 : Int) ≤ (u : Int) := by omega
    clear hH0 hal hfmt L
    go_enter Tryd.func58, Tryd.ntmps58
    go_wp2_with (first
      | (go_at_call 73; refine CD.out.mono ?_; rintro e w' ⟨rfl, rfl⟩)
      | (go_at_call 74; fail))
    go_at_call 74
    refine HFMT.out.mono ?_
    rintro e w' ⟨rfl, k, v', dk, rfl, hF⟩
    have hcv : (convert 43 9 (.slice (some ⟨w.heap.size, 0, none⟩) (Lib.nDigits u) 24)).run Tryd.prog ((putRow (fun (b : UInt8) => Value.int .u8 (b.toNat : Int)) (w.alloc (.cells Lib.zeros24 113)) w.heap.size 0 dk).drewN k) = .ok (.string ⟨(Lib.decDigits u).toArray⟩) ((putRow (fun (b : UInt8) => Value.int .u8 (b.toNat : Int)) (w.alloc (.cells Lib.zeros24 113)) w.heap.size 0 dk).drewN k) := by
      have h := run_convert_bytes_back (P := Tryd.prog) ((putRow (fun (b : UInt8) => Value.int .u8 (b.toNat : Int)) (w.alloc (.cells Lib.zeros24 113)) w.heap.size 0 dk).drewN k) 43 9 5 ⟨w.heap.size, 0, none⟩ 24 (Lib.decDigits u) Tryd.underlying43 Tryd.underlying5 Tryd.underlying9 (fun j hj => by
        rw [Lib.row_is_numeral hF j hj, Lib.add_plain, World.cell?_drewN]
        exact cell?_putRow (fun (b : UInt8) => Value.int .u8 (b.toNat : Int)) _ w.heap.size 0 _ dk HH0.out (by rw [hF.size, Array.size_replicate]) j (by rw [hF.size]; rw [Lib.decDigits_length] at hj; exact hj))
      rw [Lib.decDigits_length] at h
      exact h
    go_wp2
    go_ret
    obtain ⟨os, eo⟩ := Lib.fin_at w (.cells Lib.zeros24 113) dk k 0
    refine ⟨?_, ?_⟩
    · rw [dec_digits]; rfl
    · rw [eo]; exact grow_below w k os
theorem formatUint_any (u : Nat) (hu64 : u < 18446744073709551616) (w : World) (htab : Lib.TabIs Tryd.prog w "internal/strconv.uint64pow10" .u64 Lib.pow10Tab) :
    Calls Tryd.prog 41 #[.int .u64 (u : Int), .int .i64 10] w fun e w' => e = .returned (.string (str (digits u))) ∧ Below w.heap.size w w' := by
  have CU := Lib.hid (uint10_any u hu64 w htab)
  clear htab
  go_enter Tryd.func41, Tryd.ntmps41
  go_wp2_with (go_at_call 58; refine CU.out.mono ?_; rintro e w1 ⟨rfl, hb⟩)
  go_ret
  exact ⟨rfl, hb⟩
theorem formatInt_any (u : Nat) (hu : u ≤ 9223372036854775807) (w : World) (htab : Lib.TabIs Tryd.prog w "internal/strconv.uint64pow10" .u64 Lib.pow10Tab) :
    Calls Tryd.prog 42 #[.int .i64 (u : Int), .int .i64 10] w fun e w' => e = .returned (.string (str (digits u))) ∧ Below w.heap.size w w' := by
  refine (Any.strconv_FormatInt_10 Shelf.fint (u : Int) (by omega) (by omega) w htab).mono ?_
  rintro e w' ⟨rfl, k, os, rfl⟩
  rw [Lib.itoa_nonneg, dec_digits]
  exact ⟨rfl, grow_below w k os⟩
set_option maxRecDepth 100000 in
set_option maxHeartbeats 2000000 in
theorem name_any (id num : Nat) (w : World) (htab : Lib.TabIs Tryd.prog w "internal/strconv.uint64pow10" .u64 Lib.pow10Tab) (hid : id < 4294967296) (hn : num ≤ 1099511627776) :
    Calls Tryd.prog 19 #[.int .u32 (id : Int), .int .i64 (num : Int)] w fun e w' => e = .returned (.string (str (segName id num))) ∧ Below w.heap.size w w' := by
  have CU := Lib.hid (formatUint_any id (by omega) w htab)
  have CI : Hid (∀ w1, Below w.heap.size w w1 → Calls Tryd.prog 42 #[.int .i64 (num : Int), .int .i64 10] w1 fun e w' => e = .returned (.string (str (digits num))) ∧ Below w1.heap.size w1 w') := fun w1 hb => formatInt_any num (by omega) w1 (tab_below htab hb)
  have HE : Hid (((⟨#[116]⟩ : ByteArray) ++ str (digits id) ++ (⟨#[46]⟩ : ByteArray)) ++ str (digits num) = str (segName id num)) := by
    apply ByteArray.ext
    simp [str, segName]
  have d1 := digits_length 9 id (by omega)
  have d2 := digits_length 12 num (by omega)
  obtain ⟨s1, h1⟩ : ∃ s, s = str (digits id) := ⟨_, rfl⟩
  obtain ⟨s2, h2⟩ : ∃ s, s = str (digits num) := ⟨_, rfl⟩
  have z1 : s1.size ≤ 10 := by rw [h1, str_size]; exact d1
  have z2 : s2.size ≤ 13 := by rw [h2, str_size]; exact d2
  rw [← h1] at CU HE
  rw [← h2] at CI HE
  clear htab d1 d2 h1 h2
  go_enter Tryd.func19, Tryd.ntmps19
  go_wp2_with (first
    | (go_at_call 41; refine CU.out.mono ?_; rintro e w1 ⟨rfl, hb1⟩; have HB1 := Lib.hid hb1; clear hb1)
    | (go_at_call 42; refine (CI.out _ HB1.out).mono ?_; rintro e w2 ⟨rfl, hb2⟩; have HB2 := Lib.hid (HB1.out.trans (hb2.mono HB1.out.size)); clear hb2))
  go_ret
  refine ⟨?_, HB2.out⟩
  rw [← HE.out]
  rfl
set_option maxRecDepth 100000 in
theorem nameNone_any (id : Nat) (num : Int) (w : World) (hn : num < 0 ∨ 1099511627776 < num) (hb : -9223372036854775808 ≤ num ∧ num ≤ 9223372036854775807) :
    Calls Tryd.prog 19 #[.int .u32 (id : Int), .int .i64 num] w fun e w' => e = .returned (.string ⟨#[]⟩) ∧ w' = w := by
  by_cases h : num < 0
  · clear hn hb
    go_enter Tryd.func19, Tryd.ntmps19
    go_wp2
    go_ret
    exact ⟨rfl, rfl⟩
  · have h2 : 1099511627776 < num := by omega
    have h3 : 0 ≤ num := by omega
    clear hn hb
    go_enter Tryd.func19, Tryd.ntmps19
    go_wp2
    go_ret
    exact ⟨rfl, rfl⟩
end Go.Proofs.YtkdnfikaodkhnaaDoor.Seg
