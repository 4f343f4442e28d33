/-
  How a disk of package disk lies in memory, and how that is kept where other blocks turn: plain facts on worlds.
-/
import Derived.Test.YtebjapinhkeafaaDiskSpec
import Derived.Test.YtebjapinhkeafaaOwn
import Derived.Maps.Ext
namespace Go.Proofs.Ytebjapinhkeafaa.Disk
open Go.RowKit Go.Maps
set_option linter.unusedVariables false
set_option linter.unusedSimpArgs false

theorem lawS : Keyed Try.prog 9 := string_keyed Try.underlying9
theorem lawI : Keyed Try.prog 3 := int_keyed Try.underlying3
/-- Whose a block is: a disk's, and within it a file's. -/
abbrev Own := Nat → Option (Nat × Nat)

/-- A slice that reads as these values, in a block of p's. -/
def RowO (own : Own) (p : Nat × Nat) (w : World) (A : Option Addr) (n : Nat) (vs : List Value) : Prop :=
  vs.length = n ∧ (0 < n → ∃ b o, A = some ⟨b, o, none⟩ ∧ own b = some p ∧ b < w.heap.size ∧ ∀ i v, vs[i]? = some v → w.cell? ⟨b, o + i, none⟩ = some v)
theorem RowO.keep {own own' : Own} {p : Nat × Nat} {w w' : World} {A : Option Addr} {n : Nat} {vs : List Value} (h : RowO own p w A n vs) (hs : w.heap.size ≤ w'.heap.size)
    (ho : ∀ b, b < w.heap.size → own' b = own b) (hk : ∀ b, b < w.heap.size → own b = some p → w'.heap[b]? = w.heap[b]?) : RowO own' p w' A n vs := by
  refine ⟨h.1, fun hn => ?_⟩
  obtain ⟨b, o, e, hp, hb, hc⟩ := h.2 hn
  exact ⟨b, o, e, (ho b hb).trans hp, Nat.lt_of_lt_of_le hb hs, fun i v hv => (World.cell?_of_block (hk b hb hp)).trans (hc i v hv)⟩
theorem RowO.row {own : Own} {p : Nat × Nat} {w : World} {A : Option Addr} {n : Nat} {vs : List Value} (h : RowO own p w A n vs) : Row w w.heap.size A n vs := by
  refine ⟨h.1, fun hn => ?_⟩
  obtain ⟨b, o, e, _, hb, hc⟩ := h.2 hn
  exact ⟨b, o, e, hb, hc⟩
theorem map_keep {w w' : World} {P : Program} {k : TypeId} {R : Value → Option (DataW Value × List MemPlace)} {b n : Nat} {D : DataW Value} (h : w.ownsMap P k R b n D) (hk : w'.heap[b]? = w.heap[b]?) : w'.ownsMap P k R b n D := by
  obtain ⟨es, clock, hb, r⟩ := h
  exact ⟨es, clock, hk.trans hb, r⟩
theorem map_tight {w : World} {P : Program} {k : TypeId} {R : Value → Option (DataW Value × List MemPlace)} {b n : Nat} {D : DataW Value} (h : w.ownsMap P k R b n D) : w.ownsMap P k R b (Maps.size D) D := by
  obtain ⟨es, clock, hb, F, hs, rfl⟩ := h
  exact ⟨es, clock, hb, F, by simp [Maps.size, length_sorted], rfl⟩
theorem row_keep {w w' : World} {base : Nat} {e : TypeId} {size n : Nat} {v : Value} {xs : List Value} (h : w.ownsRow base e size v n xs) (hk : ∀ b, v.ownBlock = some b → w'.heap[b]? = w.heap[b]?) : w'.ownsRow base e size v n xs := by
  refine ⟨h.1, ?_⟩
  rcases h.2 with h | ⟨g, cap, cur, hv, hb, hg, r⟩
  · exact .inl h
  · exact .inr ⟨g, cap, cur, hv, hb, (hk g (by rw [hv]; rfl)).trans hg, r⟩
theorem row_lt {w : World} {base : Nat} {e : TypeId} {size n : Nat} {v : Value} {xs : List Value} (h : w.ownsRow base e size v n xs) (b : Nat) (hb : v.ownBlock = some b) : b < w.heap.size := by
  rcases h.2 with ⟨rfl, _⟩ | ⟨g, cap, cur, rfl, _, hg, _⟩
  · cases hb
  · cases hb
    exact (Array.getElem?_eq_some_iff.1 hg).1

/-- A file lies at block g. -/
structure FileIn (own : Own) (w : World) (f g : Nat) (x : Fl) (v : Value) (ob : Nat) : Prop where
  ok : x.Ok
  blk : Blk w g 67 #[v, .int .i64 (x.was.length : Int), .map (some ob)]
  og : own g = some (f, g)
  oo : own ob = some (f, g)
  row : w.ownsRow 0 5 1 v x.now.length (bvs x.now)
  orow : ∀ b, v.ownBlock = some b → own b = some (f, g)
  map : w.ownsMap Try.prog 3 held ob x.soiled.length (secMap x.soiled)
  olds : ∀ p ∈ x.soiled, ∃ A n c, p.2 = .slice A n c ∧ n ≤ c ∧ c ≤ maxLen ∧ RowO own (f, g) w A n (bvs ((x.was.drop (64 * p.1)).take 64)) ∧ (0 < n → ∀ a, A = some a → v.ownBlock ≠ some a.block ∧ a.block ≠ g)
def FileAt (own : Own) (w : World) (f g : Nat) (x : Fl) : Prop := ∃ v ob, FileIn own w f g x v ob
theorem blk_lt' {w : World} {g : Nat} {t : TypeId} {cs : Array Value} (h : Blk w g t cs) : g < w.heap.size := by
  rcases Nat.lt_or_ge g w.heap.size with hh | hh
  · exact hh
  · unfold Blk at h; rw [Array.getElem?_eq_none hh] at h; cases h
theorem FileIn.keep {own own' : Own} {w w' : World} {f g : Nat} {x : Fl} {v : Value} {ob : Nat} (h : FileIn own w f g x v ob) (hs : w.heap.size ≤ w'.heap.size)
    (ho : ∀ b, b < w.heap.size → own' b = own b) (hk : ∀ b, b < w.heap.size → own b = some (f, g) → w'.heap[b]? = w.heap[b]?) : FileIn own' w' f g x v ob where
  ok := h.ok
  blk := (hk g (blk_lt' h.blk) h.og).trans h.blk
  og := (ho g (blk_lt' h.blk)).trans h.og
  oo := (ho ob h.map.lt).trans h.oo
  row := row_keep h.row fun b hb => hk b (row_lt h.row b hb) (h.orow b hb)
  orow := fun b hb => (ho b (row_lt h.row b hb)).trans (h.orow b hb)
  map := map_keep h.map (hk ob h.map.lt h.oo)
  olds := fun p hp => by
    obtain ⟨A, n, c, e, h1, h2, h3, h4⟩ := h.olds p hp
    exact ⟨A, n, c, e, h1, h2, h3.keep hs ho hk, h4⟩

/-- A disk lies at block f. -/
structure DiskIn (own : Own) (w : World) (f : Nat) (d : Dk) (K nb sb : Nat) (wv : Value) : Prop where
  ok : d.Ok K
  top : ∀ b p, own b = some p → b < w.heap.size
  blk : Blk w f 58 #[.int .i64 d.room, .map (some nb), .map (some sb), wv, .int .i64 d.calls, .int .i64 d.reads, .bool d.failing, .int .i64 d.others]
  of : own f = some (f, f)
  on : own nb = some (f, f)
  os : own sb = some (f, f)
  ne : nb ≠ sb
  mapN : w.ownsMap Try.prog 9 held nb d.N.length (dirMap d.N)
  mapS : w.ownsMap Try.prog 9 held sb d.S.length (dirMap d.S)
  row : w.ownsRow 0 64 3 wv d.wait.length (chgCells d.wait)
  orow : ∀ b, wv.ownBlock = some b → own b = some (f, f)
  files : ∀ g, d.refs g → g ≠ f ∧ FileAt own w f g (d.fl g)
def DiskAt (own : Own) (w : World) (f : Nat) (d : Dk) (K : Nat) : Prop := ∃ nb sb wv, DiskIn own w f d K nb sb wv
theorem DiskIn.keep {own own' : Own} {w w' : World} {f K nb sb : Nat} {d : Dk} {wv : Value} (h : DiskIn own w f d K nb sb wv) (hs : w.heap.size ≤ w'.heap.size)
    (ho : ∀ b, b < w.heap.size → own' b = own b) (ht : ∀ b p, own' b = some p → b < w'.heap.size) (hk : ∀ b, b < w.heap.size → ∀ g, own b = some (f, g) → w'.heap[b]? = w.heap[b]?) : DiskIn own' w' f d K nb sb wv where
  ok := h.ok
  top := ht
  blk := (hk f (blk_lt' h.blk) f h.of).trans h.blk
  of := (ho f (blk_lt' h.blk)).trans h.of
  on := (ho nb h.mapN.lt).trans h.on
  os := (ho sb h.mapS.lt).trans h.os
  ne := h.ne
  mapN := map_keep h.mapN (hk nb h.mapN.lt f h.on)
  mapS := map_keep h.mapS (hk sb h.mapS.lt f h.os)
  row := row_keep h.row fun b hb => hk b (row_lt h.row b hb) f (h.orow b hb)
  orow := fun b hb => (ho b (row_lt h.row b hb)).trans (h.orow b hb)
  files := fun g hg => by
    obtain ⟨h1, v, ob, hf⟩ := h.files g hg
    exact ⟨h1, v, ob, hf.keep hs ho fun b hb hp => hk b hb g hp⟩
theorem DiskAt.keep {own own' : Own} {w w' : World} {f K : Nat} {d : Dk} (h : DiskAt own w f d K) (hs : w.heap.size ≤ w'.heap.size)
    (ho : ∀ b, b < w.heap.size → own' b = own b) (ht : ∀ b p, own' b = some p → b < w'.heap.size) (hk : ∀ b, b < w.heap.size → ∀ g, own b = some (f, g) → w'.heap[b]? = w.heap[b]?) : DiskAt own' w' f d K := by
  obtain ⟨nb, sb, wv, h⟩ := h
  exact ⟨nb, sb, wv, h.keep hs ho ht hk⟩
theorem DiskAt.top {own : Own} {w : World} {f K : Nat} {d : Dk} (h : DiskAt own w f d K) : ∀ b p, own b = some p → b < w.heap.size := by
  obtain ⟨nb, sb, wv, h⟩ := h
  exact h.top
theorem DiskAt.lt {own : Own} {w : World} {f K : Nat} {d : Dk} (h : DiskAt own w f d K) : f < w.heap.size := by
  obtain ⟨nb, sb, wv, h⟩ := h
  exact blk_lt' h.blk
/-- Nothing that lay has turned. -/
theorem DiskAt.below {own : Own} {w w' : World} {f K : Nat} {d : Dk} (h : DiskAt own w f d K) (hb : Below w.heap.size w w') : DiskAt own w' f d K :=
  h.keep hb.size (fun _ _ => rfl) (fun b p hp => Nat.lt_of_lt_of_le (h.top b p hp) hb.size) (fun b hb' _ _ => hb.block b hb')

/-- What a call on disk f does to memory: only blocks of f's turn. -/
structure Step (own own' : Own) (f : Nat) (w w' : World) : Prop where
  os : w'.os = w.os
  tape : w'.tape = w.tape
  output : w'.output = w.output
  size : w.heap.size ≤ w'.heap.size
  same : ∀ b, b < w.heap.size → own' b = own b
  block : ∀ b, b < w.heap.size → (∀ g, own b ≠ some (f, g)) → w'.heap[b]? = w.heap[b]?
  new : ∀ b, w.heap.size ≤ b → ∀ p, own' b = some p → p.1 = f
theorem Step.refl (own : Own) (f : Nat) (w : World) (ht : ∀ b p, own b = some p → b < w.heap.size) : Step own own f w w :=
  ⟨rfl, rfl, rfl, Nat.le_refl _, fun _ _ => rfl, fun _ _ _ => rfl, fun b hb p hp => absurd (ht b p hp) (by omega)⟩
theorem Step.trans {o1 o2 o3 : Own} {f : Nat} {w1 w2 w3 : World} (h : Step o1 o2 f w1 w2) (k : Step o2 o3 f w2 w3) : Step o1 o3 f w1 w3 where
  os := k.os.trans h.os
  tape := k.tape.trans h.tape
  output := k.output.trans h.output
  size := Nat.le_trans h.size k.size
  same := fun b hb => (k.same b (Nat.lt_of_lt_of_le hb h.size)).trans (h.same b hb)
  block := fun b hb hne => (k.block b (Nat.lt_of_lt_of_le hb h.size) (by rw [h.same b hb]; exact hne)).trans (h.block b hb hne)
  new := fun b hb p hp => by
    rcases Nat.lt_or_ge b w2.heap.size with hh | hh
    · exact h.new b hb p ((k.same b hh).symm.trans hp)
    · exact k.new b hh p hp
/-- Nothing that lay has turned. -/
theorem Step.of_below {own : Own} {f : Nat} {w w' : World} (ht : ∀ b p, own b = some p → b < w.heap.size) (hb : Below w.heap.size w w') : Step own own f w w' :=
  ⟨hb.os, hb.tape, hb.output, hb.size, fun _ _ => rfl, fun b hb' _ => hb.block b hb', fun b hb' p hp => absurd (ht b p hp) (by omega)⟩
/-- One block of f's has turned. -/
theorem Step.of_grown {own : Own} {f g b : Nat} {w w' : World} (ht : ∀ b p, own b = some p → b < w.heap.size) (hb : own b = some (f, g)) (hg : w.grownBy w' (some b)) : Step own own f w w' :=
  ⟨hg.os, hg.tape, hg.output, hg.size, fun _ _ => rfl, fun b' hb' hne => hg.block b' hb' (fun e => hne g (by injection e with e; rw [e]; exact hb)), fun b' hb' p hp => absurd (ht b' p hp) (by omega)⟩
theorem Step.below {own own' : Own} {f B : Nat} {w w' : World} (h : Step own own' f w w') (hB : B ≤ w.heap.size) (hn : ∀ b, b < B → own b = none) : Below B w w' :=
  ⟨h.os, h.tape, h.output, h.size, fun b hb => h.block b (by omega) (fun g => by rw [hn b hb]; simp)⟩
/-- Another disk's memory is kept. -/
theorem Step.other {own own' : Own} {f f' K : Nat} {w w' : World} {d : Dk} (h : Step own own' f w w') (hne : f' ≠ f) (ht : ∀ b p, own' b = some p → b < w'.heap.size) (hd : DiskAt own w f' d K) : DiskAt own' w' f' d K :=
  hd.keep h.size h.same ht fun b hb g hg => h.block b hb fun g' e => hne (by rw [hg] at e; injection e with e; injection e)
end Go.Proofs.Ytebjapinhkeafaa.Disk
