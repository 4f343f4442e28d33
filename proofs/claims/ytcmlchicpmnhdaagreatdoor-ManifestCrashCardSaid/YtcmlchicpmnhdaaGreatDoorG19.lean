/-
  Texts one behind the other: DiskMem, DiskLeaf.
-/
import Derived.Maps.Ext
import Derived.Lib.MinMax
import Derived.Lib.Hide
import Derived.Test.YtcmlchicpmnhdaaGreatDoorG03
import Derived.Test.YtcmlchicpmnhdaaGreatDoorG18
/-
  How a disk of package disk lies in memory, and how that is kept where other blocks turn: plain facts on worlds.
-/
namespace Go.Proofs.YtcmlchicpmnhdaaGreatDoor.Disk
open Go.RowKit Go.Maps
set_option linter.unusedVariables false
set_option linter.unusedSimpArgs false

theorem lawS : Keyed Tryz.prog 9 := string_keyed Tryz.underlying9
theorem lawI : Keyed Tryz.prog 3 := int_keyed Tryz.underlying3
/-- Whose a block is: a disk's, and within it a file's. -/
abbrev Own := Nat → Option (Nat × Nat)

/-- A slice that reads as these values, in a block of p's. -/
def RowO (own : Own) (p : Nat × Nat) (w : World) (A : Option Addr) (n : Nat) (vs : List Value) : Prop :=
  vs.length = n ∧ (0 < n → ∃ b o, A = some ⟨b, o, none⟩ ∧ own b = some p ∧ b < w.heap.size ∧ ∀ i v, vs[i]? = some v → w.cell? ⟨b, o + i, none⟩ = some v)
theorem RowO.keep {own own' : Own} {p : Nat × Nat} {w w' : World} {A : Option Addr} {n : Nat} {vs : List Value} (h : RowO own p w A n vs) (hs : w.heap.size ≤ w'.heap.size)
    (ho : ∀ b, b < w.heap.size → own' b = own b) (hk : ∀ b, b < w.heap.size → own b = some p → w'.heap[b]? = w.heap[b]?) : RowO own' p w' A n vs := by
  refine ⟨h.1, fun hn => ?_⟩
  obtain ⟨b, o, e, hp, hb, hc⟩ := h.2 hn
  exact ⟨b, o, e, (ho b hb).trans hp, Nat.lt_of_lt_of_le hb hs, fun i v hv => (World.cell?_of_block (hk b hb hp)).trans (hc i v hv)⟩
theorem RowO.row {own : Own} {p : Nat × Nat} {w : World} {A : Option Addr} {n : Nat} {vs : List Value} (h : RowO own p w A n vs) : Row w w.heap.size A n vs := by
  refine ⟨h.1, fun hn => ?_⟩
  obtain ⟨b, o, e, _, hb, hc⟩ := h.2 hn
  exact ⟨b, o, e, hb, hc⟩
theorem map_keep {w w' : World} {P : Program} {k : TypeId} {R : Value → Option (DataW Value × List MemPlace)} {b n : Nat} {D : DataW Value} (h : w.ownsMap P k R b n D) (hk : w'.heap[b]? = w.heap[b]?) : w'.ownsMap P k R b n D := by
  obtain ⟨es, clock, hb, r⟩ := h
  exact ⟨es, clock, hk.trans hb, r⟩
theorem map_tight {w : World} {P : Program} {k : TypeId} {R : Value → Option (DataW Value × List MemPlace)} {b n : Nat} {D : DataW Value} (h : w.ownsMap P k R b n D) : w.ownsMap P k R b (Maps.size D) D := by
  obtain ⟨es, clock, hb, F, hs, rfl⟩ := h
  exact ⟨es, clock, hb, F, by simp [Maps.size, length_sorted], rfl⟩
theorem row_keep {w w' : World} {base : Nat} {e : TypeId} {size n : Nat} {v : Value} {xs : List Value} (h : w.ownsRow base e size v n xs) (hk : ∀ b, v.ownBlock = some b → w'.heap[b]? = w.heap[b]?) : w'.ownsRow base e size v n xs := by
  refine ⟨h.1, ?_⟩
  rcases h.2 with h | ⟨g, cap, cur, hv, hb, hg, r⟩
  · exact .inl h
  · exact .inr ⟨g, cap, cur, hv, hb, (hk g (by rw [hv]; rfl)).trans hg, r⟩
theorem row_lt {w : World} {base : Nat} {e : TypeId} {size n : Nat} {v : Value} {xs : List Value} (h : w.ownsRow base e size v n xs) (b : Nat) (hb : v.ownBlock = some b) : b < w.heap.size := by
  rcases h.2 with ⟨rfl, _⟩ | ⟨g, cap, cur, rfl, _, hg, _⟩
  · cases hb
  · cases hb
    exact (Array.getElem?_eq_some_iff.1 hg).1

/-- A file lies at block g. -/
structure FileIn (own : Own) (w : World) (f g : Nat) (x : Fl) (v : Value) (ob : Nat) : Prop where
  ok : x.Ok
  blk : Blk w g 78 #[v, .int .i64 (x.was.length : Int), .map (some ob)]
  og : own g = some (f, g)
  oo : own ob = some (f, g)
  row : w.ownsRow 0 5 1 v x.now.length (bvs x.now)
  orow : ∀ b, v.ownBlock = some b → own b = some (f, g)
  map : w.ownsMap Tryz.prog 3 held ob x.soiled.length (secMap x.soiled)
  olds : ∀ p ∈ x.soiled, ∃ A n c, p.2 = .slice A n c ∧ n ≤ c ∧ c ≤ maxLen ∧ RowO own (f, g) w A n (bvs ((x.was.drop (64 * p.1)).take 64)) ∧ (0 < n → ∀ a, A = some a → v.ownBlock ≠ some a.block ∧ a.block ≠ g)
def FileAt (own : Own) (w : World) (f g : Nat) (x : Fl) : Prop := ∃ v ob, FileIn own w f g x v ob
theorem blk_lt' {w : World} {g : Nat} {t : TypeId} {cs : Array Value} (h : Blk w g t cs) : g < w.heap.size := by
  rcases Nat.lt_or_ge g w.heap.size with hh | hh
  · exact hh
  · unfold Blk at h; rw [Array.getElem?_eq_none hh] at h; cases h
theorem FileIn.keep {own own' : Own} {w w' : World} {f g : Nat} {x : Fl} {v : Value} {ob : Nat} (h : FileIn own w f g x v ob) (hs : w.heap.size ≤ w'.heap.size)
    (ho : ∀ b, b < w.heap.size → own' b = own b) (hk : ∀ b, b < w.heap.size → own b = some (f, g) → w'.heap[b]? = w.heap[b]?) : FileIn own' w' f g x v ob where
  ok := h.ok
  blk := (hk g (blk_lt' h.blk) h.og).trans h.blk
  og := (ho g (blk_lt' h.blk)).trans h.og
  oo := (ho ob h.map.lt).trans h.oo
  row := row_keep h.row fun b hb => hk b (row_lt h.row b hb) (h.orow b hb)
  orow := fun b hb => (ho b (row_lt h.row b hb)).trans (h.orow b hb)
  map := map_keep h.map (hk ob h.map.lt h.oo)
  olds := fun p hp => by
    obtain ⟨A, n, c, e, h1, h2, h3, h4⟩ := h.olds p hp
    exact ⟨A, n, c, e, h1, h2, h3.keep hs ho hk, h4⟩

/-- A disk lies at block f. -/
structure DiskIn (own : Own) (w : World) (f : Nat) (d : Dk) (K nb sb : Nat) (wv : Value) : Prop where
  ok : d.Ok K
  top : ∀ b p, own b = some p → b < w.heap.size
  blk : Blk w f 58 #[.int .i64 d.room, .map (some nb), .map (some sb), wv, .int .i64 d.calls, .int .i64 d.reads, .bool d.failing, .int .i64 d.others]
  of : own f = some (f, f)
  on : own nb = some (f, f)
  os : own sb = some (f, f)
  ne : nb ≠ sb
  mapN : w.ownsMap Tryz.prog 9 held nb d.N.length (dirMap d.N)
  mapS : w.ownsMap Tryz.prog 9 held sb d.S.length (dirMap d.S)
  row : w.ownsRow 0 71 3 wv d.wait.length (chgCells d.wait)
  orow : ∀ b, wv.ownBlock = some b → own b = some (f, f)
  files : ∀ g, d.refs g → g ≠ f ∧ FileAt own w f g (d.fl g)
def DiskAt (own : Own) (w : World) (f : Nat) (d : Dk) (K : Nat) : Prop := ∃ nb sb wv, DiskIn own w f d K nb sb wv
theorem DiskIn.keep {own own' : Own} {w w' : World} {f K nb sb : Nat} {d : Dk} {wv : Value} (h : DiskIn own w f d K nb sb wv) (hs : w.heap.size ≤ w'.heap.size)
    (ho : ∀ b, b < w.heap.size → own' b = own b) (ht : ∀ b p, own' b = some p → b < w'.heap.size) (hk : ∀ b, b < w.heap.size → ∀ g, own b = some (f, g) → w'.heap[b]? = w.heap[b]?) : DiskIn own' w' f d K nb sb wv where
  ok := h.ok
  top := ht
  blk := (hk f (blk_lt' h.blk) f h.of).trans h.blk
  of := (ho f (blk_lt' h.blk)).trans h.of
  on := (ho nb h.mapN.lt).trans h.on
  os := (ho sb h.mapS.lt).trans h.os
  ne := h.ne
  mapN := map_keep h.mapN (hk nb h.mapN.lt f h.on)
  mapS := map_keep h.mapS (hk sb h.mapS.lt f h.os)
  row := row_keep h.row fun b hb => hk b (row_lt h.row b hb) f (h.orow b hb)
  orow := fun b hb => (ho b (row_lt h.row b hb)).trans (h.orow b hb)
  files := fun g hg => by
    obtain ⟨h1, v, ob, hf⟩ := h.files g hg
    exact ⟨h1, v, ob, hf.keep hs ho fun b hb hp => hk b hb g hp⟩
theorem DiskAt.keep {own own' : Own} {w w' : World} {f K : Nat} {d : Dk} (h : DiskAt own w f d K) (hs : w.heap.size ≤ w'.heap.size)
    (ho : ∀ b, b < w.heap.size → own' b = own b) (ht : ∀ b p, own' b = some p → b < w'.heap.size) (hk : ∀ b, b < w.heap.size → ∀ g, own b = some (f, g) → w'.heap[b]? = w.heap[b]?) : DiskAt own' w' f d K := by
  obtain ⟨nb, sb, wv, h⟩ := h
  exact ⟨nb, sb, wv, h.keep hs ho ht hk⟩
theorem DiskAt.top {own : Own} {w : World} {f K : Nat} {d : Dk} (h : DiskAt own w f d K) : ∀ b p, own b = some p → b < w.heap.size := by
  obtain ⟨nb, sb, wv, h⟩ := h
  exact h.top
theorem DiskAt.lt {own : Own} {w : World} {f K : Nat} {d : Dk} (h : DiskAt own w f d K) : f < w.heap.size := by
  obtain ⟨nb, sb, wv, h⟩ := h
  exact blk_lt' h.blk
/-- Nothing that lay has turned. -/
theorem DiskAt.below {own : Own} {w w' : World} {f K : Nat} {d : Dk} (h : DiskAt own w f d K) (hb : Below w.heap.size w w') : DiskAt own w' f d K :=
  h.keep hb.size (fun _ _ => rfl) (fun b p hp => Nat.lt_of_lt_of_le (h.top b p hp) hb.size) (fun b hb' _ _ => hb.block b hb')

/-- What a call on disk f does to memory: only blocks of f's turn. -/
structure Step (own own' : Own) (f : Nat) (w w' : World) : Prop where
  os : w'.os = w.os
  tape : w'.tape = w.tape
  output : w'.output = w.output
  size : w.heap.size ≤ w'.heap.size
  same : ∀ b, b < w.heap.size → own' b = own b
  block : ∀ b, b < w.heap.size → (∀ g, own b ≠ some (f, g)) → w'.heap[b]? = w.heap[b]?
  new : ∀ b, w.heap.size ≤ b → ∀ p, own' b = some p → p.1 = f
theorem Step.refl (own : Own) (f : Nat) (w : World) (ht : ∀ b p, own b = some p → b < w.heap.size) : Step own own f w w :=
  ⟨rfl, rfl, rfl, Nat.le_refl _, fun _ _ => rfl, fun _ _ _ => rfl, fun b hb p hp => absurd (ht b p hp) (by omega)⟩
theorem Step.trans {o1 o2 o3 : Own} {f : Nat} {w1 w2 w3 : World} (h : Step o1 o2 f w1 w2) (k : Step o2 o3 f w2 w3) : Step o1 o3 f w1 w3 where
  os := k.os.trans h.os
  tape := k.tape.trans h.tape
  output := k.output.trans h.output
  size := Nat.le_trans h.size k.size
  same := fun b hb => (k.same b (Nat.lt_of_lt_of_le hb h.size)).trans (h.same b hb)
  block := fun b hb hne => (k.block b (Nat.lt_of_lt_of_le hb h.size) (by rw [h.same b hb]; exact hne)).trans (h.block b hb hne)
  new := fun b hb p hp => by
    rcases Nat.lt_or_ge b w2.heap.size with hh | hh
    · exact h.new b hb p ((k.same b hh).symm.trans hp)
    · exact k.new b hh p hp
/-- Nothing that lay has turned. -/
theorem Step.of_below {own : Own} {f : Nat} {w w' : World} (ht : ∀ b p, own b = some p → b < w.heap.size) (hb : Below w.heap.size w w') : Step own own f w w' :=
  ⟨hb.os, hb.tape, hb.output, hb.size, fun _ _ => rfl, fun b hb' _ => hb.block b hb', fun b hb' p hp => absurd (ht b p hp) (by omega)⟩
/-- One block of f's has turned. -/
theorem Step.of_grown {own : Own} {f g b : Nat} {w w' : World} (ht : ∀ b p, own b = some p → b < w.heap.size) (hb : own b = some (f, g)) (hg : w.grownBy w' (some b)) : Step own own f w w' :=
  ⟨hg.os, hg.tape, hg.output, hg.size, fun _ _ => rfl, fun b' hb' hne => hg.block b' hb' (fun e => hne g (by injection e with e; rw [e]; exact hb)), fun b' hb' p hp => absurd (ht b' p hp) (by omega)⟩
theorem Step.below {own own' : Own} {f B : Nat} {w w' : World} (h : Step own own' f w w') (hB : B ≤ w.heap.size) (hn : ∀ b, b < B → own b = none) : Below B w w' :=
  ⟨h.os, h.tape, h.output, h.size, fun b hb => h.block b (by omega) (fun g => by rw [hn b hb]; simp)⟩
/-- Another disk's memory is kept. -/
theorem Step.other {own own' : Own} {f f' K : Nat} {w w' : World} {d : Dk} (h : Step own own' f w w') (hne : f' ≠ f) (ht : ∀ b p, own' b = some p → b < w'.heap.size) (hd : DiskAt own w f' d K) : DiskAt own' w' f' d K :=
  hd.keep h.size h.same ht fun b hb g hg => h.block b hb fun g' e => hne (by rw [hg] at e; injection e with e; injection e)
end Go.Proofs.YtcmlchicpmnhdaaGreatDoor.Disk
/-
  Proved: what roomOf, New, begin, newFile, isNameByte, isName, sectorsOf and partOf of package disk return.
-/
namespace Go.Proofs.YtcmlchicpmnhdaaGreatDoor.Disk
open Go.RowKit Go.Maps
set_option linter.unusedVariables false
set_option linter.unusedSimpArgs false

def room (n : Int) : Int := min (max n 0) 4194304
theorem roomOf_any (n : Int) (w : World) : Calls Tryz.prog 23 #[.int .i64 n] w fun e w' => e = .returned (.int .i64 (room n)) ∧ w' = w := by
  go_enter Tryz.func23, Tryz.ntmps23
  go_wp2
  go_ret
  exact ⟨rfl, rfl⟩
theorem begin_nil (w : World) : Calls Tryz.prog 77 #[.pointer none] w fun e w' => e = .returned (.int .i64 1) ∧ w' = w := by
  go_enter Tryz.func77, Tryz.ntmps77
  go_wp2
  go_ret
  exact ⟨rfl, rfl⟩
def nameByte (c : UInt8) : Bool := (97 ≤ c.toNat && c.toNat ≤ 122) || (65 ≤ c.toNat && c.toNat ≤ 90) || (48 ≤ c.toNat && c.toNat ≤ 57) || c.toNat == 46
theorem isNameByte_any (c : UInt8) (w : World) : Calls Tryz.prog 95 #[.int .u8 (c.toNat : Int)] w fun e w' => e = .returned (.bool (nameByte c)) ∧ w' = w := by
  have hc : c.toNat < 256 := c.toNat_lt
  unfold nameByte
  generalize c.toNat = k at *
  go_enter Tryz.func95, Tryz.ntmps95
  go_wp2
  all_goals go_ret
  all_goals (refine ⟨congrArg (fun b => Ending.returned (Value.bool b)) ?_, rfl⟩; rw [Bool.eq_iff_iff]; simp; omega)
def sectors (a n : Nat) : Nat := if n = 0 then 0 else (a + n - 1) / 64 - a / 64 + 1
theorem sectorsOf_any (a n : Nat) (w : World) (ha : a ≤ 4194304) (hn : n ≤ 1099511627776) : Calls Tryz.prog 97 #[.int .i64 (a : Int), .int .i64 (n : Int)] w fun e w' => e = .returned (.int .i64 ((sectors a n : Nat) : Int)) ∧ w' = w := by
  by_cases h0 : n = 0
  · subst h0
    go_enter Tryz.func97, Tryz.ntmps97
    go_wp2
    go_ret
    exact ⟨rfl, rfl⟩
  · obtain ⟨S, hS⟩ : ∃ S, S = sectors a n := ⟨_, rfl⟩
    have hS' : Hid ((S : Int) = ((a : Int) + (n : Int) - 1) / 64 - (a : Int) / 64 + 1) := by
      show _ = _
      rw [hS, sectors, if_neg h0]
      omega
    rw [← hS]
    clear hS
    have h1 : ((n : Int) == 0) = false := by simp; omega
    go_enter Tryz.func97, Tryz.ntmps97
    go_wp2
    go_ret
    exact ⟨by rw [hS'.out]; rfl, rfl⟩
def partOf (i : Nat) (keep : List Bool) (torn : Int) : Nat := if (i : Int) = torn then 32 else if keep.getD i false = true then 64 else 0
def lvs (l : List Bool) : List Value := l.map Value.bool
theorem partOf_any (i : Nat) (A : Option Addr) (n c : Nat) (keep : List Bool) (torn : Int) (B : Nat) (w : World) (hR : Row w B A n (lvs keep)) :
    Calls Tryz.prog 31 #[.int .i64 (i : Int), .slice A n c, .int .i64 torn] w fun e w' => e = .returned (.int .i64 ((partOf i keep torn : Nat) : Int)) ∧ w' = w := by
  have hl : keep.length = n := by have := hR.1; rwa [lvs, List.length_map] at this
  by_cases ht : (i : Int) = torn
  · subst ht
    have hp : partOf i keep (i : Int) = 32 := if_pos rfl
    rw [hp]
    clear hR hp
    go_enter Tryz.func31, Tryz.ntmps31
    go_wp2
    go_ret
    exact ⟨rfl, rfl⟩
  · have h1 : ((i : Int) == torn) = false := by simp [ht]
    by_cases hin : i < n
    · obtain ⟨b, o, rfl, _, hcell⟩ := hR.2 (by omega)
      have hb := hcell i (.bool (keep.getD i false)) (by rw [lvs, List.getElem?_map, List.getD_eq_getElem?_getD, List.getElem?_eq_getElem (by omega)]; rfl)
      have hp : partOf i keep torn = if keep.getD i false = true then 64 else 0 := if_neg ht
      rw [hp]
      generalize keep.getD i false = x at *
      clear hR hp hcell
      cases x
      · go_enter Tryz.func31, Tryz.ntmps31
        go_wp2
        go_ret
        exact ⟨rfl, rfl⟩
      · go_enter Tryz.func31, Tryz.ntmps31
        go_wp2
        go_ret
        exact ⟨rfl, rfl⟩
    · have hp : partOf i keep torn = 0 := by
        rw [partOf, if_neg ht, List.getD_eq_getElem?_getD, List.getElem?_eq_none (by omega)]
        rfl
      rw [hp]
      clear hR hp
      go_enter Tryz.func31, Tryz.ntmps31
      go_wp2
      go_ret
      exact ⟨rfl, rfl⟩
/-- A name that may be. -/
def goodName (n : List UInt8) : Bool := decide (0 < n.length) && decide (n.length ≤ 32) && n.all nameByte
theorem index_string_at {P : Program} {T : TypeId} (ht : P.underlying T = some .string) (s : ByteArray) (k : IntKind) (v : Int) (i : Nat) (hv : v = (i : Int)) (hi : i < s.size) (w : World) :
    (Instr.index T (.string s) (.int k v)).run P w = .ok (.int .u8 ((s.data.toList.getD i 0).toNat : Int)) w := by
  subst hv
  rw [run_index_string w T s k (i : Int) ht, dif_pos ⟨by omega, by omega⟩]
  congr 3
  rw [List.getD_eq_getElem?_getD, Array.getElem?_toList, Array.getElem?_eq_getElem (by simpa using hi)]
  rfl
theorem isName_any (s : ByteArray) (w : World) (hs : s.size ≤ maxLen) : Calls Tryz.prog 78 #[.string s] w fun e w' => e = .returned (.bool (goodName s.data.toList)) ∧ w' = w := by
  unfold maxLen at hs
  have hl : s.data.toList.length = s.size := by simp
  have hl0 := hl
  unfold goodName
  rw [hl]
  generalize hL : s.data.toList = L at *
  clear hl
  by_cases h0 : s.size = 0
  · have h1 : ((s.size : Int) == 0) = true := by simp [h0]
    go_enter Tryz.func78, Tryz.ntmps78
    go_wp2
    go_ret
    exact ⟨by simp [h0], rfl⟩
  · have h1 : ((s.size : Int) == 0) = false := beq_eq_false_iff_ne.2 (by omega)
    by_cases h32 : 32 < s.size
    · have HD : Hid (decide (s.size ≤ 32) = false) := decide_eq_false (by omega)
      go_enter Tryz.func78, Tryz.ntmps78
      go_wp2
      go_ret
      exact ⟨by rw [HD.out]; simp, rfl⟩
    · rw [decide_eq_true (by omega : 0 < s.size), decide_eq_true (by omega : s.size ≤ 32)]
      have hidx := fun (i : Nat) (hi : i < s.size) (w : World) => index_string_at Tryz.underlying9 s .i64 (i : Int) i rfl hi w
      rw [hL] at hidx
      clear h0
      go_enter Tryz.func78, Tryz.ntmps78
      go_wp2
      go_loopw [14] (fun v wr => ∃ k : Nat, k ≤ s.size ∧ v = .int .i64 k ∧ wr = w ∧ (L.take k).all nameByte = true) (fun v _ => s.size - (RowKit.intOf v).toNat)
      case atStart => exact ⟨0, Nat.zero_le _, rfl, rfl, by simp⟩
      case round =>
        obtain ⟨k, hk, rfl, rfl, hall⟩ := hrel
        by_cases hlt : k < s.size
        · have hi := hidx k hlt wr
          have cB := isNameByte_any (L.getD k 0)
          have hsn : L.take (k + 1) = L.take k ++ [L.getD k 0] := getD_snoc L k (by omega)
          have hall' : L.all nameByte = true → nameByte (L.getD k 0) = true := fun h => List.all_eq_true.1 h _ (by rw [List.getD_eq_getElem?_getD, List.getElem?_eq_getElem (by omega)]; exact List.getElem_mem _)
          generalize L.getD k 0 = ch at *
          cases hx : nameByte ch
          · have hno : L.all nameByte = false := by
              cases h : L.all nameByte
              · rfl
              · rw [hall' h] at hx; cases hx
            rw [hx] at cB
            have HN := Lib.hid hno
            clear hsn hall' hx hall hidx hno
            go_wp2_with (go_at_call 95; refine (cB _).mono ?_; rintro e w' ⟨rfl, rfl⟩)
            go_ret
            exact ⟨by rw [HN.out]; rfl, rfl⟩
          · rw [hx] at cB
            have HN : Hid ((L.take (k + 1)).all nameByte = true) := by show _ = _; rw [hsn, List.all_append, hall]; simp [hx]
            clear hsn hall' hx hall hidx
            go_wp2_with (go_at_call 95; refine (cB _).mono ?_; rintro e w' ⟨rfl, rfl⟩)
            go_roundw
            case rel => exact ⟨k + 1, by omega, by go_num, trivial, HN.out⟩
            case measure => simp [RowKit.intOf]; omega
        · obtain rfl : k = s.size := by omega
          rw [List.take_of_length_le (by omega)] at hall
          have HN := Lib.hid hall
          clear hall hidx
          go_wp2
          go_ret
          exact ⟨by rw [HN.out]; rfl, rfl⟩
end Go.Proofs.YtcmlchicpmnhdaaGreatDoor.Disk
