/-
  Texts one behind the other: DiskMem, DiskLeaf, DiskNew.
-/
import Derived.Maps.Ext
import Derived.Lib.MinMax
import Derived.Lib.Hide
import Derived.Test.YtcmlchicpmnhdaaDoorG03
import Derived.Test.YtcmlchicpmnhdaaDoorG04
import Derived.Test.YtcmlchicpmnhdaaDoorG13
/-
  How a disk of package disk lies in memory, and how that is kept where other blocks turn: plain facts on worlds.
-/
namespace Go.Proofs.YtcmlchicpmnhdaaDoor.Disk
open Go.RowKit Go.Maps
set_option linter.unusedVariables false
set_option linter.unusedSimpArgs false

theorem lawS : Keyed Tryd.prog 9 := string_keyed Tryd.underlying9
theorem lawI : Keyed Tryd.prog 3 := int_keyed Tryd.underlying3
/-- Whose a block is: a disk's, and within it a file's. -/
abbrev Own := Nat → Option (Nat × Nat)

/-- A slice that reads as these values, in a block of p's. -/
def RowO (own : Own) (p : Nat × Nat) (w : World) (A : Option Addr) (n : Nat) (vs : List Value) : Prop :=
  vs.length = n ∧ (0 < n → ∃ b o, A = some ⟨b, o, none⟩ ∧ own b = some p ∧ b < w.heap.size ∧ ∀ i v, vs[i]? = some v → w.cell? ⟨b, o + i, none⟩ = some v)
theorem RowO.keep {own own' : Own} {p : Nat × Nat} {w w' : World} {A : Option Addr} {n : Nat} {vs : List Value} (h : RowO own p w A n vs) (hs : w.heap.size ≤ w'.heap.size)
    (ho : ∀ b, b < w.heap.size → own' b = own b) (hk : ∀ b, b < w.heap.size → own b = some p → w'.heap[b]? = w.heap[b]?) : RowO own' p w' A n vs := by
  refine ⟨h.1, fun hn => ?_⟩
  obtain ⟨b, o, e, hp, hb, hc⟩ := h.2 hn
  exact ⟨b, o, e, (ho b hb).trans hp, Nat.lt_of_lt_of_le hb hs, fun i v hv => (World.cell?_of_block (hk b hb hp)).trans (hc i v hv)⟩
theorem RowO.row {own : Own} {p : Nat × Nat} {w : World} {A : Option Addr} {n : Nat} {vs : List Value} (h : RowO own p w A n vs) : Row w w.heap.size A n vs := by
  refine ⟨h.1, fun hn => ?_⟩
  obtain ⟨b, o, e, _, hb, hc⟩ := h.2 hn
  exact ⟨b, o, e, hb, hc⟩
theorem map_keep {w w' : World} {P : Program} {k : TypeId} {R : Value → Option (DataW Value × List MemPlace)} {b n : Nat} {D : DataW Value} (h : w.ownsMap P k R b n D) (hk : w'.heap[b]? = w.heap[b]?) : w'.ownsMap P k R b n D := by
  obtain ⟨es, clock, hb, r⟩ := h
  exact ⟨es, clock, hk.trans hb, r⟩
theorem map_tight {w : World} {P : Program} {k : TypeId} {R : Value → Option (DataW Value × List MemPlace)} {b n : Nat} {D : DataW Value} (h : w.ownsMap P k R b n D) : w.ownsMap P k R b (Maps.size D) D := by
  obtain ⟨es, clock, hb, F, hs, rfl⟩ := h
  exact ⟨es, clock, hb, F, by simp [Maps.size, length_sorted], rfl⟩
theorem row_keep {w w' : World} {base : Nat} {e : TypeId} {size n : Nat} {v : Value} {xs : List Value} (h : w.ownsRow base e size v n xs) (hk : ∀ b, v.ownBlock = some b → w'.heap[b]? = w.heap[b]?) : w'.ownsRow base e size v n xs := by
  refine ⟨h.1, ?_⟩
  rcases h.2 with h | ⟨g, cap, cur, hv, hb, hg, r⟩
  · exact .inl h
  · exact .inr ⟨g, cap, cur, hv, hb, (hk g (by rw [hv]; rfl)).trans hg, r⟩
theorem row_lt {w : World} {base : Nat} {e : TypeId} {size n : Nat} {v : Value} {xs : List Value} (h : w.ownsRow base e size v n xs) (b : Nat) (hb : v.ownBlock = some b) : b < w.heap.size := by
  rcases h.2 with ⟨rfl, _⟩ | ⟨g, cap, cur, rfl, _, hg, _⟩
  · cases hb
  · cases hb
    exact (Array.getElem?_eq_some_iff.1 hg).1

/-- A file lies at block g. -/
structure FileIn (own : Own) (w : World) (f g : Nat) (x : Fl) (v : Value) (ob : Nat) : Prop where
  ok : x.Ok
  blk : Blk w g 102 #[v, .int .i64 (x.was.length : Int), .map (some ob)]
  og : own g = some (f, g)
  oo : own ob = some (f, g)
  row : w.ownsRow 0 5 1 v x.now.length (bvs x.now)
  orow : ∀ b, v.ownBlock = some b → own b = some (f, g)
  map : w.ownsMap Tryd.prog 3 held ob x.soiled.length (secMap x.soiled)
  olds : ∀ p ∈ x.soiled, ∃ A n c, p.2 = .slice A n c ∧ n ≤ c ∧ c ≤ maxLen ∧ RowO own (f, g) w A n (bvs ((x.was.drop (64 * p.1)).take 64)) ∧ (0 < n → ∀ a, A = some a → v.ownBlock ≠ some a.block ∧ a.block ≠ g)
def FileAt (own : Own) (w : World) (f g : Nat) (x : Fl) : Prop := ∃ v ob, FileIn own w f g x v ob
theorem blk_lt' {w : World} {g : Nat} {t : TypeId} {cs : Array Value} (h : Blk w g t cs) : g < w.heap.size := by
  rcases Nat.lt_or_ge g w.heap.size with hh | hh
  · exact hh
  · unfold Blk at h; rw [Array.getElem?_eq_none hh] at h; cases h
theorem FileIn.keep {own own' : Own} {w w' : World} {f g : Nat} {x : Fl} {v : Value} {ob : Nat} (h : FileIn own w f g x v ob) (hs : w.heap.size ≤ w'.heap.size)
    (ho : ∀ b, b < w.heap.size → own' b = own b) (hk : ∀ b, b < w.heap.size → own b = some (f, g) → w'.heap[b]? = w.heap[b]?) : FileIn own' w' f g x v ob where
  ok := h.ok
  blk := (hk g (blk_lt' h.blk) h.og).trans h.blk
  og := (ho g (blk_lt' h.blk)).trans h.og
  oo := (ho ob h.map.lt).trans h.oo
  row := row_keep h.row fun b hb => hk b (row_lt h.row b hb) (h.orow b hb)
  orow := fun b hb => (ho b (row_lt h.row b hb)).trans (h.orow b hb)
  map := map_keep h.map (hk ob h.map.lt h.oo)
  olds := fun p hp => by
    obtain ⟨A, n, c, e, h1, h2, h3, h4⟩ := h.olds p hp
    exact ⟨A, n, c, e, h1, h2, h3.keep hs ho hk, h4⟩

/-- A disk lies at block f. -/
structure DiskIn (own : Own) (w : World) (f : Nat) (d : Dk) (K nb sb : Nat) (wv : Value) : Prop where
  ok : d.Ok K
  top : ∀ b p, own b = some p → b < w.heap.size
  blk : Blk w f 57 #[.int .i64 d.room, .map (some nb), .map (some sb), wv, .int .i64 d.calls, .int .i64 d.reads, .bool d.failing, .int .i64 d.others]
  of : own f = some (f, f)
  on : own nb = some (f, f)
  os : own sb = some (f, f)
  ne : nb ≠ sb
  mapN : w.ownsMap Tryd.prog 9 held nb d.N.length (dirMap d.N)
  mapS : w.ownsMap Tryd.prog 9 held sb d.S.length (dirMap d.S)
  row : w.ownsRow 0 83 3 wv d.wait.length (chgCells d.wait)
  orow : ∀ b, wv.ownBlock = some b → own b = some (f, f)
  files : ∀ g, d.refs g → g ≠ f ∧ FileAt own w f g (d.fl g)
def DiskAt (own : Own) (w : World) (f : Nat) (d : Dk) (K : Nat) : Prop := ∃ nb sb wv, DiskIn own w f d K nb sb wv
theorem DiskIn.keep {own own' : Own} {w w' : World} {f K nb sb : Nat} {d : Dk} {wv : Value} (h : DiskIn own w f d K nb sb wv) (hs : w.heap.size ≤ w'.heap.size)
    (ho : ∀ b, b < w.heap.size → own' b = own b) (ht : ∀ b p, own' b = some p → b < w'.heap.size) (hk : ∀ b, b < w.heap.size → ∀ g, own b = some (f, g) → w'.heap[b]? = w.heap[b]?) : DiskIn own' w' f d K nb sb wv where
  ok := h.ok
  top := ht
  blk := (hk f (blk_lt' h.blk) f h.of).trans h.blk
  of := (ho f (blk_lt' h.blk)).trans h.of
  on := (ho nb h.mapN.lt).trans h.on
  os := (ho sb h.mapS.lt).trans h.os
  ne := h.ne
  mapN := map_keep h.mapN (hk nb h.mapN.lt f h.on)
  mapS := map_keep h.mapS (hk sb h.mapS.lt f h.os)
  row := row_keep h.row fun b hb => hk b (row_lt h.row b hb) f (h.orow b hb)
  orow := fun b hb => (ho b (row_lt h.row b hb)).trans (h.orow b hb)
  files := fun g hg => by
    obtain ⟨h1, v, ob, hf⟩ := h.files g hg
    exact ⟨h1, v, ob, hf.keep hs ho fun b hb hp => hk b hb g hp⟩
theorem DiskAt.keep {own own' : Own} {w w' : World} {f K : Nat} {d : Dk} (h : DiskAt own w f d K) (hs : w.heap.size ≤ w'.heap.size)
    (ho : ∀ b, b < w.heap.size → own' b = own b) (ht : ∀ b p, own' b = some p → b < w'.heap.size) (hk : ∀ b, b < w.heap.size → ∀ g, own b = some (f, g) → w'.heap[b]? = w.heap[b]?) : DiskAt own' w' f d K := by
  obtain ⟨nb, sb, wv, h⟩ := h
  exact ⟨nb, sb, wv, h.keep hs ho ht hk⟩
theorem DiskAt.top {own : Own} {w : World} {f K : Nat} {d : Dk} (h : DiskAt own w f d K) : ∀ b p, own b = some p → b < w.heap.size := by
  obtain ⟨nb, sb, wv, h⟩ := h
  exact h.top
theorem DiskAt.lt {own : Own} {w : World} {f K : Nat} {d : Dk} (h : DiskAt own w f d K) : f < w.heap.size := by
  obtain ⟨nb, sb, wv, h⟩ := h
  exact blk_lt' h.blk
/-- Nothing that lay has turned. -/
theorem DiskAt.below {own : Own} {w w' : World} {f K : Nat} {d : Dk} (h : DiskAt own w f d K) (hb : Below w.heap.size w w') : DiskAt own w' f d K :=
  h.keep hb.size (fun _ _ => rfl) (fun b p hp => Nat.lt_of_lt_of_le (h.top b p hp) hb.size) (fun b hb' _ _ => hb.block b hb')

/-- What a call on disk f does to memory: only blocks of f's turn. -/
structure Step (own own' : Own) (f : Nat) (w w' : World) : Prop where
  os : w'.os = w.os
  tape : w'.tape = w.tape
  output : w'.output = w.output
  size : w.heap.size ≤ w'.heap.size
  same : ∀ b, b < w.heap.size → own' b = own b
  block : ∀ b, b < w.heap.size → (∀ g, own b ≠ some (f, g)) → w'.heap[b]? = w.heap[b]?
  new : ∀ b, w.heap.size ≤ b → ∀ p, own' b = some p → p.1 = f
theorem Step.refl (own : Own) (f : Nat) (w : World) (ht : ∀ b p, own b = some p → b < w.heap.size) : Step own own f w w :=
  ⟨rfl, rfl, rfl, Nat.le_refl _, fun _ _ => rfl, fun _ _ _ => rfl, fun b hb p hp => absurd (ht b p hp) (by omega)⟩
theorem Step.trans {o1 o2 o3 : Own} {f : Nat} {w1 w2 w3 : World} (h : Step o1 o2 f w1 w2) (k : Step o2 o3 f w2 w3) : Step o1 o3 f w1 w3 where
  os := k.os.trans h.os
  tape := k.tape.trans h.tape
  output := k.output.trans h.output
  size := Nat.le_trans h.size k.size
  same := fun b hb => (k.same b (Nat.lt_of_lt_of_le hb h.size)).trans (h.same b hb)
  block := fun b hb hne => (k.block b (Nat.lt_of_lt_of_le hb h.size) (by rw [h.same b hb]; exact hne)).trans (h.block b hb hne)
  new := fun b hb p hp => by
    rcases Nat.lt_or_ge b w2.heap.size with hh | hh
    · exact h.new b hb p ((k.same b hh).symm.trans hp)
    · exact k.new b hh p hp
/-- Nothing that lay has turned. -/
theorem Step.of_below {own : Own} {f : Nat} {w w' : World} (ht : ∀ b p, own b = some p → b < w.heap.size) (hb : Below w.heap.size w w') : Step own own f w w' :=
  ⟨hb.os, hb.tape, hb.output, hb.size, fun _ _ => rfl, fun b hb' _ => hb.block b hb', fun b hb' p hp => absurd (ht b p hp) (by omega)⟩
/-- One block of f's has turned. -/
theorem Step.of_grown {own : Own} {f g b : Nat} {w w' : World} (ht : ∀ b p, own b = some p → b < w.heap.size) (hb : own b = some (f, g)) (hg : w.grownBy w' (some b)) : Step own own f w w' :=
  ⟨hg.os, hg.tape, hg.output, hg.size, fun _ _ => rfl, fun b' hb' hne => hg.block b' hb' (fun e => hne g (by injection e with e; rw [e]; exact hb)), fun b' hb' p hp => absurd (ht b' p hp) (by omega)⟩
theorem Step.below {own own' : Own} {f B : Nat} {w w' : World} (h : Step own own' f w w') (hB : B ≤ w.heap.size) (hn : ∀ b, b < B → own b = none) : Below B w w' :=
  ⟨h.os, h.tape, h.output, h.size, fun b hb => h.block b (by omega) (fun g => by rw [hn b hb]; simp)⟩
/-- Another disk's memory is kept. -/
theorem Step.other {own own' : Own} {f f' K : Nat} {w w' : World} {d : Dk} (h : Step own own' f w w') (hne : f' ≠ f) (ht : ∀ b p, own' b = some p → b < w'.heap.size) (hd : DiskAt own w f' d K) : DiskAt own' w' f' d K :=
  hd.keep h.size h.same ht fun b hb g hg => h.block b hb fun g' e => hne (by rw [hg] at e; injection e with e; injection e)
end Go.Proofs.YtcmlchicpmnhdaaDoor.Disk
/-
  Proved: what roomOf, New, begin, newFile, isNameByte, isName, sectorsOf and partOf of package disk return.
-/
namespace Go.Proofs.YtcmlchicpmnhdaaDoor.Disk
open Go.RowKit Go.Maps
set_option linter.unusedVariables false
set_option linter.unusedSimpArgs false

def room (n : Int) : Int := min (max n 0) 4194304
theorem roomOf_any (n : Int) (w : World) : Calls Tryd.prog 23 #[.int .i64 n] w fun e w' => e = .returned (.int .i64 (room n)) ∧ w' = w := by
  go_enter Tryd.func23, Tryd.ntmps23
  go_wp2
  go_ret
  exact ⟨rfl, rfl⟩
theorem begin_nil (w : World) : Calls Tryd.prog 36 #[.pointer none] w fun e w' => e = .returned (.int .i64 1) ∧ w' = w := by
  go_enter Tryd.func36, Tryd.ntmps36
  go_wp2
  go_ret
  exact ⟨rfl, rfl⟩
def nameByte (c : UInt8) : Bool := (97 ≤ c.toNat && c.toNat ≤ 122) || (65 ≤ c.toNat && c.toNat ≤ 90) || (48 ≤ c.toNat && c.toNat ≤ 57) || c.toNat == 46
theorem isNameByte_any (c : UInt8) (w : World) : Calls Tryd.prog 56 #[.int .u8 (c.toNat : Int)] w fun e w' => e = .returned (.bool (nameByte c)) ∧ w' = w := by
  have hc : c.toNat < 256 := c.toNat_lt
  unfold nameByte
  generalize c.toNat = k at *
  go_enter Tryd.func56, Tryd.ntmps56
  go_wp2
  all_goals go_ret
  all_goals (refine ⟨congrArg (fun b => Ending.returned (Value.bool b)) ?_, rfl⟩; rw [Bool.eq_iff_iff]; simp; omega)
def sectors (a n : Nat) : Nat := if n = 0 then 0 else (a + n - 1) / 64 - a / 64 + 1
theorem sectorsOf_any (a n : Nat) (w : World) (ha : a ≤ 4194304) (hn : n ≤ 1099511627776) : Calls Tryd.prog 69 #[.int .i64 (a : Int), .int .i64 (n : Int)] w fun e w' => e = .returned (.int .i64 ((sectors a n : Nat) : Int)) ∧ w' = w := by
  by_cases h0 : n = 0
  · subst h0
    go_enter Tryd.func69, Tryd.ntmps69
    go_wp2
    go_ret
    exact ⟨rfl, rfl⟩
  · obtain ⟨S, hS⟩ : ∃ S, S = sectors a n := ⟨_, rfl⟩
    have hS' : Hid ((S : Int) = ((a : Int) + (n : Int) - 1) / 64 - (a : Int) / 64 + 1) := by
      show _ = _
      rw [hS, sectors, if_neg h0]
      omega
    rw [← hS]
    clear hS
    have h1 : ((n : Int) == 0) = false := by simp; omega
    go_enter Tryd.func69, Tryd.ntmps69
    go_wp2
    go_ret
    exact ⟨by rw [hS'.out]; rfl, rfl⟩
def partOf (i : Nat) (keep : List Bool) (torn : Int) : Nat := if (i : Int) = torn then 32 else if keep.getD i false = true then 64 else 0
def lvs (l : List Bool) : List Value := l.map Value.bool
/-- A name that may be. -/
def goodName (n : List UInt8) : Bool := decide (0 < n.length) && decide (n.length ≤ 32) && n.all nameByte
theorem index_string_at {P : Program} {T : TypeId} (ht : P.underlying T = some .string) (s : ByteArray) (k : IntKind) (v : Int) (i : Nat) (hv : v = (i : Int)) (hi : i < s.size) (w : World) :
    (Instr.index T (.string s) (.int k v)).run P w = .ok (.int .u8 ((s.data.toList.getD i 0).toNat : Int)) w := by
  subst hv
  rw [run_index_string w T s k (i : Int) ht, dif_pos ⟨by omega, by omega⟩]
  congr 3
  rw [List.getD_eq_getElem?_getD, Array.getElem?_toList, Array.getElem?_eq_getElem (by simpa using hi)]
  rfl
theorem isName_any (s : ByteArray) (w : World) (hs : s.size ≤ maxLen) : Calls Tryd.prog 37 #[.string s] w fun e w' => e = .returned (.bool (goodName s.data.toList)) ∧ w' = w := by
  unfold maxLen at hs
  have hl : s.data.toList.length = s.size := by simp
  have hl0 := hl
  unfold goodName
  rw [hl]
  generalize hL : s.data.toList = L at *
  clear hl
  by_cases h0 : s.size = 0
  · have h1 : ((s.size : Int) == 0) = true := by simp [h0]
    go_enter Tryd.func37, Tryd.ntmps37
    go_wp2
    go_ret
    exact ⟨by simp [h0], rfl⟩
  · have h1 : ((s.size : Int) == 0) = false := beq_eq_false_iff_ne.2 (by omega)
    by_cases h32 : 32 < s.size
    · have HD : Hid (decide (s.size ≤ 32) = false) := decide_eq_false (by omega)
      go_enter Tryd.func37, Tryd.ntmps37
      go_wp2
      go_ret
      exact ⟨by rw [HD.out]; simp, rfl⟩
    · rw [decide_eq_true (by omega : 0 < s.size), decide_eq_true (by omega : s.size ≤ 32)]
      have hidx := fun (i : Nat) (hi : i < s.size) (w : World) => index_string_at Tryd.underlying9 s .i64 (i : Int) i rfl hi w
      rw [hL] at hidx
      clear h0
      go_enter Tryd.func37, Tryd.ntmps37
      go_wp2
      go_loopw [14] (fun v wr => ∃ k : Nat, k ≤ s.size ∧ v = .int .i64 k ∧ wr = w ∧ (L.take k).all nameByte = true) (fun v _ => s.size - (RowKit.intOf v).toNat)
      case atStart => exact ⟨0, Nat.zero_le _, rfl, rfl, by simp⟩
      case round =>
        obtain ⟨k, hk, rfl, rfl, hall⟩ := hrel
        by_cases hlt : k < s.size
        · have hi := hidx k hlt wr
          have cB := isNameByte_any (L.getD k 0)
          have hsn : L.take (k + 1) = L.take k ++ [L.getD k 0] := getD_snoc L k (by omega)
          have hall' : L.all nameByte = true → nameByte (L.getD k 0) = true := fun h => List.all_eq_true.1 h _ (by rw [List.getD_eq_getElem?_getD, List.getElem?_eq_getElem (by omega)]; exact List.getElem_mem _)
          generalize L.getD k 0 = ch at *
          cases hx : nameByte ch
          · have hno : L.all nameByte = false := by
              cases h : L.all nameByte
              · rfl
              · rw [hall' h] at hx; cases hx
            rw [hx] at cB
            have HN := Lib.hid hno
            clear hsn hall' hx hall hidx hno
            go_wp2_with (go_at_call 56; refine (cB _).mono ?_; rintro e w' ⟨rfl, rfl⟩)
            go_ret
            exact ⟨by rw [HN.out]; rfl, rfl⟩
          · rw [hx] at cB
            have HN : Hid ((L.take (k + 1)).all nameByte = true) := by show _ = _; rw [hsn, List.all_append, hall]; simp [hx]
            clear hsn hall' hx hall hidx
            go_wp2_with (go_at_call 56; refine (cB _).mono ?_; rintro e w' ⟨rfl, rfl⟩)
            go_roundw
            case rel => exact ⟨k + 1, by omega, by go_num, trivial, HN.out⟩
            case measure => simp [RowKit.intOf]; omega
        · obtain rfl : k = s.size := by omega
          rw [List.take_of_length_le (by omega)] at hall
          have HN := Lib.hid hall
          clear hall hidx
          go_wp2
          go_ret
          exact ⟨by rw [HN.out]; rfl, rfl⟩
end Go.Proofs.YtcmlchicpmnhdaaDoor.Disk
/-
  Proved: what New, newFile, apply, begin and the plain getters of package disk do.
-/
namespace Go.Proofs.YtcmlchicpmnhdaaDoor.Disk
open Go.RowKit Go.Maps
set_option linter.unusedVariables false
set_option linter.unusedSimpArgs false

theorem zeroFS (w : World) : (zeroValue 57).run Tryd.prog w = .ok (.agg #[.int .i64 0, .map none, .map none, .slice none 0 0, .int .i64 0, .int .i64 0, .bool false, .int .i64 0]) w := by kernel_rfl
theorem zeroFile (w : World) : (zeroValue 102).run Tryd.prog w = .ok (.agg #[.slice none 0 0, .int .i64 0, .map none]) w := by kernel_rfl
theorem zeroChg (w : World) : (zeroValue 83).run Tryd.prog w = .ok (.agg #[.string ⟨#[]⟩, .string ⟨#[]⟩, .pointer none]) w := by kernel_rfl

theorem newFile_any (A : Option Addr) (n c : Nat) (w : World) :
    Calls Tryd.prog 39 #[.slice A n c] w fun e w' => e = .returned (.pointer (some ⟨w.heap.size + 1, 0, none⟩)) ∧ w' = (w.alloc (.map #[] 0)).alloc (.cells #[.slice A n c, .int .i64 (n : Int), .map (some w.heap.size)] 102) := by
  have hmm := @run_makeMap Tryd.prog
  have hz := zeroFile
  go_enter Tryd.func39, Tryd.ntmps39
  go_wp2
  go_ret
  exact ⟨by simp, rfl⟩
theorem new_raw (n : Int) (w : World) :
    Calls Tryd.prog 8 #[.int .i64 n] w fun e w' => e = .returned (.pointer (some ⟨w.heap.size + 2, 0, none⟩)) ∧
      w' = ((w.alloc (.map #[] 0)).alloc (.map #[] 0)).alloc (.cells #[.int .i64 (room n), .map (some w.heap.size), .map (some (w.heap.size + 1)), .slice none 0 0, .int .i64 0, .int .i64 0, .bool false, .int .i64 0] 57) := by
  have hmm := @run_makeMap Tryd.prog
  have hz := zeroFS
  have cR := roomOf_any n
  go_enter Tryd.func8, Tryd.ntmps8
  go_wp2_with (go_at_call 23; refine (cR _).mono ?_; rintro e w' ⟨rfl, rfl⟩)
  go_ret
  exact ⟨by simp, by simp⟩

/-- The fields of a disk at block f. -/
def fsCells (d : Dk) (nb sb : Nat) (wv : Value) : Array Value := #[.int .i64 d.room, .map (some nb), .map (some sb), wv, .int .i64 d.calls, .int .i64 d.reads, .bool d.failing, .int .i64 d.others]
/-- What begin makes of a disk. -/
def Dk.begin (d : Dk) : Dk :=
  if d.failing = false then { d with calls := d.calls + 1 }
  else if 0 < d.others then { d with calls := d.calls + 1, others := d.others - 1 }
  else { d with calls := d.calls + 1, failing := false }
def Dk.err (d : Dk) : Int := if d.failing = true ∧ d.others ≤ 0 then 3 else 0
theorem begin_raw (f nb sb : Nat) (wv : Value) (d : Dk) (K : Nat) (w : World) (hok : d.Ok K) (hb : Blk w f 57 (fsCells d nb sb wv)) :
    Calls Tryd.prog 36 #[.pointer (some ⟨f, 0, none⟩)] w fun e w' => e = .returned (.int .i64 d.err) ∧ Blk w' f 57 (fsCells d.begin nb sb wv) ∧ w.grownBy w' (some f) := by
  obtain ⟨rm, N, S, wait, calls, reads, failing, others, fl⟩ := d
  have hc := hok.calls
  have ho := hok.others
  have hK := hok.big
  simp only at hc ho
  have h4 : w.cell? ⟨f, 4, none⟩ = some (.int .i64 calls) := hb.cell 4
  have h6 : w.cell? ⟨f, 6, none⟩ = some (.bool failing) := hb.cell 6
  have h7 : w.cell? ⟨f, 7, none⟩ = some (.int .i64 others) := hb.cell 7
  have f4 := hb.free 4
  have f6 := hb.free 6
  have f7 := hb.free 7
  have HB := Lib.hid hb
  clear hb hok
  cases failing
  · have he : Dk.err ⟨rm, N, S, wait, calls, reads, false, others, fl⟩ = 0 := rfl
    rw [he]
    clear he
    go_enter Tryd.func36, Tryd.ntmps36
    go_wp2
    go_ret
    exact ⟨rfl, HB.out.put 4 _, only_setCell _ _ _⟩
  · by_cases h0 : 0 < others
    · have he : Dk.err ⟨rm, N, S, wait, calls, reads, true, others, fl⟩ = 0 := if_neg (by simp; omega)
      have hx : Hid (Dk.begin ⟨rm, N, S, wait, calls, reads, true, others, fl⟩ = ⟨rm, N, S, wait, calls + 1, reads, true, others - 1, fl⟩) := by show _ = _; simp [Dk.begin, h0]
      rw [he]
      clear he
      go_enter Tryd.func36, Tryd.ntmps36
      go_wp2
      go_ret
      exact ⟨rfl, by rw [hx.out]; exact (HB.out.put 4 _).put 7 _, only_trans (only_setCell _ _ _) (only_setCell _ _ _)⟩
    · have he : Dk.err ⟨rm, N, S, wait, calls, reads, true, others, fl⟩ = 3 := if_pos ⟨rfl, by show others ≤ 0; omega⟩
      have hx : Hid (Dk.begin ⟨rm, N, S, wait, calls, reads, true, others, fl⟩ = ⟨rm, N, S, wait, calls + 1, reads, false, others, fl⟩) := by show _ = _; simp [Dk.begin, h0]
      rw [he]
      clear he
      go_enter Tryd.func36, Tryd.ntmps36
      go_wp2
      go_ret
      exact ⟨rfl, by rw [hx.out]; exact (HB.out.put 4 _).put 6 _, only_trans (only_setCell _ _ _) (only_setCell _ _ _)⟩

/-- A change of a directory is made. -/
theorem keyS {s : ByteArray} (hs : s.size ≤ maxLen) : keyOf Tryd.prog 9 (.string s) = some (.string s.data.toList) := WideMaps.keyOf_string_mk Tryd.underlying9 hs
theorem blk_kept {w w' : World} {g : Nat} {t : TypeId} {cs : Array Value} {row : Option Nat} (h : Blk w g t cs) (hg : w.grownBy w' row) (hne : some g ≠ row) : Blk w' g t cs := (hg.block g (blk_lt' h) hne).trans h
set_option maxRecDepth 100000 in
theorem apply_any (nb n : Nat) (N : Dir) (c : Chg) (w : World) (hown : w.ownsMap Tryd.prog 9 held nb n (dirMap N)) (hn : n < maxLen) (h1 : c.gone.size ≤ maxLen) (h2 : c.name.size ≤ maxLen) :
    Calls Tryd.prog 57 #[.map (some nb), .agg #[.string c.gone, .string c.name, c.ptr]] w fun e w' => e = .returned undef ∧ w'.ownsMap Tryd.prog 9 held nb (n + 1) (dirMap (c.on N)) ∧ w.grownBy w' (some nb) := by
  obtain ⟨gone, name, file⟩ := c
  have hz := zeroChg
  have hlt := hown.lt
  have hk1 := keyS h1
  have hk2 := keyS h2
  cases file with
  | none =>
    show Calls _ _ #[_, .agg #[.string gone, .string name, .pointer none]] _ _
    have ho0 := hown.alloc (.cells #[.string gone, .string name, .pointer none] 83)
    have hb0 := Blk.new w 83 #[.string gone, .string name, .pointer none]
    have hg0 := World.grownBy_alloc w (.cells #[.string gone, .string name, .pointer none] 83) none
    have c0 := hb0.cell 0
    have HB := Lib.hid hb0
    have HG := Lib.hid hg0
    clear hb0 hg0
    go_enter Tryd.func57, Tryd.ntmps57
    go_wp2_with (at_delete; refine wpList_delete_own _ rfl _ _ 54 9 rfl 79 lawS Tryd.underlying54 held nb n _ rfl ho0 _ _ rfl hk1 ?_; intro w1 hown1 hturn1; have c2 := (blk_kept HB.out hturn1.grown (by simp; omega)).cell 2)
    go_end0
    refine ⟨rfl, ?_, only_trans (HG.out.but _) hturn1.grown⟩
    rw [dirMap_del] at hown1
    exact hown1.mono (by omega)
  | some g =>
    show Calls _ _ #[_, .agg #[.string gone, .string name, .pointer (some ⟨g, 0, none⟩)]] _ _
    have ho0 := hown.alloc (.cells #[.string gone, .string name, .pointer (some ⟨g, 0, none⟩)] 83)
    have hb0 := Blk.new w 83 #[.string gone, .string name, .pointer (some ⟨g, 0, none⟩)]
    have hg0 := World.grownBy_alloc w (.cells #[.string gone, .string name, .pointer (some ⟨g, 0, none⟩)] 83) none
    have c0 := hb0.cell 0
    have HB := Lib.hid hb0
    have HG := Lib.hid hg0
    clear hb0 hg0
    go_enter Tryd.func57, Tryd.ntmps57
    go_wp2_with (first
      | (at_delete; refine wpList_delete_own _ rfl _ _ 54 9 rfl 79 lawS Tryd.underlying54 held nb n _ rfl ho0 _ _ rfl hk1 ?_; intro w1 hown1 hturn1; have c2 := (blk_kept HB.out hturn1.grown (by simp; omega)).cell 2; have c1 := (blk_kept HB.out hturn1.grown (by simp; omega)).cell 1)
      | (at_mapUpdate; refine wpList_mapUpdate_own _ rfl _ _ _ 54 rfl 9 79 lawS Tryd.underlying54 held nb n _ rfl hown1 hn _ _ _ rfl rfl hk2 _ _ rfl ?_; intro w2 hown2 hgrow2))
    go_end0
    refine ⟨rfl, ?_, only_trans (only_trans (HG.out.but _) hturn1.grown) hgrow2⟩
    rw [dirMap_del] at hown2
    have hown3 : w2.ownsMap Tryd.prog 9 held nb (n + 1) ((dirMap (ddel gone.data.toList N)).put (.string name.data.toList) (.held (fp g))) := hown2
    rw [dirMap_put] at hown3
    exact hown3

/-! The plain getters, and those of no disk. -/
theorem create_nil (s : ByteArray) (w : World) : Calls Tryd.prog 22 #[.pointer none, .string s] w fun e w' => e = .returned (.int .i64 1) ∧ w' = w := by
  go_enter Tryd.func22, Tryd.ntmps22
  go_wp2_with (go_at_call 36; refine (begin_nil _).mono ?_; rintro e w' ⟨rfl, rfl⟩)
  go_ret
  exact ⟨rfl, rfl⟩
theorem write_nil (s : ByteArray) (at_ : Int) (A : Option Addr) (n c : Nat) (w : World) : Calls Tryd.prog 51 #[.pointer none, .string s, .int .i64 at_, .slice A n c] w fun e w' => e = .returned (.int .i64 1) ∧ w' = w := by
  go_enter Tryd.func51, Tryd.ntmps51
  go_wp2_with (go_at_call 36; refine (begin_nil _).mono ?_; rintro e w' ⟨rfl, rfl⟩)
  go_ret
  exact ⟨rfl, rfl⟩
theorem sync_nil (s : ByteArray) (w : World) : Calls Tryd.prog 52 #[.pointer none, .string s] w fun e w' => e = .returned (.int .i64 1) ∧ w' = w := by
  go_enter Tryd.func52, Tryd.ntmps52
  go_wp2_with (go_at_call 36; refine (begin_nil _).mono ?_; rintro e w' ⟨rfl, rfl⟩)
  go_ret
  exact ⟨rfl, rfl⟩
theorem syncDir_nil (w : World) : Calls Tryd.prog 44 #[.pointer none] w fun e w' => e = .returned (.int .i64 1) ∧ w' = w := by
  go_enter Tryd.func44, Tryd.ntmps44
  go_wp2_with (go_at_call 36; refine (begin_nil _).mono ?_; rintro e w' ⟨rfl, rfl⟩)
  go_ret
  exact ⟨rfl, rfl⟩
theorem rename_nil (s u : ByteArray) (w : World) : Calls Tryd.prog 43 #[.pointer none, .string s, .string u] w fun e w' => e = .returned (.int .i64 1) ∧ w' = w := by
  go_enter Tryd.func43, Tryd.ntmps43
  go_wp2_with (go_at_call 36; refine (begin_nil _).mono ?_; rintro e w' ⟨rfl, rfl⟩)
  go_ret
  exact ⟨rfl, rfl⟩
theorem read_nil (s : ByteArray) (a n : Int) (w : World) : Calls Tryd.prog 64 #[.pointer none, .string s, .int .i64 a, .int .i64 n] w fun e w' => e = .returned (.tuple #[.slice none 0 0, .int .i64 1]) ∧ w' = w := by
  go_enter Tryd.func64, Tryd.ntmps64
  go_wp2
  go_ret2
  exact ⟨rfl, rfl⟩
theorem size_nil (s : ByteArray) (w : World) : Calls Tryd.prog 40 #[.pointer none, .string s] w fun e w' => e = .returned (.int .i64 (-1)) ∧ w' = w := by
  go_enter Tryd.func40, Tryd.ntmps40
  go_wp2
  go_ret
  exact ⟨rfl, rfl⟩
theorem used_nil (w : World) : Calls Tryd.prog 61 #[.pointer none] w fun e w' => e = .returned (.int .i64 0) ∧ w' = w := by
  go_enter Tryd.func61, Tryd.ntmps61
  go_wp2
  go_ret
  exact ⟨rfl, rfl⟩
theorem dirty_nil (w : World) : Calls Tryd.prog 65 #[.pointer none] w fun e w' => e = .returned (.int .i64 0) ∧ w' = w := by
  go_enter Tryd.func65, Tryd.ntmps65
  go_wp2
  go_ret
  exact ⟨rfl, rfl⟩
end Go.Proofs.YtcmlchicpmnhdaaDoor.Disk
