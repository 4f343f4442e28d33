/-
  Texts one behind the other: SlotBase, Short, DiskSyncWalk, SlotAgain.
-/
import Derived.Lib.MinMax
import Derived.Test.YtbljdcdcnnidkaaGreatDoorG03
import Derived.Test.YtbljdcdcnnidkaaGreatDoorG27
import Derived.Test.YtbljdcdcnnidkaaGreatDoorG31
import Derived.Test.YtbljdcdcnnidkaaGreatDoorG33
/-
  Proved: law 9's 'begun' returns true; the steps of the laws on a file of slots whose disk fails no call.
-/
namespace Go.Proofs.YtbljdcdcnnidkaaGreatDoor.Slot
open Go.RowKit Go.Proofs.YtbljdcdcnnidkaaGreatDoor.Rec Go.Proofs.YtbljdcdcnnidkaaGreatDoor.Disk
open Go.Proofs.YtbljdcdcnnidkaaGreatDoor.Crc (Turned)
open Go.Proofs.YtbljdcdcnnidkaaGreatDoor.Seg (Fr ptr mark_old mark_top free_fr)
set_option linter.unusedVariables false
set_option linter.unusedSimpArgs false

def sA : ByteArray := ⟨#[65]⟩
def nmA : Nm := [65]
/-- A literal's bytes are no disk's. -/
theorem lit_free {own : Own} {w : World} (ht : ∀ b p, own b = some p → b < w.heap.size) (bs : List UInt8) (n : Nat) (hn : bs.length = n) (cs : Array Value) (hcs : cs = (bvs bs).toArray) (fr : Nat × Nat) : Free own (w.alloc (.cells cs 5 fr)) (some ⟨w.heap.size, 0, none⟩) n (bvs bs) := by
  subst hcs
  have hR : Row (w.alloc (.cells (bvs bs).toArray 5 fr)) (w.heap.size + 1) (some ⟨w.heap.size, 0, none⟩) n (bvs bs) := by
    have hsz : (bvs bs).toArray.size = n := by rw [List.size_toArray, bvs_length, hn]
    have := Row.fresh w 5 fr (bvs bs).toArray
    rw [hsz] at this
    exact this
  refine ⟨hR.1, fun h0 => ?_⟩
  obtain ⟨b, o, e, hb, hc⟩ := hR.2 h0
  injection e with e
  injection e with e1 e2
  subst e1 e2
  refine ⟨_, 0, rfl, ?_, by simp, hc⟩
  cases ho : own w.heap.size with
  | none => rfl
  | some p => have := ht _ _ ho; omega
theorem free_none (own : Own) (w : World) (A : Option Addr) : Free own w A 0 (bvs []) := ⟨rfl, fun h => absurd h (by omega)⟩
/-- A file of slots that was saved, on a disk that fails no call. -/
structure Up (own : Own) (w0 w : World) (v : Sf) (x : Fl) (K : Nat) : Prop where
  ex : ∃ g d, SG own w0 w v g x none K d
  lasts : v.lasts = true
  sides : Sides x.now v.slot v.turn v.txt
  used : v.used = v.turn
  was : x.was = x.now
  clean : x.soiled = []
theorem Up.all {own : Own} {w0 w w' : World} {v : Sf} {x : Fl} {K : Nat} (h : Up own w0 w v x K) (hb : Below w.heap.size w w') : Up own w0 w' v x K := by
  obtain ⟨g, d, hs⟩ := h.ex
  exact { h with ex := ⟨g, d, hs.all hb⟩ }
theorem Up.top {own : Own} {w0 w : World} {v : Sf} {x : Fl} {K : Nat} (h : Up own w0 w v x K) : ∀ b p, own b = some p → b < w.heap.size := by
  obtain ⟨g, d, hs⟩ := h.ex
  exact hs.top
theorem Up.below {own : Own} {w0 w : World} {v : Sf} {x : Fl} {K : Nat} (h : Up own w0 w v x K) : Below w0.heap.size w0 w := by
  obtain ⟨g, d, hs⟩ := h.ex
  exact hs.disk.below
theorem Up.lies {own : Own} {w0 w : World} {v : Sf} {x : Fl} {K : Nat} (h : Up own w0 w v x K) : Lies own w v := by
  obtain ⟨g, d, hs⟩ := h.ex
  exact hs.lies
/-- Create on a new disk. -/
theorem up_create {own : Own} {w0 w : World} {f K : Nat} {d : Dk} (nm : ByteArray) (hT : Turned w0) (h : Held own w0 w f d K) (hB : Bare d) (ha : d.arm = none) (hs : nm.size ≤ maxLen) (hg : goodName nm.data.toList = true) (hne : nm.data.toList ≠ nmNew) (hK : K + 5 ≤ 1073741824) (hroom : 8192 ≤ d.room)
    {A : Option Addr} {n c : Nat} {b : List UInt8} (hR : Free own w A n (bvs b)) (hnc : n ≤ c) (hc : c ≤ maxLen) (hn : n ≤ 4080) :
    Calls Tryz.prog 7 #[.pointer (some ⟨f, 0, none⟩), .string nm, .slice A n c] w fun e w' => ∃ sf, e = .returned (.tuple #[.pointer (some ⟨sf, 0, none⟩), .int .i64 0]) ∧ ∃ own', Up own' w0 w' ⟨f, sf, nm, 0, 1, b, 1, true⟩ ⟨laidB b, laidB b, []⟩ (K + 5) ∧ Stp own own' f w w' := by
  have hbn : b.length = n := by have := hR.1; rwa [bvs_length] at this
  refine (create_slots nm hT h hB ha hs hg hne hK hroom hR hnc hc hn).mono ?_
  rintro e w' (⟨_, hnot⟩ | ⟨sf, he, hc⟩)
  · obtain ⟨k, hk, _⟩ := hnot.arm
    cases hk
  · obtain ⟨own', g, d', h1, h2, _⟩ := hc.ex
    exact ⟨sf, he, own', ⟨⟨g, d', h1⟩, rfl, laidB_sides (by omega), rfl, rfl, rfl⟩, h2⟩
theorem slotFull_len {t : Nat} {b : List UInt8} (h : b.length ≤ 4080) : (slotB t b ++ List.replicate (4080 - b.length) 0).length ≤ 4096 := Nat.le_of_eq (slotFull_length (t := t) h)
/-- Save. -/
theorem up_save {own : Own} {w0 w : World} {v : Sf} {x : Fl} {K : Nat} (hT : Turned w0) (h : Up own w0 w v x K) (hu : v.turn < 1099511627776) (hK : K + 2 ≤ 1073741824)
    {A : Option Addr} {n c : Nat} {b : List UInt8} (hR : Free own w A n (bvs b)) (hnc : n ≤ c) (hc : c ≤ maxLen) (hn : n ≤ 4080) :
    Calls Tryz.prog 10 #[.pointer (some ⟨v.sf, 0, none⟩), .slice A n c] w fun e w' => e = .returned (.int .i64 0) ∧ ∃ own' x', Up own' w0 w' { v with slot := 1 - v.slot, turn := v.turn + 1, txt := b, used := v.turn + 1 } x' (K + 2) ∧ Fr own own' w w' := by
  obtain ⟨g, d, hs⟩ := h.ex
  have hbn : b.length = n := by have := hR.1; rwa [bvs_length] at this
  have h2 := h.sides.two
  refine (save_any hT hs h.lasts (by rw [h.used]; exact hu) h2 h.sides.len hR hnc hc hn hK).mono ?_
  rintro e w' ⟨er, he, own', d', v', x', a', hsv, hsg, hfr⟩
  cases hsv with
  | ok _ h0 h1 =>
    refine ⟨he, own', ⟨putAt x.now (4096 * (1 - v.slot)) (slotFull (v.turn + 1) b), putAt x.now (4096 * (1 - v.slot)) (slotFull (v.turn + 1) b), []⟩, ⟨⟨g, d', ?_⟩, h.lasts, ?_, rfl, rfl, rfl⟩, hfr⟩
    · have e1 := h.used
      rw [e1] at hsg
      have : armed (armed (none : Option Nat)) = none := rfl
      rw [this] at hsg
      exact hsg
    · exact h.sides.save (by omega) (slotFull_len (by omega)) (Nat.lt_succ_self _) (by omega)
theorem up_large {own : Own} {w0 w : World} {v : Sf} {x : Fl} {K : Nat} (h : Up own w0 w v x K) (A : Option Addr) (n c : Nat) (hn : 4080 < n) (hnm : n ≤ 1000000) :
    Calls Tryz.prog 10 #[.pointer (some ⟨v.sf, 0, none⟩), .slice A n c] w fun e w' => e = .returned (.int .i64 9) ∧ w = w' :=
  (saveLarge_any (own := own) (v := v) A n c hn hnm).mono fun e w' ⟨h1, h2⟩ => ⟨h1, h2.symm⟩
theorem one_clean {d : Dk} {nm : Nm} {g : Nat} {x : Fl} (o : OneFile d nm g x) (h : x.soiled = []) : Dk.clean d = true := by
  unfold Dk.clean
  rw [o.N]
  refine decide_eq_true ?_
  show (d.fl g).soiled.length + 0 = 0
  rw [o.fl, h]
  rfl
/-- Open of such a file, on its disk. -/
theorem up_open {own : Own} {w0 w : World} {v : Sf} {x : Fl} {K : Nat} (hT : Turned w0) (h : Up own w0 w v x K) (hK : K + 2 ≤ 1073741824) :
    Calls Tryz.prog 14 #[.pointer (some ⟨v.f, 0, none⟩), .string v.nm] w fun e w' => ∃ sf, e = .returned (.tuple #[.pointer (some ⟨sf, 0, none⟩), .int .i64 0]) ∧ ∃ own', Up own' w0 w' v x (K + 2) ∧ Up own' w0 w' { v with sf := sf, used := v.turn } x (K + 2) ∧ w.heap.size ≤ sf ∧ Stp own own' v.f w w' := by
  obtain ⟨g, d, hs⟩ := h.ex
  refine (open_tells v.nm hT hs.disk hs.nm hs.one.look h.sides.len hK h.sides.best).mono ?_
  rintro e w' ⟨sf, own', he, hge, hl, ⟨d', hlk, hd⟩, hst⟩
  rw [one_clean hs.one h.clean] at hl
  refine ⟨sf, he, own', { h with ex := ⟨g, d', hd, hlk.one hs.one, hlk.arm.trans hs.arm, hs.lies.stp hst hs.lies.ne, hs.nm⟩ }, ?_, hge, hst⟩
  refine ⟨⟨g, d', hd, hlk.one hs.one, hlk.arm.trans hs.arm, ?_, hs.nm⟩, h.lasts, h.sides, rfl, h.was, h.clean⟩
  have e1 := h.lasts
  show Lies own' w' ⟨v.f, sf, v.nm, v.slot, v.turn, v.txt, v.turn, v.lasts⟩
  rw [e1]
  exact hl
/-- Behind a crash. -/
theorem up_crash {own : Own} {w0 w : World} {v : Sf} {x : Fl} {K : Nat} (n torn : Int) (h : Up own w0 w v x K) {B : Nat} {A : Option Addr} {m c : Nat} {keep : List Bool} (hR : Row w B A m (lvs keep)) (hB : B ≤ w.heap.size) (hm : m ≤ 1099511627776) :
    Calls Tryz.prog 12 #[.pointer (some ⟨v.f, 0, none⟩), .int .i64 n, .slice A m c, .int .i64 torn] w fun e w' => ∃ f', e = .returned (.pointer (some ⟨f', 0, none⟩)) ∧ ∃ own' d' g', Held own' w0 w' f' d' K ∧ OneFile d' v.nm.data.toList g' x ∧ d'.arm = none ∧ w.heap.size ≤ f' ∧ Fr own own' w w' := by
  obtain ⟨g, d, hs⟩ := h.ex
  refine (crash_any (c := c) n torn hs.disk.disk hR hB hm).mono ?_
  rintro e w' ⟨own', f', d', he, hge, hd, hcr, hb, hsm, _⟩
  have hk := hs.disk.beside hb hsm hd.top
  obtain ⟨g', h1, h2⟩ := hs.one.crashed hcr
  have hc : x.crash (partsFor 0 x.soiled.length keep torn) = x.now := x.crash_clean h.clean h.was _
  rw [hc] at h1
  have hx : (⟨x.now, x.now, []⟩ : Fl) = x := by
    cases x
    have e1 := h.was
    have e2 := h.clean
    simp only at e1 e2
    rw [e1, e2]
  rw [hx] at h1
  exact ⟨f', he, own', d', g', ⟨hd, hk.below, hk.free⟩, h1, h2, hge, ⟨hb.os, hb.tape, hb.output, hb.size, hsm, fun b hb' _ => hb.block b hb'⟩⟩
/-- Open of a file that a crash left. -/
theorem up_again {own : Own} {w0 w : World} {f K g s t : Nat} {d : Dk} {x : Fl} {b : List UInt8} (nm : ByteArray) (hT : Turned w0) (h : Held own w0 w f d K) (o : OneFile d nm.data.toList g x) (ha : d.arm = none) (hs : nm.size ≤ maxLen) (hsd : Sides x.now s t b) (hw : x.was = x.now) (hc : x.soiled = []) (hK : K + 2 ≤ 1073741824) :
    Calls Tryz.prog 14 #[.pointer (some ⟨f, 0, none⟩), .string nm] w fun e w' => ∃ sf, e = .returned (.tuple #[.pointer (some ⟨sf, 0, none⟩), .int .i64 0]) ∧ ∃ own', Up own' w0 w' ⟨f, sf, nm, s, t, b, t, true⟩ x (K + 2) ∧ Stp own own' f w w' := by
  refine (open_tells nm hT h hs o.look hsd.len hK hsd.best).mono ?_
  rintro e w' ⟨sf, own', he, hge, hl, ⟨d', hlk, hd⟩, hst⟩
  rw [one_clean o hc] at hl
  exact ⟨sf, he, own', ⟨⟨g, d', hd, hlk.one o, hlk.arm.trans ha, hl, hs⟩, rfl, hsd, rfl, hw, hc⟩, hst⟩
/-- A disk's file as Size tells it. -/
theorem up_size {own : Own} {w0 w : World} {v : Sf} {x : Fl} {K : Nat} (h : Up own w0 w v x K) : Calls Tryz.prog 17 #[.pointer (some ⟨v.f, 0, none⟩), .string v.nm] w fun e w' => e = .returned (.int .i64 8192) ∧ w = w' := by
  obtain ⟨g, d, hs⟩ := h.ex
  have := size_look v.nm hs.disk hs.nm hs.one.look
  rw [h.sides.len] at this
  exact this.mono fun e w' ⟨h1, h2⟩ => ⟨h1, h2.symm⟩
theorem new_bare (n : Int) : Bare (newDk n []) := ⟨rfl, rfl, rfl⟩
theorem new_arm (n : Int) : (newDk n []).arm = none := rfl
set_option maxRecDepth 100000 in
set_option maxHeartbeats 4000000 in
theorem slotbegun_any (w : World) (hT : Turned w) : Calls Tryz.prog 5 #[] w fun e w' => e = .returned (.bool true) ∧ Below w.heap.size w w' := by
  have hcv := fun (w : World) (C : Array Value) (n c : Nat) => Lib.run_convert_bytes_const (P := Tryz.prog) w 31 5 C n c Tryz.underlying31 Tryz.underlying5
  have CN := Lib.hid (new_held 100000 w)
  rw [show room 100000 = 100000 by decide] at CN
  have HT := Lib.hid hT
  clear hT
  go_enter Tryz.func5, Tryz.ntmps5
  go_upto_region 2 with (go_at_call 6; refine CN.out.mono ?_; rintro e w1 ⟨own1, f, rfl, hd1⟩)
  have CC : Hid (Calls Tryz.prog 7 #[.pointer (some ⟨f, 0, none⟩), .string ⟨#[65]⟩, .slice (some ⟨w1.heap.size, 0, none⟩) 3 3] (w1.alloc (.cells #[.int .u8 111, .int .u8 110, .int .u8 101] 5 (3, 4))) fun e w' => ∃ sf, e = .returned (.tuple #[.pointer (some ⟨sf, 0, none⟩), .int .i64 0]) ∧ ∃ own', Up own' w w' ⟨f, sf, sA, 0, 1, [111, 110, 101], 1, true⟩ ⟨laidB [111, 110, 101], laidB [111, 110, 101], []⟩ 5 ∧ Stp own1 own' f (w1.alloc (.cells #[.int .u8 111, .int .u8 110, .int .u8 101] 5 (3, 4))) w') :=
    up_create sA HT.out (hd1.all (below_alloc w1 _)) (new_bare _) (new_arm _) (by decide) (by decide) (by decide) (by decide) (by decide) (lit_free hd1.top [111, 110, 101] 3 rfl _ rfl (3, 4)) (by decide) (by decide) (by decide)
  clear hd1 CN
  go_upto_region 5 with (go_at_call 7; refine CC.out.mono ?_; rintro e w2 ⟨sf, rfl, own2, hu2, _⟩)
  have CS : Hid (Calls Tryz.prog 10 #[.pointer (some ⟨sf, 0, none⟩), .slice (some ⟨w2.heap.size, 0, none⟩) 3 3] (w2.alloc (.cells #[.int .u8 116, .int .u8 119, .int .u8 111] 5 (3, 4))) fun e w' => e = .returned (.int .i64 0) ∧ ∃ own' x', Up own' w w' ⟨f, sf, sA, 1, 2, [116, 119, 111], 2, true⟩ x' 7 ∧ Fr own2 own' _ w') :=
    up_save HT.out (hu2.all (below_alloc w2 _)) (by show (1 : Nat) < 1099511627776; decide) (by decide) (lit_free hu2.top [116, 119, 111] 3 rfl _ rfl (3, 4)) (by decide) (by decide) (by decide)
  clear hu2 CC
  go_upto_region 6 with (go_at_call 10; refine CS.out.mono ?_; rintro e w3 ⟨rfl, own3, x3, hu3, _⟩)
  have CO : Hid (Calls Tryz.prog 14 #[.pointer (some ⟨f, 0, none⟩), .string ⟨#[65]⟩] w3 fun e w' => ∃ sf', e = .returned (.tuple #[.pointer (some ⟨sf', 0, none⟩), .int .i64 0]) ∧ ∃ own', Up own' w w' ⟨f, sf, sA, 1, 2, [116, 119, 111], 2, true⟩ x3 9 ∧ Up own' w w' ⟨f, sf', sA, 1, 2, [116, 119, 111], 2, true⟩ x3 9 ∧ _ ∧ _) := up_open HT.out hu3 (by decide)
  clear hu3 CS
  go_upto_region 7 with (go_at_call 14; refine CO.out.mono ?_; rintro e w4 ⟨sf', rfl, own4, hu4, hu4', _, _⟩)
  have CT := Lib.hid (text_any hu4'.lies)
  have HU4 := Lib.hid hu4
  have HU4' := Lib.hid hu4'
  clear CO hu4 hu4'
  go_wp2_with (first
    | (go_at_call 11; refine CT.out.mono ?_; rintro e w5 ⟨A5, c5, rfl, R5, B5⟩
       have cs : ∀ c, (convert 31 9 (.slice A5 3 c)).run Tryz.prog w5 = .ok (.string ⟨#[116, 119, 111]⟩) w5 := fun c => Disk.bytes_string (P := Tryz.prog) (c := c) (dst := 9) Tryz.underlying31 Tryz.underlying5 Tryz.underlying9 R5.out
       have CU := Lib.hid (turn_any (HU4'.out.lies.all B5.out))
       have CU2 := Lib.hid (turn_any (HU4.out.lies.all B5.out))
       have HB := Lib.hid (HU4.out.below.trans (B5.out.mono HU4.out.below.size)))
    | (go_at_call 15; with_reducible refine CU.out.mono ?_; rintro e w' ⟨rfl, hw'⟩; obtain rfl : w5 = w' := hw'.symm)
    | (go_at_call 15; with_reducible refine CU2.out.mono ?_; rintro e w' ⟨rfl, hw'⟩; obtain rfl : w5 = w' := hw'.symm))
  go_ret
  exact ⟨rfl, HB.out⟩
end Go.Proofs.YtbljdcdcnnidkaaGreatDoor.Slot
/-
  Proved: what Short of package stillroomlaw1 returns, and what is left of a row behind it.
  Conditions: none.
-/
namespace Go.Proofs.YtbljdcdcnnidkaaGreatDoor.Com
open Go.RowKit
set_option linter.unusedVariables false
set_option linter.unusedSimpArgs false

theorem short_any (A : Option Addr) (n c : Nat) (m : Nat) (w : World) (hn : n ≤ c) (hc : c ≤ maxLen) :
    Calls Tryz.prog 9 #[.slice A n c, .int .i64 (m : Int)] w fun e w' => e = .returned (.slice A (min n m) c) ∧ w = w' := by
  unfold maxLen at hc
  by_cases h : m < n
  · rw [Nat.min_eq_right (Nat.le_of_lt h)]
    go_enter Tryz.func9, Tryz.ntmps9
    go_wp2
    go_ret
    exact ⟨rfl, rfl⟩
  · rw [Nat.min_eq_left (by omega)]
    go_enter Tryz.func9, Tryz.ntmps9
    go_wp2
    go_ret
    exact ⟨rfl, rfl⟩
/-- What is left of a slice behind 'Short', in a later world. -/
theorem short_row {w w1 : World} {B : Nat} {A : Option Addr} {n m : Nat} {bs : List UInt8} (hb : Below B w w1) (hR : Row w B A n (bvs bs)) :
    Row w1 B A (min n m) (bvs (bs.take m)) := by
  have h := (hR.below hb).take (k := min n m) (Nat.min_le_left _ _)
  rw [bvs_take] at h
  have hl := hR.size
  have : bs.take (min n m) = bs.take m := by
    rw [← hl, ← List.take_take, List.take_of_length_le]
    exact List.length_take_le' _ _
  rwa [this] at h
end Go.Proofs.YtbljdcdcnnidkaaGreatDoor.Com
/-
  Proved: what 'stillroom/stillroomlaw5.DiskSync' returns.
-/
namespace Go.Proofs.YtbljdcdcnnidkaaGreatDoor.Disk
open Go.RowKit Go.Maps
set_option linter.unusedVariables false
set_option linter.unusedSimpArgs false

/-- A slice of slices of bytes. -/
def RowsB (w : World) (A : Option Addr) (n : Nat) : Prop := 0 < n → ∃ b o, A = some ⟨b, o, none⟩ ∧ b < w.heap.size ∧ ∀ i, i < n → ∃ A' l c bs, w.cell? ⟨b, o + i, none⟩ = some (.slice A' l c) ∧ Row w w.heap.size A' l (bvs bs) ∧ l ≤ c ∧ c ≤ maxLen
theorem rows_of_bytes {W : World} {a : Option Addr} {len cap : Nat}
    (h : (a = none ∧ len = 0 ∧ cap = 0) ∨ ∃ (x : Addr) (A : Nat → Option Addr) (L C : Nat → Nat) (Z : Nat → List Int), a = some x ∧ len ≤ cap ∧ cap ≤ maxLen ∧
      ∀ r, r < cap → W.cell? (x.add r) = some (.slice (A r) (L r) (C r)) ∧ L r ≤ C r ∧ C r ≤ maxLen ∧ (Z r).length = C r ∧ (∀ n ∈ Z r, (Lit.int .u8 n).wf = true) ∧ (A r = none → C r = 0) ∧
        ∀ a', A r = some a' → 0 ≤ a'.block ∧ ∀ c, c < C r → W.cell? (a'.add c) = some (.int .u8 ((Z r).getD c 0))) :
    RowsB W a len ∧ len ≤ cap ∧ cap ≤ maxLen := by
  rcases h with ⟨rfl, rfl, rfl⟩ | ⟨x, A, L, C, Z, rfl, hl, hm, hcell⟩
  · exact ⟨fun h => absurd h (by omega), Nat.le_refl _, by decide⟩
  · refine ⟨fun hn => ?_, hl, hm⟩
    obtain ⟨b, off, spot⟩ := x
    have h0 := (hcell 0 (by omega)).1
    have hspot : spot = none := by simpa [Addr.add] using World.cell?_spot h0
    subst hspot
    refine ⟨b, off, rfl, by simpa [Addr.add] using World.block_lt_of_cell? W _ h0, fun i hi => ?_⟩
    obtain ⟨k1, k2, k3, k4, k5, k6, k7⟩ := hcell i (by omega)
    obtain ⟨bs, r1, r2, r3⟩ := row_of_bytes (W := W) (a := A i) (len := L i) (cap := C i) (by
      cases hA : A i with
      | none => exact .inl ⟨rfl, by have := k6 hA; omega, k6 hA⟩
      | some a' => exact .inr ⟨a', Z i, rfl, k2, k3, k4, fun j hj => (k7 a' hA).2 j (by omega), k5⟩)
    refine ⟨A i, L i, C i, bs, ?_, r1, r2, r3⟩
    unfold Addr.add at k1
    split at k1
    · rename_i hi0; subst hi0; exact k1
    · exact k1
theorem putAt_end (W bs : List UInt8) : putAt W W.length bs = W ++ bs := by
  unfold putAt
  rw [List.take_length, List.drop_eq_nil_of_le (by omega), List.append_nil]
theorem str_add (a b : List UInt8) : (⟨a.toArray⟩ : ByteArray) ++ ⟨b.toArray⟩ = ⟨(a ++ b).toArray⟩ := by
  apply ByteArray.ext
  rw [ByteArray.data_append]
  simp
end Go.Proofs.YtbljdcdcnnidkaaGreatDoor.Disk
/-
  Proved: SlotsAgain returns true, whatever it is handed: Saves that fail, and others behind them.
-/
namespace Go.Proofs.YtbljdcdcnnidkaaGreatDoor.Slot
open Go.RowKit Go.Proofs.YtbljdcdcnnidkaaGreatDoor.Rec Go.Proofs.YtbljdcdcnnidkaaGreatDoor.Disk
open Go.Proofs.YtbljdcdcnnidkaaGreatDoor.Crc (Turned)
open Go.Proofs.YtbljdcdcnnidkaaGreatDoor.Seg (Fr ptr mark_old mark_top free_fr failRaw_held)
set_option linter.unusedVariables false
set_option linter.unusedSimpArgs false

/-- A file of slots of which Saves may have failed. -/
structure Tried (own : Own) (w0 w : World) (v : Sf) (x : Fl) (a : Option Nat) (K : Nat) : Prop where
  ex : ∃ g d, SG own w0 w v g x a K d
  lasts : v.lasts = true
  sides : SidesU x.now v.slot v.turn v.used v.txt
theorem Tried.all {own : Own} {w0 w w' : World} {v : Sf} {x : Fl} {a : Option Nat} {K : Nat} (h : Tried own w0 w v x a K) (hb : Below w.heap.size w w') : Tried own w0 w' v x a K := by
  obtain ⟨g, d, hs⟩ := h.ex
  exact { h with ex := ⟨g, d, hs.all hb⟩ }
theorem Tried.top {own : Own} {w0 w : World} {v : Sf} {x : Fl} {a : Option Nat} {K : Nat} (h : Tried own w0 w v x a K) : ∀ b p, own b = some p → b < w.heap.size := by
  obtain ⟨g, d, hs⟩ := h.ex
  exact hs.top
theorem Tried.below {own : Own} {w0 w : World} {v : Sf} {x : Fl} {a : Option Nat} {K : Nat} (h : Tried own w0 w v x a K) : Below w0.heap.size w0 w := by
  obtain ⟨g, d, hs⟩ := h.ex
  exact hs.disk.below
theorem Tried.lies {own : Own} {w0 w : World} {v : Sf} {x : Fl} {a : Option Nat} {K : Nat} (h : Tried own w0 w v x a K) : Lies own w v := by
  obtain ⟨g, d, hs⟩ := h.ex
  exact hs.lies
theorem Up.tried {own : Own} {w0 w : World} {v : Sf} {x : Fl} {K : Nat} (h : Up own w0 w v x K) : Tried own w0 w v x none K :=
  ⟨h.ex, h.lasts, by rw [h.used]; exact h.sides.toU⟩
def failArm (n : Int) : Option Nat := if 0 ≤ n then some n.toNat else none
theorem tried_fail {own : Own} {w0 w : World} {v : Sf} {x : Fl} {a : Option Nat} {K : Nat} (n : Int) (h : Tried own w0 w v x a K) (hn : n ≤ 9223372036854775807) :
    Calls Tryz.prog 8 #[.pointer (some ⟨v.f, 0, none⟩), .int .i64 n] w fun e w' => e = .returned undef ∧ Tried own w0 w' v x (failArm n) K ∧ Fr own own w w' := by
  obtain ⟨g, d, hs⟩ := h.ex
  refine (failRaw_held n hs.disk hn).mono ?_
  rintro e w' ⟨he, hd, hst⟩
  refine ⟨he, { h with ex := ⟨g, _, hd, ⟨hs.one.N, hs.one.S, hs.one.wait, hs.one.fl⟩, ?_, hs.lies.stp (Stp.of hst) hs.lies.ne, hs.nm⟩ }, Fr.of_step hst⟩
  unfold Dk.arm failArm
  by_cases h0 : 0 ≤ n
  · rw [if_pos (by simp [h0]), if_pos h0]
    congr 1
    show (max n 0).toNat = _
    omega
  · rw [if_neg (by simp [h0]), if_neg h0]
/-- A Save that fails. -/
theorem tried_bad {own : Own} {w0 w : World} {v : Sf} {x : Fl} {a : Option Nat} {K : Nat} (hT : Turned w0) (h : Tried own w0 w v x a K) (hbad : a = some 0 ∨ a = some 1) (hu : v.used < 1099511627776) (hK : K + 2 ≤ 1073741824)
    {A : Option Addr} {n c : Nat} {b : List UInt8} (hR : Free own w A n (bvs b)) (hnc : n ≤ c) (hc : c ≤ maxLen) (hn : n ≤ 4080) :
    Calls Tryz.prog 10 #[.pointer (some ⟨v.sf, 0, none⟩), .slice A n c] w fun e w' => e = .returned (.int .i64 3) ∧ ∃ own' x', Tried own' w0 w' { v with used := v.used + 1 } x' none (K + 2) ∧ Fr own own' w w' := by
  obtain ⟨g, d, hs⟩ := h.ex
  have hbn : b.length = n := by have := hR.1; rwa [bvs_length] at this
  refine (save_any hT hs h.lasts hu h.sides.two h.sides.len hR hnc hc hn hK).mono ?_
  rintro e w' ⟨er, he, own', d', v', x', a', hsv, hsg, hfr⟩
  cases hsv with
  | write => exact ⟨he, own', x, ⟨⟨g, d', hsg⟩, h.lasts, h.sides.more (Nat.le_succ _)⟩, hfr⟩
  | sync L _ => exact ⟨he, own', ⟨putAt x.now (4096 * (1 - v.slot)) (slotFull (v.used + 1) b), x.was, L⟩, ⟨⟨g, d', hsg⟩, h.lasts, h.sides.tried (by omega) (slotFull_len (by omega)) (Nat.lt_succ_self _) (by omega)⟩, hfr⟩
  | ok _ h0 h1 => rcases hbad with e | e <;> contradiction
/-- A Save that comes back. -/
theorem tried_ok {own : Own} {w0 w : World} {v : Sf} {x : Fl} {a : Option Nat} {K : Nat} (hT : Turned w0) (h : Tried own w0 w v x a K) (hok : ¬ (a = some 0 ∨ a = some 1)) (hu : v.used < 1099511627776) (hK : K + 2 ≤ 1073741824)
    {A : Option Addr} {n c : Nat} {b : List UInt8} (hR : Free own w A n (bvs b)) (hnc : n ≤ c) (hc : c ≤ maxLen) (hn : n ≤ 4080) :
    Calls Tryz.prog 10 #[.pointer (some ⟨v.sf, 0, none⟩), .slice A n c] w fun e w' => e = .returned (.int .i64 0) ∧ ∃ own' x', Tried own' w0 w' { v with slot := 1 - v.slot, turn := v.used + 1, txt := b, used := v.used + 1 } x' (armed (armed a)) (K + 2) ∧ Sides x'.now (1 - v.slot) (v.used + 1) b ∧ x'.was = x'.now ∧ x'.soiled = [] ∧ Fr own own' w w' := by
  obtain ⟨g, d, hs⟩ := h.ex
  have hbn : b.length = n := by have := hR.1; rwa [bvs_length] at this
  refine (save_any hT hs h.lasts hu h.sides.two h.sides.len hR hnc hc hn hK).mono ?_
  rintro e w' ⟨er, he, own', d', v', x', a', hsv, hsg, hfr⟩
  cases hsv with
  | write => exact absurd (.inl rfl) hok
  | sync L _ => exact absurd (.inr rfl) hok
  | ok _ h0 h1 =>
    have hS := h.sides.save (b' := b) (r := List.replicate (4080 - b.length) 0) (u' := v.used + 1) (by omega) (slotFull_len (by omega)) (Nat.lt_succ_self _) (by omega)
    exact ⟨he, own', ⟨putAt x.now (4096 * (1 - v.slot)) (slotFull (v.used + 1) b), putAt x.now (4096 * (1 - v.slot)) (slotFull (v.used + 1) b), []⟩, ⟨⟨g, d', hsg⟩, h.lasts, hS.toU⟩, hS, rfl, rfl, hfr⟩
/-- A row that lay before is no disk's. -/
theorem free_of {own : Own} {w w1 wr : World} {A : Option Addr} {n : Nat} {vs : List Value} (ht : ∀ b p, own b = some p → b < wr.heap.size) (hb : Below w1.heap.size w1 wr) (h0 : Below w.heap.size w w1) (h : (∀ b, b < w.heap.size → own b = none) ∧ Row w w.heap.size A n vs) : Free own wr A n vs := by
  refine ⟨h.2.1, fun hn => ?_⟩
  obtain ⟨b, o, e, hlt, hc⟩ := h.2.2 hn
  have h1 := Nat.lt_of_lt_of_le hlt h0.size
  exact ⟨b, o, e, h.1 b hlt, Nat.lt_of_lt_of_le h1 hb.size, fun i v hv => (hb.cell (p := ⟨b, o + i, none⟩) h1).trans ((h0.cell (p := ⟨b, o + i, none⟩) hlt).trans (hc i v hv))⟩
theorem Tried.none {own : Own} {w0 w : World} {v : Sf} {x : Fl} {a : Option Nat} {K : Nat} (h : Tried own w0 w v x a K) : ∀ b, b < w0.heap.size → own b = none := by
  obtain ⟨g, d, hs⟩ := h.ex
  exact hs.disk.free
end Go.Proofs.YtbljdcdcnnidkaaGreatDoor.Slot
