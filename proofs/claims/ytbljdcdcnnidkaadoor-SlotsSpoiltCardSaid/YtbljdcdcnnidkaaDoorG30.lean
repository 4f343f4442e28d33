/-
  Texts one behind the other: SlotBase.
-/
import Derived.Test.YtbljdcdcnnidkaaDoorG27
import Derived.Test.YtbljdcdcnnidkaaDoorG29
/-
  Proved: law 9's 'begun' returns true; the steps of the laws on a file of slots whose disk fails no call.
-/
namespace Go.Proofs.YtbljdcdcnnidkaaDoor.Slot
open Go.RowKit Go.Proofs.YtbljdcdcnnidkaaDoor.Rec Go.Proofs.YtbljdcdcnnidkaaDoor.Disk
open Go.Proofs.YtbljdcdcnnidkaaDoor.Crc (Turned)
open Go.Proofs.YtbljdcdcnnidkaaDoor.Seg (Fr ptr mark_old mark_top free_fr)
set_option linter.unusedVariables false
set_option linter.unusedSimpArgs false

def sA : ByteArray := ⟨#[65]⟩
def nmA : Nm := [65]
/-- A literal's bytes are no disk's. -/
theorem lit_free {own : Own} {w : World} (ht : ∀ b p, own b = some p → b < w.heap.size) (bs : List UInt8) (n : Nat) (hn : bs.length = n) (cs : Array Value) (hcs : cs = (bvs bs).toArray) (fr : Nat × Nat) : Free own (w.alloc (.cells cs 5 fr)) (some ⟨w.heap.size, 0, none⟩) n (bvs bs) := by
  subst hcs
  have hR : Row (w.alloc (.cells (bvs bs).toArray 5 fr)) (w.heap.size + 1) (some ⟨w.heap.size, 0, none⟩) n (bvs bs) := by
    have hsz : (bvs bs).toArray.size = n := by rw [List.size_toArray, bvs_length, hn]
    have := Row.fresh w 5 fr (bvs bs).toArray
    rw [hsz] at this
    exact this
  refine ⟨hR.1, fun h0 => ?_⟩
  obtain ⟨b, o, e, hb, hc⟩ := hR.2 h0
  injection e with e
  injection e with e1 e2
  subst e1 e2
  refine ⟨_, 0, rfl, ?_, by simp, hc⟩
  cases ho : own w.heap.size with
  | none => rfl
  | some p => have := ht _ _ ho; omega
theorem free_none (own : Own) (w : World) (A : Option Addr) : Free own w A 0 (bvs []) := ⟨rfl, fun h => absurd h (by omega)⟩
/-- A file of slots that was saved, on a disk that fails no call. -/
structure Up (own : Own) (w0 w : World) (v : Sf) (x : Fl) (K : Nat) : Prop where
  ex : ∃ g d, SG own w0 w v g x none K d
  lasts : v.lasts = true
  sides : Sides x.now v.slot v.turn v.txt
  used : v.used = v.turn
  was : x.was = x.now
  clean : x.soiled = []
theorem Up.all {own : Own} {w0 w w' : World} {v : Sf} {x : Fl} {K : Nat} (h : Up own w0 w v x K) (hb : Below w.heap.size w w') : Up own w0 w' v x K := by
  obtain ⟨g, d, hs⟩ := h.ex
  exact { h with ex := ⟨g, d, hs.all hb⟩ }
theorem Up.top {own : Own} {w0 w : World} {v : Sf} {x : Fl} {K : Nat} (h : Up own w0 w v x K) : ∀ b p, own b = some p → b < w.heap.size := by
  obtain ⟨g, d, hs⟩ := h.ex
  exact hs.top
theorem Up.below {own : Own} {w0 w : World} {v : Sf} {x : Fl} {K : Nat} (h : Up own w0 w v x K) : Below w0.heap.size w0 w := by
  obtain ⟨g, d, hs⟩ := h.ex
  exact hs.disk.below
theorem Up.lies {own : Own} {w0 w : World} {v : Sf} {x : Fl} {K : Nat} (h : Up own w0 w v x K) : Lies own w v := by
  obtain ⟨g, d, hs⟩ := h.ex
  exact hs.lies
/-- Create on a new disk. -/
theorem up_create {own : Own} {w0 w : World} {f K : Nat} {d : Dk} (nm : ByteArray) (hT : Turned w0) (h : Held own w0 w f d K) (hB : Bare d) (ha : d.arm = none) (hs : nm.size ≤ maxLen) (hg : goodName nm.data.toList = true) (hne : nm.data.toList ≠ nmNew) (hK : K + 5 ≤ 1073741824) (hroom : 8192 ≤ d.room)
    {A : Option Addr} {n c : Nat} {b : List UInt8} (hR : Free own w A n (bvs b)) (hnc : n ≤ c) (hc : c ≤ maxLen) (hn : n ≤ 4080) :
    Calls Tryd.prog 10 #[.pointer (some ⟨f, 0, none⟩), .string nm, .slice A n c] w fun e w' => ∃ sf, e = .returned (.tuple #[.pointer (some ⟨sf, 0, none⟩), .int .i64 0]) ∧ ∃ own', Up own' w0 w' ⟨f, sf, nm, 0, 1, b, 1, true⟩ ⟨laidB b, laidB b, []⟩ (K + 5) ∧ Stp own own' f w w' := by
  have hbn : b.length = n := by have := hR.1; rwa [bvs_length] at this
  refine (create_slots nm hT h hB ha hs hg hne hK hroom hR hnc hc hn).mono ?_
  rintro e w' (⟨_, hnot⟩ | ⟨sf, he, hc⟩)
  · obtain ⟨k, hk, _⟩ := hnot.arm
    cases hk
  · obtain ⟨own', g, d', h1, h2, _⟩ := hc.ex
    exact ⟨sf, he, own', ⟨⟨g, d', h1⟩, rfl, laidB_sides (by omega), rfl, rfl, rfl⟩, h2⟩
theorem slotFull_len {t : Nat} {b : List UInt8} (h : b.length ≤ 4080) : (slotB t b ++ List.replicate (4080 - b.length) 0).length ≤ 4096 := Nat.le_of_eq (slotFull_length (t := t) h)
/-- Save. -/
theorem up_save {own : Own} {w0 w : World} {v : Sf} {x : Fl} {K : Nat} (hT : Turned w0) (h : Up own w0 w v x K) (hu : v.turn < 1099511627776) (hK : K + 2 ≤ 1073741824)
    {A : Option Addr} {n c : Nat} {b : List UInt8} (hR : Free own w A n (bvs b)) (hnc : n ≤ c) (hc : c ≤ maxLen) (hn : n ≤ 4080) :
    Calls Tryd.prog 12 #[.pointer (some ⟨v.sf, 0, none⟩), .slice A n c] w fun e w' => e = .returned (.int .i64 0) ∧ ∃ own' x', Up own' w0 w' { v with slot := 1 - v.slot, turn := v.turn + 1, txt := b, used := v.turn + 1 } x' (K + 2) ∧ Fr own own' w w' := by
  obtain ⟨g, d, hs⟩ := h.ex
  have hbn : b.length = n := by have := hR.1; rwa [bvs_length] at this
  have h2 := h.sides.two
  refine (save_any hT hs h.lasts (by rw [h.used]; exact hu) h2 h.sides.len hR hnc hc hn hK).mono ?_
  rintro e w' ⟨er, he, own', d', v', x', a', hsv, hsg, hfr⟩
  cases hsv with
  | ok _ h0 h1 =>
    refine ⟨he, own', ⟨putAt x.now (4096 * (1 - v.slot)) (slotFull (v.turn + 1) b), putAt x.now (4096 * (1 - v.slot)) (slotFull (v.turn + 1) b), []⟩, ⟨⟨g, d', ?_⟩, h.lasts, ?_, rfl, rfl, rfl⟩, hfr⟩
    · have e1 := h.used
      rw [e1] at hsg
      have : armed (armed (none : Option Nat)) = none := rfl
      rw [this] at hsg
      exact hsg
    · exact h.sides.save (by omega) (slotFull_len (by omega)) (Nat.lt_succ_self _) (by omega)
theorem up_large {own : Own} {w0 w : World} {v : Sf} {x : Fl} {K : Nat} (h : Up own w0 w v x K) (A : Option Addr) (n c : Nat) (hn : 4080 < n) (hnm : n ≤ 1000000) :
    Calls Tryd.prog 12 #[.pointer (some ⟨v.sf, 0, none⟩), .slice A n c] w fun e w' => e = .returned (.int .i64 9) ∧ w = w' :=
  (saveLarge_any (own := own) (v := v) A n c hn hnm).mono fun e w' ⟨h1, h2⟩ => ⟨h1, h2.symm⟩
theorem one_clean {d : Dk} {nm : Nm} {g : Nat} {x : Fl} (o : OneFile d nm g x) (h : x.soiled = []) : Dk.clean d = true := by
  unfold Dk.clean
  rw [o.N]
  refine decide_eq_true ?_
  show (d.fl g).soiled.length + 0 = 0
  rw [o.fl, h]
  rfl
/-- Open of such a file, on its disk. -/
theorem up_open {own : Own} {w0 w : World} {v : Sf} {x : Fl} {K : Nat} (hT : Turned w0) (h : Up own w0 w v x K) (hK : K + 2 ≤ 1073741824) :
    Calls Tryd.prog 14 #[.pointer (some ⟨v.f, 0, none⟩), .string v.nm] w fun e w' => ∃ sf, e = .returned (.tuple #[.pointer (some ⟨sf, 0, none⟩), .int .i64 0]) ∧ ∃ own', Up own' w0 w' v x (K + 2) ∧ Up own' w0 w' { v with sf := sf, used := v.turn } x (K + 2) ∧ w.heap.size ≤ sf ∧ Stp own own' v.f w w' := by
  obtain ⟨g, d, hs⟩ := h.ex
  refine (open_tells v.nm hT hs.disk hs.nm hs.one.look h.sides.len hK h.sides.best).mono ?_
  rintro e w' ⟨sf, own', he, hge, hl, ⟨d', hlk, hd⟩, hst⟩
  rw [one_clean hs.one h.clean] at hl
  refine ⟨sf, he, own', { h with ex := ⟨g, d', hd, hlk.one hs.one, hlk.arm.trans hs.arm, hs.lies.stp hst hs.lies.ne, hs.nm⟩ }, ?_, hge, hst⟩
  refine ⟨⟨g, d', hd, hlk.one hs.one, hlk.arm.trans hs.arm, ?_, hs.nm⟩, h.lasts, h.sides, rfl, h.was, h.clean⟩
  have e1 := h.lasts
  show Lies own' w' ⟨v.f, sf, v.nm, v.slot, v.turn, v.txt, v.turn, v.lasts⟩
  rw [e1]
  exact hl
/-- Behind a crash. -/
theorem up_crash {own : Own} {w0 w : World} {v : Sf} {x : Fl} {K : Nat} (n torn : Int) (h : Up own w0 w v x K) {B : Nat} {A : Option Addr} {m c : Nat} {keep : List Bool} (hR : Row w B A m (lvs keep)) (hB : B ≤ w.heap.size) (hm : m ≤ 1099511627776) :
    Calls Tryd.prog 13 #[.pointer (some ⟨v.f, 0, none⟩), .int .i64 n, .slice A m c, .int .i64 torn] w fun e w' => ∃ f', e = .returned (.pointer (some ⟨f', 0, none⟩)) ∧ ∃ own' d' g', Held own' w0 w' f' d' K ∧ OneFile d' v.nm.data.toList g' x ∧ d'.arm = none ∧ w.heap.size ≤ f' ∧ Fr own own' w w' := by
  obtain ⟨g, d, hs⟩ := h.ex
  refine (crash_any (c := c) n torn hs.disk.disk hR hB hm).mono ?_
  rintro e w' ⟨own', f', d', he, hge, hd, hcr, hb, hsm, _⟩
  have hk := hs.disk.beside hb hsm hd.top
  obtain ⟨g', h1, h2⟩ := hs.one.crashed hcr
  have hc : x.crash (partsFor 0 x.soiled.length keep torn) = x.now := x.crash_clean h.clean h.was _
  rw [hc] at h1
  have hx : (⟨x.now, x.now, []⟩ : Fl) = x := by
    cases x
    have e1 := h.was
    have e2 := h.clean
    simp only at e1 e2
    rw [e1, e2]
  rw [hx] at h1
  exact ⟨f', he, own', d', g', ⟨hd, hk.below, hk.free⟩, h1, h2, hge, ⟨hb.os, hb.tape, hb.output, hb.size, hsm, fun b hb' _ => hb.block b hb'⟩⟩
/-- Open of a file that a crash left. -/
theorem up_again {own : Own} {w0 w : World} {f K g s t : Nat} {d : Dk} {x : Fl} {b : List UInt8} (nm : ByteArray) (hT : Turned w0) (h : Held own w0 w f d K) (o : OneFile d nm.data.toList g x) (ha : d.arm = none) (hs : nm.size ≤ maxLen) (hsd : Sides x.now s t b) (hw : x.was = x.now) (hc : x.soiled = []) (hK : K + 2 ≤ 1073741824) :
    Calls Tryd.prog 14 #[.pointer (some ⟨f, 0, none⟩), .string nm] w fun e w' => ∃ sf, e = .returned (.tuple #[.pointer (some ⟨sf, 0, none⟩), .int .i64 0]) ∧ ∃ own', Up own' w0 w' ⟨f, sf, nm, s, t, b, t, true⟩ x (K + 2) ∧ Stp own own' f w w' := by
  refine (open_tells nm hT h hs o.look hsd.len hK hsd.best).mono ?_
  rintro e w' ⟨sf, own', he, hge, hl, ⟨d', hlk, hd⟩, hst⟩
  rw [one_clean o hc] at hl
  exact ⟨sf, he, own', ⟨⟨g, d', hd, hlk.one o, hlk.arm.trans ha, hl, hs⟩, rfl, hsd, rfl, hw, hc⟩, hst⟩
/-- A disk's file as Size tells it. -/
theorem up_size {own : Own} {w0 w : World} {v : Sf} {x : Fl} {K : Nat} (h : Up own w0 w v x K) : Calls Tryd.prog 17 #[.pointer (some ⟨v.f, 0, none⟩), .string v.nm] w fun e w' => e = .returned (.int .i64 8192) ∧ w = w' := by
  obtain ⟨g, d, hs⟩ := h.ex
  have := size_look v.nm hs.disk hs.nm hs.one.look
  rw [h.sides.len] at this
  exact this.mono fun e w' ⟨h1, h2⟩ => ⟨h1, h2.symm⟩
theorem new_bare (n : Int) : Bare (newDk n []) := ⟨rfl, rfl, rfl⟩
theorem new_arm (n : Int) : (newDk n []).arm = none := rfl
set_option maxRecDepth 100000 in
set_option maxHeartbeats 4000000 in
theorem slotbegun_any (w : World) (hT : Turned w) : Calls Tryd.prog 8 #[] w fun e w' => e = .returned (.bool true) ∧ Below w.heap.size w w' := by
  have hcv := fun (w : World) (C : Array Value) (n c : Nat) => Lib.run_convert_bytes_const (P := Tryd.prog) w 33 5 C n c Tryd.underlying33 Tryd.underlying5
  have CN := Lib.hid (new_held 100000 w)
  rw [show room 100000 = 100000 by decide] at CN
  have HT := Lib.hid hT
  clear hT
  go_enter Tryd.func8, Tryd.ntmps8
  go_upto_region 2 with (go_at_call 9; refine CN.out.mono ?_; rintro e w1 ⟨own1, f, rfl, hd1⟩)
  have CC : Hid (Calls Tryd.prog 10 #[.pointer (some ⟨f, 0, none⟩), .string ⟨#[65]⟩, .slice (some ⟨w1.heap.size, 0, none⟩) 3 3] (w1.alloc (.cells #[.int .u8 111, .int .u8 110, .int .u8 101] 5 (3, 4))) fun e w' => ∃ sf, e = .returned (.tuple #[.pointer (some ⟨sf, 0, none⟩), .int .i64 0]) ∧ ∃ own', Up own' w w' ⟨f, sf, sA, 0, 1, [111, 110, 101], 1, true⟩ ⟨laidB [111, 110, 101], laidB [111, 110, 101], []⟩ 5 ∧ Stp own1 own' f (w1.alloc (.cells #[.int .u8 111, .int .u8 110, .int .u8 101] 5 (3, 4))) w') :=
    up_create sA HT.out (hd1.all (below_alloc w1 _)) (new_bare _) (new_arm _) (by decide) (by decide) (by decide) (by decide) (by decide) (lit_free hd1.top [111, 110, 101] 3 rfl _ rfl (3, 4)) (by decide) (by decide) (by decide)
  clear hd1 CN
  go_upto_region 5 with (go_at_call 10; refine CC.out.mono ?_; rintro e w2 ⟨sf, rfl, own2, hu2, _⟩)
  have CS : Hid (Calls Tryd.prog 12 #[.pointer (some ⟨sf, 0, none⟩), .slice (some ⟨w2.heap.size, 0, none⟩) 3 3] (w2.alloc (.cells #[.int .u8 116, .int .u8 119, .int .u8 111] 5 (3, 4))) fun e w' => e = .returned (.int .i64 0) ∧ ∃ own' x', Up own' w w' ⟨f, sf, sA, 1, 2, [116, 119, 111], 2, true⟩ x' 7 ∧ Fr own2 own' _ w') :=
    up_save HT.out (hu2.all (below_alloc w2 _)) (by show (1 : Nat) < 1099511627776; decide) (by decide) (lit_free hu2.top [116, 119, 111] 3 rfl _ rfl (3, 4)) (by decide) (by decide) (by decide)
  clear hu2 CC
  go_upto_region 6 with (go_at_call 12; refine CS.out.mono ?_; rintro e w3 ⟨rfl, own3, x3, hu3, _⟩)
  have CO : Hid (Calls Tryd.prog 14 #[.pointer (some ⟨f, 0, none⟩), .string ⟨#[65]⟩] w3 fun e w' => ∃ sf', e = .returned (.tuple #[.pointer (some ⟨sf', 0, none⟩), .int .i64 0]) ∧ ∃ own', Up own' w w' ⟨f, sf, sA, 1, 2, [116, 119, 111], 2, true⟩ x3 9 ∧ Up own' w w' ⟨f, sf', sA, 1, 2, [116, 119, 111], 2, true⟩ x3 9 ∧ _ ∧ _) := up_open HT.out hu3 (by decide)
  clear hu3 CS
  go_upto_region 7 with (go_at_call 14; refine CO.out.mono ?_; rintro e w4 ⟨sf', rfl, own4, hu4, hu4', _, _⟩)
  have CT := Lib.hid (text_any hu4'.lies)
  have HU4 := Lib.hid hu4
  have HU4' := Lib.hid hu4'
  clear CO hu4 hu4'
  go_wp2_with (first
    | (go_at_call 15; refine CT.out.mono ?_; rintro e w5 ⟨A5, c5, rfl, R5, B5⟩
       have cs : ∀ c, (convert 33 9 (.slice A5 3 c)).run Tryd.prog w5 = .ok (.string ⟨#[116, 119, 111]⟩) w5 := fun c => Disk.bytes_string (P := Tryd.prog) (c := c) (dst := 9) Tryd.underlying33 Tryd.underlying5 Tryd.underlying9 R5.out
       have CU := Lib.hid (turn_any (HU4'.out.lies.all B5.out))
       have CU2 := Lib.hid (turn_any (HU4.out.lies.all B5.out))
       have HB := Lib.hid (HU4.out.below.trans (B5.out.mono HU4.out.below.size)))
    | (go_at_call 16; with_reducible refine CU.out.mono ?_; rintro e w' ⟨rfl, hw'⟩; obtain rfl : w5 = w' := hw'.symm)
    | (go_at_call 16; with_reducible refine CU2.out.mono ?_; rintro e w' ⟨rfl, hw'⟩; obtain rfl : w5 = w' := hw'.symm))
  go_ret
  exact ⟨rfl, HB.out⟩
end Go.Proofs.YtbljdcdcnnidkaaDoor.Slot
