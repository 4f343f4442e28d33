/-
  Texts one behind the other: SlotOpen, SlotBase.
-/
import Derived.Test.YtcmlchicpmnhdaaGreatDoorG41
import Derived.Test.YtcmlchicpmnhdaaGreatDoorG42
/-
  Proved: what Open of package slots does: the slot that is whole with the greater turn.
  Conditions: the table crc.turned holds its sixteen words; the file has two slots, or is too short for one.
-/
namespace Go.Proofs.YtcmlchicpmnhdaaGreatDoor.Slot
open Go.RowKit Go.Proofs.YtcmlchicpmnhdaaGreatDoor.Rec Go.Proofs.YtcmlchicpmnhdaaGreatDoor.Disk
open Go.Proofs.YtcmlchicpmnhdaaGreatDoor.Crc (Turned)
open Go.Proofs.YtcmlchicpmnhdaaGreatDoor.Seg (Fr ptr mark_old mark_top free_fr)
set_option linter.unusedVariables false
set_option linter.unusedSimpArgs false

/-- A disk that was read. -/
structure Like (d d' : Dk) : Prop where
  N : d'.N = d.N
  S : d'.S = d.S
  wait : d'.wait = d.wait
  fl : d'.fl = d.fl
  arm : d'.arm = d.arm
  room : d'.room = d.room
theorem Like.refl (d : Dk) : Like d d := ⟨rfl, rfl, rfl, rfl, rfl, rfl⟩
theorem Like.read {d d' : Dk} (h : Like d d') (n : Nat) : Like d (d'.read n) := ⟨h.N, h.S, h.wait, h.fl, h.arm, h.room⟩
theorem Like.look {d d' : Dk} (h : Like d d') (n : Nm) : d'.look n = d.look n := by unfold Dk.look; rw [h.N, h.fl]
theorem Like.one {d d' : Dk} (h : Like d d') {nm : Nm} {g : Nat} {x : Fl} (o : OneFile d nm g x) : OneFile d' nm g x := ⟨h.N.trans o.N, h.S.trans o.S, h.wait.trans o.wait, by rw [h.fl]; exact o.fl⟩
theorem Like.dirty {d d' : Dk} (h : Like d d') : total (fun g => (d'.fl g).soiled.length) d'.N = total (fun g => (d.fl g).soiled.length) d.N := by rw [h.N, h.fl]
/-- Whether nothing of a disk is dirty. -/
def Dk.clean (d : Dk) : Bool := decide (total (fun g => (d.fl g).soiled.length) d.N = 0)
theorem Like.clean {d d' : Dk} (h : Like d d') : Dk.clean d' = Dk.clean d := by unfold Dk.clean; rw [h.dirty]
/-- The best of the first i slots. -/
def upto (l : List UInt8) : Nat → Option (Nat × Nat × List UInt8)
  | 0 => none
  | 1 => (slotOf (slotAt l 0)).map fun p => (0, p)
  | _ => best l
/-- What Open has found among the first i slots. -/
structure OpenSt (own : Own) (w0 w : World) (f : Nat) (nm : ByteArray) (l : List UInt8) (K : Nat) (d : Dk) (i : Nat) (p : Value) (own' : Own) (wr : World) : Prop where
  held : ∃ d', Like d d' ∧ Held own' w0 wr f d' (K + i)
  stp : Stp own own' f w wr
  nothing : upto l i = none → p = .pointer none
  found : ∀ s t b, upto l i = some (s, t, b) → ∃ sf, p = .pointer (some ⟨sf, 0, .none⟩) ∧ w.heap.size ≤ sf ∧ Lies own' wr ⟨f, sf, nm, s, t, b, t, Dk.clean d⟩
theorem OpenSt.all {own own' : Own} {w0 w wr w2 : World} {f K i : Nat} {nm : ByteArray} {l : List UInt8} {d : Dk} {p : Value} (h : OpenSt own w0 w f nm l K d i p own' wr) (hb : Below wr.heap.size wr w2) : OpenSt own w0 w f nm l K d i p own' w2 where
  held := by
    obtain ⟨d', h1, h2⟩ := h.held
    exact ⟨d', h1, h2.all hb⟩
  stp := h.stp.trans (Stp.below hb)
  nothing := h.nothing
  found := fun s t b e => by
    obtain ⟨sf, h1, h2, h3⟩ := h.found s t b e
    exact ⟨sf, h1, h2, h3.all hb⟩
/-- Slot i was looked at. -/
theorem from_next {own own' : Own} {w0 w wr : World} {f K i : Nat} {nm : ByteArray} {d : Dk} {x : Fl} {p : Value} (hT : Turned w0) (h : OpenSt own w0 w f nm x.now K d i p own' wr) (hs : nm.size ≤ maxLen) (hx : d.look nm.data.toList = some x) (hl : x.now.length = 8192) (hi : i < 2) (hK : K + 2 ≤ 1073741824) :
    Calls Tryz.prog 65 #[.pointer (some ⟨f, 0, none⟩), .string nm, .int .i64 (i : Int)] wr fun e w' => ∃ q, e = .returned q ∧
      (slotOf (slotAt x.now i) = none → q = .pointer none ∧ ∃ own2, (∃ d', Like d d' ∧ Held own2 w0 w' f d' (K + i + 1)) ∧ Stp own' own2 f wr w') ∧
      (∀ t b, slotOf (slotAt x.now i) = some (t, b) → ∃ own2 sf, q = .pointer (some ⟨sf, 0, none⟩) ∧ wr.heap.size ≤ sf ∧ Lies own2 w' ⟨f, sf, nm, i, t, b, t, Dk.clean d⟩ ∧ (∃ d', Like d d' ∧ Held own2 w0 w' f d' (K + i + 1)) ∧ Stp own' own2 f wr w') := by
  obtain ⟨d', h1, h2⟩ := h.held
  refine (fromSlot_in nm i hT h2 hs (by rw [h1.look]; exact hx) (by omega) hi (by omega)).mono ?_
  rintro e w' ⟨q, he, hg⟩
  refine ⟨q, he, fun hn => ?_, fun t b hsm => ?_⟩
  · obtain ⟨k1, k2, k3⟩ := hg.none hn
    exact ⟨k1, own', ⟨_, h1.read 4096, k2⟩, Stp.of k3⟩
  · obtain ⟨own2, sf, lb, k1, k2, k3, k4, k5, k6⟩ := hg.some t b hsm
    have e4 : lb = Dk.clean d := by rw [k4, ← h1.clean]; rfl
    rw [e4] at k3
    exact ⟨own2, sf, k1, k2, k3, ⟨_, h1.read 4096, k5⟩, k6⟩
/-- The latest stays. -/
theorem OpenSt.stay {own own' own2 : Own} {w0 w wr w2 : World} {f K i : Nat} {nm : ByteArray} {l : List UInt8} {d : Dk} {p : Value} (h : OpenSt own w0 w f nm l K d i p own' wr) (hu : upto l (i + 1) = upto l i) (hd : ∃ d', Like d d' ∧ Held own2 w0 w2 f d' (K + i + 1)) (hs : Stp own' own2 f wr w2) (hf : f < w.heap.size) : OpenSt own w0 w f nm l K d (i + 1) p own2 w2 where
  held := hd
  stp := h.stp.trans hs
  nothing := fun e => h.nothing (hu.symm.trans e)
  found := fun s t b e => by
    obtain ⟨sf, h1, h2, h3⟩ := h.found s t b (hu.symm.trans e)
    exact ⟨sf, h1, h2, h3.stp hs (by show sf ≠ f; omega)⟩
/-- .. is another one. -/
theorem OpenSt.turn {own own' own2 : Own} {w0 w wr w2 : World} {f K i t sf : Nat} {nm : ByteArray} {l b : List UInt8} {d : Dk} {p : Value} (h : OpenSt own w0 w f nm l K d i p own' wr) (hu : upto l (i + 1) = some (i, t, b)) (hd : ∃ d', Like d d' ∧ Held own2 w0 w2 f d' (K + i + 1)) (hs : Stp own' own2 f wr w2) (hg : wr.heap.size ≤ sf)
    (hl : Lies own2 w2 ⟨f, sf, nm, i, t, b, t, Dk.clean d⟩) : OpenSt own w0 w f nm l K d (i + 1) (.pointer (some ⟨sf, 0, .none⟩)) own2 w2 where
  held := hd
  stp := h.stp.trans hs
  nothing := fun e => by rw [hu] at e; cases e
  found := fun s t' b' e => by
    rw [hu] at e
    injection e with e
    injection e with e1 e2
    injection e2 with e2 e3
    subst e1 e2 e3
    exact ⟨sf, rfl, Nat.le_trans h.stp.size hg, hl⟩
set_option maxRecDepth 100000 in
set_option maxHeartbeats 1000000 in
theorem openNone_any {own : Own} {w0 w : World} {f K : Nat} {d : Dk} (nm : ByteArray) (h : Held own w0 w f d K) (hs : nm.size ≤ maxLen) (hx : d.look nm.data.toList = none) :
    Calls Tryz.prog 33 #[.pointer (some ⟨f, 0, none⟩), .string nm] w fun e w' => e = .returned (.tuple #[.pointer none, .int .i64 1]) ∧ w = w' := by
  have CZ : Hid (Calls Tryz.prog 45 #[.pointer (some ⟨f, 0, none⟩), .string nm] w fun e w' => e = .returned (.int .i64 (-1)) ∧ w = w') := (size_lost nm h hs hx).mono fun e w' ⟨h1, h2⟩ => ⟨h1, h2.symm⟩
  clear h hs hx
  go_enter Tryz.func33, Tryz.ntmps33
  go_wp2_with (go_at_call 45; refine CZ.out.mono ?_; rintro e w' ⟨rfl, rfl⟩)
  go_ret2
  exact ⟨rfl, rfl⟩
set_option maxRecDepth 100000 in
set_option maxHeartbeats 4000000 in
theorem openShort_any {own : Own} {w0 w : World} {f K : Nat} {d : Dk} {x : Fl} (nm : ByteArray) (h : Held own w0 w f d K) (hs : nm.size ≤ maxLen) (hx : d.look nm.data.toList = some x) (hl : x.now.length < 4096) :
    Calls Tryz.prog 33 #[.pointer (some ⟨f, 0, none⟩), .string nm] w fun e w' => e = .returned (.tuple #[.pointer none, .int .i64 4]) ∧ Below w.heap.size w w' := by
  have CS := size_look nm h hs hx
  obtain ⟨L, hL⟩ : ∃ L, L = x.now.length := ⟨_, rfl⟩
  rw [← hL] at CS
  have CZ : Hid (Calls Tryz.prog 45 #[.pointer (some ⟨f, 0, none⟩), .string nm] w fun e w' => e = .returned (.int .i64 (L : Int)) ∧ w = w') := CS.mono fun e w' ⟨h1, h2⟩ => ⟨h1, h2.symm⟩
  have CF : Hid (∀ (s : Nat) W, s < 2 → Below w.heap.size w W → Calls Tryz.prog 65 #[.pointer (some ⟨f, 0, none⟩), .string nm, .int .i64 (s : Int)] W fun e w' => e = .returned (.pointer none) ∧ W = w') := fun s W h2 hb => fromSlot_out nm s (h.all hb) hs hx (by omega) h2
  clear h hs hx hl hL CS
  go_enter Tryz.func33, Tryz.ntmps33
  go_wp2_with (go_at_call 45; refine CZ.out.mono ?_; rintro e w' ⟨rfl, rfl⟩)
  go_loopw [6, 13] (fun p iv wr => ∃ i : Nat, iv = .int .i64 (i : Int) ∧ i ≤ 2 ∧ p = .pointer none ∧ Hid (Below w.heap.size w wr)) (fun _ iv _ => 2 - (RowKit.intOf iv).toNat)
  case atStart => exact ⟨0, rfl, by decide, rfl, Below.refl _ _⟩
  case round =>
    obtain ⟨i, rfl, hi, rfl, HB⟩ := hrel
    by_cases hlt : i < 2
    · have hlt' : (i : Int) < 2 := by omega
      have CI := Lib.hid (CF.out i wr hlt HB.out)
      go_upto_region 8 with (go_at_call 65; refine CI.out.mono ?_; rintro e w2 ⟨rfl, rfl⟩)
      go_quiet (fail)
      go_wp2_with fail
      go_roundw
      case rel => exact ⟨i + 1, by go_num, by omega, rfl, HB.out.trans ⟨rfl, rfl, rfl, Nat.le_refl _, fun _ _ => rfl⟩⟩
      case measure => (simp [RowKit.intOf]; omega)
    · obtain rfl : i = 2 := by omega
      go_wp2_with fail
      go_ret2
      exact ⟨rfl, HB.out⟩
set_option maxRecDepth 100000 in
set_option maxHeartbeats 8000000 in
theorem open_core {own : Own} {w0 w : World} {f K : Nat} {d : Dk} {x : Fl} (nm : ByteArray) (hT : Turned w0) (h : Held own w0 w f d K) (hs : nm.size ≤ maxLen) (hx : d.look nm.data.toList = some x) (hl : x.now.length = 8192) (hK : K + 2 ≤ 1073741824) (er : Int) (her : (best x.now = none ∧ er = 4) ∨ (best x.now ≠ none ∧ er = 0)) :
    Calls Tryz.prog 33 #[.pointer (some ⟨f, 0, none⟩), .string nm] w fun e w' => ∃ p, e = .returned (.tuple #[p, .int .i64 er]) ∧ ∃ own', OpenSt own w0 w f nm x.now K d 2 p own' w' := by
  have CS := size_look nm h hs hx
  rw [hl] at CS
  have CZ : Hid (Calls Tryz.prog 45 #[.pointer (some ⟨f, 0, none⟩), .string nm] w fun e w' => e = .returned (.int .i64 8192) ∧ w = w') := CS.mono fun e w' ⟨h1, h2⟩ => ⟨h1, h2.symm⟩
  have S0 : Hid (OpenSt own w0 w f nm x.now K d 0 (.pointer none) own w) := ⟨⟨d, Like.refl d, h⟩, Stp.refl _ _ _, fun _ => rfl, fun s t b e => by cases e⟩
  have CF : Hid (∀ i p own' wr, OpenSt own w0 w f nm x.now K d i p own' wr → i < 2 → _) := fun i p own' wr hst hi => from_next hT hst hs hx hl hi hK
  have HF : Hid (f < w.heap.size) := h.disk.lt
  have HER := Lib.hid her
  clear h hs hx hl hT CS hK her
  go_enter Tryz.func33, Tryz.ntmps33
  go_wp2_with (go_at_call 45; refine CZ.out.mono ?_; rintro e w' ⟨rfl, rfl⟩)
  go_loopw [6, 13] (fun p iv wr => ∃ (i : Nat) (own' : Own), iv = .int .i64 (i : Int) ∧ i ≤ 2 ∧ Hid (OpenSt own w0 w f nm x.now K d i p own' wr)) (fun _ iv _ => 2 - (RowKit.intOf iv).toNat)
  case atStart => exact ⟨0, own, rfl, by decide, S0⟩
  case round =>
    obtain ⟨i, own', rfl, hi, HST⟩ := hrel
    by_cases hlt : i < 2
    · have hlt' : (i : Int) < 2 := by omega
      have CI := Lib.hid (CF.out _ _ _ _ HST.out hlt)
      cases hr : slotOf (slotAt x.now i) with
      | none =>
        have CN : Hid (Calls Tryz.prog 65 #[.pointer (some ⟨f, 0, none⟩), .string nm, .int .i64 (i : Int)] wr fun e w' => e = .returned (.pointer none) ∧ Hid (∃ own2, (∃ d', Like d d' ∧ Held own2 w0 w' f d' (K + i + 1)) ∧ Stp own' own2 f wr w')) := by
          refine CI.out.mono ?_
          rintro e w' ⟨q, he, h1, _⟩
          obtain ⟨rfl, hh⟩ := h1 hr
          exact ⟨he, hh⟩
        have hu : upto x.now (i + 1) = upto x.now i := by
          rcases (by omega : i = 0 ∨ i = 1) with rfl | rfl
          · show (slotOf (slotAt x.now 0)).map _ = none
            rw [hr]
            rfl
          · show best x.now = (slotOf (slotAt x.now 0)).map _
            unfold best
            rw [hr]
            cases slotOf (slotAt x.now 0) <;> rfl
        have HU := Lib.hid hu
        clear hr hu CI
        go_upto_region 8 with (go_at_call 65; refine CN.out.mono ?_; rintro e w2 ⟨rfl, HH2⟩)
        go_quiet (fail)
        go_wp2_with fail
        go_roundw
        case rel =>
          obtain ⟨own2, hd, hs⟩ := HH2.out
          exact ⟨i + 1, own2, by go_num, by omega, (HST.out.stay HU.out hd hs HF.out).all ⟨rfl, rfl, rfl, Nat.le_refl _, fun _ _ => rfl⟩⟩
        case measure => (simp [RowKit.intOf]; omega)
      | some tb =>
        obtain ⟨t, b⟩ := tb
        have CN : Hid (Calls Tryz.prog 65 #[.pointer (some ⟨f, 0, none⟩), .string nm, .int .i64 (i : Int)] wr fun e w' => ∃ own2 sf, e = .returned (.pointer (some ⟨sf, 0, none⟩)) ∧ Hid (wr.heap.size ≤ sf ∧ Lies own2 w' ⟨f, sf, nm, i, t, b, t, Dk.clean d⟩ ∧ (∃ d', Like d d' ∧ Held own2 w0 w' f d' (K + i + 1)) ∧ Stp own' own2 f wr w')) := by
          refine CI.out.mono ?_
          rintro e w' ⟨q, he, _, h2⟩
          obtain ⟨own2, sf, rfl, hh⟩ := h2 t b hr
          exact ⟨own2, sf, he, hh⟩
        have HR := Lib.hid hr
        clear hr CI
        go_upto_region 8 with (go_at_call 65; refine CN.out.mono ?_; rintro e w2 ⟨own2, sf, rfl, HH2⟩)
        obtain ⟨hg, hlies, hd, hs⟩ := HH2.out
        have HG := Lib.hid hg
        have HL := Lib.hid hlies
        have HD := Lib.hid hd
        have HS := Lib.hid hs
        have y3 : w2.cell? ⟨sf, 3, none⟩ = some (.int .u64 (t : Int)) := Blk.cell hlies.blk 3
        clear hg hlies hd hs HH2 CN
        cases hu : upto x.now i with
        | none =>
          obtain rfl : u6 = .pointer none := HST.out.nothing hu
          have hu2 : upto x.now (i + 1) = some (i, t, b) := by
            rcases (by omega : i = 0 ∨ i = 1) with rfl | rfl
            · show (slotOf (slotAt x.now 0)).map _ = _
              rw [HR.out]
              rfl
            · have h0 : (slotOf (slotAt x.now 0)).map (fun p => (0, p)) = none := hu
              show best x.now = _
              unfold best
              rw [HR.out]
              cases h1 : slotOf (slotAt x.now 0) with
              | none => rfl
              | some z => rw [h1] at h0; cases h0
          have HU := Lib.hid hu2
          clear hu hu2
          go_quiet (fail)
          go_wp2_with fail
          go_roundw
          case rel => exact ⟨i + 1, own2, by go_num, by omega, (HST.out.turn HU.out HD.out HS.out HG.out HL.out).all ⟨rfl, rfl, rfl, Nat.le_refl _, fun _ _ => rfl⟩⟩
          case measure => (simp [RowKit.intOf]; omega)
        | some z =>
          obtain ⟨s', t', b'⟩ := z
          obtain rfl : i = 1 := by
            rcases (by omega : i = 0 ∨ i = 1) with rfl | rfl
            · cases hu
            · rfl
          obtain ⟨sf', rfl, hg', hl'⟩ := HST.out.found _ _ _ hu
          have x3 : w2.cell? ⟨sf', 3, none⟩ = some (.int .u64 (t' : Int)) := Blk.cell (hl'.stp HS.out (by show sf' ≠ f; have := HF.out; omega)).blk 3
          have h0 : (slotOf (slotAt x.now 0)).map (fun p => (0, p)) = some (s', t', b') := hu
          have hr0 : slotOf (slotAt x.now 0) = some (t', b') ∧ s' = 0 := by
            cases h1 : slotOf (slotAt x.now 0) with
            | none => rw [h1] at h0; cases h0
            | some z =>
              rw [h1] at h0
              injection h0 with h0
              injection h0 with e1 e2
              exact ⟨by rw [e2], e1.symm⟩
          have hbest : best x.now = if t' < t then some (1, t, b) else some (0, t', b') := by
            unfold best
            rw [HR.out, hr0.1]
          have HU0 := Lib.hid hu
          have HR0 := Lib.hid hr0
          have HBE := Lib.hid hbest
          clear hu h0 hr0 hbest hg' hl'
          by_cases hgt : t' < t
          · have hgt' : (t' : Int) < (t : Int) := by omega
            have hu2 : upto x.now (1 + 1) = some (1, t, b) := by
              show best x.now = _
              rw [HBE.out, if_pos hgt]
            have HU := Lib.hid hu2
            clear hgt hu2
            go_quiet (fail)
            go_wp2_with fail
            go_roundw
            case rel => exact ⟨1 + 1, own2, by go_num, by omega, (HST.out.turn HU.out HD.out HS.out HG.out HL.out).all ⟨rfl, rfl, rfl, Nat.le_refl _, fun _ _ => rfl⟩⟩
            case measure => (simp [RowKit.intOf])
          · have hgt' : ¬ (t' : Int) < (t : Int) := by omega
            have hu2 : upto x.now (1 + 1) = upto x.now 1 := by
              show best x.now = _
              rw [HBE.out, if_neg hgt, HU0.out, HR0.out.2]
            have HU := Lib.hid hu2
            clear hgt hu2
            go_quiet (fail)
            go_wp2_with fail
            go_roundw
            case rel => exact ⟨1 + 1, own2, by go_num, by omega, (HST.out.stay HU.out HD.out HS.out HF.out).all ⟨rfl, rfl, rfl, Nat.le_refl _, fun _ _ => rfl⟩⟩
            case measure => (simp [RowKit.intOf])
    · obtain rfl : i = 2 := by omega
      cases hb : best x.now with
      | none =>
        obtain rfl : u6 = .pointer none := HST.out.nothing hb
        obtain rfl : er = 4 := by
          rcases HER.out with ⟨_, h⟩ | ⟨h, _⟩
          · exact h
          · exact absurd hb h
        clear hb
        go_wp2_with fail
        go_ret2
        exact ⟨_, rfl, own', HST.out⟩
      | some z =>
        obtain ⟨s', t', b'⟩ := z
        obtain ⟨sf', rfl, hg', hl'⟩ := HST.out.found _ _ _ hb
        obtain rfl : er = 0 := by
          rcases HER.out with ⟨h, _⟩ | ⟨_, h⟩
          · rw [h] at hb; cases hb
          · exact h
        clear hb hg' hl'
        go_wp2_with fail
        go_ret2
        exact ⟨_, rfl, own', HST.out⟩
/-- A file that tells a text. -/
theorem open_tells {own : Own} {w0 w : World} {f K s t : Nat} {d : Dk} {x : Fl} {b : List UInt8} (nm : ByteArray) (hT : Turned w0) (h : Held own w0 w f d K) (hs : nm.size ≤ maxLen) (hx : d.look nm.data.toList = some x) (hl : x.now.length = 8192) (hK : K + 2 ≤ 1073741824) (hb : best x.now = some (s, t, b)) :
    Calls Tryz.prog 33 #[.pointer (some ⟨f, 0, none⟩), .string nm] w fun e w' => ∃ sf own', e = .returned (.tuple #[.pointer (some ⟨sf, 0, none⟩), .int .i64 0]) ∧ w.heap.size ≤ sf ∧ Lies own' w' ⟨f, sf, nm, s, t, b, t, Dk.clean d⟩ ∧ (∃ d', Like d d' ∧ Held own' w0 w' f d' (K + 2)) ∧ Stp own own' f w w' := by
  refine (open_core nm hT h hs hx hl hK 0 (.inr ⟨by rw [hb]; simp, rfl⟩)).mono ?_
  rintro e w' ⟨p, he, own', hst⟩
  obtain ⟨sf, rfl, h1, h2⟩ := hst.found s t b hb
  exact ⟨sf, own', he, h1, h2, hst.held, hst.stp⟩
/-- .. that tells none. -/
theorem open_corrupt {own : Own} {w0 w : World} {f K : Nat} {d : Dk} {x : Fl} (nm : ByteArray) (hT : Turned w0) (h : Held own w0 w f d K) (hs : nm.size ≤ maxLen) (hx : d.look nm.data.toList = some x) (hl : x.now.length = 8192) (hK : K + 2 ≤ 1073741824) (hb : best x.now = none) :
    Calls Tryz.prog 33 #[.pointer (some ⟨f, 0, none⟩), .string nm] w fun e w' => ∃ own', e = .returned (.tuple #[.pointer none, .int .i64 4]) ∧ (∃ d', Like d d' ∧ Held own' w0 w' f d' (K + 2)) ∧ Stp own own' f w w' := by
  refine (open_core nm hT h hs hx hl hK 4 (.inl ⟨hb, rfl⟩)).mono ?_
  rintro e w' ⟨p, he, own', hst⟩
  obtain rfl := hst.nothing hb
  exact ⟨own', he, hst.held, hst.stp⟩
end Go.Proofs.YtcmlchicpmnhdaaGreatDoor.Slot
/-
  Proved: law 9's 'begun' returns true; the steps of the laws on a file of slots whose disk fails no call.
-/
namespace Go.Proofs.YtcmlchicpmnhdaaGreatDoor.Slot
open Go.RowKit Go.Proofs.YtcmlchicpmnhdaaGreatDoor.Rec Go.Proofs.YtcmlchicpmnhdaaGreatDoor.Disk
open Go.Proofs.YtcmlchicpmnhdaaGreatDoor.Crc (Turned)
open Go.Proofs.YtcmlchicpmnhdaaGreatDoor.Seg (Fr ptr mark_old mark_top free_fr)
set_option linter.unusedVariables false
set_option linter.unusedSimpArgs false

def sA : ByteArray := ⟨#[65]⟩
def nmA : Nm := [65]
/-- A literal's bytes are no disk's. -/
theorem lit_free {own : Own} {w : World} (ht : ∀ b p, own b = some p → b < w.heap.size) (bs : List UInt8) (n : Nat) (hn : bs.length = n) (cs : Array Value) (hcs : cs = (bvs bs).toArray) (fr : Nat × Nat) : Free own (w.alloc (.cells cs 5 fr)) (some ⟨w.heap.size, 0, none⟩) n (bvs bs) := by
  subst hcs
  have hR : Row (w.alloc (.cells (bvs bs).toArray 5 fr)) (w.heap.size + 1) (some ⟨w.heap.size, 0, none⟩) n (bvs bs) := by
    have hsz : (bvs bs).toArray.size = n := by rw [List.size_toArray, bvs_length, hn]
    have := Row.fresh w 5 fr (bvs bs).toArray
    rw [hsz] at this
    exact this
  refine ⟨hR.1, fun h0 => ?_⟩
  obtain ⟨b, o, e, hb, hc⟩ := hR.2 h0
  injection e with e
  injection e with e1 e2
  subst e1 e2
  refine ⟨_, 0, rfl, ?_, by simp, hc⟩
  cases ho : own w.heap.size with
  | none => rfl
  | some p => have := ht _ _ ho; omega
theorem free_none (own : Own) (w : World) (A : Option Addr) : Free own w A 0 (bvs []) := ⟨rfl, fun h => absurd h (by omega)⟩
/-- A file of slots that was saved, on a disk that fails no call. -/
structure Up (own : Own) (w0 w : World) (v : Sf) (x : Fl) (K : Nat) : Prop where
  ex : ∃ g d, SG own w0 w v g x none K d
  lasts : v.lasts = true
  sides : Sides x.now v.slot v.turn v.txt
  used : v.used = v.turn
  was : x.was = x.now
  clean : x.soiled = []
theorem Up.all {own : Own} {w0 w w' : World} {v : Sf} {x : Fl} {K : Nat} (h : Up own w0 w v x K) (hb : Below w.heap.size w w') : Up own w0 w' v x K := by
  obtain ⟨g, d, hs⟩ := h.ex
  exact { h with ex := ⟨g, d, hs.all hb⟩ }
theorem Up.top {own : Own} {w0 w : World} {v : Sf} {x : Fl} {K : Nat} (h : Up own w0 w v x K) : ∀ b p, own b = some p → b < w.heap.size := by
  obtain ⟨g, d, hs⟩ := h.ex
  exact hs.top
theorem Up.below {own : Own} {w0 w : World} {v : Sf} {x : Fl} {K : Nat} (h : Up own w0 w v x K) : Below w0.heap.size w0 w := by
  obtain ⟨g, d, hs⟩ := h.ex
  exact hs.disk.below
theorem Up.lies {own : Own} {w0 w : World} {v : Sf} {x : Fl} {K : Nat} (h : Up own w0 w v x K) : Lies own w v := by
  obtain ⟨g, d, hs⟩ := h.ex
  exact hs.lies
/-- Create on a new disk. -/
theorem up_create {own : Own} {w0 w : World} {f K : Nat} {d : Dk} (nm : ByteArray) (hT : Turned w0) (h : Held own w0 w f d K) (hB : Bare d) (ha : d.arm = none) (hs : nm.size ≤ maxLen) (hg : goodName nm.data.toList = true) (hne : nm.data.toList ≠ nmNew) (hK : K + 5 ≤ 1073741824) (hroom : 8192 ≤ d.room)
    {A : Option Addr} {n c : Nat} {b : List UInt8} (hR : Free own w A n (bvs b)) (hnc : n ≤ c) (hc : c ≤ maxLen) (hn : n ≤ 4080) :
    Calls Tryz.prog 24 #[.pointer (some ⟨f, 0, none⟩), .string nm, .slice A n c] w fun e w' => ∃ sf, e = .returned (.tuple #[.pointer (some ⟨sf, 0, none⟩), .int .i64 0]) ∧ ∃ own', Up own' w0 w' ⟨f, sf, nm, 0, 1, b, 1, true⟩ ⟨laidB b, laidB b, []⟩ (K + 5) ∧ Stp own own' f w w' := by
  have hbn : b.length = n := by have := hR.1; rwa [bvs_length] at this
  refine (create_slots nm hT h hB ha hs hg hne hK hroom hR hnc hc hn).mono ?_
  rintro e w' (⟨_, hnot⟩ | ⟨sf, he, hc⟩)
  · obtain ⟨k, hk, _⟩ := hnot.arm
    cases hk
  · obtain ⟨own', g, d', h1, h2, _⟩ := hc.ex
    exact ⟨sf, he, own', ⟨⟨g, d', h1⟩, rfl, laidB_sides (by omega), rfl, rfl, rfl⟩, h2⟩
theorem slotFull_len {t : Nat} {b : List UInt8} (h : b.length ≤ 4080) : (slotB t b ++ List.replicate (4080 - b.length) 0).length ≤ 4096 := Nat.le_of_eq (slotFull_length (t := t) h)
/-- Save. -/
theorem up_save {own : Own} {w0 w : World} {v : Sf} {x : Fl} {K : Nat} (hT : Turned w0) (h : Up own w0 w v x K) (hu : v.turn < 1099511627776) (hK : K + 2 ≤ 1073741824)
    {A : Option Addr} {n c : Nat} {b : List UInt8} (hR : Free own w A n (bvs b)) (hnc : n ≤ c) (hc : c ≤ maxLen) (hn : n ≤ 4080) :
    Calls Tryz.prog 27 #[.pointer (some ⟨v.sf, 0, none⟩), .slice A n c] w fun e w' => e = .returned (.int .i64 0) ∧ ∃ own' x', Up own' w0 w' { v with slot := 1 - v.slot, turn := v.turn + 1, txt := b, used := v.turn + 1 } x' (K + 2) ∧ Fr own own' w w' := by
  obtain ⟨g, d, hs⟩ := h.ex
  have hbn : b.length = n := by have := hR.1; rwa [bvs_length] at this
  have h2 := h.sides.two
  refine (save_any hT hs h.lasts (by rw [h.used]; exact hu) h2 h.sides.len hR hnc hc hn hK).mono ?_
  rintro e w' ⟨er, he, own', d', v', x', a', hsv, hsg, hfr⟩
  cases hsv with
  | ok _ h0 h1 =>
    refine ⟨he, own', ⟨putAt x.now (4096 * (1 - v.slot)) (slotFull (v.turn + 1) b), putAt x.now (4096 * (1 - v.slot)) (slotFull (v.turn + 1) b), []⟩, ⟨⟨g, d', ?_⟩, h.lasts, ?_, rfl, rfl, rfl⟩, hfr⟩
    · have e1 := h.used
      rw [e1] at hsg
      have : armed (armed (none : Option Nat)) = none := rfl
      rw [this] at hsg
      exact hsg
    · exact h.sides.save (by omega) (slotFull_len (by omega)) (Nat.lt_succ_self _) (by omega)
theorem up_large {own : Own} {w0 w : World} {v : Sf} {x : Fl} {K : Nat} (h : Up own w0 w v x K) (A : Option Addr) (n c : Nat) (hn : 4080 < n) (hnm : n ≤ 1000000) :
    Calls Tryz.prog 27 #[.pointer (some ⟨v.sf, 0, none⟩), .slice A n c] w fun e w' => e = .returned (.int .i64 9) ∧ w = w' :=
  (saveLarge_any (own := own) (v := v) A n c hn hnm).mono fun e w' ⟨h1, h2⟩ => ⟨h1, h2.symm⟩
theorem one_clean {d : Dk} {nm : Nm} {g : Nat} {x : Fl} (o : OneFile d nm g x) (h : x.soiled = []) : Dk.clean d = true := by
  unfold Dk.clean
  rw [o.N]
  refine decide_eq_true ?_
  show (d.fl g).soiled.length + 0 = 0
  rw [o.fl, h]
  rfl
/-- Open of such a file, on its disk. -/
theorem up_open {own : Own} {w0 w : World} {v : Sf} {x : Fl} {K : Nat} (hT : Turned w0) (h : Up own w0 w v x K) (hK : K + 2 ≤ 1073741824) :
    Calls Tryz.prog 33 #[.pointer (some ⟨v.f, 0, none⟩), .string v.nm] w fun e w' => ∃ sf, e = .returned (.tuple #[.pointer (some ⟨sf, 0, none⟩), .int .i64 0]) ∧ ∃ own', Up own' w0 w' v x (K + 2) ∧ Up own' w0 w' { v with sf := sf, used := v.turn } x (K + 2) ∧ w.heap.size ≤ sf ∧ Stp own own' v.f w w' := by
  obtain ⟨g, d, hs⟩ := h.ex
  refine (open_tells v.nm hT hs.disk hs.nm hs.one.look h.sides.len hK h.sides.best).mono ?_
  rintro e w' ⟨sf, own', he, hge, hl, ⟨d', hlk, hd⟩, hst⟩
  rw [one_clean hs.one h.clean] at hl
  refine ⟨sf, he, own', { h with ex := ⟨g, d', hd, hlk.one hs.one, hlk.arm.trans hs.arm, hs.lies.stp hst hs.lies.ne, hs.nm⟩ }, ?_, hge, hst⟩
  refine ⟨⟨g, d', hd, hlk.one hs.one, hlk.arm.trans hs.arm, ?_, hs.nm⟩, h.lasts, h.sides, rfl, h.was, h.clean⟩
  have e1 := h.lasts
  show Lies own' w' ⟨v.f, sf, v.nm, v.slot, v.turn, v.txt, v.turn, v.lasts⟩
  rw [e1]
  exact hl
/-- Behind a crash. -/
theorem up_crash {own : Own} {w0 w : World} {v : Sf} {x : Fl} {K : Nat} (n torn : Int) (h : Up own w0 w v x K) {B : Nat} {A : Option Addr} {m c : Nat} {keep : List Bool} (hR : Row w B A m (lvs keep)) (hB : B ≤ w.heap.size) (hm : m ≤ 1099511627776) :
    Calls Tryz.prog 13 #[.pointer (some ⟨v.f, 0, none⟩), .int .i64 n, .slice A m c, .int .i64 torn] w fun e w' => ∃ f', e = .returned (.pointer (some ⟨f', 0, none⟩)) ∧ ∃ own' d' g', Held own' w0 w' f' d' K ∧ OneFile d' v.nm.data.toList g' x ∧ d'.arm = none ∧ w.heap.size ≤ f' ∧ Fr own own' w w' := by
  obtain ⟨g, d, hs⟩ := h.ex
  refine (crash_any (c := c) n torn hs.disk.disk hR hB hm).mono ?_
  rintro e w' ⟨own', f', d', he, hge, hd, hcr, hb, hsm, _⟩
  have hk := hs.disk.beside hb hsm hd.top
  obtain ⟨g', h1, h2⟩ := hs.one.crashed hcr
  have hc : x.crash (partsFor 0 x.soiled.length keep torn) = x.now := x.crash_clean h.clean h.was _
  rw [hc] at h1
  have hx : (⟨x.now, x.now, []⟩ : Fl) = x := by
    cases x
    have e1 := h.was
    have e2 := h.clean
    simp only at e1 e2
    rw [e1, e2]
  rw [hx] at h1
  exact ⟨f', he, own', d', g', ⟨hd, hk.below, hk.free⟩, h1, h2, hge, ⟨hb.os, hb.tape, hb.output, hb.size, hsm, fun b hb' _ => hb.block b hb'⟩⟩
/-- Open of a file that a crash left. -/
theorem up_again {own : Own} {w0 w : World} {f K g s t : Nat} {d : Dk} {x : Fl} {b : List UInt8} (nm : ByteArray) (hT : Turned w0) (h : Held own w0 w f d K) (o : OneFile d nm.data.toList g x) (ha : d.arm = none) (hs : nm.size ≤ maxLen) (hsd : Sides x.now s t b) (hw : x.was = x.now) (hc : x.soiled = []) (hK : K + 2 ≤ 1073741824) :
    Calls Tryz.prog 33 #[.pointer (some ⟨f, 0, none⟩), .string nm] w fun e w' => ∃ sf, e = .returned (.tuple #[.pointer (some ⟨sf, 0, none⟩), .int .i64 0]) ∧ ∃ own', Up own' w0 w' ⟨f, sf, nm, s, t, b, t, true⟩ x (K + 2) ∧ Stp own own' f w w' := by
  refine (open_tells nm hT h hs o.look hsd.len hK hsd.best).mono ?_
  rintro e w' ⟨sf, own', he, hge, hl, ⟨d', hlk, hd⟩, hst⟩
  rw [one_clean o hc] at hl
  exact ⟨sf, he, own', ⟨⟨g, d', hd, hlk.one o, hlk.arm.trans ha, hl, hs⟩, rfl, hsd, rfl, hw, hc⟩, hst⟩
/-- A disk's file as Size tells it. -/
theorem up_size {own : Own} {w0 w : World} {v : Sf} {x : Fl} {K : Nat} (h : Up own w0 w v x K) : Calls Tryz.prog 45 #[.pointer (some ⟨v.f, 0, none⟩), .string v.nm] w fun e w' => e = .returned (.int .i64 8192) ∧ w = w' := by
  obtain ⟨g, d, hs⟩ := h.ex
  have := size_look v.nm hs.disk hs.nm hs.one.look
  rw [h.sides.len] at this
  exact this.mono fun e w' ⟨h1, h2⟩ => ⟨h1, h2.symm⟩
theorem new_bare (n : Int) : Bare (newDk n []) := ⟨rfl, rfl, rfl⟩
theorem new_arm (n : Int) : (newDk n []).arm = none := rfl
end Go.Proofs.YtcmlchicpmnhdaaGreatDoor.Slot
