/-
  Texts one behind the other: SlotAgain.
-/
import Derived.Lib.MinMax
import Derived.Test.YtbljdcdcnnidkaaDoorG30
import Derived.Test.YtbljdcdcnnidkaaDoorG32
/-
  Proved: SlotsAgain returns true, whatever it is handed: Saves that fail, and others behind them.
-/
namespace Go.Proofs.YtbljdcdcnnidkaaDoor.Slot
open Go.RowKit Go.Proofs.YtbljdcdcnnidkaaDoor.Rec Go.Proofs.YtbljdcdcnnidkaaDoor.Disk
open Go.Proofs.YtbljdcdcnnidkaaDoor.Crc (Turned)
open Go.Proofs.YtbljdcdcnnidkaaDoor.Seg (Fr ptr mark_old mark_top free_fr failRaw_held)
set_option linter.unusedVariables false
set_option linter.unusedSimpArgs false

/-- A file of slots of which Saves may have failed. -/
structure Tried (own : Own) (w0 w : World) (v : Sf) (x : Fl) (a : Option Nat) (K : Nat) : Prop where
  ex : ∃ g d, SG own w0 w v g x a K d
  lasts : v.lasts = true
  sides : SidesU x.now v.slot v.turn v.used v.txt
theorem Tried.all {own : Own} {w0 w w' : World} {v : Sf} {x : Fl} {a : Option Nat} {K : Nat} (h : Tried own w0 w v x a K) (hb : Below w.heap.size w w') : Tried own w0 w' v x a K := by
  obtain ⟨g, d, hs⟩ := h.ex
  exact { h with ex := ⟨g, d, hs.all hb⟩ }
theorem Tried.top {own : Own} {w0 w : World} {v : Sf} {x : Fl} {a : Option Nat} {K : Nat} (h : Tried own w0 w v x a K) : ∀ b p, own b = some p → b < w.heap.size := by
  obtain ⟨g, d, hs⟩ := h.ex
  exact hs.top
theorem Tried.below {own : Own} {w0 w : World} {v : Sf} {x : Fl} {a : Option Nat} {K : Nat} (h : Tried own w0 w v x a K) : Below w0.heap.size w0 w := by
  obtain ⟨g, d, hs⟩ := h.ex
  exact hs.disk.below
theorem Tried.lies {own : Own} {w0 w : World} {v : Sf} {x : Fl} {a : Option Nat} {K : Nat} (h : Tried own w0 w v x a K) : Lies own w v := by
  obtain ⟨g, d, hs⟩ := h.ex
  exact hs.lies
theorem Up.tried {own : Own} {w0 w : World} {v : Sf} {x : Fl} {K : Nat} (h : Up own w0 w v x K) : Tried own w0 w v x none K :=
  ⟨h.ex, h.lasts, by rw [h.used]; exact h.sides.toU⟩
def failArm (n : Int) : Option Nat := if 0 ≤ n then some n.toNat else none
theorem tried_fail {own : Own} {w0 w : World} {v : Sf} {x : Fl} {a : Option Nat} {K : Nat} (n : Int) (h : Tried own w0 w v x a K) (hn : n ≤ 9223372036854775807) :
    Calls Tryd.prog 18 #[.pointer (some ⟨v.f, 0, none⟩), .int .i64 n] w fun e w' => e = .returned undef ∧ Tried own w0 w' v x (failArm n) K ∧ Fr own own w w' := by
  obtain ⟨g, d, hs⟩ := h.ex
  refine (failRaw_held n hs.disk hn).mono ?_
  rintro e w' ⟨he, hd, hst⟩
  refine ⟨he, { h with ex := ⟨g, _, hd, ⟨hs.one.N, hs.one.S, hs.one.wait, hs.one.fl⟩, ?_, hs.lies.stp (Stp.of hst) hs.lies.ne, hs.nm⟩ }, Fr.of_step hst⟩
  unfold Dk.arm failArm
  by_cases h0 : 0 ≤ n
  · rw [if_pos (by simp [h0]), if_pos h0]
    congr 1
    show (max n 0).toNat = _
    omega
  · rw [if_neg (by simp [h0]), if_neg h0]
/-- A Save that fails. -/
theorem tried_bad {own : Own} {w0 w : World} {v : Sf} {x : Fl} {a : Option Nat} {K : Nat} (hT : Turned w0) (h : Tried own w0 w v x a K) (hbad : a = some 0 ∨ a = some 1) (hu : v.used < 1099511627776) (hK : K + 2 ≤ 1073741824)
    {A : Option Addr} {n c : Nat} {b : List UInt8} (hR : Free own w A n (bvs b)) (hnc : n ≤ c) (hc : c ≤ maxLen) (hn : n ≤ 4080) :
    Calls Tryd.prog 12 #[.pointer (some ⟨v.sf, 0, none⟩), .slice A n c] w fun e w' => e = .returned (.int .i64 3) ∧ ∃ own' x', Tried own' w0 w' { v with used := v.used + 1 } x' none (K + 2) ∧ Fr own own' w w' := by
  obtain ⟨g, d, hs⟩ := h.ex
  have hbn : b.length = n := by have := hR.1; rwa [bvs_length] at this
  refine (save_any hT hs h.lasts hu h.sides.two h.sides.len hR hnc hc hn hK).mono ?_
  rintro e w' ⟨er, he, own', d', v', x', a', hsv, hsg, hfr⟩
  cases hsv with
  | write => exact ⟨he, own', x, ⟨⟨g, d', hsg⟩, h.lasts, h.sides.more (Nat.le_succ _)⟩, hfr⟩
  | sync L _ => exact ⟨he, own', ⟨putAt x.now (4096 * (1 - v.slot)) (slotFull (v.used + 1) b), x.was, L⟩, ⟨⟨g, d', hsg⟩, h.lasts, h.sides.tried (by omega) (slotFull_len (by omega)) (Nat.lt_succ_self _) (by omega)⟩, hfr⟩
  | ok _ h0 h1 => rcases hbad with e | e <;> contradiction
/-- A Save that comes back. -/
theorem tried_ok {own : Own} {w0 w : World} {v : Sf} {x : Fl} {a : Option Nat} {K : Nat} (hT : Turned w0) (h : Tried own w0 w v x a K) (hok : ¬ (a = some 0 ∨ a = some 1)) (hu : v.used < 1099511627776) (hK : K + 2 ≤ 1073741824)
    {A : Option Addr} {n c : Nat} {b : List UInt8} (hR : Free own w A n (bvs b)) (hnc : n ≤ c) (hc : c ≤ maxLen) (hn : n ≤ 4080) :
    Calls Tryd.prog 12 #[.pointer (some ⟨v.sf, 0, none⟩), .slice A n c] w fun e w' => e = .returned (.int .i64 0) ∧ ∃ own' x', Tried own' w0 w' { v with slot := 1 - v.slot, turn := v.used + 1, txt := b, used := v.used + 1 } x' (armed (armed a)) (K + 2) ∧ Sides x'.now (1 - v.slot) (v.used + 1) b ∧ x'.was = x'.now ∧ x'.soiled = [] ∧ Fr own own' w w' := by
  obtain ⟨g, d, hs⟩ := h.ex
  have hbn : b.length = n := by have := hR.1; rwa [bvs_length] at this
  refine (save_any hT hs h.lasts hu h.sides.two h.sides.len hR hnc hc hn hK).mono ?_
  rintro e w' ⟨er, he, own', d', v', x', a', hsv, hsg, hfr⟩
  cases hsv with
  | write => exact absurd (.inl rfl) hok
  | sync L _ => exact absurd (.inr rfl) hok
  | ok _ h0 h1 =>
    have hS := h.sides.save (b' := b) (r := List.replicate (4080 - b.length) 0) (u' := v.used + 1) (by omega) (slotFull_len (by omega)) (Nat.lt_succ_self _) (by omega)
    exact ⟨he, own', ⟨putAt x.now (4096 * (1 - v.slot)) (slotFull (v.used + 1) b), putAt x.now (4096 * (1 - v.slot)) (slotFull (v.used + 1) b), []⟩, ⟨⟨g, d', hsg⟩, h.lasts, hS.toU⟩, hS, rfl, rfl, hfr⟩
/-- A row that lay before is no disk's. -/
theorem free_of {own : Own} {w w1 wr : World} {A : Option Addr} {n : Nat} {vs : List Value} (ht : ∀ b p, own b = some p → b < wr.heap.size) (hb : Below w1.heap.size w1 wr) (h0 : Below w.heap.size w w1) (h : (∀ b, b < w.heap.size → own b = none) ∧ Row w w.heap.size A n vs) : Free own wr A n vs := by
  refine ⟨h.2.1, fun hn => ?_⟩
  obtain ⟨b, o, e, hlt, hc⟩ := h.2.2 hn
  have h1 := Nat.lt_of_lt_of_le hlt h0.size
  exact ⟨b, o, e, h.1 b hlt, Nat.lt_of_lt_of_le h1 hb.size, fun i v hv => (hb.cell (p := ⟨b, o + i, none⟩) h1).trans ((h0.cell (p := ⟨b, o + i, none⟩) hlt).trans (hc i v hv))⟩
theorem Tried.none {own : Own} {w0 w : World} {v : Sf} {x : Fl} {a : Option Nat} {K : Nat} (h : Tried own w0 w v x a K) : ∀ b, b < w0.heap.size → own b = none := by
  obtain ⟨g, d, hs⟩ := h.ex
  exact hs.disk.free
set_option maxRecDepth 100000 in
set_option maxHeartbeats 8000000 in
theorem slotsAgain_walk (A0 : Option Addr) (nf cf : Nat) (zs : List Int) (A1 : Option Addr) (n cn : Nat) (w : World) (hT : Turned w) (hz : Row w w.heap.size A0 nf (ivs zs)) (hnf : nf ≤ cf) (hcf : cf ≤ maxLen) (hzb : ∀ i, -9223372036854775808 ≤ zs.getD i 0 ∧ zs.getD i 0 ≤ 9223372036854775807) (hA : RowsB w A1 n) (hn : n ≤ cn) (hc : cn ≤ maxLen) :
    Calls Tryd.prog 4 #[.slice A0 nf cf, .slice A1 n cn] w fun e w' => e = .returned (.bool true) ∧ Below w.heap.size w w' := by
  have hcv := fun (w : World) (C : Array Value) (n c : Nat) => Lib.run_convert_bytes_const (P := Tryd.prog) w 33 5 C n c Tryd.underlying33 Tryd.underlying5
  have HT := Lib.hid hT
  have HZ := Lib.hid hz
  have HZB := Lib.hid hzb
  have HA := Lib.hid hA
  have HBEG := Lib.hid (slotbegun_any w hT)
  have hcm : cn ≤ 9223372036854775807 := by unfold maxLen at hc; exact hc
  have hcfm : cf ≤ 9223372036854775807 := by unfold maxLen at hcf; exact hcf
  clear hT hz hA hc hzb hcf
  go_enter Tryd.func4, Tryd.ntmps4
  go_upto_region 4 with (go_at_call 8; refine HBEG.out.mono ?_; rintro e w1 ⟨rfl, hb1⟩; have HB1 := Lib.hid hb1; clear hb1)
  have CN := Lib.hid (new_held 100000 w1)
  rw [show room 100000 = 100000 by decide] at CN
  have HT1 := Lib.hid (turned_below HT.out HB1.out rfl)
  go_upto_region 5 with (go_at_call 9; refine CN.out.mono ?_; rintro e w2 ⟨own2, f, rfl, hd2⟩)
  have CC : Hid (Calls Tryd.prog 10 #[.pointer (some ⟨f, 0, none⟩), .string ⟨#[65]⟩, .slice (some ⟨w2.heap.size, 0, none⟩) 5 5] (w2.alloc (.cells #[.int .u8 102, .int .u8 105, .int .u8 114, .int .u8 115, .int .u8 116] 5 (5, 6))) fun e w' => ∃ sf, e = .returned (.tuple #[.pointer (some ⟨sf, 0, none⟩), .int .i64 0]) ∧ ∃ own', Up own' w1 w' ⟨f, sf, sA, 0, 1, [102, 105, 114, 115, 116], 1, true⟩ ⟨laidB [102, 105, 114, 115, 116], laidB [102, 105, 114, 115, 116], []⟩ 5 ∧ Stp own2 own' f (w2.alloc (.cells #[.int .u8 102, .int .u8 105, .int .u8 114, .int .u8 115, .int .u8 116] 5 (5, 6))) w') :=
    up_create sA HT1.out (hd2.all (below_alloc w2 _)) (new_bare _) (new_arm _) (by decide) (by decide) (by decide) (by decide) (by decide) (lit_free hd2.top [102, 105, 114, 115, 116] 5 rfl _ rfl (5, 6)) (by decide) (by decide) (by decide)
  clear hd2 CN
  go_upto_region 8 with (go_at_call 10; refine CC.out.mono ?_; rintro e w3 ⟨sf, rfl, own3, hu3, _⟩)
  have HU3 := Lib.hid hu3.tried
  clear hu3 CC
  go_wp2_with fail
  go_loopw [9, 10] (fun nv iv wr => ∃ (i K' sl tn us : Nat) (own' : Own) (tx : List UInt8) (x : Fl) (a : Option Nat), nv = .string (str tx) ∧ iv = .int .i64 (i : Int) ∧ i ≤ 15 ∧ us ≤ i + 1 ∧ K' ≤ 8 + 8 * i ∧ Hid (Tried own' w1 wr ⟨f, sf, sA, sl, tn, tx, us, true⟩ x a K')) (fun _ iv _ => 15 - (RowKit.intOf iv).toNat)
  case atStart => exact ⟨0, 5, 0, 1, 1, own3, [102, 105, 114, 115, 116], _, none, rfl, rfl, by decide, by decide, by decide, HU3⟩
  case round =>
    obtain ⟨i, K', sl, tn, us, own', tx, x, a, rfl, rfl, hi, hus, hK', HTI⟩ := hrel
    obtain ⟨t, ht⟩ : ∃ t, t = decide (i < n ∧ i < 15) := ⟨_, rfl⟩
    have HTT := Lib.hid ht
    clear ht
    go_upto_region 10 with fail
    go_cut [34] (fun v w' => v = .bool t ∧ wr = w')
    case first =>
      by_cases h1 : i < n
      · have h1' : (i : Int) < (n : Int) := by omega
        by_cases h2 : i < 15
        · have h2' : (i : Int) < 15 := by omega
          go_wp2_with fail
          go_meet
          case rel => exact ⟨by rw [HTT.out, decide_eq_true ⟨h1, h2⟩], rfl⟩
        · have h2' : ¬ (i : Int) < 15 := by omega
          go_wp2_with fail
          go_meet
          case rel => exact ⟨by rw [HTT.out, decide_eq_false (fun h => by omega)], rfl⟩
      · have h1' : ¬ (i : Int) < (n : Int) := by omega
        go_wp2_with fail
        go_meet
        case rel => exact ⟨by rw [HTT.out, decide_eq_false (fun h => by omega)], rfl⟩
    case rest =>
    obtain ⟨rfl, rfl⟩ := hcut
    cases t with
    | true =>
      have hboth := of_decide_eq_true HTT.out.symm
      obtain ⟨hin, hi15⟩ := hboth
      obtain ⟨b, o, rfl, hbl, hit⟩ := HA.out (by omega)
      obtain ⟨A', l, c, bs, hcell, hrow, hlc, hcm'⟩ := hit i hin
      have HBw : Hid (Below w.heap.size w wr) := HB1.out.trans (HTI.out.below.mono HB1.out.size)
      have yc : wr.cell? ⟨b, o + i, none⟩ = some (.slice A' l c) := (HBw.out.cell (p := ⟨b, o + i, none⟩) hbl).trans hcell
      have hin' : (i : Int) < (n : Int) := by omega
      have CSH : Hid (Calls Tryd.prog 11 #[.slice A' l c, .int .i64 100] wr fun e w' => e = .returned (.slice A' (min l 100) c) ∧ wr = w') := Com.short_any A' l c 100 wr hlc hcm'
      have hr100 : Row w w.heap.size A' (min l 100) (bvs (bs.take 100)) := Com.short_row (Below.refl _ _) hrow
      have HRB' : Hid ((∀ b, b < w.heap.size → own' b = none) ∧ Row w w.heap.size A' (min l 100) (bvs (bs.take 100))) := ⟨fun b hb => HTI.out.none b (Nat.lt_of_lt_of_le hb HB1.out.size), hr100⟩
      have HC := Lib.hid hcm'
      clear hit hcell hrow hcm' hr100 hbl
      go_upto_region 13 with (go_at_call 11; refine CSH.out.mono ?_; rintro e w' ⟨rfl, rfl⟩)
      by_cases hif : i < nf
      · have hif' : (i : Int) < (nf : Int) := by omega
        obtain ⟨bz, oz, rfl, hbz, hzc⟩ := HZ.out.int (by omega)
        have zc : wr.cell? ⟨bz, oz + i, none⟩ = some (.int .i64 (zs.getD i 0)) := (HBw.out.cell (p := ⟨bz, oz + i, none⟩) hbz).trans (hzc i hif)
        obtain ⟨zi, hzi⟩ : ∃ zi, zi = zs.getD i 0 := ⟨_, rfl⟩
        have hzz := HZB.out i
        rw [← hzi] at zc hzz
        have CF : Hid (∀ m : Int, m ≤ 9223372036854775807 → Calls Tryd.prog 18 #[.pointer (some ⟨f, 0, none⟩), .int .i64 m] wr fun e w' => e = .returned undef ∧ Tried own' w1 w' ⟨f, sf, sA, sl, tn, tx, us, true⟩ x (failArm m) K' ∧ Fr own' own' wr w') := fun m hm => tried_fail m HTI.out hm
        have hm4 : max (-1) (zi.tmod 4) ≤ 9223372036854775807 := by
          have := Int.tmod_lt_of_pos zi (show (0 : Int) < 4 by decide)
          omega
        clear hzc hbz hzi
        go_upto_region 15 with (go_at_call 18; refine (CF.out _ hm4).mono ?_; rintro e w4 ⟨rfl, ht4, _⟩)
        obtain ⟨a4, ha4⟩ : ∃ a4, a4 = failArm (max (-1) (zi.tmod 4)) := ⟨_, rfl⟩
        rw [← ha4] at ht4
        clear ha4 zc CF hm4 hzz
        have HTR := Lib.hid (ht4)
        have HFB : Hid (Free own' w4 A' (min l 100) (bvs (bs.take 100))) := free_of ht4.top ht4.below HB1.out (HRB'.out)
        by_cases hbad : a4 = some 0 ∨ a4 = some 1
        · have CS := Lib.hid (tried_bad HT1.out HTR.out hbad (by show us < 1099511627776; omega) (by omega) HFB.out (by omega) HC.out (by omega))
          have CSS : Hid (Calls Tryd.prog 12 #[.pointer (some ⟨sf, 0, none⟩), .slice A' (min l 100) c] w4 fun e w' => e = .returned (.int .i64 3) ∧ ∃ own5 x5, Tried own5 w1 w' ⟨f, sf, sA, sl, tn, tx, us + 1, true⟩ x5 none (K' + 2) ∧ Fr own' own5 w4 w') := CS.out
          clear hbad CS HFB
          go_upto_region 20 with (go_at_call 12; refine CSS.out.mono ?_; rintro e w5 ⟨rfl, own5, x5, ht5, _⟩; have HT5 := Lib.hid ht5; clear ht5)
          have CT : Hid (Calls Tryd.prog 15 #[.pointer (some ⟨sf, 0, none⟩)] w5 fun e w' => ∃ A c, e = .returned (.slice A tx.length c) ∧ Hid (Row w' w'.heap.size A tx.length (bvs tx)) ∧ Hid (Below w5.heap.size w5 w')) := text_any HT5.out.lies
          clear CSS HTR
          obtain ⟨N, hN⟩ : ∃ N, N = tx.length := ⟨_, rfl⟩
          rw [← hN] at CT
          clear hN
          go_wp2_with (go_at_call 15; refine CT.out.mono ?_; rintro e w6 ⟨A6, c6, rfl, R6, B6⟩; have cs6 : ∀ c, (convert 33 9 (.slice A6 N c)).run Tryd.prog w6 = .ok (.string (str tx)) w6 := fun c => Disk.bytes_string (P := Tryd.prog) (c := c) (dst := 9) Tryd.underlying33 Tryd.underlying5 Tryd.underlying9 R6.out)
          go_roundw
          case rel => exact ⟨i + 1, K' + 2, sl, tn, us + 1, own5, tx, x5, none, rfl, by go_num, by omega, by omega, by omega, HT5.out.all B6.out⟩
          case measure => (simp [RowKit.intOf]; omega)
        · have CS := Lib.hid (tried_ok HT1.out HTR.out hbad (by show us < 1099511627776; omega) (by omega) HFB.out (by omega) HC.out (by omega))
          have CSS : Hid (Calls Tryd.prog 12 #[.pointer (some ⟨sf, 0, none⟩), .slice A' (min l 100) c] w4 fun e w' => e = .returned (.int .i64 0) ∧ ∃ own5 x5, Tried own5 w1 w' ⟨f, sf, sA, 1 - sl, us + 1, bs.take 100, us + 1, true⟩ x5 (armed (armed a4)) (K' + 2) ∧ Fr own' own5 w4 w') := by
            refine CS.out.mono ?_
            rintro e w' ⟨he, own5, x5, h1, _, _, _, h2⟩
            exact ⟨he, own5, x5, h1, h2⟩
          clear hbad CS
          go_upto_region 17 with (go_at_call 12; refine CSS.out.mono ?_; rintro e w5 ⟨rfl, own5, x5, ht5, hf5⟩; have HT5 := Lib.hid ht5; have HFB5 := Lib.hid (free_fr HFB.out hf5); clear ht5 hf5)
          have cs5 : ∀ c, (convert 33 9 (.slice A' (min l 100) c)).run Tryd.prog w5 = .ok (.string (str (bs.take 100))) w5 := fun c => Disk.bytes_string (P := Tryd.prog) (c := c) (dst := 9) Tryd.underlying33 Tryd.underlying5 Tryd.underlying9 HFB5.out.row
          have CT : Hid (Calls Tryd.prog 15 #[.pointer (some ⟨sf, 0, none⟩)] w5 fun e w' => ∃ A c, e = .returned (.slice A (bs.take 100).length c) ∧ Hid (Row w' w'.heap.size A (bs.take 100).length (bvs (bs.take 100))) ∧ Hid (Below w5.heap.size w5 w')) := text_any HT5.out.lies
          clear CSS HTR HFB HFB5
          obtain ⟨N, hN⟩ : ∃ N, N = (bs.take 100).length := ⟨_, rfl⟩
          obtain ⟨tb, htb⟩ : ∃ tb, tb = bs.take 100 := ⟨_, rfl⟩
          rw [← hN, ← htb] at CT
          rw [← htb] at cs5 HT5
          clear hN htb
          go_wp2_with (go_at_call 15; refine CT.out.mono ?_; rintro e w6 ⟨A6, c6, rfl, R6, B6⟩; have cs6 : ∀ c, (convert 33 9 (.slice A6 N c)).run Tryd.prog w6 = .ok (.string (str tb)) w6 := fun c => Disk.bytes_string (P := Tryd.prog) (c := c) (dst := 9) Tryd.underlying33 Tryd.underlying5 Tryd.underlying9 R6.out)
          go_roundw
          case rel => exact ⟨i + 1, K' + 2, 1 - sl, us + 1, us + 1, own5, tb, x5, armed (armed a4), rfl, by go_num, by omega, by omega, by omega, HT5.out.all B6.out⟩
          case measure => (simp [RowKit.intOf]; omega)
      · have hif' : ¬ (i : Int) < (nf : Int) := by omega
        go_upto_region 15 with fail
        have ht4 := HTI.out
        have HTR := Lib.hid (ht4)
        have HFB : Hid (Free own' wr A' (min l 100) (bvs (bs.take 100))) := free_of ht4.top ht4.below HB1.out (HRB'.out)
        by_cases hbad : a = some 0 ∨ a = some 1
        · have CS := Lib.hid (tried_bad HT1.out HTR.out hbad (by show us < 1099511627776; omega) (by omega) HFB.out (by omega) HC.out (by omega))
          have CSS : Hid (Calls Tryd.prog 12 #[.pointer (some ⟨sf, 0, none⟩), .slice A' (min l 100) c] wr fun e w' => e = .returned (.int .i64 3) ∧ ∃ own5 x5, Tried own5 w1 w' ⟨f, sf, sA, sl, tn, tx, us + 1, true⟩ x5 none (K' + 2) ∧ Fr own' own5 wr w') := CS.out
          clear hbad CS HFB
          go_upto_region 20 with (go_at_call 12; refine CSS.out.mono ?_; rintro e w5 ⟨rfl, own5, x5, ht5, _⟩; have HT5 := Lib.hid ht5; clear ht5)
          have CT : Hid (Calls Tryd.prog 15 #[.pointer (some ⟨sf, 0, none⟩)] w5 fun e w' => ∃ A c, e = .returned (.slice A tx.length c) ∧ Hid (Row w' w'.heap.size A tx.length (bvs tx)) ∧ Hid (Below w5.heap.size w5 w')) := text_any HT5.out.lies
          clear CSS HTR
          obtain ⟨N, hN⟩ : ∃ N, N = tx.length := ⟨_, rfl⟩
          rw [← hN] at CT
          clear hN
          go_wp2_with (go_at_call 15; refine CT.out.mono ?_; rintro e w6 ⟨A6, c6, rfl, R6, B6⟩; have cs6 : ∀ c, (convert 33 9 (.slice A6 N c)).run Tryd.prog w6 = .ok (.string (str tx)) w6 := fun c => Disk.bytes_string (P := Tryd.prog) (c := c) (dst := 9) Tryd.underlying33 Tryd.underlying5 Tryd.underlying9 R6.out)
          go_roundw
          case rel => exact ⟨i + 1, K' + 2, sl, tn, us + 1, own5, tx, x5, none, rfl, by go_num, by omega, by omega, by omega, HT5.out.all B6.out⟩
          case measure => (simp [RowKit.intOf]; omega)
        · have CS := Lib.hid (tried_ok HT1.out HTR.out hbad (by show us < 1099511627776; omega) (by omega) HFB.out (by omega) HC.out (by omega))
          have CSS : Hid (Calls Tryd.prog 12 #[.pointer (some ⟨sf, 0, none⟩), .slice A' (min l 100) c] wr fun e w' => e = .returned (.int .i64 0) ∧ ∃ own5 x5, Tried own5 w1 w' ⟨f, sf, sA, 1 - sl, us + 1, bs.take 100, us + 1, true⟩ x5 (armed (armed a)) (K' + 2) ∧ Fr own' own5 wr w') := by
            refine CS.out.mono ?_
            rintro e w' ⟨he, own5, x5, h1, _, _, _, h2⟩
            exact ⟨he, own5, x5, h1, h2⟩
          clear hbad CS
          go_upto_region 17 with (go_at_call 12; refine CSS.out.mono ?_; rintro e w5 ⟨rfl, own5, x5, ht5, hf5⟩; have HT5 := Lib.hid ht5; have HFB5 := Lib.hid (free_fr HFB.out hf5); clear ht5 hf5)
          have cs5 : ∀ c, (convert 33 9 (.slice A' (min l 100) c)).run Tryd.prog w5 = .ok (.string (str (bs.take 100))) w5 := fun c => Disk.bytes_string (P := Tryd.prog) (c := c) (dst := 9) Tryd.underlying33 Tryd.underlying5 Tryd.underlying9 HFB5.out.row
          have CT : Hid (Calls Tryd.prog 15 #[.pointer (some ⟨sf, 0, none⟩)] w5 fun e w' => ∃ A c, e = .returned (.slice A (bs.take 100).length c) ∧ Hid (Row w' w'.heap.size A (bs.take 100).length (bvs (bs.take 100))) ∧ Hid (Below w5.heap.size w5 w')) := text_any HT5.out.lies
          clear CSS HTR HFB HFB5
          obtain ⟨N, hN⟩ : ∃ N, N = (bs.take 100).length := ⟨_, rfl⟩
          obtain ⟨tb, htb⟩ : ∃ tb, tb = bs.take 100 := ⟨_, rfl⟩
          rw [← hN, ← htb] at CT
          rw [← htb] at cs5 HT5
          clear hN htb
          go_wp2_with (go_at_call 15; refine CT.out.mono ?_; rintro e w6 ⟨A6, c6, rfl, R6, B6⟩; have cs6 : ∀ c, (convert 33 9 (.slice A6 N c)).run Tryd.prog w6 = .ok (.string (str tb)) w6 := fun c => Disk.bytes_string (P := Tryd.prog) (c := c) (dst := 9) Tryd.underlying33 Tryd.underlying5 Tryd.underlying9 R6.out)
          go_roundw
          case rel => exact ⟨i + 1, K' + 2, 1 - sl, us + 1, us + 1, own5, tb, x5, armed (armed a), rfl, by go_num, by omega, by omega, by omega, HT5.out.all B6.out⟩
          case measure => (simp [RowKit.intOf]; omega)
    | false =>
      have CF : Hid (Calls Tryd.prog 18 #[.pointer (some ⟨f, 0, none⟩), .int .i64 (-1)] wr fun e w' => e = .returned undef ∧ Tried own' w1 w' ⟨f, sf, sA, sl, tn, tx, us, true⟩ x none K' ∧ Fr own' own' wr w') := tried_fail (-1) HTI.out (by decide)
      go_upto_region 23 with (go_at_call 18; refine CF.out.mono ?_; rintro e w4 ⟨rfl, ht4, _⟩)
      have CS := Lib.hid (tried_ok (n := 4) (c := 4) HT1.out (ht4.all (below_alloc w4 (.cells #[.int .u8 108, .int .u8 97, .int .u8 115, .int .u8 116] 5 (4, 5)))) (by simp) (by show us < 1099511627776; omega) (by omega) (lit_free ht4.top [108, 97, 115, 116] 4 rfl _ rfl (4, 5)) (by decide) (by decide) (by decide))
      have CSS : Hid (Calls Tryd.prog 12 #[.pointer (some ⟨sf, 0, none⟩), .slice (some ⟨w4.heap.size, 0, none⟩) 4 4] (w4.alloc (.cells #[.int .u8 108, .int .u8 97, .int .u8 115, .int .u8 116] 5 (4, 5))) fun e w' => e = .returned (.int .i64 0) ∧ ∃ own5 x5, Up own5 w1 w' ⟨f, sf, sA, 1 - sl, us + 1, [108, 97, 115, 116], us + 1, true⟩ x5 (K' + 2)) := by
        refine CS.out.mono ?_
        rintro e w' ⟨he, own5, x5, h1, h2, h3, h4, _⟩
        exact ⟨he, own5, x5, ⟨h1.ex, rfl, h2, rfl, h3, h4⟩⟩
      clear CS ht4 CF
      go_upto_region 25 with (go_at_call 12; refine CSS.out.mono ?_; rintro e w5 ⟨rfl, own5, x5, hu5⟩; have HU5 := Lib.hid hu5; clear hu5)
      have CR : Hid (Calls Tryd.prog 13 #[.pointer (some ⟨f, 0, none⟩), .int .i64 0, .slice none 0 0, .int .i64 (-1)] w5 fun e w' => ∃ f', e = .returned (.pointer (some ⟨f', 0, none⟩)) ∧ ∃ own6 d6 g6, Held own6 w1 w' f' d6 (K' + 2) ∧ OneFile d6 nmA g6 x5 ∧ d6.arm = none ∧ w5.heap.size ≤ f' ∧ Fr own5 own6 w5 w') :=
        up_crash (keep := []) 0 (-1) HU5.out (Row.nil w5 0) (Nat.zero_le _) (by decide)
      clear CSS
      go_upto_region 26 with (first
        | (go_at_call 13; refine CR.out.mono ?_; rintro e w6 ⟨f6, rfl, own6, d6, g6, hd6, ho6, ha6, _, _⟩
           have CO : Hid (Calls Tryd.prog 14 #[.pointer (some ⟨f6, 0, none⟩), .string ⟨#[65]⟩] w6 fun e w' => ∃ sf, e = .returned (.tuple #[.pointer (some ⟨sf, 0, none⟩), .int .i64 0]) ∧ ∃ own', Up own' w1 w' ⟨f6, sf, sA, 1 - sl, us + 1, [108, 97, 115, 116], us + 1, true⟩ x5 (K' + 2 + 2) ∧ Stp own6 own' f6 w6 w') := up_again sA HT1.out hd6 ho6 ha6 (by decide) HU5.out.sides HU5.out.was HU5.out.clean (by omega)
           clear hd6 ho6 ha6)
        | (go_at_call 14; refine CO.out.mono ?_; rintro e w7 ⟨sf7, rfl, own7, hu7, _⟩; have HU7 := Lib.hid hu7; clear hu7))
      have CT : Hid (Calls Tryd.prog 15 #[.pointer (some ⟨sf7, 0, none⟩)] w7 fun e w' => ∃ A c, e = .returned (.slice A 4 c) ∧ Hid (Row w' w'.heap.size A 4 (bvs [108, 97, 115, 116])) ∧ Hid (Below w7.heap.size w7 w')) := text_any HU7.out.lies
      go_wp2_with (go_at_call 15; refine CT.out.mono ?_; rintro e w8 ⟨A8, c8, rfl, R8, B8⟩
                   have cs8 : ∀ c, (convert 33 9 (.slice A8 4 c)).run Tryd.prog w8 = .ok (.string ⟨#[108, 97, 115, 116]⟩) w8 := fun c => Disk.bytes_string (P := Tryd.prog) (c := c) (dst := 9) Tryd.underlying33 Tryd.underlying5 Tryd.underlying9 R8.out)
      go_ret
      exact ⟨rfl, HB1.out.trans ((HU7.out.below.trans (B8.out.mono HU7.out.below.size)).mono HB1.out.size)⟩
end Go.Proofs.YtbljdcdcnnidkaaDoor.Slot
