/-
  Texts one behind the other: SlotMakeLaw.
-/
import Derived.Deep.RegionHeld
import Derived.Test.YtbljdcdcnnidkaaGreatDoorG38
/-
  Proved: SlotsMake returns true, whatever it is handed.
-/
namespace Go.Proofs.YtbljdcdcnnidkaaGreatDoor.Slot
open Go.RowKit Go.Proofs.YtbljdcdcnnidkaaGreatDoor.Rec Go.Proofs.YtbljdcdcnnidkaaGreatDoor.Disk Go.Proofs.YtbljdcdcnnidkaaGreatDoor.Mix
open Go.Proofs.YtbljdcdcnnidkaaGreatDoor.Crc (Turned)
open Go.Proofs.YtbljdcdcnnidkaaGreatDoor.Seg (Fr ptr mark_old mark_top free_fr failRaw_held)
set_option linter.unusedVariables false
set_option linter.unusedSimpArgs false

set_option maxRecDepth 100000 in
set_option maxHeartbeats 8000000 in
theorem slotsMake_walk (fail n : Int) (A2 : Option Addr) (m2 c2 : Nat) (ks0 : List Bool) (torn : Int) (A4 : Option Addr) (l4 c4 : Nat) (t0 : List UInt8) (w : World) (hT : Turned w) (hfb : -9223372036854775808 ≤ fail ∧ fail ≤ 9223372036854775807) (hnb : -9223372036854775808 ≤ n ∧ n ≤ 9223372036854775807) (hk : Row w w.heap.size A2 m2 (lvs ks0)) (hk1 : m2 ≤ c2) (hk2 : c2 ≤ maxLen) (htb : -9223372036854775808 ≤ torn ∧ torn ≤ 9223372036854775807) (h4 : Row w w.heap.size A4 l4 (bvs t0)) (hc1 : l4 ≤ c4) (hc2 : c4 ≤ maxLen) :
    Calls Tryz.prog 4 #[.int .i64 fail, .int .i64 n, .slice A2 m2 c2, .int .i64 torn, .slice A4 l4 c4] w fun e w' => e = .returned (.bool true) ∧ Below w.heap.size w w' := by
  have HT := Lib.hid hT
  have HBEG := Lib.hid (slotbegun_any w hT)
  have HB := Lib.hid hk
  have hcm : c2 ≤ 9223372036854775807 := by unfold maxLen at hk2; exact hk2
  have CSH : Hid (∀ W, Calls Tryz.prog 9 #[.slice A4 l4 c4, .int .i64 200] W fun e w' => e = .returned (.slice A4 (min l4 200) c4) ∧ W = w') := fun W => Com.short_any A4 l4 c4 200 W hc1 hc2
  obtain ⟨b, hb⟩ : ∃ b, b = t0.take 200 := ⟨_, rfl⟩
  have hrt : Row w w.heap.size A4 (min l4 200) (bvs b) := by rw [hb]; exact Com.short_row (Below.refl _ _) h4
  obtain ⟨nt, hnt⟩ : ∃ nt, nt = min l4 200 := ⟨_, rfl⟩
  rw [← hnt] at hrt CSH
  have HN : Hid (nt ≤ 200 ∧ b.length = nt ∧ nt ≤ c4 ∧ c4 ≤ maxLen) := ⟨by omega, hrt.size, by omega, hc2⟩
  have HRT := Lib.hid hrt
  have HFB := Lib.hid hfb
  clear hT hk hk2 h4 hc1 hc2 hb hrt hnt hfb
  go_enter Tryz.func4, Tryz.ntmps4
  go_upto_region 5 with (first
    | (go_at_call 5; refine HBEG.out.mono ?_; rintro e w1 ⟨rfl, hb1⟩; have HB1 := Lib.hid hb1; clear hb1)
    | (go_at_call 9; refine (CSH.out w1).mono ?_; rintro e w' ⟨rfl, rfl⟩))
  obtain ⟨tk, htk⟩ : ∃ tk, tk = decide (140 < m2) := ⟨_, rfl⟩
  have HTK := Lib.hid htk
  clear htk CSH
  go_cut [25] (fun v w' => v = .bool tk ∧ w1 = w')
  case first =>
    by_cases hb : 140 < m2
    · have h1 : (140 : Int) < (m2 : Int) := by omega
      go_wp2_with fail
      go_meet
      case rel => exact ⟨by rw [HTK.out, decide_eq_true hb], rfl⟩
    · have h1 : ¬ (140 : Int) < (m2 : Int) := by omega
      go_wp2_with fail
      go_meet
      case rel => exact ⟨by rw [HTK.out, decide_eq_false hb], rfl⟩
  case rest =>
  obtain ⟨rfl, rfl⟩ := hcut
  go_upto_if 25 with fail
  go_cut [2] (fun v w' => ∃ (m : Nat) (ks : List Bool), v = .slice A2 m c2 ∧ m ≤ 140 ∧ Hid (Row w w.heap.size A2 m (lvs ks)) ∧ w1 = w')
  case first =>
    by_cases hb : 140 < m2
    · obtain rfl : tk = true := by rw [HTK.out, decide_eq_true hb]
      have h2 : (140 : Int) ≤ (c2 : Int) := by omega
      have HB2 : Hid (Row w w.heap.size A2 140 (lvs (ks0.take 140))) := by
        have := HB.out.take (k := 140) (by omega)
        rw [lvs_take] at this
        exact this
      go_wp2_with fail
      go_meet
      case rel => exact ⟨140, ks0.take 140, rfl, Nat.le_refl _, HB2, rfl⟩
    · obtain rfl : tk = false := by rw [HTK.out, decide_eq_false hb]
      go_wp2_with fail
      go_meet
      case rel => exact ⟨m2, ks0, rfl, by omega, HB, rfl⟩
  case rest =>
  obtain ⟨m, ks, rfl, hm140, HKS, rfl⟩ := hcut
  have HM140 := Lib.hid hm140
  have CN := Lib.hid (new_held 100000 w1)
  rw [show room 100000 = 100000 by decide] at CN
  have HT1 := Lib.hid (turned_below HT.out HB1.out rfl)
  clear hm140 hk1 HB HTK
  go_upto_region 8 with (go_at_call 6; refine CN.out.mono ?_; rintro e w2 ⟨own2, f, rfl, hd2⟩)
  have CF := Lib.hid (failRaw_held fail hd2 HFB.out.2)
  clear CN hd2
  go_upto_region 9 with (go_at_call 8; refine CF.out.mono ?_; rintro e w3 ⟨rfl, hd3, _⟩)
  clear CF
  obtain ⟨d3, hd3e⟩ : ∃ d3, d3 = ({ newDk 100000 [] with failing := decide (0 ≤ fail), others := max fail 0 } : Dk) := ⟨_, rfl⟩
  rw [← hd3e] at hd3
  have hbare : Bare d3 := by rw [hd3e]; exact ⟨rfl, rfl, rfl⟩
  have hroom : 8192 ≤ d3.room := by rw [hd3e]; show (8192 : Int) ≤ 100000; decide
  have hfree : Free own2 w3 A4 nt (bvs b) := free_of hd3.top hd3.below HB1.out ⟨fun q hq => hd3.free q (Nat.lt_of_lt_of_le hq HB1.out.size), HRT.out⟩
  have CC := Lib.hid (create_slots (a := d3.arm) sA HT1.out hd3 hbare rfl (by decide) (by decide) (by decide) (by decide) hroom hfree HN.out.2.2.1 HN.out.2.2.2 (by have := HN.out; omega))
  have HKR : Hid (∀ W, Below w1.heap.size w1 W → Row W W.heap.size A2 m (lvs ks)) := fun W hb => ((HKS.out.below HB1.out).below (hb.mono HB1.out.size)).more (Nat.le_trans HB1.out.size hb.size)
  clear hd3 hbare hroom hfree hd3e
  by_cases hbad : ∃ k, d3.arm = some k ∧ k < 5
  · have CB : Hid (Calls Tryz.prog 7 #[.pointer (some ⟨f, 0, none⟩), .string ⟨#[65]⟩, .slice A4 nt c4] w3 fun e w' => e = .returned (.tuple #[.pointer none, .int .i64 3]) ∧ NotMade own2 w1 w3 f sA b d3.arm 0 w') := by
      refine CC.out.mono ?_
      rintro e w' (h | ⟨sf, _, h⟩)
      · exact h
      · obtain ⟨k, h1, h2⟩ := hbad
        exact absurd h1 (h.arm k h2)
    clear hbad CC
    go_upto_region 12 with (go_at_call 7; refine CB.out.mono ?_; rintro e w4 ⟨rfl, hnm⟩)
    obtain ⟨own4, d4, hhalf, _, hd4, _⟩ := hnm.ex
    have CR : Hid (Calls Tryz.prog 12 #[.pointer (some ⟨f, 0, none⟩), .int .i64 n, .slice A2 m c2, .int .i64 torn] w4 fun e w' => ∃ own' f' d', e = .returned (.pointer (some ⟨f', 0, none⟩)) ∧ Held own' w1 w' f d4 5 ∧ Held own' w1 w' f' d' 5 ∧ d4.Crashed d' n ks torn ∧ w4.heap.size ≤ f' ∧ (∀ b, b < w4.heap.size → own' b = own4 b) ∧ Below w4.heap.size w4 w') := crash_more n torn hd4 (HKR.out w4 hd4.below) (Nat.le_refl _) (by have := HM140.out; omega)
    have HHF := Lib.hid hhalf
    have hlt4 := hd4.disk.lt
    clear hnm hhalf hd4 CB
    go_upto_region 13 with (go_at_call 12; refine CR.out.mono ?_; rintro e w5 ⟨own5, f5, d5, rfl, hd5, hc5, hcr, hge, _, _⟩)
    have hsm := half_small HHF.out (by decide) 0
    have hsn := half_small HHF.out (by decide) n
    have hcn := crash_names_le d4 d5 hcr hsn.2.1 hsn.2.2
    have CM := Lib.hid (mixed_slots hd5 hc5 (by omega) hsm.1.1 hsm.2.1 hsm.1.2 hsm.2.2 hcn.1 hcn.2 (by decide))
    have HLK := Lib.hid (half_crash HHF.out (by decide) hcr)
    have HB5 : Hid (Below w.heap.size w w5) := HB1.out.trans (hd5.below.mono HB1.out.size)
    clear hd5 hc5 hcr hge hsm hsn hcn CR HHF hlt4
    go_upto_region 13 with fail
    go_cut [51] (fun v w' => ∃ t, v = .bool t ∧ Hid (Says own5 w1 w1 w5 f f5 300000 d4 d5 t w'))
    case first =>
      go_wp2_with (go_at_call 13; refine CM.out.mono ?_; rintro e w6 ⟨t, rfl, hs⟩; have HSY := Lib.hid hs; clear hs)
      go_meet
      case rel => exact ⟨t, rfl, HSY⟩
    case rest =>
    obtain ⟨t, rfl, HSY⟩ := hcut
    obtain ⟨w6, hw6⟩ : ∃ w6, w6 = wc := ⟨_, rfl⟩
    subst hw6
    obtain ⟨own6, d6, hd6, _, _, hno, hyes⟩ := says_disk HSY.out
    have HB6 : Hid (Below w.heap.size w w6) := HB1.out.trans (hd6.below.mono HB1.out.size)
    clear CM
    cases t with
    | true =>
      go_wp2_with fail
      go_ret
      exact ⟨rfl, HB6.out⟩
    | false =>
      rcases HLK.out with hlk | ⟨x, hlk, hxn⟩
      · have hl6 := hno _ hlk
        have CO : Hid (Calls Tryz.prog 14 #[.pointer (some ⟨f5, 0, none⟩), .string ⟨#[65]⟩] w6 fun e w' => e = .returned (.tuple #[.pointer none, .int .i64 1]) ∧ w6 = w') := openNone_any sA hd6 (by decide) hl6
        clear hno hyes hd6 hl6 hlk HLK
        go_wp2_with (go_at_call 14; refine CO.out.mono ?_; rintro e w' ⟨rfl, rfl⟩)
        go_ret
        exact ⟨rfl, HB6.out⟩
      · obtain ⟨y, hly, hyn0⟩ := hyes _ _ hlk
        have hyn : y.now = laidB b := hyn0.trans hxn
        clear hno hyes hlk hxn hyn0 HLK
        have CO : Hid (Calls Tryz.prog 14 #[.pointer (some ⟨f5, 0, none⟩), .string ⟨#[65]⟩] w6 fun e w' => ∃ sf own', e = .returned (.tuple #[.pointer (some ⟨sf, 0, none⟩), .int .i64 0]) ∧ w6.heap.size ≤ sf ∧ Lies own' w' ⟨f5, sf, sA, 0, 1, b, 1, Dk.clean d6⟩ ∧ (∃ d', Like d6 d' ∧ Held own' w1 w' f5 d' (300000 + 2)) ∧ Stp own6 own' f5 w6 w') := by
          have hlen : y.now.length = 8192 := by rw [hyn]; exact laidB_length (by have := HN.out; omega)
          have hbest : best y.now = some (0, 1, b) := by rw [hyn]; exact (laidB_sides (by have := HN.out; omega)).best
          exact open_tells sA HT1.out hd6 (by decide) hly hlen (by decide) hbest
        clear hly hyn hd6
        go_upto_region 18 with (go_at_call 14; refine CO.out.mono ?_; rintro e w7 ⟨sf7, own7, rfl, _, hl7, hh7, hs7⟩)
        have HL7 := Lib.hid hl7
        have HB7 : Hid (Below w.heap.size w w7) := by
          obtain ⟨d', _, hd'⟩ := hh7
          exact HB1.out.trans (hd'.below.mono HB1.out.size)
        clear hl7 hh7 hs7 CO
        have CT : Hid (∀ W, Below w7.heap.size w7 W → Calls Tryz.prog 11 #[.pointer (some ⟨sf7, 0, none⟩)] W fun e w' => ∃ A c, e = .returned (.slice A b.length c) ∧ Hid (Row w' w'.heap.size A b.length (bvs b)) ∧ Hid (Below w7.heap.size w7 w')) := fun W hb => (text_any (HL7.out.all hb)).mono fun e w' ⟨A, c, he, hr, hb2⟩ => ⟨A, c, he, hr, hb.trans (hb2.out.mono hb.size)⟩
        obtain ⟨NN, hNN⟩ : ∃ NN, NN = b.length := ⟨_, rfl⟩
        rw [← hNN] at CT
        clear hNN
        have HCV : Hid (∀ W, Below w7.heap.size w7 W → (convert 31 9 (.slice A4 nt c4)).run Tryz.prog W = .ok (.string (str b)) W) := fun W hb => Disk.bytes_string (P := Tryz.prog) (c := c4) (dst := 9) Tryz.underlying31 Tryz.underlying5 Tryz.underlying9 ((HRT.out.below HB7.out).below (hb.mono HB7.out.size))
        have M0 := HCV.out w7.drew (Below.refl _ _).drew
        go_region_held (fun W => (convert 31 9 (.slice A4 nt c4)).run Tryz.prog W = .ok (.string (str b)) W) (with_reducible (first | exact M0 | exact M8))
          (first | (go_at_call 11; refine (CT.out _ (Below.refl _ _).drew).mono ?_; rintro e w8 ⟨A8, c8, rfl, R8, B8⟩
                    have M8 := HCV.out w8 B8.out
                    have cs8 : ∀ c, (convert 31 9 (.slice A8 NN c)).run Tryz.prog w8 = .ok (.string (str b)) w8 := fun c => Disk.bytes_string (P := Tryz.prog) (c := c) (dst := 9) Tryz.underlying31 Tryz.underlying5 Tryz.underlying9 R8.out))
        all_goals
          go_wp2_with fail
          go_ret
          exact ⟨rfl, HB7.out.trans (B8.out.mono HB7.out.size)⟩
  · have CB : Hid (Calls Tryz.prog 7 #[.pointer (some ⟨f, 0, none⟩), .string ⟨#[65]⟩, .slice A4 nt c4] w3 fun e w' => ∃ sf, e = .returned (.tuple #[.pointer (some ⟨sf, 0, none⟩), .int .i64 0]) ∧ Created own2 w1 w3 f sA b d3.arm 0 d3.room sf w') := by
      refine CC.out.mono ?_
      rintro e w' (⟨_, h⟩ | h)
      · exact absurd h.arm hbad
      · exact h
    clear hbad CC
    go_upto_region 12 with (go_at_call 7; refine CB.out.mono ?_; rintro e w4 ⟨sf4, rfl, hmd⟩)
    obtain ⟨own4, g4, d4, hsg, _, _⟩ := hmd.ex
    have hd4 : Held own4 w1 w4 f d4 5 := hsg.disk
    have ho4 : OneFile d4 nmA g4 ⟨laidB b, laidB b, []⟩ := hsg.one
    have CR : Hid (Calls Tryz.prog 12 #[.pointer (some ⟨f, 0, none⟩), .int .i64 n, .slice A2 m c2, .int .i64 torn] w4 fun e w' => ∃ own' f' d', e = .returned (.pointer (some ⟨f', 0, none⟩)) ∧ Held own' w1 w' f d4 5 ∧ Held own' w1 w' f' d' 5 ∧ d4.Crashed d' n ks torn ∧ w4.heap.size ≤ f' ∧ (∀ b, b < w4.heap.size → own' b = own4 b) ∧ Below w4.heap.size w4 w') := crash_more n torn hd4 (HKR.out w4 hd4.below) (Nat.le_refl _) (by have := HM140.out; omega)
    have HO4 := Lib.hid ho4
    have hlt4 := hd4.disk.lt
    clear hmd hsg hd4 ho4 CB
    go_upto_region 13 with (go_at_call 12; refine CR.out.mono ?_; rintro e w5 ⟨own5, f5, d5, rfl, hd5, hc5, hcr, hge, _, _⟩)
    obtain ⟨g5, ho5, _⟩ := HO4.out.crashed hcr
    have hdir0 : ∀ q, d4.crashDir q = [(nmA, g4)] := fun q => by rw [Dk.crashDir, HO4.out.wait, HO4.out.S, List.take_nil]; rfl
    have CM := Lib.hid (mixed_slots hd5 hc5 (by omega) (by rw [HO4.out.N]; exact Nat.le_refl _) (by rw [hdir0]; exact Nat.le_refl _) (by rw [HO4.out.N]; intro q hq; simp at hq; rw [hq]; decide) (by rw [hdir0]; intro q hq; simp at hq; rw [hq]; decide) (by rw [ho5.N]; exact Nat.le_refl _) (by rw [ho5.N]; intro q hq; simp at hq; rw [hq]; decide) (by decide))
    have hlk := ho5.look
    rw [Fl.crash_clean (x := ⟨laidB b, laidB b, []⟩) rfl rfl] at hlk
    have HLK := Lib.hid hlk
    have HB5 : Hid (Below w.heap.size w w5) := HB1.out.trans (hd5.below.mono HB1.out.size)
    clear hd5 hc5 hcr hge hdir0 ho5 CR HO4 hlk hlt4
    go_cut [51] (fun v w' => ∃ t, v = .bool t ∧ Hid (Says own5 w1 w1 w5 f f5 300000 d4 d5 t w'))
    case first =>
      go_wp2_with (go_at_call 13; refine CM.out.mono ?_; rintro e w6 ⟨t, rfl, hs⟩; have HSY := Lib.hid hs; clear hs)
      go_meet
      case rel => exact ⟨t, rfl, HSY⟩
    case rest =>
    obtain ⟨t, rfl, HSY⟩ := hcut
    obtain ⟨w6, hw6⟩ : ∃ w6, w6 = wc := ⟨_, rfl⟩
    subst hw6
    obtain ⟨own6, d6, hd6, _, _, hno, hyes⟩ := says_disk HSY.out
    have HB6 : Hid (Below w.heap.size w w6) := HB1.out.trans (hd6.below.mono HB1.out.size)
    clear CM
    cases t with
    | true =>
      go_wp2_with fail
      go_ret
      exact ⟨rfl, HB6.out⟩
    | false =>
      obtain ⟨y, hly, hyn⟩ := hyes _ _ HLK.out
      clear hno hyes HLK
      have CO : Hid (Calls Tryz.prog 14 #[.pointer (some ⟨f5, 0, none⟩), .string ⟨#[65]⟩] w6 fun e w' => ∃ sf own', e = .returned (.tuple #[.pointer (some ⟨sf, 0, none⟩), .int .i64 0]) ∧ w6.heap.size ≤ sf ∧ Lies own' w' ⟨f5, sf, sA, 0, 1, b, 1, Dk.clean d6⟩ ∧ (∃ d', Like d6 d' ∧ Held own' w1 w' f5 d' (300000 + 2)) ∧ Stp own6 own' f5 w6 w') := by
        have hlen : y.now.length = 8192 := by rw [hyn]; exact laidB_length (by have := HN.out; omega)
        have hbest : best y.now = some (0, 1, b) := by rw [hyn]; exact (laidB_sides (by have := HN.out; omega)).best
        exact open_tells sA HT1.out hd6 (by decide) hly hlen (by decide) hbest
      clear hly hyn hd6
      go_upto_region 18 with (go_at_call 14; refine CO.out.mono ?_; rintro e w7 ⟨sf7, own7, rfl, _, hl7, hh7, hs7⟩)
      have HL7 := Lib.hid hl7
      have HB7 : Hid (Below w.heap.size w w7) := by
        obtain ⟨d', _, hd'⟩ := hh7
        exact HB1.out.trans (hd'.below.mono HB1.out.size)
      clear hl7 hh7 hs7 CO
      have CT : Hid (∀ W, Below w7.heap.size w7 W → Calls Tryz.prog 11 #[.pointer (some ⟨sf7, 0, none⟩)] W fun e w' => ∃ A c, e = .returned (.slice A b.length c) ∧ Hid (Row w' w'.heap.size A b.length (bvs b)) ∧ Hid (Below w7.heap.size w7 w')) := fun W hb => (text_any (HL7.out.all hb)).mono fun e w' ⟨A, c, he, hr, hb2⟩ => ⟨A, c, he, hr, hb.trans (hb2.out.mono hb.size)⟩
      obtain ⟨NN, hNN⟩ : ∃ NN, NN = b.length := ⟨_, rfl⟩
      rw [← hNN] at CT
      clear hNN
      have HCV : Hid (∀ W, Below w7.heap.size w7 W → (convert 31 9 (.slice A4 nt c4)).run Tryz.prog W = .ok (.string (str b)) W) := fun W hb => Disk.bytes_string (P := Tryz.prog) (c := c4) (dst := 9) Tryz.underlying31 Tryz.underlying5 Tryz.underlying9 ((HRT.out.below HB7.out).below (hb.mono HB7.out.size))
      have M0 := HCV.out w7.drew (Below.refl _ _).drew
      go_region_held (fun W => (convert 31 9 (.slice A4 nt c4)).run Tryz.prog W = .ok (.string (str b)) W) (with_reducible (first | exact M0 | exact M8))
        (first | (go_at_call 11; refine (CT.out _ (Below.refl _ _).drew).mono ?_; rintro e w8 ⟨A8, c8, rfl, R8, B8⟩
                  have M8 := HCV.out w8 B8.out
                  have cs8 : ∀ c, (convert 31 9 (.slice A8 NN c)).run Tryz.prog w8 = .ok (.string (str b)) w8 := fun c => Disk.bytes_string (P := Tryz.prog) (c := c) (dst := 9) Tryz.underlying31 Tryz.underlying5 Tryz.underlying9 R8.out))
      all_goals
        go_wp2_with fail
        go_ret
        exact ⟨rfl, HB7.out.trans (B8.out.mono HB7.out.size)⟩
end Go.Proofs.YtbljdcdcnnidkaaGreatDoor.Slot
