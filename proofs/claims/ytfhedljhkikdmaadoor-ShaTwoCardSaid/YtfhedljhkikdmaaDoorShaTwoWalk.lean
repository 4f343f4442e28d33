/-
  Proved: the walk of ShaTwo of package stillroomlaw2: it returns true and changes nothing that was there.
  Conditions: the slices read as bytes; the tables sha.start and sha.rounds hold their words.
-/
import Derived.Test.YtfhedljhkikdmaaDoorShaNoneWalk
import Derived.Deep.DeepCutAuto
namespace Go.Proofs.YtfhedljhkikdmaaDoor.Sha
open Go.RowKit

/-- One byte of a row, written to a Hash. -/
theorem write_byte {w wr : World} {g : Nat} {bs xs : List UInt8} {b o n k c : Nat} (hT : Tables wr) (hG : 1 < g ∧ 0 < g) (hH : HashAt wr g bs) (hR : Row w w.heap.size (some ⟨b, o, none⟩) n (bvs xs)) (hw : Below w.heap.size w wr)
    (hg : w.heap.size ≤ g) (hk : k < n) (hb : bs = xs.take k) (hn : n ≤ 1000) (hc : 1 ≤ c) (hm : c ≤ maxLen) :
    Calls Tryd.prog 13 #[.pointer (some ⟨g, 0, none⟩), .slice (some ⟨b, o + k, none⟩) 1 c] wr fun e w' => e = .returned undef ∧ HashAt w' g (xs.take (k + 1)) ∧ wr.grownBy w' (some g) := by
  have hx := hR.size
  have hr := ((hR.below hw).drop (k := k) hk).take (k := 1) (by omega)
  rw [bvs_drop, bvs_take] at hr
  have hs := hr.src (g := g) (w := wr) hw.size hg
  have h := write_any g bs (some ⟨b, o + k, none⟩) 1 c ((xs.drop k).take 1) wr hT hG hH hs hc hm (by rw [hb, List.length_take]; omega)
  have e : bs ++ (xs.drop k).take 1 = xs.take (k + 1) := by rw [hb, List.take_add]
  rw [e] at h
  exact h

set_option maxHeartbeats 1000000 in
theorem shaTwo_walk (A : Option Addr) (n c : Nat) (xs : List UInt8) (B : Option Addr) (m d : Nat) (bs : List UInt8) (w : World) (hT : Tables w)
    (hA : Row w w.heap.size A n (bvs xs)) (hn : n ≤ c) (hc : c ≤ maxLen) (hB : Row w w.heap.size B m (bvs bs)) (hm : m ≤ d) (hd : d ≤ maxLen) :
    Calls Tryd.prog 7 #[.slice A n c, .slice B m d] w fun e w' => e = .returned (.bool true) ∧ Below w.heap.size w w' := by
  have hgd := eq_guard
  have hcm : c ≤ 9223372036854775807 := by unfold maxLen at hc; exact hc
  have hdm : d ≤ 9223372036854775807 := by unfold maxLen at hd; exact hd
  have HT := Lib.hid hT
  have HGT := Lib.hid hT.2.2
  have HA := Lib.hid hA
  have HB := Lib.hid hB
  have HC := Lib.hid hc
  have HD := Lib.hid hd
  clear hT hA hB hc hd
  go_enter Tryd.func7, Tryd.ntmps7
  go_wp2_with fail
  refine (begun_any w HT.out).mono ?_
  rintro e w1 ⟨rfl, hb1⟩
  have HB1 := Lib.hid hb1
  have hz1 := hb1.size
  clear hb1
  go_upto_if 14 with fail
  go_cut [0] (fun a w' => ∃ N : Nat, N ≤ n ∧ N ≤ 200 ∧ a = .slice A N c ∧ w' = w1)
  case first =>
    by_cases h1 : n ≤ 200
    · go_wp2_with fail
      go_meet
      case rel => exact ⟨n, Nat.le_refl _, h1, rfl, rfl⟩
    · go_wp2_with fail
      go_meet
      case rel => exact ⟨200, by omega, Nat.le_refl _, rfl, rfl⟩
  case rest =>
    obtain ⟨N, hN, hN2, rfl, rfl⟩ := hcut
    go_upto_if 19 with fail
    go_cut [1] (fun a w' => ∃ M : Nat, M ≤ m ∧ M ≤ 200 ∧ a = .slice B M d ∧ w' = wc)
    case first =>
      by_cases h1 : m ≤ 200
      · go_wp2_with fail
        go_meet
        case rel => exact ⟨m, Nat.le_refl _, h1, rfl, rfl⟩
      · go_wp2_with fail
        go_meet
        case rel => exact ⟨200, by omega, Nat.le_refl _, rfl, rfl⟩
    case rest =>
      obtain ⟨M, hM, hM2, rfl, rfl⟩ := hcut
      have hxa := (HA.out.take hN)
      have hxb := (HB.out.take hM)
      rw [bvs_take] at hxa hxb
      obtain ⟨ys, hys⟩ : ∃ ys, ys = xs.take N := ⟨_, rfl⟩
      obtain ⟨zs, hzs⟩ : ∃ zs, zs = bs.take M := ⟨_, rfl⟩
      rw [← hys] at hxa
      rw [← hzs] at hxb
      have HY := Lib.hid hxa
      have HZ := Lib.hid hxb
      have HYL := Lib.hid hxa.size
      have HZL := Lib.hid hxb.size
      clear hxa hxb hys hzs HA HB
      go_wp2_with fail
      refine (new_any wc).mono ?_
      rintro e w2 ⟨rfl, hh2, hz2, hb2⟩
      have HH2 := Lib.hid hh2
      have HB2 := Lib.hid hb2
      clear hh2 hb2
      have HZ2 := Lib.hid hz2
      clear hz2
      go_wp2_with fail
      refine (new_any w2).mono ?_
      rintro e w3 ⟨rfl, hh3, hz3, hb3⟩
      have hg3 : HashAt w3 wc.heap.size [] := HH2.out.below hb3 HH2.out.lt
      have hw3 : Below w.heap.size w w3 := HB1.out.trans ((HB2.out.mono hz1).trans (hb3.mono (Nat.le_trans hz1 HB2.out.size)))
      have hne : wc.heap.size < w2.heap.size := by have := HZ2.out; omega
      have HH3 := Lib.hid hh3
      have HG3 := Lib.hid hg3
      have HW3 := Lib.hid hw3
      clear hh3 hb3 hg3 hw3 hz3
      go_wp2_with fail
      go_loopw [8] (fun i wr => ∃ k : Nat, k ≤ 200 ∧ i = .int .i64 k ∧ Hid (HashAt wr wc.heap.size (ys.take k) ∧ HashAt wr w2.heap.size (zs.take k) ∧ Below w.heap.size w wr)) (fun i _ => 200 - (intOf i).toNat)
      case atStart => exact ⟨0, by omega, rfl, HG3.out, HH3.out, HW3.out⟩
      case round =>
        obtain ⟨k, hk, rfl, HI⟩ := hrel
        by_cases hkN : k < N
        · obtain ⟨b, o, rfl, _, _⟩ := HY.out.byte (by omega)
          have hT1 := HT.out.all HI.out.2.2
          have W1 := Lib.hid (write_byte (k := k) (c := c - k) hT1 ⟨by have := HGT.out.1; omega, by have := HGT.out.2; omega⟩ HI.out.1 HY.out HI.out.2.2 hz1 hkN rfl (by omega) (by omega) (Nat.le_trans (Nat.sub_le _ _) HC.out))
          clear hT1
          by_cases hkM : k < M
          · obtain ⟨b2, o2, rfl, _, _⟩ := HZ.out.byte (by omega)
            go_wp2_with fail
            refine W1.out.mono ?_
            rintro e w4 ⟨rfl, hh4, hg4⟩
            have hw4 : Below w.heap.size w w4 := below_only HI.out.2.2 hg4 hz1 HI.out.2.2.size
            have W2 := Lib.hid (write_byte (k := k) (c := d - k) (HT.out.all hw4) ⟨by have := HGT.out.1; omega, by have := HGT.out.2; omega⟩ (HI.out.2.1.only hg4 (by omega)) HZ.out hw4 (by omega) hkM rfl (by omega) (by omega) (Nat.le_trans (Nat.sub_le _ _) HD.out))
            have HH4 := Lib.hid hh4
            have HW4 := Lib.hid hw4
            clear hh4 hg4 hw4
            go_wp2_with fail
            refine W2.out.mono ?_
            rintro e w5 ⟨rfl, hh5, hg5⟩
            have HH5 := Lib.hid hh5
            have HG5 := Lib.hid hg5
            clear hh5 hg5
            go_wp2_with fail
            go_roundw
            case rel => exact ⟨k + 1, by omega, by go_num, HH4.out.only HG5.out (by omega), HH5.out, below_only HW4.out HG5.out (by omega) HW4.out.size⟩
            case measure => simp [intOf]; omega
          · have hzk : zs.take (k + 1) = zs.take k := by rw [List.take_of_length_le (by rw [HZL.out]; omega), List.take_of_length_le (by rw [HZL.out]; omega)]
            have HZK := Lib.hid hzk
            clear hzk
            go_wp2_with fail
            refine W1.out.mono ?_
            rintro e w4 ⟨rfl, hh4, hg4⟩
            have HH4 := Lib.hid hh4
            have HG4 := Lib.hid hg4
            clear hh4 hg4
            go_wp2_with fail
            go_roundw
            case rel => exact ⟨k + 1, by omega, by go_num, HH4.out, by rw [HZK.out]; exact HI.out.2.1.only HG4.out (by omega), below_only HI.out.2.2 HG4.out hz1 HI.out.2.2.size⟩
            case measure => simp [intOf]; omega
        · have hyk : ys.take (k + 1) = ys.take k := by rw [List.take_of_length_le (by rw [HYL.out]; omega), List.take_of_length_le (by rw [HYL.out]; omega)]
          have HYK := Lib.hid hyk
          clear hyk
          by_cases hkM : k < M
          · obtain ⟨b2, o2, rfl, _, _⟩ := HZ.out.byte (by omega)
            have W2 := Lib.hid (write_byte (k := k) (c := d - k) (HT.out.all HI.out.2.2) ⟨by have := HGT.out.1; omega, by have := HGT.out.2; omega⟩ HI.out.2.1 HZ.out HI.out.2.2 (by omega) hkM rfl (by omega) (by omega) (Nat.le_trans (Nat.sub_le _ _) HD.out))
            go_wp2_with fail
            refine W2.out.mono ?_
            rintro e w4 ⟨rfl, hh4, hg4⟩
            have HH4 := Lib.hid hh4
            have HG4 := Lib.hid hg4
            clear hh4 hg4
            go_wp2_with fail
            go_roundw
            case rel => exact ⟨k + 1, by omega, by go_num, by rw [HYK.out]; exact HI.out.1.only HG4.out (by omega), HH4.out, below_only HI.out.2.2 HG4.out (by omega) HI.out.2.2.size⟩
            case measure => simp [intOf]; omega
          · have hy : ys.take k = ys := List.take_of_length_le (by rw [HYL.out]; omega)
            have hz : zs.take k = zs := List.take_of_length_le (by rw [HZL.out]; omega)
            have hi := HI.out
            rw [hy, hz] at hi
            have HJ := Lib.hid hi
            obtain ⟨r1, hr1⟩ : ∃ r, r = (bvs (digest ys)).toArray := ⟨_, rfl⟩
            obtain ⟨r2, hr2⟩ : ∃ r, r = (bvs (digest zs)).toArray := ⟨_, rfl⟩
            have heq1 := eq_same hr1 (digest_length _)
            have heq2 := eq_same hr2 (digest_length _)
            have R1 := Lib.hid hr1
            have R2 := Lib.hid hr2
            have HNC : Hid (N ≤ c) := by show N ≤ c; omega
            have HMD : Hid (M ≤ d) := by show M ≤ d; omega
            clear hy hz hi HI hr1 hr2 HYK
            go_wp2_with fail
            refine (hsum_any wc.heap.size ys wr (HT.out.all HJ.out.2.2) HJ.out.1 (by rw [HYL.out]; omega)).mono ?_
            rintro e w4 ⟨rfl, hb4⟩
            rw [← R1.out]
            have hw4 : Below w.heap.size w w4 := HJ.out.2.2.trans (hb4.mono HJ.out.2.2.size)
            have hh4 : HashAt w4 w2.heap.size zs := HJ.out.2.1.below hb4 HJ.out.2.1.lt
            have HW4 := Lib.hid hw4
            have HH4 := Lib.hid hh4
            clear hb4 hw4 hh4
            go_wp2_with fail
            refine (sum_any A N c ys w4 (HT.out.all HW4.out) ((HY.out.below HW4.out).more HW4.out.size) HNC.out HC.out (by omega)).mono ?_
            rintro e w5 ⟨rfl, hb5⟩
            rw [← R1.out]
            have hw5 : Below w.heap.size w w5 := HW4.out.trans (hb5.mono HW4.out.size)
            have hh5 : HashAt w5 w2.heap.size zs := HH4.out.below hb5 HH4.out.lt
            have HW5 := Lib.hid hw5
            have HH5 := Lib.hid hh5
            clear hb5 hw5 hh5
            go_wp2_with fail
            refine (hsum_any w2.heap.size zs w5 (HT.out.all HW5.out) HH5.out (by rw [HZL.out]; omega)).mono ?_
            rintro e w6 ⟨rfl, hb6⟩
            rw [← R2.out]
            have hw6 : Below w.heap.size w w6 := HW5.out.trans (hb6.mono HW5.out.size)
            have HW6 := Lib.hid hw6
            clear hb6 hw6
            go_wp2_with fail
            refine (sum_any B M d zs w6 (HT.out.all HW6.out) ((HZ.out.below HW6.out).more HW6.out.size) HMD.out HD.out (by omega)).mono ?_
            rintro e w7 ⟨rfl, hb7⟩
            rw [← R2.out]
            have hw7 : Below w.heap.size w w7 := HW6.out.trans (hb7.mono HW6.out.size)
            have HW7 := Lib.hid hw7
            clear hb7 hw7
            go_wp2_with fail
            go_ret
            exact ⟨rfl, HW7.out⟩
end Go.Proofs.YtfhedljhkikdmaaDoor.Sha
