/-
  Proved: the walk of CrcMany of package stillroomlaw1: it returns true and changes nothing that was there.
  Conditions: the slices read as bytes or ints; the table crc.turned holds its sixteen words.
-/
import Derived.Test.YtflikfgcbhfcbaaDoorCrcBase
namespace Go.Proofs.YtflikfgcbhfcbaaDoor.Crc
open Go.RowKit

theorem take_drop_take {k m : Nat} (h : k ≤ m) (l : List UInt8) : l.take k ++ (l.drop k).take (m - k) = l.take m := by
  rw [show m = k + (m - k) by omega, List.take_add, show k + (m - k) - k = m - k by omega]
theorem part_any {w : World} {A : Option Addr} {N c k m len : Nat} {cs : List UInt8} {S : BitVec 32} (hT : Turned w) (hR : Row w w.heap.size A N (bvs cs)) (hS : S = sum (cs.take k)) (hN : N ≤ maxLen)
    (hk : k < m) (hm : m ≤ N) (hl : len = m - k) :
    Calls Tryd.prog 10 #[.int .u32 (S.toNat : Int), .slice (A.map (·.add k)) len c] w fun e w' => e = .returned (.int .u32 ((sum (cs.take m)).toNat : Int)) ∧ w = w' := by
  subst hl
  have hr := hR.cut hk hm
  rw [bvs_drop, bvs_take] at hr
  have := more_any S _ (m - k) c _ w hT hr (by omega)
  rw [hS, more_sum, take_drop_take (Nat.le_of_lt hk)] at this
  rw [hS]
  exact this
theorem front_any {w : World} {A : Option Addr} {N c m : Nat} {cs : List UInt8} (hT : Turned w) (hR : Row w w.heap.size A N (bvs cs)) (hN : N ≤ maxLen) (hm : m ≤ N) :
    Calls Tryd.prog 9 #[.slice A m c] w fun e w' => e = .returned (.int .u32 ((sum (cs.take m)).toNat : Int)) ∧ w = w' := by
  have hr := hR.take hm
  rw [bvs_take] at hr
  exact sum_any A m c _ w hT hr (by omega)

set_option maxHeartbeats 400000 in
theorem crcMany_walk (A : Option Addr) (n c : Nat) (bs : List UInt8) (C : Option Addr) (m d : Nat) (zs : List Int) (w : World) (hT : Turned w)
    (hR : Row w w.heap.size A n (bvs bs)) (hn : n ≤ c) (hc : c ≤ maxLen) (hZ : Row w w.heap.size C m (ivs zs)) (hm : m ≤ d) (hd : d ≤ maxLen) (hz : ∀ i, -9223372036854775808 ≤ zs.getD i 0 ∧ zs.getD i 0 ≤ 9223372036854775807) :
    Calls Tryd.prog 3 #[.slice A n c, .slice C m d] w fun e w' => e = .returned (.bool true) ∧ Below w.heap.size w w' := by
  go_enter Tryd.func3, Tryd.ntmps3
  go_wp2_with fail
  refine (begun_any w hT).mono ?_
  rintro e w1 ⟨rfl, hb1⟩
  go_wp2_with fail
  have hT1 := hT.below hb1
  have hR1 := (hR.below hb1).more hb1.size
  have hZ1 := (hZ.below hb1).more hb1.size
  refine (short_any A n c 300 w1 hn hc).mono ?_
  rintro e w2 ⟨rfl, rfl⟩
  obtain ⟨N, hN⟩ : ∃ N, N = min n 300 := ⟨_, rfl⟩
  have hNn : N ≤ n := by omega
  have hN3 : N ≤ 300 := by omega
  have hNc : N ≤ c := by omega
  have HR := Lib.hid ((hR1.take hNn))
  rw [bvs_take] at HR
  obtain ⟨cs, hcs⟩ : ∃ cs, cs = bs.take N := ⟨_, rfl⟩
  rw [← hcs] at HR
  have HL := Lib.hid (HR.out.size)
  rw [← hN]
  have HT := Lib.hid hT1
  have HZ := Lib.hid (hZ1.int)
  have HB := Lib.hid hb1
  have hmm : m ≤ 9223372036854775807 := by unfold maxLen at hd; omega
  have hcm : c ≤ 9223372036854775807 := by unfold maxLen at hc; omega
  have HM := Lib.hid hc
  have Hz := Lib.hid hz
  have HW : Hid (N ≤ maxLen) := Nat.le_trans hNc hc
  have S0 : Hid ((0 : Int) = ((sum []).toNat : Int)) := by rw [sum_nil]; rfl
  clear hcs hN hT hT1 hR hR1 hZ hZ1 hb1 hc hz hn hm hd hNn
  go_wp2_with fail
  refine (sum_any none 0 0 [] _ HT.out (Row.nil _ _) (by decide)).mono ?_
  rintro e w' ⟨rfl, rfl⟩
  go_wp2_with fail
  go_loop [6, 7, 8] (fun s t i => ∃ k j : Nat, ∃ S : BitVec 32, k ≤ N ∧ j ≤ k ∧ Hid (S = sum (cs.take k)) ∧ s = .int .u32 (S.toNat : Int) ∧ t = .int .i64 k ∧ i = .int .i64 j) (fun _ t _ => N - (intOf t).toNat)
  case atStart => exact ⟨0, 0, sum [], Nat.zero_le _, Nat.le_refl _, rfl, rfl, rfl, rfl⟩
  case round =>
    obtain ⟨k, j, S, hk, hj, HS, rfl, rfl, rfl⟩ := hrel
    by_cases hlt : k < N
    · by_cases hjm : j < m
      · obtain ⟨b, o, rfl, _, hcell⟩ := HZ.out (by omega)
        have hcj := hcell j hjm
        have hzb := Hz.out j
        obtain ⟨X, HX⟩ : ∃ X, Hid (X = zs.getD j 0) := ⟨_, rfl⟩
        rw [← HX.out] at hcj hzb
        have ht1 : -40 < X.tmod 40 := by rw [Int.tmod_eq_emod]; split <;> omega
        have ht2 : X.tmod 40 < 40 := by rw [Int.tmod_eq_emod]; split <;> omega
        clear hcell HZ Hz
        have he1 : (↑k + (1 + X.tmod 40 % 40)) = (((k : Int) + (1 + X.tmod 40 % 40)).toNat : Int) := by omega
        have HE := Lib.hid he1
        clear he1
        go_wp2_with fail
        · refine (part_any (m := ((k : Int) + (1 + X.tmod 40 % 40)).toNat) HT.out HR.out HS.out HW.out (by omega) (by omega) (by omega)).mono ?_
          rintro e w' ⟨rfl, rfl⟩
          go_wp2_with fail
          refine (front_any (m := ((k : Int) + (1 + X.tmod 40 % 40)).toNat) HT.out HR.out HW.out (by omega)).mono ?_
          rintro e w' ⟨rfl, rfl⟩
          go_wp2_with fail
          go_round
          case rel => exact ⟨((k : Int) + (1 + X.tmod 40 % 40)).toNat, j + 1, sum (cs.take (((k : Int) + (1 + X.tmod 40 % 40)).toNat)), by omega, by omega, rfl, rfl, by rw [← HE.out], by go_num⟩
          case measure => simp [intOf]; omega
        · refine (part_any (m := N) HT.out HR.out HS.out HW.out (by omega) (by omega) (by omega)).mono ?_
          rintro e w' ⟨rfl, rfl⟩
          go_wp2_with fail
          refine (front_any (m := N) HT.out HR.out HW.out (by omega)).mono ?_
          rintro e w' ⟨rfl, rfl⟩
          go_wp2_with fail
          go_round
          case rel => exact ⟨N, j + 1, sum (cs.take (N)), by omega, by omega, rfl, rfl, rfl, by go_num⟩
          case measure => simp [intOf]; omega
      · go_wp2_with fail
        · refine (part_any (m := k + 1) HT.out HR.out HS.out HW.out (by omega) (by omega) (by omega)).mono ?_
          rintro e w' ⟨rfl, rfl⟩
          go_wp2_with fail
          refine (front_any (m := k + 1) HT.out HR.out HW.out (by omega)).mono ?_
          rintro e w' ⟨rfl, rfl⟩
          go_wp2_with fail
          go_round
          case rel => exact ⟨k + 1, j + 1, sum (cs.take (k + 1)), by omega, by omega, rfl, rfl, by go_num, by go_num⟩
          case measure => simp [intOf]; omega
        · refine (part_any (m := N) HT.out HR.out HS.out HW.out (by omega) (by omega) (by omega)).mono ?_
          rintro e w' ⟨rfl, rfl⟩
          go_wp2_with fail
          refine (front_any (m := N) HT.out HR.out HW.out (by omega)).mono ?_
          rintro e w' ⟨rfl, rfl⟩
          go_wp2_with fail
          go_round
          case rel => exact ⟨N, j + 1, sum (cs.take (N)), by omega, by omega, rfl, rfl, rfl, by go_num⟩
          case measure => simp [intOf]; omega
    · obtain rfl : k = N := by omega
      go_wp2_with fail
      refine (sum_any A k c cs _ HT.out HR.out HW.out).mono ?_
      rintro e w' ⟨rfl, rfl⟩
      have he : ((S.toNat : Int) == ((sum cs).toNat : Int)) = true := by rw [HS.out, List.take_of_length_le (by rw [HL.out]; exact Nat.le_refl _)]; simp
      go_wp2_with fail
      go_ret
      exact ⟨rfl, HB.out⟩
end Go.Proofs.YtflikfgcbhfcbaaDoor.Crc
