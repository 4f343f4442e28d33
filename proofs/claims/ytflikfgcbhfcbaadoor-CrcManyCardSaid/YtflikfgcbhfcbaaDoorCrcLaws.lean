/-
  Proved: the walks of the laws of package stillroomlaw1 on sums: each returns true and changes nothing that was there.
  Conditions: the slices read as bytes or ints; the table crc.turned holds its sixteen words.
-/
import Derived.Test.YtflikfgcbhfcbaaDoorCrcWalks
import Derived.Lib.SlBytesConst
namespace Go.Proofs.YtflikfgcbhfcbaaDoor.Crc
open Go.RowKit

theorem Turned.below {w w' : World} (h : Turned w) (hb : Below w.heap.size w w') : Turned w' :=
  fun i hi => (hb.cell (World.block_lt_of_cell? w _ (h i hi))).trans (h i hi)

theorem g_turned : Tryd.prog.globalNamed "stillroom/crc.turned" = some 0 := by kernel_rfl
theorem t_turned : (Tryd.prog.globals[0]?).map (·.type) = some 35 := by kernel_rfl
theorem c_turned : Tryd.prog.cellsOf 35 = 16 := by kernel_rfl
theorem c_u32 : Tryd.prog.cellsOf 26 = 1 := by kernel_rfl
/-- What a row's list says of the table. -/
theorem turned_of {W : World} {rest : List (String × DataW Unit)} (h : laidMet Tryd.prog (("stillroom/crc.turned", Rows.laid_stillroom_crc_turned) :: rest) W) : Turned W := by
  have ht : Lib.TabIs Tryd.prog W "stillroom/crc.turned" .u32 (tab.map Int.ofNat) :=
    Lib.tabIs_of_head (rest := rest) g_turned t_turned Tryd.underlying35 Tryd.underlying26 c_u32 c_turned h
  intro i hi
  have := ht.cell g_turned i (by simp [tab]; omega)
  rw [this]
  have : tab.length = 16 := rfl
  simp [List.getD, List.getElem?_eq_getElem (l := tab) (i := i) (by omega)]

theorem short_any (A : Option Addr) (n c : Nat) (m : Nat) (w : World) (hn : n ≤ c) (_hc : c ≤ maxLen) :
    Calls Tryd.prog 8 #[.slice A n c, .int .i64 (m : Int)] w fun e w' => e = .returned (.slice A (min n m) c) ∧ w = w' := by
  unfold maxLen at _hc
  by_cases h : m < n
  · rw [Nat.min_eq_right (Nat.le_of_lt h)]
    go_enter Tryd.func8, Tryd.ntmps8
    go_wp2
    go_ret
    exact ⟨rfl, rfl⟩
  · rw [Nat.min_eq_left (by omega)]
    go_enter Tryd.func8, Tryd.ntmps8
    go_wp2
    go_ret
    exact ⟨rfl, rfl⟩
theorem row_nine (w : World) (t : TypeId) (fr : Nat × Nat) : Row (w.alloc (.cells #[.int .u8 49, .int .u8 50, .int .u8 51, .int .u8 52, .int .u8 53, .int .u8 54, .int .u8 55, .int .u8 56, .int .u8 57] t fr))
    (w.heap.size + 1) (some ⟨w.heap.size, 0, none⟩) 9 (bvs [49, 50, 51, 52, 53, 54, 55, 56, 57]) := Row.fresh w t fr _
theorem begun_any (w : World) (hT : Turned w) :
    Calls Tryd.prog 7 #[] w fun e w' => e = .returned (.bool true) ∧ Below w.heap.size w w' := by
  have hcv := fun (w : World) (C : Array Value) (n c : Nat) => Lib.run_convert_bytes_const (P := Tryd.prog) w 22 5 C n c Tryd.underlying22 Tryd.underlying5
  have hT1 : ∀ o, Turned (w.alloc o) := fun o => hT.below ((Below.refl _ _).alloc (Nat.le_refl _) o)
  have H1 := Lib.hid hT1
  have H2 := Lib.hid (row_nine w)
  have hsum : ((sum [49, 50, 51, 52, 53, 54, 55, 56, 57]).toNat : Int) = 3808858755 := by rw [sum_digits]; rfl
  have hnil : ((sum []).toNat : Int) = 0 := by rw [sum_nil]; rfl
  clear hT hT1
  go_enter Tryd.func7, Tryd.ntmps7
  go_wp2_with fail
  refine (sum_any _ 9 9 _ _ (H1.out _) ((H2.out 5 (9, 10)).more (by simp)) (by decide)).mono ?_
  rintro e w' ⟨rfl, rfl⟩
  go_wp2_with fail
  refine (sum_any none 0 0 [] _ (H1.out _) (Row.nil _ _) (by decide)).mono ?_
  rintro e w' ⟨rfl, rfl⟩
  go_wp2_with fail
  go_ret
  exact ⟨rfl, (Below.refl _ _).alloc (Nat.le_refl _) _⟩

theorem take_drop_take {k m : Nat} (h : k ≤ m) (l : List UInt8) : l.take k ++ (l.drop k).take (m - k) = l.take m := by
  rw [show m = k + (m - k) by omega, List.take_add, show k + (m - k) - k = m - k by omega]
theorem part_any {w : World} {A : Option Addr} {N c k m len : Nat} {cs : List UInt8} {S : BitVec 32} (hT : Turned w) (hR : Row w w.heap.size A N (bvs cs)) (hS : S = sum (cs.take k)) (hN : N ≤ maxLen)
    (hk : k < m) (hm : m ≤ N) (hl : len = m - k) :
    Calls Tryd.prog 10 #[.int .u32 (S.toNat : Int), .slice (A.map (·.add k)) len c] w fun e w' => e = .returned (.int .u32 ((sum (cs.take m)).toNat : Int)) ∧ w = w' := by
  subst hl
  have hr := hR.cut hk hm
  rw [bvs_drop, bvs_take] at hr
  have := more_any S _ (m - k) c _ w hT hr (by omega)
  rw [hS, more_sum, take_drop_take (Nat.le_of_lt hk)] at this
  rw [hS]
  exact this
theorem front_any {w : World} {A : Option Addr} {N c m : Nat} {cs : List UInt8} (hT : Turned w) (hR : Row w w.heap.size A N (bvs cs)) (hN : N ≤ maxLen) (hm : m ≤ N) :
    Calls Tryd.prog 9 #[.slice A m c] w fun e w' => e = .returned (.int .u32 ((sum (cs.take m)).toNat : Int)) ∧ w = w' := by
  have hr := hR.take hm
  rw [bvs_take] at hr
  exact sum_any A m c _ w hT hr (by omega)

set_option maxHeartbeats 400000 in
theorem crcMany_walk (A : Option Addr) (n c : Nat) (bs : List UInt8) (C : Option Addr) (m d : Nat) (zs : List Int) (w : World) (hT : Turned w)
    (hR : Row w w.heap.size A n (bvs bs)) (hn : n ≤ c) (hc : c ≤ maxLen) (hZ : Row w w.heap.size C m (ivs zs)) (hm : m ≤ d) (hd : d ≤ maxLen) (hz : ∀ i, -9223372036854775808 ≤ zs.getD i 0 ∧ zs.getD i 0 ≤ 9223372036854775807) :
    Calls Tryd.prog 3 #[.slice A n c, .slice C m d] w fun e w' => e = .returned (.bool true) ∧ Below w.heap.size w w' := by
  go_enter Tryd.func3, Tryd.ntmps3
  go_wp2_with fail
  refine (begun_any w hT).mono ?_
  rintro e w1 ⟨rfl, hb1⟩
  go_wp2_with fail
  have hT1 := hT.below hb1
  have hR1 := (hR.below hb1).more hb1.size
  have hZ1 := (hZ.below hb1).more hb1.size
  refine (short_any A n c 300 w1 hn hc).mono ?_
  rintro e w2 ⟨rfl, rfl⟩
  obtain ⟨N, hN⟩ : ∃ N, N = min n 300 := ⟨_, rfl⟩
  have hNn : N ≤ n := by omega
  have hN3 : N ≤ 300 := by omega
  have hNc : N ≤ c := by omega
  have HR := Lib.hid ((hR1.take hNn))
  rw [bvs_take] at HR
  obtain ⟨cs, hcs⟩ : ∃ cs, cs = bs.take N := ⟨_, rfl⟩
  rw [← hcs] at HR
  have HL := Lib.hid (HR.out.size)
  rw [← hN]
  have HT := Lib.hid hT1
  have HZ := Lib.hid (hZ1.int)
  have HB := Lib.hid hb1
  have hmm : m ≤ 9223372036854775807 := by unfold maxLen at hd; omega
  have hcm : c ≤ 9223372036854775807 := by unfold maxLen at hc; omega
  have HM := Lib.hid hc
  have Hz := Lib.hid hz
  have HW : Hid (N ≤ maxLen) := Nat.le_trans hNc hc
  have S0 : Hid ((0 : Int) = ((sum []).toNat : Int)) := by rw [sum_nil]; rfl
  clear hcs hN hT hT1 hR hR1 hZ hZ1 hb1 hc hz hn hm hd hNn
  go_wp2_with fail
  refine (sum_any none 0 0 [] _ HT.out (Row.nil _ _) (by decide)).mono ?_
  rintro e w' ⟨rfl, rfl⟩
  go_wp2_with fail
  go_loop [6, 7, 8] (fun s t i => ∃ k j : Nat, ∃ S : BitVec 32, k ≤ N ∧ j ≤ k ∧ Hid (S = sum (cs.take k)) ∧ s = .int .u32 (S.toNat : Int) ∧ t = .int .i64 k ∧ i = .int .i64 j) (fun _ t _ => N - (intOf t).toNat)
  case atStart => exact ⟨0, 0, sum [], Nat.zero_le _, Nat.le_refl _, rfl, rfl, rfl, rfl⟩
  case round =>
    obtain ⟨k, j, S, hk, hj, HS, rfl, rfl, rfl⟩ := hrel
    by_cases hlt : k < N
    · by_cases hjm : j < m
      · obtain ⟨b, o, rfl, _, hcell⟩ := HZ.out (by omega)
        have hcj := hcell j hjm
        have hzb := Hz.out j
        obtain ⟨X, HX⟩ : ∃ X, Hid (X = zs.getD j 0) := ⟨_, rfl⟩
        rw [← HX.out] at hcj hzb
        have ht1 : -40 < X.tmod 40 := by rw [Int.tmod_eq_emod]; split <;> omega
        have ht2 : X.tmod 40 < 40 := by rw [Int.tmod_eq_emod]; split <;> omega
        clear hcell HZ Hz
        have he1 : (↑k + (1 + X.tmod 40 % 40)) = (((k : Int) + (1 + X.tmod 40 % 40)).toNat : Int) := by omega
        have HE := Lib.hid he1
        clear he1
        go_wp2_with fail
        · refine (part_any (m := ((k : Int) + (1 + X.tmod 40 % 40)).toNat) HT.out HR.out HS.out HW.out (by omega) (by omega) (by omega)).mono ?_
          rintro e w' ⟨rfl, rfl⟩
          go_wp2_with fail
          refine (front_any (m := ((k : Int) + (1 + X.tmod 40 % 40)).toNat) HT.out HR.out HW.out (by omega)).mono ?_
          rintro e w' ⟨rfl, rfl⟩
          go_wp2_with fail
          go_round
          case rel => exact ⟨((k : Int) + (1 + X.tmod 40 % 40)).toNat, j + 1, sum (cs.take (((k : Int) + (1 + X.tmod 40 % 40)).toNat)), by omega, by omega, rfl, rfl, by rw [← HE.out], by go_num⟩
          case measure => simp [intOf]; omega
        · refine (part_any (m := N) HT.out HR.out HS.out HW.out (by omega) (by omega) (by omega)).mono ?_
          rintro e w' ⟨rfl, rfl⟩
          go_wp2_with fail
          refine (front_any (m := N) HT.out HR.out HW.out (by omega)).mono ?_
          rintro e w' ⟨rfl, rfl⟩
          go_wp2_with fail
          go_round
          case rel => exact ⟨N, j + 1, sum (cs.take (N)), by omega, by omega, rfl, rfl, rfl, by go_num⟩
          case measure => simp [intOf]; omega
      · go_wp2_with fail
        · refine (part_any (m := k + 1) HT.out HR.out HS.out HW.out (by omega) (by omega) (by omega)).mono ?_
          rintro e w' ⟨rfl, rfl⟩
          go_wp2_with fail
          refine (front_any (m := k + 1) HT.out HR.out HW.out (by omega)).mono ?_
          rintro e w' ⟨rfl, rfl⟩
          go_wp2_with fail
          go_round
          case rel => exact ⟨k + 1, j + 1, sum (cs.take (k + 1)), by omega, by omega, rfl, rfl, by go_num, by go_num⟩
          case measure => simp [intOf]; omega
        · refine (part_any (m := N) HT.out HR.out HS.out HW.out (by omega) (by omega) (by omega)).mono ?_
          rintro e w' ⟨rfl, rfl⟩
          go_wp2_with fail
          refine (front_any (m := N) HT.out HR.out HW.out (by omega)).mono ?_
          rintro e w' ⟨rfl, rfl⟩
          go_wp2_with fail
          go_round
          case rel => exact ⟨N, j + 1, sum (cs.take (N)), by omega, by omega, rfl, rfl, rfl, by go_num⟩
          case measure => simp [intOf]; omega
    · obtain rfl : k = N := by omega
      go_wp2_with fail
      refine (sum_any A k c cs _ HT.out HR.out HW.out).mono ?_
      rintro e w' ⟨rfl, rfl⟩
      have he : ((S.toNat : Int) == ((sum cs).toNat : Int)) = true := by rw [HS.out, List.take_of_length_le (by rw [HL.out]; exact Nat.le_refl _)]; simp
      go_wp2_with fail
      go_ret
      exact ⟨rfl, HB.out⟩
end Go.Proofs.YtflikfgcbhfcbaaDoor.Crc
