/-
  Proved: what below of package stillroomref1 returns: is a power not above a number times a power of two.
  Conditions: a base from 1 up to 2 to the 37th, a number below 65536, an order of 1 to 3.
-/
import Derived.Test.YtfhedljhkikdmaaDoorRefTimes
namespace Go.Proofs.YtfhedljhkikdmaaDoor.Sha
open Go.RowKit

theorem blk_row_u64 {w : World} {g : Nat} {t : TypeId} {l : List Nat} {n : Nat} (h : Blk w g t (uls l).toArray) (hn : l.length = n) : Row w w.heap.size (some ⟨g, 0, none⟩) n (uls l) := by
  have e : (uls l).toArray.size = n := by rw [List.size_toArray, uls_length, hn]
  rw [← e]
  exact h.row
theorem own_fresh {w : World} {base : Nat} {t : TypeId} {v : Value} (hb : base ≤ w.heap.size) : (w.alloc (.cells #[v] t)).ownsRow base t 1 (.slice (some ⟨w.heap.size, 0, none⟩) 1 1) 1 [v] :=
  ⟨rfl, .inr ⟨w.heap.size, 1, #[v], rfl, hb, heap_alloc_new w _, Nat.le_refl _, by decide, rfl, rfl⟩⟩
theorem val_one_len {ds : List Nat} (hv : val ds = 1) (hl : 0 < ds.length → 65536 ^ (ds.length - 1) ≤ 1) : ds.length = 1 := by
  have h0 : 0 < ds.length := by
    cases ds with
    | nil => simp [val] at hv
    | cons _ _ => simp
  have h1 := hl h0
  apply Classical.byContradiction
  intro hc
  have h2 : 65536 ^ 1 ≤ 65536 ^ (ds.length - 1) := Nat.pow_le_pow_right (by decide) (by omega)
  omega
theorem len_le {ds : List Nat} {m L : Nat} (hl : 0 < ds.length → 65536 ^ (ds.length - 1) ≤ m) (hm : m < 65536 ^ L) : ds.length ≤ L := by
  apply Classical.byContradiction
  intro hc
  have h1 := hl (by omega)
  have h2 : 65536 ^ L ≤ 65536 ^ (ds.length - 1) := Nat.pow_le_pow_right (by decide) (by omega)
  omega
theorem len_pos {ds : List Nat} {m : Nat} (hv : val ds = m) (hm : 1 ≤ m) : 1 ≤ ds.length := by
  cases ds with
  | nil => simp [val] at hv; omega
  | cons _ _ => simp

theorem val_pad {ys : List Nat} {n : Nat} (h : val ys = n) (k s : Nat) : val (List.replicate (2 * k) 0 ++ ys ++ List.replicate s 0) = n * 2 ^ (32 * k) := by
  rw [val_append, val_append, val_zeros, val_zeros, List.length_replicate, h, Nat.zero_add, Nat.mul_zero, Nat.add_zero, Nat.mul_comm, show 65536 = 2 ^ 16 from rfl, ← Nat.pow_mul]
  congr 2
  omega
theorem pad_all {ys : List Nat} (h : ∀ d ∈ ys, d < 65536) (k s : Nat) : ∀ d ∈ List.replicate (2 * k) 0 ++ ys ++ List.replicate s 0, d < 65536 := by
  intro d hd
  rcases List.mem_append.1 hd with hd | hd
  · rcases List.mem_append.1 hd with hd | hd
    · rw [(List.mem_replicate.1 hd).2]; decide
    · exact h d hd
  · rw [(List.mem_replicate.1 hd).2]; decide
/-- A slice's length. -/
def lenOf : Value → Nat
  | .slice _ m _ => m
  | _ => 0
theorem pad_more (l : List Nat) (s : Nat) : l ++ List.replicate s 0 ++ [0] = l ++ List.replicate (s + 1) 0 := by
  rw [List.append_assoc, ← List.replicate_succ']

set_option maxHeartbeats 1000000 in
theorem below_any (m n k : Nat) (w : World) (hm1 : 1 ≤ m) (hm : m ≤ 137438953472) (hn : n < 65536) (hk1 : 1 ≤ k) (hk : k ≤ 3) :
    Calls Tryd.prog 26 #[.int .u64 (m : Int), .int .u64 (n : Int), .int .i64 (k : Int)] w fun e w' => e = .returned (.bool (decide (m ^ k ≤ n * 2 ^ (32 * k)))) ∧ Below w.heap.size w w' := by
  go_enter Tryd.func26, Tryd.ntmps26
  go_wp2_with fail
  refine (digits_any m m w rfl (by omega)).mono ?_
  rintro e w1 ⟨u1, ps, rfl, ho1, hp1, hp2, hp3, hb1⟩
  obtain ⟨N1, hN1⟩ : ∃ N1, N1 = ps.length := ⟨_, rfl⟩
  rw [← hN1] at ho1
  obtain ⟨A1, c1, rfl, _, _⟩ := own_form ho1
  have h11 : 1 ≤ N1 := by rw [hN1]; exact len_pos hp2 hm1
  have h13 : N1 ≤ 3 := by rw [hN1]; exact len_le hp3 (by omega)
  have HP1 := Lib.hid (Row.own ho1)
  have HB1 := Lib.hid hb1
  have HPS := Lib.hid hp1
  have HPV := Lib.hid hp2
  have HN1 := Lib.hid hN1
  clear ho1 hp1 hp2 hp3 hb1 hN1
  go_wp2_with fail
  refine (digits_any 1 1 w1 rfl (by omega)).mono ?_
  rintro e w2 ⟨u2, os, rfl, ho2, hq1, hq2, hq3, hb2⟩
  have hl2 := val_one_len hq2 hq3
  rw [hl2] at ho2
  obtain ⟨A2, c2, rfl, _, _⟩ := own_form ho2
  have HX2 := Lib.hid (Row.own ho2)
  have HP2 := Lib.hid ((HP1.out.below hb2).more hb2.size)
  have HB2 := Lib.hid (HB1.out.trans (hb2.mono HB1.out.size))
  have HQ1 := Lib.hid hq1
  have HQ2 := Lib.hid hq2
  clear ho2 hq1 hq2 hq3 hb2 hl2 HP1 HB1
  go_wp2_with fail
  go_loopw [8, 9] (fun x i wr => ∃ t N : Nat, t ≤ k ∧ N ≤ 13 ∧ i = .int .i64 (t : Int) ∧ Hid (∃ A c xs, x = .slice A N c ∧ N = 1 + t * (N1 + 1) ∧ Row wr wr.heap.size A N (uls xs) ∧ (∀ d ∈ xs, d < 65536) ∧ val xs = m ^ t ∧ Row wr wr.heap.size A1 N1 (uls ps) ∧ Below w.heap.size w wr)) (fun _ i _ => k - (intOf i).toNat)
  case atStart => exact ⟨0, 1, by omega, by omega, rfl, A2, c2, os, rfl, by simp, HX2.out, HQ1.out, by rw [HQ2.out, Nat.pow_zero], HP2.out, HB2.out⟩
  case round =>
    clear HX2 HP2 HB2 HQ1 HQ2
    obtain ⟨t, N, ht, hN, rfl, HI⟩ := hrel
    obtain ⟨A, c, xs, rfl, i1, i2, i3, i4, i5, i6⟩ := HI.out
    have HI1 := Lib.hid i1
    have HI2 := Lib.hid i2
    have HI3 := Lib.hid i3
    have HI4 := Lib.hid i4
    have HI5 := Lib.hid i5
    have HI6 := Lib.hid i6
    clear HI i1 i2 i3 i4 i5 i6
    by_cases hlt : t < k
    · go_wp2_with fail
      refine (times_any A N c xs A1 N1 c1 ps wr HI2.out HI5.out HI3.out HPS.out (by omega) (by omega)).mono ?_
      rintro e w3 ⟨zs, rfl, hz1, hz2, hz3, hz4, hz5⟩
      have HZ2 := Lib.hid (blk_row_u64 hz1 hz2)
      have HZ3 := Lib.hid hz3
      have HZ4 := Lib.hid hz4
      have HZ5 := Lib.hid ((HI5.out.below hz5).more hz5.size)
      have HZ6 := Lib.hid (HI6.out.trans (hz5.mono HI6.out.size))
      clear hz1 hz2 hz3 hz4 hz5
      go_wp2_with fail
      go_roundw
      case rel =>
        have e1 : N + N1 + 1 = 1 + (t + 1) * (N1 + 1) := by rw [HI1.out, Nat.succ_mul]; omega
        have e2 : (t + 1) * (N1 + 1) ≤ 3 * 4 := Nat.mul_le_mul (by omega) (by omega)
        exact ⟨t + 1, N + N1 + 1, by omega, by omega, by go_num, _, _, zs, rfl, e1, HZ2.out, HZ3.out, by rw [HZ4.out, HI4.out, HPV.out, Nat.pow_succ], HZ5.out, HZ6.out⟩
      case measure => simp [intOf]; omega
    · obtain rfl : k = t := by omega
      have hNk : 1 + 2 * k ≤ N := by
        have h := HI1.out
        have : k * 2 ≤ k * (N1 + 1) := Nat.mul_le_mul_left k (by omega)
        omega
      clear HI5 HPS HPV HN1 HI1 ht h11 h13
      go_wp2_with fail
      obtain ⟨wo, rfl⟩ : ∃ wo : World, wo = wr := ⟨_, rfl⟩
      refine (digits_any n n wo rfl (by omega)).mono ?_
      rintro e w5 ⟨u5, ys, rfl, ho5, hy1, hy2, hy3, hb5⟩
      obtain ⟨LY, hLY⟩ : ∃ LY, LY = ys.length := ⟨_, rfl⟩
      rw [← hLY] at ho5
      have hly : LY ≤ 1 := by rw [hLY]; exact len_le hy3 (by omega)
      have HO5 := Lib.hid ho5
      have HY1 := Lib.hid hy1
      have HY2 := Lib.hid hy2
      have HB5 := Lib.hid hb5
      have HLY := Lib.hid hLY
      clear ho5 hy1 hy2 hy3 hb5 hLY
      go_wp2_with fail
      go_loopw [10, 11] (fun y i wr => ∃ s : Nat, s ≤ 2 * k ∧ i = .int .i64 (s : Int) ∧ Hid (wr.ownsRow wo.heap.size 42 1 y (s + LY) (uls (List.replicate s 0 ++ ys)) ∧ Below wo.heap.size wo wr)) (fun _ i _ => 2 * k - (intOf i).toNat)
      case atStart => exact ⟨0, by omega, rfl, by rw [Nat.zero_add]; exact HO5.out, HB5.out⟩
      case round =>
        clear HO5 HB5
        obtain ⟨s, hs, rfl, HJ⟩ := hrel
        obtain ⟨Ay, cy, rfl, _, _⟩ := own_form HJ.out.1
        by_cases hst : s < 2 * k
        · have HF : Hid ((wr.alloc (.cells #[.int .u64 0] 42)).ownsRow wo.heap.size 42 1 (.slice (some ⟨wr.heap.size, 0, none⟩) 1 1) 1 (uls [0])) := own_fresh HJ.out.2.size
          have HRY : Hid (Row (wr.alloc (.cells #[.int .u64 0] 42)) wr.heap.size Ay (s + LY) (uls (List.replicate s 0 ++ ys))) := (Row.own HJ.out.1).below ((Below.refl _ _).alloc (Nat.le_refl _) _)
          have E2 : Hid (1 + (s + LY) ≤ maxLen) := by show 1 + (s + LY) ≤ maxLen; unfold maxLen; omega
          have E3 : Hid ((1 + (s + LY)) * 8 ≤ 140737488355328) := by show (1 + (s + LY)) * 8 ≤ 140737488355328; omega
          have E4 : Hid (wo.heap.size ≤ (wr.alloc (.cells #[.int .u64 0] 42)).heap.size) := by
            show _ ≤ _
            have := HJ.out.2.size
            simp
            omega
          go_wp2_with (at_builtin; refine wpList_append_reads rfl (.tmp 32) (.tmp 33) _ rfl wo.heap.size 42 (.int .u64 0) 8 Tryd.underlying62 u64_info rfl (.slice (some ⟨wr.heap.size, 0, none⟩) 1 1) 1 (uls [0]) rfl HF.out wr.heap.size Ay (s + LY) cy (uls (List.replicate s 0 ++ ys)) rfl HRY.out (uls_one _) E2.out E3.out E4.out ?_; intro v2 w2 ho2 hg2)
          rw [uls_append, show 1 + (s + LY) = s + 1 + LY by omega] at ho2
          have hb2 : Below wo.heap.size wo w2 := (HJ.out.2.alloc HJ.out.2.size _).grown hg2 E4.out (fun q hq => (HF.out.lt q hq).1)
          have HO2 := Lib.hid ho2
          have HB2 := Lib.hid hb2
          clear ho2 hg2 hb2
          go_wp2_with fail
          go_roundw
          case rel => exact ⟨s + 1, by omega, by go_num, HO2.out, HB2.out⟩
          case measure => simp [intOf]; omega
        · obtain rfl : s = 2 * k := by omega
          have HO := Lib.hid HJ.out.1
          have HB := Lib.hid HJ.out.2
          clear HJ hs hst
          go_wp2_with fail
          refine wp_loop_rounds 1 ?_
          rw [rounds_succ]
          go_wp2_with fail
          go_loopw [10] (fun y wr => ∃ s : Nat, 2 * k + LY + s ≤ N ∧ Hid (wr.ownsRow wo.heap.size 42 1 y (2 * k + LY + s) (uls (List.replicate (2 * k) 0 ++ ys ++ List.replicate s 0)) ∧ Below wo.heap.size wo wr)) (fun y _ => N - lenOf y)
          case atStart => exact ⟨0, by omega, by simpa using HO.out, HB.out⟩
          case round =>
            clear HO HB
            obtain ⟨s, hs, HJ⟩ := hrel
            obtain ⟨Az, cz, rfl, _, _⟩ := own_form HJ.out.1
            by_cases hst : 2 * k + LY + s < N
            · have HF := Lib.hid (HJ.out.1.alloc (.cells #[.int .u64 0] 42))
              have HB := Lib.hid HJ.out.2
              have HRF : Hid (Row (wr.alloc (.cells #[.int .u64 0] 42)) (wr.heap.size + 1) (some ⟨wr.heap.size, 0, none⟩) 1 (uls [0])) := Row.fresh wr 42 (0, 0) _
              have E2 : Hid (2 * k + LY + s + 1 ≤ maxLen) := by show 2 * k + LY + s + 1 ≤ maxLen; unfold maxLen; omega
              have E3 : Hid ((2 * k + LY + s + 1) * 8 ≤ 140737488355328) := by show (2 * k + LY + s + 1) * 8 ≤ 140737488355328; omega
              have E4 : Hid (wo.heap.size ≤ (wr.alloc (.cells #[.int .u64 0] 42)).heap.size) := by
                show _ ≤ _
                have := HB.out.size
                simp
                omega
              clear HJ
              go_wp2_with (at_builtin; refine wpList_append_reads rfl (.tmp 48) (.tmp 49) _ rfl wo.heap.size 42 (.int .u64 0) 8 Tryd.underlying62 u64_info rfl (.slice Az (2 * k + LY + s) cz) (2 * k + LY + s) (uls (List.replicate (2 * k) 0 ++ ys ++ List.replicate s 0)) rfl HF.out (wr.heap.size + 1) (some ⟨wr.heap.size, 0, none⟩) 1 1 _ rfl HRF.out (uls_one _) E2.out E3.out E4.out ?_; intro v2 w2 ho2 hg2)
              rw [uls_append, pad_more] at ho2
              have hb2 : Below wo.heap.size wo w2 := (HB.out.alloc HB.out.size _).grown hg2 E4.out (fun q hq => (HF.out.lt q hq).1)
              obtain ⟨A3, c3, rfl, _, _⟩ := own_form ho2
              have HO2 := Lib.hid ho2
              have HB2 := Lib.hid hb2
              clear ho2 hg2 hb2
              go_wp2_with fail
              go_roundw
              case rel => exact ⟨_, _, _, _, _, _, _, _, _, ⟨s + 1, by omega, HO2.out, HB2.out⟩, rfl⟩
              case measure => simp [lenOf]; omega
            · obtain ⟨wz, rfl⟩ : ∃ wz : World, wz = wr := ⟨_, rfl⟩
              have hN2 : 2 * k + LY + s = N := by omega
              obtain ⟨zs, hzs⟩ : ∃ zs, zs = List.replicate (2 * k) 0 ++ ys ++ List.replicate s 0 := ⟨_, rfl⟩
              have hrz := Row.own HJ.out.1
              rw [← hzs, hN2] at hrz
              have hvz := val_pad HY2.out k s
              have hzl := pad_all HY1.out k s
              rw [← hzs] at hvz hzl
              have hxl : xs.length = N := by have := HI2.out.1; rwa [uls_length] at this
              have hzn : zs.length = N := by have := hrz.1; rwa [uls_length] at this
              obtain ⟨bx, ox, rfl, hbx, hcx⟩ := row_u64 HI2.out (by omega)
              obtain ⟨bz, oz, rfl, hbz, hcz⟩ := row_u64 hrz (by omega)
              have HCX := Lib.hid hcx
              have HCZ := Lib.hid hcz
              have HBZ := Lib.hid HJ.out.2
              have HVZ := Lib.hid hvz
              have HZL := Lib.hid hzl
              have HXL := Lib.hid hxl
              have HZN := Lib.hid hzn
              rw [hN2]
              clear HJ hzs hrz hvz hzl hxl hzn hcx hcz HY1 HY2 HLY hs hst hN2 hly
              go_wp2_with fail
              go_loopw [12] (fun i wr => ∃ t : Nat, t ≤ N ∧ i = .int .i64 ((t : Int) - 1) ∧ Hid ((∀ j, t ≤ j → j < N → xs.getD j 0 = zs.getD j 0) ∧ Below wz.heap.size wz wr)) (fun i _ => (intOf i + 1).toNat)
              case atStart => exact ⟨N, Nat.le_refl _, rfl, fun j h1 h2 => by omega, Below.refl _ _⟩
              case round =>
                obtain ⟨t, ht, rfl, HK⟩ := hrel
                by_cases h0 : 0 < t
                · obtain ⟨q, rfl⟩ : ∃ q, t = q + 1 := ⟨t - 1, by omega⟩
                  have hqi : (((q + 1 : Nat) : Int) - 1) = (q : Int) := by omega
                  rw [hqi]
                  have fx : wr.cell? ⟨bx, ox + q, none⟩ = some (.int .u64 ((xs.getD q 0 : Nat) : Int)) := (cell_same (HK.out.2.block bx (Nat.lt_of_lt_of_le hbx HBZ.out.size)) _).trans ((cell_same (HBZ.out.block bx hbx) _).trans (HCX.out q (by omega)))
                  have fz : wr.cell? ⟨bz, oz + q, none⟩ = some (.int .u64 ((zs.getD q 0 : Nat) : Int)) := (cell_same (HK.out.2.block bz hbz) _).trans (HCZ.out q (by omega))
                  have HLESS := Lib.hid (val_less xs zs q (by rw [HXL.out, HZN.out]) (by rw [HXL.out]; omega) HI3.out HZL.out (fun j h1 h2 => HK.out.1 j h1 (by rw [← HXL.out]; exact h2)))
                  generalize hga : xs.getD q 0 = a at *
                  generalize hgb : zs.getD q 0 = b at *
                  by_cases hab : a = b
                  · subst hab
                    clear hqi
                    go_wp2_with fail
                    go_region
                    go_wp2_with fail
                    refine ⟨⟨q, by omega, rfl, fun j h1 h2 => ?_, HK.out.2.drew⟩, by simp [intOf] <;> omega⟩
                    rcases Nat.lt_or_eq_of_le h1 with h | h
                    · exact HK.out.1 j h h2
                    · rw [← h, hga, hgb]
                  · have hne : ((a : Int) != (b : Int)) = true := by simp; omega
                    have HAB := Lib.hid hab
                    clear hqi hab
                    go_wp2_with fail
                    go_region
                    go_wp2_with fail
                    go_region
                    go_wp2_with fail
                    go_ret
                    have hl := HLESS.out HAB.out
                    rw [HI4.out, HVZ.out] at hl
                    refine ⟨?_, (HI6.out.trans ((HBZ.out.trans (HK.out.2.mono HBZ.out.size)).mono HI6.out.size)).drew.drew⟩
                    rw [← hl]
                    simp
                · obtain rfl : t = 0 := by omega
                  go_wp2_with fail
                  go_ret
                  have hsame := val_same xs zs (by rw [HXL.out, HZN.out]) (fun j hj => HK.out.1 j (Nat.zero_le _) (by rw [← HXL.out]; exact hj))
                  have hv : m ^ k = n * 2 ^ (32 * k) := by rw [← HI4.out, hsame, HVZ.out]
                  refine ⟨?_, HI6.out.trans ((HBZ.out.trans (HK.out.2.mono HBZ.out.size)).mono HI6.out.size)⟩
                  rw [hv]
                  simp
end Go.Proofs.YtfhedljhkikdmaaDoor.Sha
