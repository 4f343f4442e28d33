/-
  Proved: what Mac of package stillroomref1 returns: the tag.
  Conditions: the slices read as bytes, fewer than 2 to the 44th.
-/
import Derived.Test.YtllbdeniigakkaaDoorMacQuick
import Derived.Test.YtllbdeniigakkaaDoorOwn
import Derived.Deep.DeepCutAuto
namespace Go.Proofs.YtllbdeniigakkaaDoor.Sha
open Go.RowKit

theorem keyOf_long (k : List UInt8) (h : 64 < k.length) : keyOf k = digest k := if_pos h
theorem keyOf_short (k : List UInt8) (h : ¬ 64 < k.length) : keyOf k = k := if_neg h
theorem getD_noughts (n j : Nat) : (List.replicate n (0 : UInt8)).getD j 0 = 0 := by
  rw [List.getD_eq_getElem?_getD, List.getElem?_replicate]
  split <;> rfl
theorem pads_next {l : List UInt8} {k : Nat} (z : UInt8) {x : UInt8} {ks : List UInt8} (hl : l.length = 64) (hk : k < 64) (hx : x = (keyOf ks).getD k 0) (h : ∀ j, l.getD j 0 = if j < k then (keyOf ks).getD j 0 ^^^ z else 0) :
    ∀ j, (l.set k (x ^^^ z)).getD j 0 = if j < k + 1 then (keyOf ks).getD j 0 ^^^ z else 0 := by
  intro j
  rw [getD_put l k j _ (by omega), h j]
  by_cases hjk : j = k
  · subst hjk
    rw [if_pos rfl, if_pos (by omega), hx]
  · rw [if_neg hjk]
    by_cases hj : j < k
    · rw [if_pos hj, if_pos (by omega)]
    · rw [if_neg hj, if_neg (by omega)]
theorem pads_end {l : List UInt8} {z : UInt8} {ks : List UInt8} (hl : l.length = 64) (h : ∀ j, l.getD j 0 = if j < 64 then (keyOf ks).getD j 0 ^^^ z else 0) : l = keyPad ks z := by
  refine list_getD_ext (by rw [hl, keyPad_length]) fun j hj => ?_
  rw [h j, if_pos (by omega), keyPad, List.getD_eq_getElem?_getD (l := List.map _ _), List.getElem?_map, List.getElem?_range (by omega)]
  rfl
/-- A block known whole is the call's own row. -/
theorem own_blk {w : World} {base g : Nat} {t : TypeId} {l : List UInt8} {n : Nat} (h : Blk w g t (bvs l).toArray) (hb : base ≤ g) (hn : l.length = n) (hm : n ≤ maxLen) : w.ownsRow base t 1 (.slice (some ⟨g, 0, none⟩) n n) n (bvs l) :=
  ⟨by rw [bvs_length, hn, Nat.mul_one], .inr ⟨g, n, (bvs l).toArray, rfl, hb, h, Nat.le_refl _, hm, by rw [List.size_toArray, bvs_length, hn, Nat.mul_one], by
    show (bvs l).take (n * 1) = bvs l
    rw [Nat.mul_one]
    exact List.take_of_length_le (by rw [bvs_length, hn]; exact Nat.le_refl _)⟩⟩
theorem make64 (w : World) : (Instr.makeSlice 22 (.int .i64 64) (.int .i64 64)).run Tryd.prog w = .ok (.slice (some ⟨w.heap.size, 0, none⟩) 64 64) (w.alloc (.cells zeroBlock 5)) := by
  have h := Go.run_make_row' (P := Tryd.prog) 22 5 (.int .u8 0) 1 Tryd.underlying22 (by kernel_rfl) rfl .i64 .i64 64 (by omega) (by omega) w
  rwa [show madeCells #[Value.int .u8 0] 64 = zeroBlock by kernel_rfl] at h

set_option maxHeartbeats 1000000 in
theorem refmac_any (A : Option Addr) (n c : Nat) (ks : List UInt8) (B : Option Addr) (m d : Nat) (bs : List UInt8) (w : World)
    (hA : Row w w.heap.size A n (bvs ks)) (hn : n ≤ c) (hc : c ≤ maxLen) (hl : n < 17592186044416) (hB : Row w w.heap.size B m (bvs bs)) (hk : m < 17592186044416) :
    Calls Tryd.prog 9 #[.slice A n c, .slice B m d] w fun e w' => e = .returned (.agg (bvs (hmac ks bs)).toArray) ∧ Below w.heap.size w w' := by
  have hzero' := zero_sum
  obtain ⟨res, hres⟩ : ∃ res, res = (bvs (hmac ks bs)).toArray := ⟨_, rfl⟩
  have hr32 : res.size = 32 := by rw [hres, bvs_toArray_size, hmac_length]
  have hr1 : res.all (·.oneCell') = true := by rw [hres]; exact bvs_all' _
  rw [← hres]
  have HRES := Lib.hid hres
  have HR32 := Lib.hid hr32
  have HR1 := Lib.hid hr1
  have HA := Lib.hid hA
  have HB := Lib.hid hB
  have HC := Lib.hid hc
  have hnc : n ≤ 9223372036854775807 := by omega
  clear hA hB hc hres hr32 hr1
  go_enter Tryd.func9, Tryd.ntmps9
  go_upto_if 13 with fail
  obtain ⟨w1, hw1⟩ : ∃ w1, w1 = w.alloc (.cells zeroSum 25) := ⟨_, rfl⟩
  have F1 : Hid (Blk w1 w.heap.size 25 zeroSum) := by rw [hw1]; exact heap_alloc_new _ _
  have F2 : Hid (Below w.heap.size w w1) := by rw [hw1]; exact (Below.refl _ _).alloc (Nat.le_refl _) _
  have hz1 : w.heap.size < w1.heap.size := by rw [hw1]; simp
  rw [← hw1]
  clear hw1
  go_cut [0] (fun v wr => ∃ (A' : Option Addr) (n' c' : Nat), v = .slice A' n' c' ∧ n' ≤ c' ∧ n' ≤ 64 ∧ Hid (Row wr wr.heap.size A' n' (bvs (keyOf ks)) ∧ Below w.heap.size w wr ∧ Blk wr w.heap.size 25 zeroSum))
  case first =>
    by_cases hlong : 64 < n
    · go_wp2_with fail
      refine (quick_any A n c ks w1 ((HA.out.below F2.out).more (by omega)) (by omega)).mono ?_
      rintro e w2 ⟨rfl, hb2⟩
      obtain ⟨kd, hkd⟩ : ∃ kd, kd = (bvs (digest ks)).toArray := ⟨_, rfl⟩
      have hk32 : kd.size = 32 := by rw [hkd, bvs_toArray_size, digest_length]
      have hk1 : kd.all (·.oneCell') = true := by rw [hkd]; exact bvs_all' _
      rw [← hkd]
      have HKD := Lib.hid hkd
      have HK32 := Lib.hid hk32
      have HK1 := Lib.hid hk1
      have F3 := Lib.hid (F2.out.trans (hb2.mono (by omega)))
      have F4 := Lib.hid ((hb2.block _ hz1).trans F1.out)
      have hz2 := hb2.size
      clear hkd hk32 hk1 hb2
      go_wp2_with (refine wpList_store_blk rfl 25 (.tmp 5) (.tmp 15) rfl w2.heap.size kd rfl rfl 25 zeroSum (heap_alloc_new _ _) (by rw [HK32.out]; kernel_rfl) (by rw [HK32.out]; rfl) HK1.out ?_; intro w3 G1 G2)
      go_meet
      case rel =>
        refine ⟨_, _, _, rfl, by omega, by omega, ?_, below_only (F3.out.alloc (by omega) _) (only_hid G2) (by omega) (by simp; omega), (G2.out.block _ (by simp; omega) (by intro e; injection e; omega)).trans ((Below.heap_alloc w2 _ _ (by omega)).trans F4.out)⟩
        have := G1.out
        rw [HKD.out] at this
        rw [keyOf_long ks (by rw [HA.out.size]; exact hlong)]
        exact blk_row this (digest_length _)
    · go_wp2_with fail
      go_meet
      case rel =>
        refine ⟨A, n, c, rfl, hn, by omega, ?_, F2.out, F1.out⟩
        rw [keyOf_short ks (by rw [HA.out.size]; exact hlong)]
        exact (HA.out.below F2.out).more (by omega)
  case rest =>
    obtain ⟨A', n', c', rfl, hn', h64, HI⟩ := hcut
    obtain ⟨wp, rfl⟩ : ∃ wp, wp = wc := ⟨_, rfl⟩
    have hmk := make64
    have hzc := HI.out.2.1.size
    go_upto_region 4 with fail
    go_cut [6, 7] (fun u v wr => ∃ g1 g2 : Nat, u = .slice (some ⟨g1, 0, none⟩) 64 64 ∧ v = .slice (some ⟨g2, 0, none⟩) 64 64 ∧ g1 ≠ g2 ∧ wp.heap.size ≤ g1 ∧ wp.heap.size ≤ g2 ∧ Hid (Blk wr g1 5 zeroBlock ∧ Blk wr g2 5 zeroBlock ∧ Below wp.heap.size wp wr))
    case first =>
      go_region
      · have h := two_news wp zeroBlock zeroBlock 5 5
        generalize (wp.alloc (Obj.cells zeroBlock 5)).alloc (Obj.cells zeroBlock 5) = wn at *
        go_wp2_with fail
        go_meet
        case rel => exact ⟨wp.heap.size, wp.heap.size + 1, rfl, rfl, by omega, by omega, by omega, h.1, h.2.1, h.2.2.1.drew⟩
      · have h := two_news wp zeroBlock zeroBlock 5 5
        generalize (wp.alloc (Obj.cells zeroBlock 5)).alloc (Obj.cells zeroBlock 5) = wn at *
        go_wp2_with fail
        go_meet
        case rel => exact ⟨wp.heap.size + 1, wp.heap.size, rfl, rfl, by omega, by omega, by omega, h.2.1, h.1, h.2.2.1.drew⟩
    case rest =>
      obtain ⟨g1, g2, rfl, rfl, hne, hg1, hg2, HG⟩ := hcut
      clear hmk
      have hzd := HG.out.2.2.size
      go_wp2_with fail
      go_loopw [8] (fun i wr => ∃ k : Nat, k ≤ 64 ∧ i = .int .i64 k ∧ Hid (∃ l1 l2 : List UInt8, l1.length = 64 ∧ l2.length = 64 ∧ Blk wr g1 5 (bvs l1).toArray ∧ Blk wr g2 5 (bvs l2).toArray ∧
        (∀ j, l1.getD j 0 = if j < k then (keyOf ks).getD j 0 ^^^ 54 else 0) ∧ (∀ j, l2.getD j 0 = if j < k then (keyOf ks).getD j 0 ^^^ 92 else 0) ∧ Below wp.heap.size wp wr)) (fun i _ => 64 - (intOf i).toNat)
      case atStart =>
        refine ⟨0, by omega, rfl, List.replicate 64 0, List.replicate 64 0, by simp, by simp, HG.out.1, HG.out.2.1, fun j => ?_, fun j => ?_, HG.out.2.2⟩
        · rw [if_neg (by omega)]; exact getD_noughts 64 j
        · rw [if_neg (by omega)]; exact getD_noughts 64 j
      case round =>
        obtain ⟨k, hk64, rfl, HJ⟩ := hrel
        by_cases hlt : k < 64
        · obtain ⟨x, hx⟩ : ∃ x, x = (keyOf ks).getD k 0 := ⟨_, rfl⟩
          have HX := Lib.hid hx
          go_upto_if 26 with fail
          obtain ⟨wo, rfl⟩ : ∃ wo, wo = wr := ⟨_, rfl⟩
          go_cut [9] (fun v wr => v = .int .u8 (x.toNat : Int) ∧ wr = wo)
          case first =>
            by_cases hkn : k < n'
            · obtain ⟨l1, l2, _, _, _, _, _, _, hbw⟩ := HJ.out
              obtain ⟨b, o, rfl, _, hcell⟩ := (HI.out.1.below hbw).byte (by omega)
              have hck := hcell k hkn
              rw [← HX.out] at hck
              clear hcell hbw hx
              go_wp2_with fail
              go_meet
              case rel => exact ⟨rfl, rfl⟩
            · have hx0 : x = 0 := by
                rw [hx, List.getD_eq_getElem?_getD, List.getElem?_eq_none (by rw [HI.out.1.size]; omega)]
                rfl
              clear hx
              go_wp2_with fail
              go_meet
              case rel => exact ⟨by rw [hx0]; rfl, rfl⟩
          case rest =>
            obtain ⟨rfl, rfl⟩ := hcut
            obtain ⟨l1, l2, j1, j2, j3, j4, j5, j6, j7⟩ := HJ.out
            have J1 := Lib.hid j1
            have J2 := Lib.hid j2
            have J3 := Lib.hid j3
            have J4 := Lib.hid j4
            have J5 := Lib.hid j5
            have J6 := Lib.hid j6
            have J7 := Lib.hid j7
            have GX1 : Hid (bits .xor .u8 (x.toNat : Int) 54 = ((x ^^^ 54).toNat : Int)) := u8_xor_bv x 54
            have GX2 : Hid (bits .xor .u8 (x.toNat : Int) 92 = ((x ^^^ 92).toNat : Int)) := u8_xor_bv x 92
            have f1 := blk_byte j3 k (by omega)
            have f2 := blk_byte j4 k (by omega)
            have f3 : wc.frozen? ⟨g1, k, none⟩ = false := j3.free k
            have f4 : wc.frozen? ⟨g2, k, none⟩ = false := j4.free k
            generalize (l1.getD k 0) = y1 at f1
            generalize (l2.getD k 0) = y2 at f2
            have hxl := x.toNat_lt
            clear hx HJ j1 j2 j3 j4 j5 j6 j7
            go_wp2_with fail
            go_roundw
            case rel =>
              have hx' := HX.out
              refine ⟨k + 1, by omega, by go_num, l1.set k (x ^^^ 54), l2.set k (x ^^^ 92), by rw [List.length_set]; exact J1.out, by rw [List.length_set]; exact J2.out, ?_, ?_, pads_next _ J1.out hlt hx' J5.out, pads_next _ J2.out hlt hx' J6.out, (J7.out.setCell hg1 _).setCell hg2 _⟩
              · rw [GX1.out, ← bvs_put]
                exact (Below.heap_setCell _ _ _ _ (by show g1 ≠ g2; exact hne)).trans (J3.out.put k _)
              · rw [GX2.out, ← bvs_put]
                exact Blk.put ((Below.heap_setCell wc ⟨g1, k, none⟩ _ g2 (by show g2 ≠ g1; omega)).trans J4.out) k _
            case measure => simp [intOf]; omega
        · obtain rfl : k = 64 := by omega
          obtain ⟨l1, l2, j1, j2, j3, j4, j5, j6, j7⟩ := HJ.out
          obtain rfl := pads_end j1 j5
          obtain rfl := pads_end j2 j6
          have hg1w : g1 < wr.heap.size := blk_lt j3
          have hg2w : g2 < wr.heap.size := blk_lt j4
          have hzr := j7.size
          have O1 : Hid (wr.ownsRow wp.heap.size 5 1 (.slice (some ⟨g1, 0, none⟩) 64 64) 64 (bvs (keyPad ks 54))) := own_blk j3 hg1 j1 (by unfold maxLen; omega)
          have BW : Hid (Below w.heap.size w wr) := HI.out.2.1.trans (j7.mono hzc)
          have ZS : Hid (Blk wr w.heap.size 25 zeroSum) := (j7.block _ (blk_lt HI.out.2.2)).trans HI.out.2.2
          have J4 := Lib.hid j4
          have J7 := Lib.hid j7
          have RB : Hid (Row wr w.heap.size B m (bvs bs)) := HB.out.below BW.out
          have N1 : Hid (64 + m ≤ maxLen) := by show 64 + m ≤ maxLen; unfold maxLen; omega
          have N2 : Hid ((64 + m) * 1 ≤ 140737488355328) := by show (64 + m) * 1 ≤ 140737488355328; omega
          have hzw : w.heap.size < wp.heap.size := blk_lt HI.out.2.2
          have HZW := Lib.hid hzw
          clear HJ HG HI HA HB HC j1 j2 j3 j4 j5 j6 j7 hzw
          go_wp2_with (at_builtin; refine wpList_append_reads rfl (.tmp 41) (.tmp 42) _ rfl wp.heap.size 5 (.int .u8 0) 1 Tryd.underlying22 u8_info' rfl (.slice (some ⟨g1, 0, none⟩) 64 64) 64 (bvs (keyPad ks 54)) rfl O1.out w.heap.size B m d (bvs bs) rfl RB.out (bvs_one _) N1.out N2.out hzr ?_; intro v5 w5 ho5 hg5)
          obtain ⟨A5, c5, rfl, _, _⟩ := own_form ho5
          rw [bvs_append] at ho5
          have hz5 := hg5.size
          have hzw := HZW.out
          have hg5' : wr.grownBy w5 (some g1) := hg5
          have BW5 : Hid (Below w.heap.size w w5) := own_below O1.out BW.out (Nat.le_of_lt HZW.out) hzr hg5
          have B5 : Hid (Below wp.heap.size wp w5) := own_below O1.out J7.out (Nat.le_refl _) hzr hg5
          have ZS5 : Hid (Blk w5 w.heap.size 25 zeroSum) := (hg5'.block _ (by omega) (by intro e; injection e; omega)).trans ZS.out
          have K5 : Hid (Blk w5 g2 5 (bvs (keyPad ks 92)).toArray) := (hg5'.block _ hg2w (by intro e; injection e; omega)).trans J4.out
          obtain ⟨dg, hdg⟩ : ∃ dg, dg = digest (keyPad ks 54 ++ bs) := ⟨_, rfl⟩
          have hdl : dg.length = 32 := by rw [hdg, digest_length]
          obtain ⟨kd, hkd⟩ : ∃ kd, kd = (bvs dg).toArray := ⟨_, rfl⟩
          have hk32 : kd.size = 32 := by rw [hkd, bvs_toArray_size, hdl]
          have hk1 : kd.all (·.oneCell') = true := by rw [hkd]; exact bvs_all' _
          have hq := quick_any A5 (64 + m) c5 (keyPad ks 54 ++ bs) w5 (Row.own ho5) (by omega)
          rw [← hdg, ← hkd] at hq
          have hres : digest (keyPad ks 92 ++ dg) = hmac ks bs := by rw [hdg]; rfl
          have HKD := Lib.hid hkd
          have HK32 := Lib.hid hk32
          have HK1 := Lib.hid hk1
          have HDL := Lib.hid hdl
          have HQ2 := Lib.hid hres
          clear hkd hk32 hk1 hdg hdl ho5 hg5 hg5' O1 BW ZS J4 J7 RB N1 N2 hres
          with_reducible refine hq.mono ?_
          rintro e w6 ⟨rfl, hb6⟩
          have hz6 := hb6.size
          have BW6 := Lib.hid (BW5.out.trans (hb6.mono (by omega)))
          have ZS6 := Lib.hid ((hb6.block _ (by omega)).trans ZS5.out)
          have K6 := Lib.hid ((hb6.block _ (by omega)).trans K5.out)
          clear hq hb6 BW5 ZS5 K5 B5
          clear hzw
          go_wp2_with (first
            | (refine wpList_store_blk rfl 25 (.tmp 10) (.tmp 44) rfl w6.heap.size kd rfl rfl 25 zeroSum (heap_alloc_new _ _) (by rw [HK32.out]; kernel_rfl) (by rw [HK32.out]; rfl) HK1.out ?_
               intro w7 G1 G2
               have hz7 : w6.heap.size + 1 ≤ w7.heap.size := by have := (only_hid G2).size; simpa using this
               have BW7 : Hid (Below w.heap.size w w7) := below_only (BW6.out.alloc (by have := HZW.out; omega) _) (only_hid G2) (by have := HZW.out; omega) (by have := HZW.out; simp; omega)
               have ZS7 : Hid (Blk w7 w.heap.size 25 zeroSum) := (G2.out.block _ (by have := HZW.out; simp; omega) (by have := HZW.out; intro e; injection e; omega)).trans ((Below.heap_alloc w6 _ _ (by have := HZW.out; omega)).trans ZS6.out)
               have O2 : Hid (w7.ownsRow wp.heap.size 5 1 (.slice (some ⟨g2, 0, none⟩) 64 64) 64 (bvs (keyPad ks 92))) := own_blk ((G2.out.block g2 (by simp; omega) (by intro e; injection e; omega)).trans ((Below.heap_alloc w6 _ _ (by omega)).trans K6.out)) hg2 (keyPad_length _ _) (by unfold maxLen; omega)
               have R2 : Hid (Row w7 w7.heap.size (some ⟨w6.heap.size, 0, none⟩) 32 (bvs dg)) := blk_row (by have := G1.out; rw [HKD.out] at this; exact this) HDL.out
               have N1 : Hid (64 + 32 ≤ maxLen) := by show 64 + 32 ≤ maxLen; unfold maxLen; omega
               have N2 : Hid ((64 + 32) * 1 ≤ 140737488355328) := by show (64 + 32) * 1 ≤ 140737488355328; omega
               have N3 : Hid (wp.heap.size ≤ w7.heap.size) := by show _ ≤ _; omega)
            | (at_builtin; refine wpList_append_reads rfl (.tmp 45) (.tmp 46) _ rfl wp.heap.size 5 (.int .u8 0) 1 Tryd.underlying22 u8_info' rfl (.slice (some ⟨g2, 0, none⟩) 64 64) 64 (bvs (keyPad ks 92)) rfl O2.out w7.heap.size (some ⟨w6.heap.size, 0, none⟩) 32 32 (bvs dg) rfl R2.out (bvs_one _) N1.out N2.out N3.out ?_; intro v8 w8 ho8 hg8))
          obtain ⟨A8, c8, rfl, _, _⟩ := own_form ho8
          rw [bvs_append] at ho8
          have hz8 := hg8.size
          have hzw := HZW.out
          have hg8' : w7.grownBy w8 (some g2) := hg8
          have BW8 : Hid (Below w.heap.size w w8) := own_below O2.out BW7.out (Nat.le_of_lt hzw) N3.out hg8
          have ZS8 : Hid (Blk w8 w.heap.size 25 zeroSum) := (hg8'.block _ (by omega) (by intro e; injection e; omega)).trans ZS7.out
          have hq := quick_any A8 (64 + 32) c8 (keyPad ks 92 ++ dg) w8 (Row.own ho8) (by omega)
          rw [HQ2.out, ← HRES.out] at hq
          clear ho8 hg8 hg8' hzw
          with_reducible refine hq.mono ?_
          rintro e w9 ⟨rfl, hb9⟩
          have BW9 : Hid (Below w.heap.size w w9) := BW8.out.trans (hb9.mono BW8.out.size)
          have ZS9 : Hid (Blk w9 w.heap.size 25 zeroSum) := (hb9.block _ (blk_lt ZS8.out)).trans ZS8.out
          clear hb9 hq
          go_wp2_with (refine wpList_store_blk rfl 25 (.tmp 4) (.tmp 48) rfl w.heap.size res rfl rfl 25 zeroSum ZS9.out (by rw [HR32.out]; kernel_rfl) (by rw [HR32.out]; rfl) HR1.out ?_; intro w10 G5 G6)
          refine bodyPost_ret (v := .agg res) (results_cell_row rfl _ _ w.heap.size 25 _ (0, 0) _ rfl G5.out Tryd.underlying25 rfl (by rw [HR32.out]; kernel_rfl)) rfl ?_
          exact ⟨rfl, below_only BW9.out (only_hid G6) (Nat.le_refl _) BW9.out.size⟩
end Go.Proofs.YtllbdeniigakkaaDoor.Sha
