/-
  Proved: the walk of CrcThree of package stillroomlaw1: it returns true and changes nothing that was there.
  Conditions: the slices read as bytes; the table crc.turned holds its sixteen words.
-/
import Derived.Test.YtflikfgcbhfcbaaDoorCrcBase
import Derived.RegionTactic
import Derived.BigRegion
import Derived.Deep.QuietTactic
import Derived.BigQuiet
import Derived.Lib.MinMax
import Derived.Deep.OwnRows
import Derived.StillTailTactics
namespace Go.Proofs.YtflikfgcbhfcbaaDoor.Crc
open Go.RowKit

set_option maxHeartbeats 400000 in
theorem crcThree_walk (A : Option Addr) (n c : Nat) (es : List UInt8) (B : Option Addr) (m d : Nat) (bs : List UInt8) (C : Option Addr) (k f : Nat) (cs : List UInt8) (w : World) (hT : Turned w)
    (hA : Row w w.heap.size A n (bvs es)) (hn : n ≤ c) (hc : c ≤ maxLen) (hB : Row w w.heap.size B m (bvs bs)) (hm : m ≤ d) (hd : d ≤ maxLen) (hC : Row w w.heap.size C k (bvs cs)) (hk : k ≤ f) (hf : f ≤ maxLen) :
    Calls Tryd.prog 6 #[.slice A n c, .slice B m d, .slice C k f] w fun e w' => e = .returned (.bool true) ∧ Below w.heap.size w w' := by
  go_enter Tryd.func6, Tryd.ntmps6
  go_wp2_with fail
  refine (begun_any w hT).mono ?_
  rintro e w1 ⟨rfl, hb1⟩
  go_wp2_with fail
  refine (short_any A n c 100 w1 hn hc).mono ?_
  rintro e w2 ⟨rfl, rfl⟩
  go_wp2_with fail
  refine (short_any B m d 100 w1 hm hd).mono ?_
  rintro e w2 ⟨rfl, rfl⟩
  go_wp2_with fail
  refine (short_any C k f 100 w1 hk hf).mono ?_
  rintro e w2 ⟨rfl, rfl⟩
  have HT := Lib.hid (hT.below hb1)
  have HA := Lib.hid (short_row (m := 100) hb1 hA)
  have HB := Lib.hid (short_row (m := 100) hb1 hB)
  have HC := Lib.hid (short_row (m := 100) hb1 hC)
  have hN : min n 100 ≤ 100 := Nat.min_le_right _ _
  have hM : min m 100 ≤ 100 := Nat.min_le_right _ _
  have hK : min k 100 ≤ 100 := Nat.min_le_right _ _
  have hNc : min n 100 ≤ c := by omega
  have hMd : min m 100 ≤ d := by omega
  have hKf : min k 100 ≤ f := by omega
  generalize min n 100 = N at *
  generalize min m 100 = M at *
  generalize min k 100 = K at *
  generalize es.take 100 = xs at *
  generalize bs.take 100 = ys at *
  generalize cs.take 100 = zs at *
  have HW := Lib.hid hb1
  clear hT hA hn hc hB hm hd hC hk hf hb1
  obtain ⟨X, hX⟩ : ∃ X : Nat, min (N : Int) (min (M : Int) (K : Int)) = (X : Int) := ⟨min N (min M K), by omega⟩
  have hXN : X ≤ N := by omega
  have hXM : X ≤ M := by omega
  have hXK : X ≤ K := by omega
  have hmk := Go.run_make_row' (P := Tryd.prog) 22 5 (.int .u8 0) 1 Tryd.underlying22 byte_info rfl .i64 .i64 X (by omega) (by omega)
  go_wp2_with fail
  clear hmk hX
  go_loopw [10] (fun i wr => ∃ k' : Nat, ∃ arr : Array Value, k' ≤ X ∧ i = .int .i64 k' ∧ Hid (Blk wr w1.heap.size 5 arr ∧ arr.size = X ∧ (∀ j, j < k' → arr[j]? = some (bv (xs.getD j 0 ^^^ ys.getD j 0 ^^^ zs.getD j 0))) ∧ Below w1.heap.size w1 wr)) (fun i _ => X - (intOf i).toNat)
  case atStart => exact ⟨0, _, Nat.zero_le _, rfl, Blk.new _ _ _, size_madeCells _ _, fun j hj => absurd hj (by omega), (Below.refl _ _).alloc (Nat.le_refl _) _⟩
  case round =>
    obtain ⟨k, arr, hkX, rfl, HI⟩ := hrel
    by_cases hlt : k < X
    · obtain ⟨b1, o1, rfl, _, q1⟩ := HA.out.byte (by omega)
      obtain ⟨b2, o2, rfl, _, q2⟩ := HB.out.byte (by omega)
      obtain ⟨b3, o3, rfl, _, q3⟩ := HC.out.byte (by omega)
      have hbl := HI.out.2.2.2
      have f1 : wr.cell? ⟨b1, o1 + k, none⟩ = some (.int .u8 ((xs.getD k 0).toNat : Int)) := (hbl.cell (by assumption)).trans (q1 k (by omega))
      have f2 : wr.cell? ⟨b2, o2 + k, none⟩ = some (.int .u8 ((ys.getD k 0).toNat : Int)) := (hbl.cell (by assumption)).trans (q2 k (by omega))
      have f3 : wr.cell? ⟨b3, o3 + k, none⟩ = some (.int .u8 ((zs.getD k 0).toNat : Int)) := (hbl.cell (by assumption)).trans (q3 k (by omega))
      have hsz : k < arr.size := by rw [HI.out.2.1]; exact hlt
      have f4 : wr.cell? ⟨w1.heap.size, k, none⟩ = some arr[k] := by rw [HI.out.1.cell, Array.getElem?_eq_getElem hsz]
      have f5 : wr.frozen? ⟨w1.heap.size, k, none⟩ = false := HI.out.1.free k
      obtain ⟨x, HX⟩ : ∃ x, Hid (x = xs.getD k 0) := ⟨_, rfl⟩
      obtain ⟨y, HY⟩ : ∃ y, Hid (y = ys.getD k 0) := ⟨_, rfl⟩
      obtain ⟨z, HZ⟩ : ∃ z, Hid (z = zs.getD k 0) := ⟨_, rfl⟩
      rw [← HX.out] at f1
      rw [← HY.out] at f2
      rw [← HZ.out] at f3
      obtain ⟨u, HU⟩ : ∃ u, Hid (u = x ^^^ y) := ⟨_, rfl⟩
      obtain ⟨v, HV⟩ : ∃ v, Hid (v = u ^^^ z) := ⟨_, rfl⟩
      have g1 : bits .xor .u8 (x.toNat : Int) (y.toNat : Int) = (u.toNat : Int) := by rw [HU.out, u8_xor_nat _ _ x.toNat_lt y.toNat_lt, UInt8.toNat_xor]
      have g2 : bits .xor .u8 (u.toNat : Int) (z.toNat : Int) = (v.toNat : Int) := by rw [HV.out, u8_xor_nat _ _ u.toNat_lt z.toNat_lt, UInt8.toNat_xor]
      have hsz' := Lib.hid hsz
      clear hbl q1 q2 q3
      go_wp2_with fail
      go_region
      go_wp2_with fail
      go_roundw
      case rel =>
        refine ⟨k + 1, arr.setIfInBounds k (bv v), by omega, by go_num, ?_⟩
        obtain ⟨i1, i2, i3, i4⟩ := HI.out
        refine ⟨i1.put k _, by simp [i2], fun j hj => ?_, i4.drew.setCell (Nat.le_refl _) _⟩
        by_cases hjk : j = k
        · subst hjk
          rw [Array.getElem?_setIfInBounds_self_of_lt hsz'.out, HV.out, HU.out, HX.out, HY.out, HZ.out]
        · rw [Array.getElem?_setIfInBounds_ne (by omega)]
          exact i3 j (by omega)
      case measure => simp [intOf]; omega
    · obtain rfl : k = X := by omega
      obtain ⟨i1, i2, i3, i4⟩ := HI.out
      obtain ⟨ds, hds⟩ : ∃ ds : List UInt8, ds = (List.range k).map fun j => xs.getD j 0 ^^^ ys.getD j 0 ^^^ zs.getD j 0 := ⟨_, rfl⟩
      have hdl : ds.length = k := by rw [hds]; simp
      have hda : arr.toList = bvs ds := by
        apply List.ext_getElem?
        intro j
        rw [Array.getElem?_toList]
        by_cases hj : j < k
        · rw [i3 j hj, hds, bvs, List.map_map, List.getElem?_map, List.getElem?_range hj]
          rfl
        · rw [Array.getElem?_eq_none (by omega), List.getElem?_eq_none (by rw [bvs_length]; omega)]
      have hdr := i1.row
      rw [i2, hda] at hdr
      have hT' := HT.out.below i4
      have ha := ((HA.out.below i4).more i4.size).take hXN
      have hb := ((HB.out.below i4).more i4.size).take hXM
      have hc := ((HC.out.below i4).more i4.size).take hXK
      rw [bvs_take] at ha hb hc
      have hkm : k ≤ maxLen := Nat.le_trans (Nat.le_trans hXN hN) (by decide)
      have hs := sum_xor3 (xs.take k) (ys.take k) (zs.take k) ds (by rw [hdl]; exact ha.size) (by rw [hdl]; exact hb.size) (by rw [hdl]; exact hc.size) (fun i hi => by
        rw [hds, List.getD_eq_getElem?_getD, List.getElem?_map, List.getElem?_range (by omega)]
        simp [List.getD_eq_getElem?_getD, show i < k by omega])
      have c0 := sum_quiet (A := some ⟨w1.heap.size, 0, none⟩) (n := k) (c := k) hT' hdr hkm hs
      have c1 := sum_quiet (c := c) hT' ha hkm rfl
      have c2 := sum_quiet (c := d) hT' hb hkm rfl
      have c3 := sum_quiet (c := f) hT' hc hkm rfl
      clear hs hds
      generalize sum (xs.take k) = S1 at *
      generalize sum (ys.take k) = S2 at *
      generalize sum (zs.take k) = S3 at *
      have g1 : bits .xor .u32 (S1.toNat : Int) (S2.toNat : Int) = ((S1 ^^^ S2).toNat : Int) := by rw [u32_xor_nat _ _ S1.isLt S2.isLt, BitVec.toNat_xor]
      generalize S1 ^^^ S2 = T at *
      have g2 : bits .xor .u32 (T.toNat : Int) (S3.toNat : Int) = ((T ^^^ S3).toNat : Int) := by rw [u32_xor_nat _ _ T.isLt S3.isLt, BitVec.toNat_xor]
      generalize T ^^^ S3 = R at *
      have C0 := Lib.hid c0
      have C1 := Lib.hid c1
      have C2 := Lib.hid c2
      have C3 := Lib.hid c3
      have HE := Lib.hid (HW.out.trans (i4.mono HW.out.size))
      have hkc : k ≤ c := by omega
      have hkd : k ≤ d := by omega
      have hkf : k ≤ f := by omega
      clear c0 c1 c2 c3 ha hb hc hdr hda hdl i1 i2 i3 i4 HI hT' HT HA HB HC
      go_wp2_with fail
      go_quiet ((first | (go_at_call 9; with_reducible exact C0.out _) | (go_at_call 9; with_reducible exact C1.out _) | (go_at_call 9; with_reducible exact C2.out _) | (go_at_call 9; with_reducible exact C3.out _)))
      go_wp2_with fail
      go_ret
      exact ⟨rfl, HE.out.os, HE.out.tape, HE.out.output, HE.out.size, HE.out.block⟩
end Go.Proofs.YtflikfgcbhfcbaaDoor.Crc
