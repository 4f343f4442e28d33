/-
  Proved: what the functions halfByte, More and Sum of package crc, and Sum of package stillroomref1, return: the sums of the text CrcMath, in the world that they were called in.
  Conditions: the slice reads as bytes; the table crc.turned holds its sixteen words.
-/
import Derived.Test.YtjpgfdpgjfmnoaaDoorRows
import Derived.Test.YtjpgfdpgjfmnoaaDoorCrcMath
import Derived.Test.YtjpgfdpgjfmnoaaDoorMem
import Derived.WalkKit
import Derived.Lib.Hide
import Derived.Lib.LaidTab
import Derived.Laws.BitsAllLaws
namespace Go.Proofs.YtjpgfdpgjfmnoaaDoor.Crc
open Go.RowKit

/-- What the table of half bytes holds. -/
def Turned (w : World) : Prop := ∀ i, i < 16 → w.cell? ⟨0, i, none⟩ = some (.int .u32 (tab.getD i 0 : Nat))

theorem tab_lt (i : Nat) : tab.getD i 0 < 4294967296 := by
  by_cases h : i < 16
  · have : ∀ j, j < 16 → tab.getD j 0 < 4294967296 := by decide
    exact this i h
  · have : tab[i]? = none := List.getElem?_eq_none (by simp [tab]; omega)
    simp [List.getD, this]
theorem half_toNat (r : BitVec 32) : ((half r).toNat : Int) = bits .xor .u32 ((r.toNat : Int) / 16) (tab.getD (r.toNat % 16) 0 : Nat) := by
  have hr : r.toNat < 4294967296 := r.isLt
  have e : ((r.toNat : Int) / 16) = ((r.toNat / 16 : Nat) : Int) := by omega
  rw [e, u32_xor_nat _ _ (by omega) (tab_lt _)]
  unfold half
  rw [BitVec.toNat_xor, BitVec.toNat_ushiftRight, BitVec.toNat_ofNat, Nat.mod_eq_of_lt (tab_lt _), Nat.shiftRight_eq_div_pow]
theorem and15 (r : BitVec 32) : bits .and .u32 (r.toNat : Int) 15 = ((r.toNat % 16 : Nat) : Int) := by
  have hr : r.toNat < 4294967296 := r.isLt
  have := u32_and_nat r.toNat 15 hr (by decide)
  rw [show ((15 : Nat) : Int) = 15 from rfl] at this
  rw [this, show 15 = 2 ^ 4 - 1 from rfl, Nat.and_two_pow_sub_one_eq_mod]
theorem ret_int {k : IntKind} {a b : Int} (h : a = b) : Ending.returned (.int k a) = .returned (.int k b) := by rw [h]

theorem half_any (r : BitVec 32) (w : World) (hT : Turned w) :
    Calls Tryd.prog 38 #[.int .u32 (r.toNat : Int)] w fun e w' => e = .returned (.int .u32 ((half r).toNat : Int)) ∧ w = w' := by
  have hr : r.toNat < 4294967296 := r.isLt
  have hb := and15 r
  have h0 : (0 : Int) ≤ bits .and .u32 (r.toNat : Int) 15 := by omega
  have h1 : bits .and .u32 (r.toNat : Int) 15 < 16 := by omega
  have hcell : w.cell? ⟨0, (bits .and .u32 (r.toNat : Int) 15).toNat, none⟩ = some (.int .u32 (tab.getD (r.toNat % 16) 0 : Nat)) := by
    rw [hb]; exact hT _ (by omega)
  have HT := Lib.hid hT
  have HB := Lib.hid hb
  clear hT hb
  go_enter Tryd.func38, Tryd.ntmps38
  go_wp2
  go_ret
  exact ⟨ret_int (half_toNat r).symm, rfl⟩
theorem not_u32 (s : BitVec 32) : bits .xor .u32 IntKind.u32.max (s.toNat : Int) = ((~~~ s).toNat : Int) := by
  have hs : s.toNat < 4294967296 := s.isLt
  rw [show IntKind.u32.max = ((4294967295 : Nat) : Int) from rfl, u32_xor_nat _ _ (by decide) hs]
  congr 1
theorem xor_byte (r : BitVec 32) (c : UInt8) : bits .xor .u32 (r.toNat : Int) (c.toNat : Int) = ((r ^^^ byteOf c).toNat : Int) := by
  have hr : r.toNat < 4294967296 := r.isLt
  have hc := c.toNat_lt
  rw [u32_xor_nat _ _ hr (by omega), BitVec.toNat_xor, byteOf_toNat]
theorem int_u32 {a b : BitVec 32} (h : a = b) : Value.int .u32 (a.toNat : Int) = .int .u32 (b.toNat : Int) := by rw [h]

set_option maxHeartbeats 400000 in
theorem more_any (s : BitVec 32) (A : Option Addr) (n c : Nat) (bs : List UInt8) (w : World) (hT : Turned w) (hR : Row w w.heap.size A n (bvs bs)) (hn : n ≤ maxLen) :
    Calls Tryd.prog 35 #[.int .u32 (s.toNat : Int), .slice A n c] w fun e w' => e = .returned (.int .u32 ((more s bs).toNat : Int)) ∧ w = w' := by
  have hm : n ≤ 9223372036854775807 := by unfold maxLen at hn; exact hn
  have HT := Lib.hid hT
  have HL := Lib.hid hR.size
  have HB := Lib.hid (hR.byte)
  have HN := Lib.hid (not_u32 s)
  clear hT hR
  go_enter Tryd.func35, Tryd.ntmps35
  go_wp2
  go_loop [5, 12] (fun r i => ∃ k : Nat, ∃ R : BitVec 32, k ≤ n ∧ Hid (R = run (~~~ s) (bs.take k)) ∧ r = .int .u32 (R.toNat : Int) ∧ i = .int .i64 k) (fun _ i => n - (intOf i).toNat)
  case atStart => exact ⟨0, ~~~ s, Nat.zero_le _, rfl, by rw [HN.out], rfl⟩
  case round =>
    obtain ⟨k, R, hk, HR, rfl, rfl⟩ := hrel
    by_cases hlt : k < n
    · obtain ⟨b, o, rfl, _, hcs⟩ := HB.out (by omega)
      have hcell := hcs k hlt
      have HS := Lib.hid (getD_snoc bs k (by rw [HL.out]; exact hlt))
      obtain ⟨C, HC⟩ : ∃ C, Hid (C = bs.getD k 0) := ⟨_, rfl⟩
      rw [← HC.out] at hcell
      obtain ⟨X, HX⟩ : ∃ X, Hid (X = R ^^^ byteOf C) := ⟨_, rfl⟩
      have hx : bits .xor .u32 (R.toNat : Int) (C.toNat : Int) = (X.toNat : Int) := by rw [HX.out]; exact xor_byte R C
      have hC := C.toNat_lt
      clear hcs HB
      go_wp2_with (go_at_call 38; refine (half_any _ _ HT.out).mono ?_; rintro e w' ⟨rfl, rfl⟩)
      go_round
      case rel =>
        refine ⟨k + 1, half (half X), by omega, ?_, rfl, by go_num⟩
        show half (half X) = run (~~~ s) (bs.take (k + 1))
        rw [HS.out, run_snoc, ← HR.out, ← HC.out, HX.out]
        rfl
      case measure => simp [intOf]; omega
    · obtain rfl : k = n := by omega
      go_wp2
      go_ret
      refine ⟨ret_int ?_, rfl⟩
      rw [not_u32 R, HR.out, List.take_of_length_le (by rw [HL.out]; exact Nat.le_refl _)]
      rfl
theorem sum_any (A : Option Addr) (n c : Nat) (bs : List UInt8) (w : World) (hT : Turned w) (hR : Row w w.heap.size A n (bvs bs)) (hn : n ≤ maxLen) :
    Calls Tryd.prog 36 #[.slice A n c] w fun e w' => e = .returned (.int .u32 ((sum bs).toNat : Int)) ∧ w = w' := by
  go_enter Tryd.func36, Tryd.ntmps36
  go_wp2_with (go_at_call 35; refine (more_any 0#32 A n c bs w hT hR hn).mono ?_; rintro e w' ⟨rfl, rfl⟩)
  go_ret
  exact ⟨rfl, rfl⟩

/-- The same, for a region that draws its order. -/
theorem sum_quiet {A : Option Addr} {n c : Nat} {bs : List UInt8} {w : World} (hT : Turned w) (hR : Row w w.heap.size A n (bvs bs)) (hn : n ≤ maxLen) {S : BitVec 32} (hS : sum bs = S) (q : Nat) :
    Calls Tryd.prog 36 #[.slice A n c] (w.drewN q) fun e w' => e = .returned (.int .u32 (S.toNat : Int)) ∧ ∃ m, w' = w.drewN m :=
  (sum_any A n c bs (w.drewN q) hT hR hn).mono fun _ _ h => ⟨by rw [h.1, hS], q, h.2.symm⟩

/-! The sum by another road, bit by bit. -/
theorem bit1_odd {R : BitVec 32} (h : R.toNat % 2 = 1) : bits .xor .u32 ((R.toNat : Int) / 2) 2197175160 = ((bit1 R).toNat : Int) := by
  have hR : R.toNat < 4294967296 := R.isLt
  have h0 : R.getLsbD 0 = true := by rw [BitVec.getLsbD, Nat.testBit_zero]; simp [h]
  rw [show ((R.toNat : Int) / 2) = ((R.toNat / 2 : Nat) : Int) by omega, show (2197175160 : Int) = ((2197175160 : Nat) : Int) from rfl,
    u32_xor_nat _ _ (by omega) (by decide)]
  unfold bit1
  rw [h0, BitVec.toNat_xor, BitVec.toNat_ushiftRight, Nat.shiftRight_eq_div_pow]
  rfl
theorem bit1_not_odd {R : BitVec 32} (h : ¬ R.toNat % 2 = 1) : (R.toNat : Int) / 2 = ((bit1 R).toNat : Int) := by
  have h0 : R.getLsbD 0 = false := by rw [BitVec.getLsbD, Nat.testBit_zero]; simp [h]
  rw [bit1_even h0, BitVec.toNat_ushiftRight, Nat.shiftRight_eq_div_pow]
  omega
/-- The first k bits. -/
def bitN : Nat → BitVec 32 → BitVec 32
  | 0, r => r
  | k + 1, r => bit1 (bitN k r)
theorem bitN_eight (r : BitVec 32) : bitN 8 r = bit8 r := rfl

set_option maxHeartbeats 400000 in
theorem ref_sum (A : Option Addr) (n c : Nat) (bs : List UInt8) (w : World) (hR : Row w w.heap.size A n (bvs bs)) (hn : n ≤ maxLen) :
    Calls Tryd.prog 22 #[.slice A n c] w fun e w' => e = .returned (.int .u32 ((sum bs).toNat : Int)) ∧ w = w' := by
  have hm : n ≤ 9223372036854775807 := by unfold maxLen at hn; exact hn
  have HL := Lib.hid hR.size
  have HB := Lib.hid (hR.byte)
  clear hR
  go_enter Tryd.func22, Tryd.ntmps22
  go_wp2
  go_loop [3, 4] (fun r i => ∃ k : Nat, ∃ R : BitVec 32, k ≤ n ∧ Hid (R = run (~~~ 0#32) (bs.take k)) ∧ r = .int .u32 (R.toNat : Int) ∧ i = .int .i64 k) (fun _ i => n - (intOf i).toNat)
  case atStart => exact ⟨0, ~~~ 0#32, Nat.zero_le _, rfl, rfl, rfl⟩
  case round =>
    obtain ⟨k, R, hk, HR, rfl, rfl⟩ := hrel
    by_cases hlt : k < n
    · obtain ⟨b, o, rfl, _, hcs⟩ := HB.out (by omega)
      have hcell := hcs k hlt
      have HS := Lib.hid (getD_snoc bs k (by rw [HL.out]; exact hlt))
      obtain ⟨C, HC⟩ : ∃ C, Hid (C = bs.getD k 0) := ⟨_, rfl⟩
      rw [← HC.out] at hcell
      obtain ⟨X, HX⟩ : ∃ X, Hid (X = R ^^^ byteOf C) := ⟨_, rfl⟩
      have hx : bits .xor .u32 (R.toNat : Int) (C.toNat : Int) = (X.toNat : Int) := by rw [HX.out]; exact xor_byte R C
      have hC := C.toNat_lt
      clear hcs HB
      go_wp2
      clear hx
      go_loop [3, 5] (fun r i => ∃ j : Nat, ∃ Y : BitVec 32, j ≤ 8 ∧ Hid (Y = bitN j X) ∧ r = .int .u32 (Y.toNat : Int) ∧ i = .int .i64 j) (fun _ i => 8 - (intOf i).toNat)
      case atStart => exact ⟨0, X, Nat.zero_le _, rfl, rfl, rfl⟩
      case round =>
        obtain ⟨j, Y, hj, HY, rfl, rfl⟩ := hrel
        have hY : Y.toNat < 4294967296 := Y.isLt
        by_cases hj8 : j < 8
        · by_cases hodd : Y.toNat % 2 = 1
          · have HO := Lib.hid (bit1_odd hodd)
            have ht : (((Y.toNat : Int) % 2) == 1) = true := by simp; omega
            clear hodd
            go_wp2
            go_round
            case rel => exact ⟨j + 1, bit1 Y, by omega, by show bit1 Y = bitN (j + 1) X; rw [HY.out]; rfl, by rw [HO.out], by go_num⟩
            case measure => simp [intOf]; omega
          · have HO := Lib.hid (bit1_not_odd hodd)
            have ht : (((Y.toNat : Int) % 2) == 1) = false := by simp; omega
            clear hodd
            go_wp2
            go_round
            case rel => exact ⟨j + 1, bit1 Y, by omega, by show bit1 Y = bitN (j + 1) X; rw [HY.out]; rfl, by rw [HO.out], by go_num⟩
            case measure => simp [intOf]; omega
        · obtain rfl : j = 8 := by omega
          go_wp2
          go_round
          case rel =>
            refine ⟨k + 1, Y, by omega, ?_, rfl, by go_num⟩
            show Y = run (~~~ 0#32) (bs.take (k + 1))
            rw [HS.out, run_snoc, ← HR.out, ← HC.out, HY.out, bitN_eight, HX.out, step_bit8]
          case measure => simp [intOf]; omega
    · obtain rfl : k = n := by omega
      go_wp2
      go_ret
      refine ⟨ret_int ?_, rfl⟩
      rw [not_u32 R, HR.out, List.take_of_length_le (by rw [HL.out]; exact Nat.le_refl _)]
      rfl
end Go.Proofs.YtjpgfdpgjfmnoaaDoor.Crc
