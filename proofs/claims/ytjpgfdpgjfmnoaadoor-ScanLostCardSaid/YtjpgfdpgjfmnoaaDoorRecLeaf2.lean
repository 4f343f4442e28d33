/-
  Proved: what Get of package num and of package stillroomref1 return; May of record and of the reference, mayKind, HasPrefix, Eq, sumOf, Cut.
  Conditions: Get of at most eight bytes; numbers and texts are those of values.
-/
import Derived.Test.YtjpgfdpgjfmnoaaDoorRecLeaf
import Derived.BigQuiet
namespace Go.Proofs.YtjpgfdpgjfmnoaaDoor.Rec
open Go.RowKit
set_option linter.unusedVariables false
set_option linter.unusedSimpArgs false

theorem get_step (r : Nat) (c : UInt8) (h : r < 72057594037927936) : bits .or .u64 ((r : Int) * 256) (c.toNat : Int) = ((r * 256 + c.toNat : Nat) : Int) := by
  have hc := c.toNat_lt
  have e : (r : Int) * 256 = ((r * 256 : Nat) : Int) := by omega
  rw [e, u64_or_nat _ _ (by omega) (by omega), show r * 256 = r <<< 8 by rw [Nat.shiftLeft_eq], Nat.shiftLeft_add_eq_or_of_lt (by omega)]
theorem beN_small (bs : List UInt8) (k : Nat) (hk : k < 8) : beN (bs.take k) < 72057594037927936 := by
  have h := beN_lt _ (bs.take k) rfl
  have h2 : 256 ^ (bs.take k).length ≤ 256 ^ 7 := Nat.pow_le_pow_right (by decide) (by rw [List.length_take]; omega)
  have h3 : 256 ^ 7 = 72057594037927936 := by decide
  omega
set_option maxHeartbeats 400000 in
theorem get_any (A : Option Addr) (n c B : Nat) (bs : List UInt8) (w : World) (hR : Row w B A n (bvs bs)) (hn : n ≤ 8) (hnc : n ≤ c) (hc : c ≤ maxLen) :
    Calls Tryd.prog 30 #[.slice A n c] w fun e w' => e = .returned (.int .u64 (beN bs : Int)) ∧ w = w' := by
  have HL := Lib.hid hR.size
  have HB := Lib.hid (hR.byte)
  clear hR
  go_enter Tryd.func30, Tryd.ntmps30
  go_wp2
  go_loop [3, 16] (fun r i => ∃ k : Nat, ∃ R : Nat, k ≤ n ∧ Hid (R = beN (bs.take k)) ∧ r = .int .u64 (R : Int) ∧ i = .int .i64 k) (fun _ i => n - (intOf i).toNat)
  case atStart => exact ⟨0, 0, Nat.zero_le _, rfl, rfl, rfl⟩
  case round =>
    obtain ⟨k, R, hk, HR, rfl, rfl⟩ := hrel
    by_cases hlt : k < n
    · obtain ⟨b, o, rfl, _, hcs⟩ := HB.out (by omega)
      have hcell := hcs k hlt
      have HS := Lib.hid (getD_snoc bs k (by rw [HL.out]; exact hlt))
      obtain ⟨C, HC⟩ : ∃ C, Hid (C = bs.getD k 0) := ⟨_, rfl⟩
      rw [← HC.out] at hcell
      have hr : R < 72057594037927936 := by rw [HR.out]; exact beN_small bs k (by omega)
      have hg := get_step R C hr
      have hC := C.toNat_lt
      clear hcs HB
      go_wp2
      go_round
      case rel =>
        refine ⟨k + 1, R * 256 + C.toNat, by omega, ?_, rfl, by go_num⟩
        show R * 256 + C.toNat = beN (bs.take (k + 1))
        rw [HS.out, beN_snoc, ← HR.out, ← HC.out]
      case measure => simp [intOf]; omega
    · obtain rfl : k = n := by omega
      go_wp2
      go_ret
      exact ⟨ret_int (by rw [HR.out, List.take_of_length_le (by rw [HL.out]; exact Nat.le_refl _)]), rfl⟩
set_option maxHeartbeats 400000 in
theorem refget_any (A : Option Addr) (n c B : Nat) (bs : List UInt8) (w : World) (hR : Row w B A n (bvs bs)) (hn : n ≤ 8) (hnc : n ≤ c) (hc : c ≤ maxLen) :
    Calls Tryd.prog 27 #[.slice A n c] w fun e w' => e = .returned (.int .u64 (beN bs : Int)) ∧ w = w' := by
  have HL := Lib.hid hR.size
  have HB := Lib.hid (hR.byte)
  clear hR
  go_enter Tryd.func27, Tryd.ntmps27
  go_wp2
  go_loop [3, 4] (fun r i => ∃ k : Nat, ∃ R : Nat, k ≤ n ∧ Hid (R = beN (bs.take k)) ∧ r = .int .u64 (R : Int) ∧ i = .int .i64 k) (fun _ i => n - (intOf i).toNat)
  case atStart => exact ⟨0, 0, Nat.zero_le _, rfl, rfl, rfl⟩
  case round =>
    obtain ⟨k, R, hk, HR, rfl, rfl⟩ := hrel
    by_cases hlt : k < n
    · obtain ⟨b, o, rfl, _, hcs⟩ := HB.out (by omega)
      have hcell := hcs k hlt
      have HS := Lib.hid (getD_snoc bs k (by rw [HL.out]; exact hlt))
      obtain ⟨C, HC⟩ : ∃ C, Hid (C = bs.getD k 0) := ⟨_, rfl⟩
      rw [← HC.out] at hcell
      have hr : R < 72057594037927936 := by rw [HR.out]; exact beN_small bs k (by omega)
      have hC := C.toNat_lt
      clear hcs HB
      go_wp2
      go_round
      case rel =>
        refine ⟨k + 1, R * 256 + C.toNat, by omega, ?_, by congr 1, by go_num⟩
        show R * 256 + C.toNat = beN (bs.take (k + 1))
        rw [HS.out, beN_snoc, ← HR.out, ← HC.out]
      case measure => simp [intOf]; omega
    · obtain rfl : k = n := by omega
      go_wp2
      go_ret
      exact ⟨ret_int (by rw [HR.out, List.take_of_length_le (by rw [HL.out]; exact Nat.le_refl _)]), rfl⟩

/-! Records as values. -/
def str (l : List UInt8) : ByteArray := ⟨l.toArray⟩
theorem str_size (l : List UInt8) : (str l).size = l.length := by simp [str, ByteArray.size]
theorem str_inj {l m : List UInt8} (h : str l = str m) : l = m := by
  unfold str at h
  injection h with h
  simpa using congrArg Array.toList h
def Rc.vals (x : Rc) : Array Value := #[.int .i64 x.kind, .int .u32 (x.tenant : Int), .int .u64 (x.epoch : Int), .int .u64 (x.object : Int), .int .u64 (x.seq : Int), .string (str x.body)]
theorem mayKind_any (k : Int) (w : World) : Calls Tryd.prog 34 #[.int .i64 k] w fun e w' => e = .returned (.bool (decide (mayKind k))) ∧ w' = w := by
  by_cases h1 : 1 ≤ k
  · by_cases h2 : k ≤ 4
    · have e : decide (mayKind k) = true := by simp [mayKind, h1, h2]
      rw [e]
      go_enter Tryd.func34, Tryd.ntmps34
      go_wp2
      go_ret
      exact ⟨by simp [h2], rfl⟩
    · have e : decide (mayKind k) = false := by simp [mayKind, h1, h2]
      rw [e]
      go_enter Tryd.func34, Tryd.ntmps34
      go_wp2
      go_ret
      exact ⟨by simp [h2], rfl⟩
  · have e : decide (mayKind k) = false := by simp [mayKind, h1]
    rw [e]
    go_enter Tryd.func34, Tryd.ntmps34
    go_wp2
    go_ret
    exact ⟨by simp [h1], rfl⟩
end Go.Proofs.YtjpgfdpgjfmnoaaDoor.Rec
