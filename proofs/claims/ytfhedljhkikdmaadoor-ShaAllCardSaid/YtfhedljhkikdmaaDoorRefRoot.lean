/-
  Proved: what root of package stillroomref1 returns: what stands behind the point of a root.
  Conditions: a number below 512, an order of 2 or 3.
-/
import Derived.Test.YtfhedljhkikdmaaDoorRefBelow
namespace Go.Proofs.YtfhedljhkikdmaaDoor.Sha
open Go.RowKit

theorem root_top {n k : Nat} (hn : n < 512) (hk2 : 2 ≤ k) (hk : k ≤ 3) : n * 2 ^ (32 * k) < 137438953472 ^ k := by
  have h : k = 2 ∨ k = 3 := by omega
  rcases h with rfl | rfl <;> omega

set_option maxHeartbeats 400000 in
theorem root_any (n k : Nat) (w : World) (hn : n < 512) (hk2 : 2 ≤ k) (hk : k ≤ 3) :
    Calls Tryd.prog 18 #[.int .i64 (n : Int), .int .i64 (k : Int)] w fun e w' => (∃ r : Nat, e = .returned (.int .u32 ((r % 4294967296 : Nat) : Int)) ∧ isRoot r n k) ∧ Below w.heap.size w w' := by
  have HTOP := Lib.hid (root_top hn hk2 hk)
  go_enter Tryd.func18, Tryd.ntmps18
  go_wp2_with fail
  go_loopw [5, 6] (fun lo hi wr => ∃ a b : Nat, a < b ∧ b ≤ 137438953472 ∧ lo = .int .u64 (a : Int) ∧ hi = .int .u64 (b : Int) ∧ Hid (a ^ k ≤ n * 2 ^ (32 * k) ∧ n * 2 ^ (32 * k) < b ^ k ∧ Below w.heap.size w wr)) (fun lo hi _ => (intOf hi).toNat - (intOf lo).toNat)
  case atStart => exact ⟨0, 137438953472, by omega, by omega, rfl, rfl, by rw [Nat.zero_pow (by omega)]; exact Nat.zero_le _, HTOP.out, Below.refl _ _⟩
  case round =>
    clear HTOP
    obtain ⟨a, b, hab, hb, rfl, rfl, HI⟩ := hrel
    by_cases hlt : a + 1 < b
    · obtain ⟨M, hM⟩ : ∃ M, M = (a + b) / 2 := ⟨_, rfl⟩
      have hmi : ((a : Int) + (b : Int)) / 2 = (M : Int) := by omega
      have h1 : a < M := by omega
      have h2 : M < b := by omega
      clear hM
      go_wp2_with fail
      refine (below_any M n k wr (by omega) (by omega) (by omega) (by omega) hk).mono ?_
      rintro e w2 ⟨rfl, hb2⟩
      have HB2 := Lib.hid (HI.out.2.2.trans (hb2.mono HI.out.2.2.size))
      clear hb2
      by_cases hc : M ^ k ≤ n * 2 ^ (32 * k)
      · rw [decide_eq_true hc]
        have HC := Lib.hid hc
        clear hc
        go_wp2_with fail
        go_roundw
        case rel => exact ⟨M, b, h2, hb, rfl, rfl, HC.out, HI.out.2.1, HB2.out⟩
        case measure => simp [intOf]; omega
      · rw [decide_eq_false hc]
        have HC := Lib.hid (Nat.lt_of_not_le hc)
        clear hc
        go_wp2_with fail
        go_roundw
        case rel => exact ⟨a, M, h1, by omega, rfl, rfl, HI.out.1, HC.out, HB2.out⟩
        case measure => simp [intOf]; omega
    · obtain rfl : b = a + 1 := by omega
      go_wp2_with fail
      go_ret
      exact ⟨⟨a, by simp, HI.out.1, HI.out.2.1⟩, HI.out.2.2⟩
end Go.Proofs.YtfhedljhkikdmaaDoor.Sha
