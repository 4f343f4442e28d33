/-
  Proved: what Short of package stillroomlaw1 returns, and what is left of a row behind it.
  Conditions: none.
-/
import Derived.Test.YtjpgfdpgjfmnoaaDoorMem
namespace Go.Proofs.YtjpgfdpgjfmnoaaDoor.Com
open Go.RowKit
set_option linter.unusedVariables false
set_option linter.unusedSimpArgs false

theorem short_any (A : Option Addr) (n c : Nat) (m : Nat) (w : World) (hn : n ≤ c) (hc : c ≤ maxLen) :
    Calls Tryd.prog 9 #[.slice A n c, .int .i64 (m : Int)] w fun e w' => e = .returned (.slice A (min n m) c) ∧ w = w' := by
  unfold maxLen at hc
  by_cases h : m < n
  · rw [Nat.min_eq_right (Nat.le_of_lt h)]
    go_enter Tryd.func9, Tryd.ntmps9
    go_wp2
    go_ret
    exact ⟨rfl, rfl⟩
  · rw [Nat.min_eq_left (by omega)]
    go_enter Tryd.func9, Tryd.ntmps9
    go_wp2
    go_ret
    exact ⟨rfl, rfl⟩
/-- What is left of a slice behind 'Short', in a later world. -/
theorem short_row {w w1 : World} {B : Nat} {A : Option Addr} {n m : Nat} {bs : List UInt8} (hb : Below B w w1) (hR : Row w B A n (bvs bs)) :
    Row w1 B A (min n m) (bvs (bs.take m)) := by
  have h := (hR.below hb).take (k := min n m) (Nat.min_le_left _ _)
  rw [bvs_take] at h
  have hl := hR.size
  have : bs.take (min n m) = bs.take m := by
    rw [← hl, ← List.take_take, List.take_of_length_le]
    exact List.length_take_le' _ _
  rwa [this] at h
end Go.Proofs.YtjpgfdpgjfmnoaaDoor.Com
