/-
  Texts one behind the other: Short, DiskSyncWalk.
-/
import Derived.Test.YtbljdcdcnnidkaaDoorG03
import Derived.Test.YtbljdcdcnnidkaaDoorG23
/-
  Proved: what Short of package stillroomlaw1 returns, and what is left of a row behind it.
  Conditions: none.
-/
namespace Go.Proofs.YtbljdcdcnnidkaaDoor.Com
open Go.RowKit
set_option linter.unusedVariables false
set_option linter.unusedSimpArgs false

theorem short_any (A : Option Addr) (n c : Nat) (m : Nat) (w : World) (hn : n ≤ c) (hc : c ≤ maxLen) :
    Calls Tryd.prog 11 #[.slice A n c, .int .i64 (m : Int)] w fun e w' => e = .returned (.slice A (min n m) c) ∧ w = w' := by
  unfold maxLen at hc
  by_cases h : m < n
  · rw [Nat.min_eq_right (Nat.le_of_lt h)]
    go_enter Tryd.func11, Tryd.ntmps11
    go_wp2
    go_ret
    exact ⟨rfl, rfl⟩
  · rw [Nat.min_eq_left (by omega)]
    go_enter Tryd.func11, Tryd.ntmps11
    go_wp2
    go_ret
    exact ⟨rfl, rfl⟩
/-- What is left of a slice behind 'Short', in a later world. -/
theorem short_row {w w1 : World} {B : Nat} {A : Option Addr} {n m : Nat} {bs : List UInt8} (hb : Below B w w1) (hR : Row w B A n (bvs bs)) :
    Row w1 B A (min n m) (bvs (bs.take m)) := by
  have h := (hR.below hb).take (k := min n m) (Nat.min_le_left _ _)
  rw [bvs_take] at h
  have hl := hR.size
  have : bs.take (min n m) = bs.take m := by
    rw [← hl, ← List.take_take, List.take_of_length_le]
    exact List.length_take_le' _ _
  rwa [this] at h
end Go.Proofs.YtbljdcdcnnidkaaDoor.Com
/-
  Proved: what 'stillroom/stillroomlaw5.DiskSync' returns.
-/
namespace Go.Proofs.YtbljdcdcnnidkaaDoor.Disk
open Go.RowKit Go.Maps
set_option linter.unusedVariables false
set_option linter.unusedSimpArgs false

/-- A slice of slices of bytes. -/
def RowsB (w : World) (A : Option Addr) (n : Nat) : Prop := 0 < n → ∃ b o, A = some ⟨b, o, none⟩ ∧ b < w.heap.size ∧ ∀ i, i < n → ∃ A' l c bs, w.cell? ⟨b, o + i, none⟩ = some (.slice A' l c) ∧ Row w w.heap.size A' l (bvs bs) ∧ l ≤ c ∧ c ≤ maxLen
theorem rows_of_bytes {W : World} {a : Option Addr} {len cap : Nat}
    (h : (a = none ∧ len = 0 ∧ cap = 0) ∨ ∃ (x : Addr) (A : Nat → Option Addr) (L C : Nat → Nat) (Z : Nat → List Int), a = some x ∧ len ≤ cap ∧ cap ≤ maxLen ∧
      ∀ r, r < cap → W.cell? (x.add r) = some (.slice (A r) (L r) (C r)) ∧ L r ≤ C r ∧ C r ≤ maxLen ∧ (Z r).length = C r ∧ (∀ n ∈ Z r, (Lit.int .u8 n).wf = true) ∧ (A r = none → C r = 0) ∧
        ∀ a', A r = some a' → 0 ≤ a'.block ∧ ∀ c, c < C r → W.cell? (a'.add c) = some (.int .u8 ((Z r).getD c 0))) :
    RowsB W a len ∧ len ≤ cap ∧ cap ≤ maxLen := by
  rcases h with ⟨rfl, rfl, rfl⟩ | ⟨x, A, L, C, Z, rfl, hl, hm, hcell⟩
  · exact ⟨fun h => absurd h (by omega), Nat.le_refl _, by decide⟩
  · refine ⟨fun hn => ?_, hl, hm⟩
    obtain ⟨b, off, spot⟩ := x
    have h0 := (hcell 0 (by omega)).1
    have hspot : spot = none := by simpa [Addr.add] using World.cell?_spot h0
    subst hspot
    refine ⟨b, off, rfl, by simpa [Addr.add] using World.block_lt_of_cell? W _ h0, fun i hi => ?_⟩
    obtain ⟨k1, k2, k3, k4, k5, k6, k7⟩ := hcell i (by omega)
    obtain ⟨bs, r1, r2, r3⟩ := row_of_bytes (W := W) (a := A i) (len := L i) (cap := C i) (by
      cases hA : A i with
      | none => exact .inl ⟨rfl, by have := k6 hA; omega, k6 hA⟩
      | some a' => exact .inr ⟨a', Z i, rfl, k2, k3, k4, fun j hj => (k7 a' hA).2 j (by omega), k5⟩)
    refine ⟨A i, L i, C i, bs, ?_, r1, r2, r3⟩
    unfold Addr.add at k1
    split at k1
    · rename_i hi0; subst hi0; exact k1
    · exact k1
theorem putAt_end (W bs : List UInt8) : putAt W W.length bs = W ++ bs := by
  unfold putAt
  rw [List.take_length, List.drop_eq_nil_of_le (by omega), List.append_nil]
theorem str_add (a b : List UInt8) : (⟨a.toArray⟩ : ByteArray) ++ ⟨b.toArray⟩ = ⟨(a ++ b).toArray⟩ := by
  apply ByteArray.ext
  rw [ByteArray.data_append]
  simp
end Go.Proofs.YtbljdcdcnnidkaaDoor.Disk
