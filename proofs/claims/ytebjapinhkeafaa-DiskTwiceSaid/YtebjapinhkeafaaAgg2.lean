/-
  Slices of arrays by address.
-/
import Derived.Test.YtebjapinhkeafaaAgg
namespace Go.Proofs.Ytebjapinhkeafaa
open Go.RowKit
variable {P : Program}

/-- A slice of an array of one-cell elements, from a place to its end. -/
theorem run_sliceAt_arr {T e : TypeId} {n : Nat} (ht : P.underlying T = some (.array n e)) (hs : (P.info? e).map (·.size) = some 1) (g o l : Nat) (hl : l < n) (v : Int) (hv : v = (l : Int)) (w : World) :
    (Instr.sliceAt T (.pointer (some ⟨g, o, none⟩)) (some (.int .i64 v)) none none).run P w = .ok (.slice (some ⟨g, o + l, none⟩) (n - l) (n - l)) w := by
  obtain ⟨info, hinfo, hsize⟩ := Option.map_eq_some_iff.1 hs
  subst hv
  have hL : P.arrayLen T = n := by simp [Program.arrayLen, ht]
  have hE : P.elem T = e := by simp [Program.elem, ht]
  have h := run_sliceAt_array_l (P := P) w T ⟨g, o, none⟩ (by rw [hL, hE]; exact ht) .i64 (l : Int) (by omega) (by rw [hL]; omega)
  rw [h, hE, hL]
  have hne : ¬ n = l := by omega
  simp [sizeOf, typeInfo, hinfo, hsize, slicedAt, Addr.add, hne]
end Go.Proofs.Ytebjapinhkeafaa
