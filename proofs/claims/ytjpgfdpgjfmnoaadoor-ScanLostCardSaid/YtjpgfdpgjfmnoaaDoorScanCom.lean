/-
  Plain facts: what Decode says as a value, slices from a place on, a new variable beside records found.
-/
import Derived.Test.YtjpgfdpgjfmnoaaDoorScanBuilt
import Derived.Test.YtjpgfdpgjfmnoaaDoorRecDecode
namespace Go.Proofs.YtjpgfdpgjfmnoaaDoor.Rec
open Go.RowKit
set_option linter.unusedVariables false
set_option linter.unusedSimpArgs false

theorem found_info : (Tryd.prog.info? 60).map (fun i => (i.zero, i.size, i.bytes)) = some (some (.agg #[.int .i64 0, .int .i64 0, .int .u32 0, .int .u64 0, .int .u64 0, .int .u64 0, .string ⟨#[]⟩]), 7, 64) := by kernel_rfl
theorem out_ok (o : Out) : (∃ x n, o = .ok x n) ∨ ∃ e : Int, e ≠ 0 ∧ o.vals = #[.agg zeroRc.vals, .int .i64 0, .int .i64 e] ∧ ∀ x n, o ≠ .ok x n := by
  cases o with
  | ok x n => exact .inl ⟨x, n, rfl⟩
  | more => exact .inr ⟨11, by decide, rfl, fun _ _ h => by cases h⟩
  | bad => exact .inr ⟨4, by decide, rfl, fun _ _ h => by cases h⟩
theorem row_from {w : World} {B n p b o : Nat} {bs : List UInt8} (h : Row w B (some ⟨b, o, none⟩) n (bvs bs)) (hp : p < n) : Row w B (some ⟨b, o + p, none⟩) (n - p) (bvs (bs.drop p)) := by
  have := h.drop hp
  rwa [bvs_drop] at this
/-- .. behind a new record of the call's own. -/
theorem fd_store {w0 w w' : World} {e t : TypeId} {v : Value} {l : List (Nat × Rc)} {cs : Array Value} (h : Fd w0 e w v l) (hg : (w.alloc (.cells cs t)).grownBy w' (some w.heap.size)) : Hid (Fd w0 e w' v l) := by
  have hb : Below w.heap.size w w' := below_only (below_alloc w (.cells cs t)) hg (Nat.le_refl _) (by simp)
  exact h.all hb
/-- A slice from a place on, that place at its end too. -/
theorem row_upto {w : World} {B n p b o c : Nat} {bs : List UInt8} {P : Option Addr} (h : Row w B (some ⟨b, o, none⟩) n (bvs bs)) (hp : p ≤ n) (hnc : n ≤ c) (hP : (if c = p then some (⟨b, o, none⟩ : Addr) else some ⟨b, o + p, none⟩) = P) : Row w B P (n - p) (bvs (bs.drop p)) := by
  by_cases hlt : p < n
  · rw [if_neg (by omega)] at hP
    subst hP
    exact row_from h hlt
  · exact ⟨by rw [bvs_length, List.length_drop, h.size], fun hn => absurd hn (by omega)⟩
theorem dec_nil : dec [] = .more := by
  unfold dec
  rw [if_neg (not_not_intro ⟨fun h => absurd h (by decide), fun h => absurd h (by decide), fun h => absurd h (by decide)⟩), if_pos (by decide)]
theorem front_nil : frontFrom 0 [] = [] := frontFrom_no (fun x n h => by rw [List.drop_nil, dec_nil] at h; cases h)
theorem empty_row {w : World} {B : Nat} {A : Option Addr} : Row w B A 0 (bvs []) := ⟨rfl, fun h => absurd h (by omega)⟩
end Go.Proofs.YtjpgfdpgjfmnoaaDoor.Rec
