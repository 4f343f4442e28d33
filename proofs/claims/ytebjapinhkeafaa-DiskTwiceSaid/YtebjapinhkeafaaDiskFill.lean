/-
  Proved: clear and copy of a part of a row of the call's own.
-/
import Derived.Test.YtebjapinhkeafaaDiskSize
import Derived.Lib.SliceRun
namespace Go.Proofs.Ytebjapinhkeafaa.Disk
open Go.RowKit Go.Maps
set_option linter.unusedVariables false
set_option linter.unusedSimpArgs false

/-- A slice of the bytes of a row, from lo to hi. -/
def CutOf (A : Option Addr) (c lo hi : Nat) (D : Value) : Prop := (c = lo ∧ D = .slice A 0 0) ∨ (c ≠ lo ∧ D = .slice (Option.map (fun x => x.add lo) A) (hi - lo) (c - lo))
theorem cut_exists (A : Option Addr) (c lo hi : Nat) : ∃ D, CutOf A c lo hi D := by
  by_cases e : c = lo
  · exact ⟨_, .inl ⟨e, rfl⟩⟩
  · exact ⟨_, .inr ⟨e, rfl⟩⟩
theorem add_at (g a : Nat) : (⟨g, 0, none⟩ : Addr).add a = ⟨g, a, none⟩ := by
  unfold Addr.add
  split
  · rename_i hj; subst hj; rfl
  · simp
theorem add_off (b q j : Nat) : (⟨b, q, none⟩ : Addr).add j = ⟨b, q + j, none⟩ := by
  unfold Addr.add
  split
  · rename_i hj; subst hj; rfl
  · rfl
theorem splice_row {w : World} {base gb cn n lo : Nat} {cur : Array Value} {b ys : List UInt8} (hb : Blk w gb 5 cur) (hbase : base ≤ gb) (h1 : n ≤ cn) (h2 : cn ≤ maxLen) (h3 : cur.size = cn) (h4 : cur.toList.take n = bvs b) (hl : b.length = n) (hfit : lo + ys.length ≤ n) :
    (w.setRow gb (cur.toList.take lo ++ bvs ys ++ cur.toList.drop (lo + (bvs ys).length)).toArray).ownsRow base 5 1 (.slice (some ⟨gb, 0, none⟩) n cn) n (bvs (b.take lo ++ ys ++ b.drop (lo + ys.length))) := by
  have hrest : cur.toList = bvs b ++ cur.toList.drop n := by rw [← h4, List.take_append_drop]
  have hbl : (bvs b).length = n := by rw [bvs_length, hl]
  have hyl : (bvs ys).length = ys.length := bvs_length ys
  refine ⟨?_, .inr ⟨gb, cn, _, rfl, hbase, setRow_heap w gb cur _ _ _ hb, h1, h2, ?_, ?_⟩⟩
  · rw [bvs_length]
    simp
    omega
  · rw [List.size_toArray, List.length_append, List.length_append, hyl, List.length_take, List.length_drop, Array.length_toList]
    omega
  · rw [hrest, Nat.mul_one, splice_take (bvs b) _ (bvs ys) lo n hbl (by omega), hyl, bvs_take, bvs_drop, bvs_append, bvs_append]
theorem clear_onto {w : World} {base : Nat} {A : Option Addr} {n c : Nat} {b : List UInt8} (hrow : w.ownsRow base 5 1 (.slice A n c) n (bvs b)) {lo hi : Nat} (hlo : lo ≤ hi) (hhi : hi ≤ n) {D : Value} (hD : CutOf A c lo hi D) (ty : TypeId) :
    ∃ w', (Builtin.clear_ #[22] ty #[D]).run Try.prog w = .ok (.tuple #[]) w' ∧ w'.ownsRow base 5 1 (.slice A n c) n (bvs (b.take lo ++ List.replicate (hi - lo) 0 ++ b.drop hi)) ∧ w.grownBy w' (Value.slice A n c).ownBlock := by
  have hv : ∀ w, (zeroValue 5).run Try.prog w = .ok (.int .u8 0) w := fun w => by kernel_rfl
  have hl : b.length = n := by have := hrow.1; rwa [bvs_length, Nat.mul_one] at this
  by_cases h0 : hi - lo = 0
  · have e : b.take lo ++ List.replicate (hi - lo) 0 ++ b.drop hi = b := by
      have : hi = lo := by omega
      subst this
      simp
    refine ⟨w, ?_, by rw [e]; exact hrow, World.grownBy.refl w _⟩
    rcases hD with ⟨_, rfl⟩ | ⟨_, rfl⟩
    · cases A <;> simp [Builtin.clear_, run_underlying Try.underlying22, hv]
    · rw [h0]
      cases A <;> simp [Builtin.clear_, run_underlying Try.underlying22, hv]
  · obtain ⟨gb, cap, cur, e, hbase, hb, h1, h2, h3, h4⟩ := own_block hrow (by omega)
    injection e with e1 e2 e3
    subst e1 e3
    rcases hD with ⟨e, _⟩ | ⟨_, rfl⟩
    · omega
    · obtain ⟨m, hm⟩ : ∃ m, hi - lo = m + 1 := ⟨hi - lo - 1, by omega⟩
      have hz : Builtin.zeroCells (Value.int .u8 0).cells (m + 1) = (bvs (List.replicate (m + 1) 0)).toArray := by
        apply Array.ext'
        apply List.ext_getElem?
        intro j
        by_cases hj : j < m + 1
        · simp [Builtin.zeroCells, Value.cells, hj, Nat.mod_one, bvs, bv]
        · simp [Builtin.zeroCells, Value.cells, hj, bvs]
      have hfit : lo + (bvs (List.replicate (m + 1) 0)).length ≤ cur.size := by rw [bvs_length, List.length_replicate]; omega
      have hst := run_storeCells_at (P := Try.prog) gb lo 5 (bvs (List.replicate (m + 1) 0)) 0 cur w hb (by simpa using hfit) (bvs_one _)
      simp only [Nat.add_zero] at hst
      have hsp := splice_row (lo := lo) (ys := List.replicate (m + 1) 0) hb hbase h1 h2 (by omega) h4 hl (by simp; omega)
      have e2 : lo + (List.replicate (m + 1) (0 : UInt8)).length = hi := by simp; omega
      rw [e2] at hsp
      rw [hm]
      refine ⟨_, ?_, hsp, only_setRow w gb _⟩
      show (Builtin.clear_ _ _ #[.slice (some ((⟨gb, 0, none⟩ : Addr).add lo)) _ _]).run _ _ = _
      rw [add_at]
      simp [Builtin.clear_, run_underlying Try.underlying22, hv, hz, hst]
theorem copy_cut {w : World} {base : Nat} {A : Option Addr} {n c : Nat} {b : List UInt8} (hrow : w.ownsRow base 5 1 (.slice A n c) n (bvs b)) {lo hi : Nat} (hlo : lo ≤ hi) (hhi : hi ≤ n) {D : Value} (hD : CutOf A c lo hi D)
    {B : Nat} {As : Option Addr} {m cs : Nat} {bs : List UInt8} (hR : Row w B As m (bvs bs)) (ty : TypeId) :
    ∃ w', (Builtin.copy_ #[22, 22] ty #[D, .slice As m cs]).run Try.prog w = .ok (.int .i64 ((min (hi - lo) m : Nat) : Int)) w' ∧
      w'.ownsRow base 5 1 (.slice A n c) n (bvs (b.take lo ++ bs.take (min (hi - lo) m) ++ b.drop (lo + min (hi - lo) m))) ∧ w.grownBy w' (Value.slice A n c).ownBlock := by
  have hsz : (Try.prog.info? 5).map (·.size) = some 1 := by kernel_rfl
  have hl : b.length = n := by have := hrow.1; rwa [bvs_length, Nat.mul_one] at this
  have hlb := hR.size
  obtain ⟨o, ho⟩ : ∃ o, o = min (hi - lo) m := ⟨_, rfl⟩
  rw [← ho]
  by_cases h0 : o = 0
  · subst h0
    refine ⟨w, ?_, ?_, World.grownBy.refl w _⟩
    · rcases hD with ⟨e, rfl⟩ | ⟨_, rfl⟩
      · exact run_copy_none w _ _ _ _ _ _ _ _ _ _ Try.underlying22 hsz (Nat.min_eq_right (Nat.zero_le _))
      · exact run_copy_none w _ _ _ _ _ _ _ _ _ _ Try.underlying22 hsz (by rw [Nat.min_comm] at ho; exact ho.symm)
    · rw [List.take_zero, List.append_nil, Nat.add_zero, List.take_append_drop]
      exact hrow
  · obtain ⟨gb, cap, cur, e, hbase, hb, h1, h2, h3, h4⟩ := own_block hrow (by omega)
    injection e with e1 e2 e3
    subst e1 e3
    rcases hD with ⟨e, _⟩ | ⟨_, rfl⟩
    · omega
    · obtain ⟨bb, ob, rfl, _, hcell⟩ := hR.2 (by omega)
      have htl : (bs.take o).length = o := by rw [List.length_take]; omega
      have hcs : (bvs (bs.take o)).length = o := by rw [bvs_length, htl]
      have hr := run_copy_row (P := Try.prog) w 22 22 ty 5 gb lo (hi - lo) (c - lo) ⟨bb, ob, none⟩ m cs cur 5 (bvs (bs.take o)) Try.underlying22 hsz hb (by rw [hcs, ho, Nat.min_comm])
        (fun j u hu => by
          rw [add_off]
          refine hcell j u ?_
          rw [← bvs_take, List.getElem?_take] at hu
          split at hu
          · exact hu
          · cases hu) (by rw [hcs]; omega) (bvs_one _)
      have hsp := splice_row (lo := lo) (ys := bs.take o) hb hbase h1 h2 (by omega) h4 hl (by rw [htl]; omega)
      rw [htl] at hsp
      refine ⟨_, ?_, hsp, only_setRow w gb _⟩
      show (Builtin.copy_ _ _ #[.slice (some ((⟨gb, 0, none⟩ : Addr).add lo)) _ _, _]).run _ _ = _
      rw [add_at, hr, hcs]
      rfl
end Go.Proofs.Ytebjapinhkeafaa.Disk
