/-
  Laws for regions that draw: a struct is built, a slice of one is made, one more is appended to the records found.
-/
import Derived.Test.YtjpgfdpgjfmnoaaDoorScanRecs
import Derived.Test.YtjpgfdpgjfmnoaaDoorDraw
namespace Go.Proofs.YtjpgfdpgjfmnoaaDoor.Rec
open Go.RowKit
set_option linter.unusedVariables false
set_option linter.unusedSimpArgs false

section
variable {w : World} {ops : Array Oper} {o : Oper} {a : Act} {K : Act → World → Prop} {Q : Exit → Act → World → Prop}
theorem run_build_found (T : TypeId) (y1 y2 : Operand) (ho : o.op = .build T #[(0, y1), (1, y2)]) (v1 v2 : Value) (h1 : a.eval y1 = v1) (h2 : a.eval y2 = v2) (fc : Array Value) (hb : Tryd.prog.built T [(0, v1), (1, v2)] = some fc) :
    (execOp a.eval o).run Tryd.prog w = .ok (.value (.agg fc)) w := by
  unfold execOp
  have hb' : Tryd.prog.built T (#[(0, v1), (1, v2)] : Array (Nat × Value)).toList = some fc := hb
  have := run_build (P := Tryd.prog) w T #[(0, v1), (1, v2)] fc hb'
  simp only [ho, Sem.run_bind, List.map_toArray, List.map_cons, List.map_nil, h1, h2, this, Result.andThen_ok]
  rfl
theorem wp_build_one (T e : TypeId) (y : Operand) (ho : o.op = .buildSlice T 1 #[(0, y)]) (d : Option Tmp) (hd : o.dst = d) (hu : Tryd.prog.underlying T = some (.slice e)) {z : Value} {by' k : Nat} (hk : 0 < k ∧ k ≤ 1000) (hi : (Tryd.prog.info? e).map (fun i => (i.zero, i.size, i.bytes)) = some (some z, k, by'))
    (v : Value) (hy : a.eval y = v) (fc : Array Value) (hb : Tryd.prog.builtSlice e 1 [(0, v)] = some fc) (h : K (a.put d (.slice (some ⟨w.heap.size, 0, none⟩) 1 1)) (w.alloc (.cells fc e))) : Oper.wp Tryd.prog o a w K Q := by
  obtain ⟨i, hii, hzz⟩ := Option.map_eq_some_iff.1 hi
  simp only [Prod.mk.injEq] at hzz
  obtain ⟨hz0, hs1, _⟩ := hzz
  obtain ⟨hk1, hk2⟩ := hk
  subst hd
  refine wp_buildSlice T e 1 _ ho fc i z hu hii hz0 (by rw [hs1, Nat.one_mul]; omega) (by rw [hs1]; omega) ?_ h
  unfold Program.builtSlice at hb
  simp only [hii, hz0] at hb
  rw [if_neg (by rw [hs1]; omega)] at hb
  rw [Array.toList_map]
  simp only [List.map_cons, List.map_nil, hy]
  exact hb
variable {w0 : World} {e : TypeId} {v : Value} {l : List (Nat × Rc)}
theorem wp_fd_append (h : Fd w0 e w v l) (T : TypeId) (z : Value) (by' : Nat) (hT : Tryd.prog.underlying T = some (.slice e)) (hi : (Tryd.prog.info? e).map (fun i => (i.zero, i.size, i.bytes)) = some (some z, 7, by')) (hz : z.cells.size = 7) (hby : by' ≤ 64)
    (d : Option Tmp) (hd : o.dst = d) (s y : Operand) (ho : o.op = .call { callee := .builtin .append, args := #[s, y], argTypes := #[T, T] }) (hs : a.eval s = v)
    (g c : Nat) (q : Nat × Rc) (hy : a.eval y = .slice (some ⟨g, 0, none⟩) 1 c) (hq : ∀ j u, (fcells q)[j]? = some u → w.cell? ⟨g, j, none⟩ = some u) (hl : l.length ≤ 1000000)
    (k : ∀ v' w', Hid (Fd w0 e w' v' (l ++ [q])) → K (a.put d v') w') : Oper.wp Tryd.prog o a w K Q := by
  obtain ⟨i, hii, hzz⟩ := Option.map_eq_some_iff.1 hi
  simp only [Prod.mk.injEq] at hzz
  obtain ⟨hz0, hs1, hb1⟩ := hzz
  subst hd
  refine wp_append_own w s y T ho w0.heap.size e i z 7 by' hT hii hz0 hs1 hb1 hz (by decide) v l.length (flat l) hs h.row ⟨g, 0, none⟩ 1 c (fcells q) hy (fcells_length q) ?_ (fcells_one q) (by unfold maxLen; omega) ?_ h.below.size ?_
  · intro j u hu
    have := hq j u hu
    rw [Addr.add_lit, Nat.zero_add]
    exact this
  · have : (l.length + 1) * by' ≤ (l.length + 1) * 64 := Nat.mul_le_mul_left _ hby
    omega
  · intro v' w' h1 h2 _
    refine k v' w' ⟨?_, own_below h.row h.below (Nat.le_refl _) h.below.size h2⟩
    rw [flat_snoc] at h1
    rw [List.length_append]
    exact h1
end
end Go.Proofs.YtjpgfdpgjfmnoaaDoor.Rec
