/-
  Plain facts: a record found, built out of its place and the record; a slice of one of these.
-/
import Derived.Test.YtjpgfdpgjfmnoaaDoorScanRow
import Derived.Great.Walk
import Derived.Great.BuildSlice
namespace Go.Proofs.YtjpgfdpgjfmnoaaDoor.Rec
open Go.RowKit
set_option linter.unusedVariables false
set_option linter.unusedSimpArgs false

theorem built_ref (p : Nat) (x : Rc) : Tryd.prog.built 60 [(0, .int .i64 (p : Int)), (1, .agg x.vals)] = some (fcells (p, x)).toArray := by kernel_rfl
theorem slice_ref (p : Nat) (x : Rc) : Tryd.prog.builtSlice 60 1 [(0, .agg (fcells (p, x)).toArray)] = some (fcells (p, x)).toArray := by kernel_rfl
section
variable {w : World} {ops : Array Oper} {rest : List Oper} {o : Oper} {a : Act} {Q : Exit → Act → World → Prop}
theorem build_found (hg : o.guard = none) (T : TypeId) (y1 y2 : Operand) (ho : o.op = .build T #[(0, y1), (1, y2)]) (d : Option Tmp) (hd : o.dst = d) (v1 v2 : Value) (h1 : a.eval y1 = v1) (h2 : a.eval y2 = v2) (fc : Array Value)
    (hb : Tryd.prog.built T [(0, v1), (1, v2)] = some fc) (k : wpList Tryd.prog ops Q rest (a.put d (.agg fc)) w) : wpList Tryd.prog ops Q (o :: rest) a w := by
  refine wpList_buildTo hg T _ ho d hd fc ?_ k
  rw [Array.toList_map]
  simp only [List.map_cons, List.map_nil, h1, h2]
  exact hb
theorem build_one (hg : o.guard = none) (T e : TypeId) (y : Operand) (ho : o.op = .buildSlice T 1 #[(0, y)]) (d : Option Tmp) (hd : o.dst = d) (hu : Tryd.prog.underlying T = some (.slice e)) (v : Value) (hy : a.eval y = v) (fc : Array Value)
    (hb : Tryd.prog.builtSlice e 1 [(0, v)] = some fc) (k : wpList Tryd.prog ops Q rest (a.put d (.slice (some ⟨w.heap.size, 0, none⟩) 1 1)) (w.alloc (.cells fc e))) : wpList Tryd.prog ops Q (o :: rest) a w := by
  refine Go.Great.wpList_buildSliceTo hg T e 1 _ ho w.heap.size rfl d hd hu fc ?_ k
  rw [Array.toList_map]
  simp only [List.map_cons, List.map_nil, hy]
  exact hb
end
end Go.Proofs.YtjpgfdpgjfmnoaaDoor.Rec
