/-
  Texts one behind the other: Draw, ScanDraw, TenPut, ManTake.
-/
import Derived.RegionTactic
import Derived.Deep.RegionHeld3
import Derived.ArgAppend
import Derived.BigQuiet
import Derived.Test.YtcmlchicpmnhdaaDoorG03
import Derived.Test.YtcmlchicpmnhdaaDoorG04
import Derived.Test.YtcmlchicpmnhdaaDoorG05
import Derived.Test.YtcmlchicpmnhdaaDoorG07
/-
  A region that draws its order, walked by hand: the one operation that may come next; loads of whole arrays taken first under a condition on the world; appends onto a row of the call's own.
-/
namespace Go.Proofs.YtcmlchicpmnhdaaDoor
open Go.RowKit
set_option linter.unusedVariables false
set_option linter.unusedSimpArgs false
variable {P : Program} {ops : Array Oper} {Q : Exit → Act → World → Prop} {md : Region.Mode}

/-- The one operation that may come next, without a guard. -/
theorem any_one (i : Nat) {o : Oper} {fuel : Nat} {listed : Array Bool} {a : Act} {w : World} (ho : ops[i]? = some o) (hr : Region.ready md ops listed = [i]) (hg : o.guard = none)
    (h : ∀ K : Act → World → Prop, (∀ a w, wpAny P md ops Q fuel (listed.setIfInBounds i true) a w → K a w) → Oper.wp P o a w K Q) : wpAny P md ops Q (fuel + 1) listed a w := by
  refine wpAny_ready hr (by simp) (AllReady.cons ho (fun K hK => ?_) AllReady.nil)
  have hw : Region.wanted o (yielded ops a.tmps) = true := by simp [Region.wanted, hg]
  rw [if_pos hw]
  exact h K hK
/-- A load of a value of several parts. -/
theorem any_load (i : Nat) {o : Oper} {fuel : Nat} {listed : Array Bool} {a : Act} {w : World} (ho : ops[i]? = some o) (hr : Region.ready md ops listed = [i]) (hg : o.guard = none) (ty : TypeId) (x : Operand) (hop : o.op = .load ty x)
    (g : Nat) (hx : a.eval x = .pointer (some ⟨g, 0, none⟩)) (t : TypeId) (cs : Array Value) (hb : Blk w g t cs) {n : Nat} {e : TypeId} (hu : P.underlying ty = some (.array n e)) (hi : (P.info? ty).map (·.size) = some cs.size)
    (h : wpAny P md ops Q fuel (listed.setIfInBounds i true) (a.put o.dst (.agg cs)) w) : wpAny P md ops Q (fuel + 1) listed a w :=
  any_one i ho hr hg fun _ hK => wp_load_row ty x hop g hx t cs (0, 0) _ hb hu rfl hi (hK _ _ h)
/-- A store of a value of several parts. -/
theorem any_store (i : Nat) {o : Oper} {fuel : Nat} {listed : Array Bool} {a : Act} {w : World} (ho : ops[i]? = some o) (hr : Region.ready md ops listed = [i]) (hg : o.guard = none) (ty : TypeId) (x y : Operand) (hop : o.op = .store ty x y)
    (g : Nat) (cells : Array Value) (hx : a.eval x = .pointer (some ⟨g, 0, none⟩)) (hy : a.eval y = .agg cells) (t : TypeId) (old : Array Value) (hb : Blk w g t old) (hi : (P.info? ty).map (·.size) = some cells.size)
    (hold : old.size = cells.size) (h1 : cells.all (·.oneCell') = true)
    (h : ∀ w', Hid (Blk w' g t cells) → Hid (w.grownBy w' (some g)) → wpAny P md ops Q fuel (listed.setIfInBounds i true) (a.put o.dst undef) w') : wpAny P md ops Q (fuel + 1) listed a w :=
  any_one i ho hr hg fun _ hK => wp_store_row ty x y hop g cells hx hy t old hb hi hold h1 (hK _ _ (h _ (setRow_heap w g old cells t (0, 0) hb) (only_setRow w g cells)))
/-- An operation is taken first, its slot named. -/
theorem held_take (i : Nat) {oi : Oper} {v : Value} {d : Option Tmp} {S : World → Prop} {fuel : Nat} {listed : Array Bool} {a : Act} {w : World} (hi : ops[i]? = some oi) (hd : oi.dst = d)
    (hs : Region.noSelect ops = true) (hf : Region.free md ops listed i = true) (hr : (Region.ready md ops listed).contains i = true)
    (hQ : ∀ c a w, Q (.panic c) (a.put d v) w → Q (.panic c) a w) (hy : YieldsIf P ops S oi v a) (hS : S w)
    (h : wpAnyH P md ops Q S fuel (listed.setIfInBounds i true) (a.put d v) w) : wpAnyH P md ops Q S (fuel + 1) listed a w := by
  subst hd
  exact wpAnyH_take hi hs hf hr hQ hy hS h
/-- Append onto a row of the call's own, in a region that draws, where the operation is wanted. -/
theorem want_append_own {P : Program} {ops : Array Oper} {o : Oper} {a : Act} {w : World} {K : Act → World → Prop} {Q : Exit → Act → World → Prop} {E : Prop} {d : Option Tmp} (hw : Region.wanted o (yielded ops a.tmps) = true) (s x : Operand) (t : TypeId)
    (hd : o.dst = d) (ho : o.op = Op.call { callee := Callee.builtin Builtin.append, args := #[s, x], argTypes := #[t, t] })
    (base : Nat) (e : TypeId) (z : Value) (bytes : Nat) (ht : P.underlying t = some (.slice e)) (hinfo : (P.info? e).map (fun i => (i.zero, i.size, i.bytes)) = some (some z, 1, bytes)) (hz1 : z.cells = #[z])
    (v : Value) (n : Nat) (xs : List Value) (hs : a.eval s = v) (hown : w.ownsRow base e 1 v n xs)
    (ad : Addr) (m c : Nat) (news : List Value) (hx : a.eval x = .slice (some ad) m c) (hl : news.length = m) (hnews : ∀ j u, news[j]? = some u → w.cell? (ad.add j) = some u) (h1 : ∀ u ∈ news, u.oneCell' = true)
    (h63 : n + m ≤ maxLen) (hbytes : (n + m) * bytes ≤ 140737488355328) (hbase : base ≤ w.heap.size)
    (hK : ∀ v' w', Hid (w'.ownsRow base e 1 v' (n + m) (xs ++ news)) → Hid (w.grownBy w' v.ownBlock) → K (a.put d v') w') :
    if Region.wanted o (yielded ops a.tmps) = true then Oper.wp P o a w K Q else E := by
  subst hd
  rw [if_pos hw]
  obtain ⟨i, hi, hzz⟩ := Option.map_eq_some_iff.1 hinfo
  simp only [Prod.mk.injEq] at hzz
  obtain ⟨hz0, hs1, hb1⟩ := hzz
  exact wp_append_own w s x t ho base e i z 1 bytes ht hi hz0 hs1 hb1 (by rw [hz1]; rfl) (by decide) v n xs hs hown ad m c news hx (by rw [hl, Nat.mul_one]) hnews h1 h63 hbytes hbase fun v' w' h2 h3 _ => hK v' w' h2 h3
/-- Append onto a full slice, in a region that draws, where the operation is wanted: a new row. -/
theorem want_append_grows {P : Program} {ops : Array Oper} {o : Oper} {a : Act} {w : World} {K : Act → World → Prop} {Q : Exit → Act → World → Prop} {E : Prop} {d : Option Tmp} (hw : Region.wanted o (yielded ops a.tmps) = true) (s x : Operand) (t : TypeId)
    (hd : o.dst = d) (ho : o.op = Op.call { callee := Callee.builtin Builtin.append, args := #[s, x], argTypes := #[t, t] })
    (e : TypeId) (z : Value) (bytes : Nat) (ht : P.underlying t = some (.slice e)) (hinfo : (P.info? e).map (fun i => (i.zero, i.size, i.bytes)) = some (some z, 1, bytes)) (hz1 : z.cells = #[z])
    (b : Addr) (n cap : Nat) (olds : List Value) (hs : a.eval s = .slice (some b) n cap) (hlo : olds.length = n) (holds : ∀ j u, olds[j]? = some u → w.cell? (b.add j) = some u)
    (ad : Addr) (m c : Nat) (news : List Value) (hx : a.eval x = .slice (some ad) m c) (hl : news.length = m) (hnews : ∀ j u, news[j]? = some u → w.cell? (ad.add j) = some u)
    (hfull : cap < n + m) (h63 : n + m ≤ maxLen) (hbytes : (n + m) * bytes ≤ 140737488355328)
    (hK : ∀ v' w', Hid (w'.ownsRow w.heap.size e 1 v' (n + m) (olds ++ news)) → Hid (w.grownBy w' none) → K (a.put d v') w') :
    if Region.wanted o (yielded ops a.tmps) = true then Oper.wp P o a w K Q else E := by
  subst hd
  rw [if_pos hw]
  obtain ⟨i, hi, hzz⟩ := Option.map_eq_some_iff.1 hinfo
  simp only [Prod.mk.injEq] at hzz
  obtain ⟨hz0, hs1, hb1⟩ := hzz
  obtain ⟨v', w', hrun, r1, r2⟩ := run_append_arg_grows (P := P) w t o.type e i z 1 bytes ht hi hz0 hs1 hb1 (by rw [hz1]; rfl) (by decide) b n cap olds (by rw [hlo, Nat.mul_one]) holds ad m c news (by rw [hl, Nat.mul_one]) hnews hfull h63 hbytes
  unfold Oper.wp
  simp [execOp, ho, resolve, invoke, builtin, hs, hx, hrun, Result.andThen]
  exact hK v' w' r1 r2
theorem row_news {w : World} {B n : Nat} {ad : Addr} {vs : List Value} (h : Row w B (some ad) n vs) : ∀ j u, vs[j]? = some u → w.cell? (ad.add j) = some u := by
  intro j u hu
  have hj : j < vs.length := (List.getElem?_eq_some_iff.1 hu).1
  obtain ⟨b, o, e, _, hc⟩ := h.2 (by rw [← h.1]; omega)
  obtain rfl := Option.some.inj e
  have := hc j u hu
  unfold Addr.add
  split
  · rename_i h0; subst h0; exact this
  · exact this

end Go.Proofs.YtcmlchicpmnhdaaDoor
/-
  Laws for regions that draw: a struct is built, a slice of one is made, one more is appended to the records found.
-/
namespace Go.Proofs.YtcmlchicpmnhdaaDoor.Rec
open Go.RowKit
set_option linter.unusedVariables false
set_option linter.unusedSimpArgs false

section
variable {w : World} {ops : Array Oper} {o : Oper} {a : Act} {K : Act → World → Prop} {Q : Exit → Act → World → Prop}
theorem run_build_found (T : TypeId) (y1 y2 : Operand) (ho : o.op = .build T #[(0, y1), (1, y2)]) (v1 v2 : Value) (h1 : a.eval y1 = v1) (h2 : a.eval y2 = v2) (fc : Array Value) (hb : Tryd.prog.built T [(0, v1), (1, v2)] = some fc) :
    (execOp a.eval o).run Tryd.prog w = .ok (.value (.agg fc)) w := by
  unfold execOp
  have hb' : Tryd.prog.built T (#[(0, v1), (1, v2)] : Array (Nat × Value)).toList = some fc := hb
  have := run_build (P := Tryd.prog) w T #[(0, v1), (1, v2)] fc hb'
  simp only [ho, Sem.run_bind, List.map_toArray, List.map_cons, List.map_nil, h1, h2, this, Result.andThen_ok]
  rfl
theorem wp_build_one (T e : TypeId) (y : Operand) (ho : o.op = .buildSlice T 1 #[(0, y)]) (d : Option Tmp) (hd : o.dst = d) (hu : Tryd.prog.underlying T = some (.slice e)) {z : Value} {by' k : Nat} (hk : 0 < k ∧ k ≤ 1000) (hi : (Tryd.prog.info? e).map (fun i => (i.zero, i.size, i.bytes)) = some (some z, k, by'))
    (v : Value) (hy : a.eval y = v) (fc : Array Value) (hb : Tryd.prog.builtSlice e 1 [(0, v)] = some fc) (h : K (a.put d (.slice (some ⟨w.heap.size, 0, none⟩) 1 1)) (w.alloc (.cells fc e))) : Oper.wp Tryd.prog o a w K Q := by
  obtain ⟨i, hii, hzz⟩ := Option.map_eq_some_iff.1 hi
  simp only [Prod.mk.injEq] at hzz
  obtain ⟨hz0, hs1, _⟩ := hzz
  obtain ⟨hk1, hk2⟩ := hk
  subst hd
  refine wp_buildSlice T e 1 _ ho fc i z hu hii hz0 (by rw [hs1, Nat.one_mul]; omega) (by rw [hs1]; omega) ?_ h
  unfold Program.builtSlice at hb
  simp only [hii, hz0] at hb
  rw [if_neg (by rw [hs1]; omega)] at hb
  rw [Array.toList_map]
  simp only [List.map_cons, List.map_nil, hy]
  exact hb
variable {w0 : World} {e : TypeId} {v : Value} {l : List (Nat × Rc)}
theorem wp_fd_append (h : Fd w0 e w v l) (T : TypeId) (z : Value) (by' : Nat) (hT : Tryd.prog.underlying T = some (.slice e)) (hi : (Tryd.prog.info? e).map (fun i => (i.zero, i.size, i.bytes)) = some (some z, 7, by')) (hz : z.cells.size = 7) (hby : by' ≤ 64)
    (d : Option Tmp) (hd : o.dst = d) (s y : Operand) (ho : o.op = .call { callee := .builtin .append, args := #[s, y], argTypes := #[T, T] }) (hs : a.eval s = v)
    (g c : Nat) (q : Nat × Rc) (hy : a.eval y = .slice (some ⟨g, 0, none⟩) 1 c) (hq : ∀ j u, (fcells q)[j]? = some u → w.cell? ⟨g, j, none⟩ = some u) (hl : l.length ≤ 100000000)
    (k : ∀ v' w', Hid (Fd w0 e w' v' (l ++ [q])) → K (a.put d v') w') : Oper.wp Tryd.prog o a w K Q := by
  obtain ⟨i, hii, hzz⟩ := Option.map_eq_some_iff.1 hi
  simp only [Prod.mk.injEq] at hzz
  obtain ⟨hz0, hs1, hb1⟩ := hzz
  subst hd
  refine wp_append_own w s y T ho w0.heap.size e i z 7 by' hT hii hz0 hs1 hb1 hz (by decide) v l.length (flat l) hs h.row ⟨g, 0, none⟩ 1 c (fcells q) hy (fcells_length q) ?_ (fcells_one q) (by unfold maxLen; omega) ?_ h.below.size ?_
  · intro j u hu
    have := hq j u hu
    rw [Addr.add_lit, Nat.zero_add]
    exact this
  · have : (l.length + 1) * by' ≤ (l.length + 1) * 64 := Nat.mul_le_mul_left _ hby
    omega
  · intro v' w' h1 h2 _
    refine k v' w' ⟨?_, own_below h.row h.below (Nat.le_refl _) h.below.size h2⟩
    rw [flat_snoc] at h1
    rw [List.length_append]
    exact h1
end
end Go.Proofs.YtcmlchicpmnhdaaDoor.Rec
/-
  Proved: what PutTenant of the reference returns: a new row with the tenant in its place.
-/
namespace Go.Proofs.YtcmlchicpmnhdaaDoor.Ten
open Go.RowKit Go.Proofs.YtcmlchicpmnhdaaDoor.Rec
set_option linter.unusedVariables false
set_option linter.unusedSimpArgs false

/-- Tenants so far: a row of the call's own. -/
structure Ts (w0 w : World) (v : Value) (l : List Tv) : Prop where
  row : w.ownsRow w0.heap.size 34 6 v l.length (tflat l)
  below : Below w0.heap.size w0 w
theorem Ts.nil (w : World) : Ts w w (.slice none 0 0) [] := ⟨World.ownsRow_nil _ _ _ _, Below.refl _ _⟩
theorem Ts.all {w0 w w' : World} {v : Value} {l : List Tv} (h : Ts w0 w v l) (hb : Below w.heap.size w w') : Ts w0 w' v l :=
  ⟨h.row.kept (row := none) ⟨hb.os, hb.tape, hb.output, hb.size, fun i hi _ => hb.block i hi⟩ (Classical.em _), h.below.trans (hb.mono h.below.size)⟩
theorem Ts.base {w w0 w' : World} {v : Value} {l : List Tv} (h : Ts w0 w' v l) (hb : Below w.heap.size w w0) : Ts w w' v l := by
  refine ⟨?_, hb.trans (h.below.mono hb.size)⟩
  rcases h.row.2 with ⟨h0, h1⟩ | ⟨g, cap, cur, hv, hg0, hr⟩
  · exact ⟨h.row.1, .inl ⟨h0, h1⟩⟩
  · exact ⟨h.row.1, .inr ⟨g, cap, cur, hv, Nat.le_trans hb.size hg0, hr⟩⟩
theorem ten_zeros : (Tryd.prog.info? 34).map (fun i => (i.zero, i.size, i.bytes)) = some (some (.agg #[.int .u32 0, .int .u64 0, .int .i64 0, .int .u64 0, .int .i64 0, .slice none 0 0]), 6, 64) := by kernel_rfl
theorem slice_ten (x : Tv) : Tryd.prog.builtSlice 34 1 [(0, .agg x.vals)] = some x.vals := by kernel_rfl
theorem ten_cells1 (w : World) (t : TypeId) (fr : Nat × Nat) (x : Tv) : ∀ j u, x.vals.toList[j]? = some u → (w.alloc (.cells x.vals t fr)).cell? ⟨w.heap.size, j, none⟩ = some u := by
  intro j u hu
  rw [cell_of_row _ w.heap.size j x.vals t fr (heap_alloc_new w _), ← Array.getElem?_toList]
  exact hu
section
variable {t x : Tv} {l : List Tv}
theorem step_tr_eq (h : True) (e : x.te.id = t.te.id) : putTv t true (x :: l) = putTv t true l := by simp [putTv, e]
theorem step_tr_ne (h : True) (e : ¬ x.te.id = t.te.id) : putTv t true (x :: l) = x :: putTv t true l := by simp [putTv, e]
theorem step_le_eq (h : t.te.id ≤ x.te.id) (e : x.te.id = t.te.id) : putTv t false (x :: l) = t :: putTv t true l := by simp [putTv, e]
theorem step_le_ne (h : t.te.id ≤ x.te.id) (e : ¬ x.te.id = t.te.id) : putTv t false (x :: l) = t :: x :: putTv t true l := by simp [putTv, e, h]
theorem step_no_eq (h : ¬ t.te.id ≤ x.te.id) (e : x.te.id = t.te.id) : putTv t false (x :: l) = putTv t false l := absurd (Nat.le_of_eq e.symm) h
theorem step_no_ne (h : ¬ t.te.id ≤ x.te.id) (e : ¬ x.te.id = t.te.id) : putTv t false (x :: l) = x :: putTv t false l := by simp [putTv, e, h]
end
section
variable {w0 w : World} {v : Value} {l : List Tv} {ops : Array Oper} {rest : List Oper} {o : Oper} {a : Act} {Q : Exit → Act → World → Prop}
theorem ts_append (h : Ts w0 w v l) (hgd : o.guard = none) (s y : Operand) (ho : o.op = .call { callee := .builtin .append, args := #[s, y], argTypes := #[38, 38] }) (hs : a.eval s = v)
    (g c : Nat) (x : Tv) (hy : a.eval y = .slice (some ⟨g, 0, none⟩) 1 c) (hq : ∀ j u, x.vals.toList[j]? = some u → w.cell? ⟨g, j, none⟩ = some u) (hl : l.length ≤ 1000000)
    (k : ∀ v' w', Hid (Ts w0 w' v' (l ++ [x])) → wpList Tryd.prog ops Q rest (a.put o.dst v') w') : wpList Tryd.prog ops Q (o :: rest) a w := by
  obtain ⟨i, hii, hzz⟩ := Option.map_eq_some_iff.1 ten_zeros
  simp only [Prod.mk.injEq] at hzz
  obtain ⟨hz0, hs1, hb1⟩ := hzz
  refine wpList_append_own (w := w) hgd s y 38 ho w0.heap.size 34 i _ 6 64 Tryd.underlying38 hii hz0 hs1 hb1 rfl (by decide) v l.length (tflat l) hs h.row ⟨g, 0, none⟩ 1 c x.vals.toList hy (tcells_length x) ?_ (tcells_one x) (by unfold maxLen; omega) ?_ h.below.size ?_
  · intro j u hu
    have := hq j u hu
    rw [Addr.add_lit, Nat.zero_add]
    exact this
  · omega
  · intro v' w' h1 h2 _
    refine k v' w' ⟨?_, own_below h.row h.below (Nat.le_refl _) h.below.size h2⟩
    rw [tflat_snoc] at h1
    rw [List.length_append]
    exact h1
theorem build_oneTen (hg : o.guard = none) (y : Operand) (ho : o.op = .buildSlice 38 1 #[(0, y)]) (d : Option Tmp) (hd : o.dst = d) (x : Tv) (hy : a.eval y = .agg x.vals)
    (k : wpList Tryd.prog ops Q rest (a.put d (.slice (some ⟨w.heap.size, 0, none⟩) 1 1)) (w.alloc (.cells x.vals 34))) : wpList Tryd.prog ops Q (o :: rest) a w :=
  build_one hg 38 34 y ho d hd Tryd.underlying38 (.agg x.vals) hy x.vals (slice_ten x) k
end
end Go.Proofs.YtcmlchicpmnhdaaDoor.Ten
/-
  Proved: what take of package manifest's reader returns, and how the reader stands behind it.
-/
namespace Go.Proofs.YtcmlchicpmnhdaaDoor.Man
open Go.RowKit Go.Proofs.YtcmlchicpmnhdaaDoor.Rec Go.Proofs.YtcmlchicpmnhdaaDoor.Ten
set_option linter.unusedVariables false
set_option linter.unusedSimpArgs false

/-- A reader in its block; what it has to read lies below B. -/
structure RdAt (w : World) (B g : Nat) (r : Rd) : Prop where
  ex : ∃ A n c, Blk w g 73 #[.slice A n c, .bool r.short] ∧ Row w B A n (bvs r.rest) ∧ n ≤ c ∧ c ≤ maxLen
  ge : B ≤ g
theorem RdAt.lt {w : World} {B g : Nat} {r : Rd} (h : RdAt w B g r) : g < w.heap.size := by
  obtain ⟨A, n, c, hb, _⟩ := h.ex
  exact blk_lt hb
theorem RdAt.kept {w w' : World} {B g : Nat} {r : Rd} {row : Option Nat} (h : RdAt w B g r) (hg : w.grownBy w' row) (hne : some g ≠ row) (hB : ∀ k, row = some k → B ≤ k) : RdAt w' B g r := by
  have hlt := h.lt
  have hge := h.ge
  obtain ⟨A, n, c, hb, hr, h1, h2⟩ := h.ex
  refine ⟨⟨A, n, c, blk_kept hb hg hne, hr.keep fun b o hlb => ?_, h1, h2⟩, h.ge⟩
  refine World.cell?_of_block (a := ⟨b, o, none⟩) (hg.block b (by omega) ?_)
  intro e
  have := hB b e.symm
  omega
theorem RdAt.all {w w' : World} {B g : Nat} {r : Rd} (h : RdAt w B g r) (hb : Below w.heap.size w w') : RdAt w' B g r :=
  h.kept (row := none) ⟨hb.os, hb.tape, hb.output, hb.size, fun i hi _ => hb.block i hi⟩ (by simp) (fun k e => by cases e)
theorem nat_int {a b : Nat} (h : a = b) : Value.int .u64 (a : Int) = .int .u64 (b : Int) := by rw [h]
set_option maxRecDepth 100000 in
set_option maxHeartbeats 4000000 in
theorem take_any {w : World} {B g : Nat} {r : Rd} (h : RdAt w B g r) (k : Nat) (K : Int) (hK : K = (k : Int)) (hk : 1 ≤ k ∧ k ≤ 8) :
    Calls Tryd.prog 33 #[.pointer (some ⟨g, 0, none⟩), .int .i64 K] w fun e w' => e = .returned (.int .u64 (r.val k : Int)) ∧ Hid (RdAt w' B g (r.next k)) ∧ Hid (w.grownBy w' (some g)) := by
  subst hK
  obtain ⟨A, n, c, hb, hr, hnc, hc⟩ := h.ex
  have hge := h.ge
  have hn : r.rest.length = n := hr.size
  have HBLK := Lib.hid hb
  have c0 : w.cell? ⟨g, 0, none⟩ = some (.slice A n c) := Blk.cell hb 0
  have f0 := Blk.free hb 0
  have f1 := Blk.free hb 1
  have c1 : w.cell? ⟨g, 1, none⟩ = some (.bool r.short) := Blk.cell hb 1
  have hcm : c ≤ 9223372036854775807 := by unfold maxLen at hc; exact hc
  have HR := Lib.hid hr
  have HC := Lib.hid hc
  have HN := Lib.hid hn
  have HGE := Lib.hid hge
  by_cases hlt : n < k
  · have hlt' : (n : Int) < (k : Int) := by omega
    have HV : Hid (r.val k = 0) := by
      have : r.val k = 0 := by unfold Rd.val; rw [if_pos (by omega)]
      exact this
    have HX : Hid (r.next k = ⟨r.rest, true⟩) := by
      have : r.next k = ⟨r.rest, true⟩ := by unfold Rd.next; rw [if_pos (by omega)]
      exact this
    obtain ⟨w1, hw1⟩ : ∃ w1, w1 = w.setCell ⟨g, 1, none⟩ (.bool true) := ⟨_, rfl⟩
    have HW1 := Lib.hid hw1
    clear h hb hr hn hc hge hw1
    go_enter Tryd.func33, Tryd.ntmps33
    go_wp2_with fail
    go_ret
    refine ⟨by rw [HV.out]; rfl, ?_, only_setCell w ⟨g, 1, none⟩ _⟩
    rw [HX.out]
    refine Lib.hid ⟨⟨A, n, c, Blk.put HBLK.out 1 _, HR.out.keep fun b o hlb => ?_, hnc, HC.out⟩, HGE.out⟩
    exact World.cell?_of_block (a := ⟨b, o, none⟩) ((only_setCell w ⟨g, 1, none⟩ (.bool true)).block b (by have := blk_lt HBLK.out; have := HGE.out; omega) (fun e => by injection e with e; dsimp only at e; have := HGE.out; omega))
  · have hlt' : ¬ (n : Int) < (k : Int) := by omega
    obtain ⟨b, o, rfl, hbB, _⟩ := hr.2 (by omega)
    obtain ⟨P, hP⟩ : ∃ P, (if c = k then some (⟨b, o, none⟩ : Addr) else some ⟨b, o + k, none⟩) = P := ⟨_, rfl⟩
    have hrow := row_upto hr (p := k) (by omega) hnc hP
    have HROW := Lib.hid hrow
    have hcut : Row w B (some ⟨b, o, none⟩) k (bvs (r.rest.take k)) := by have := hr.take (k := k) (by omega); rwa [bvs_take] at this
    have CG := Lib.hid (get_any (some ⟨b, o, none⟩) k c B (r.rest.take k) w hcut hk.2 (by omega) hc)
    obtain ⟨V, hV⟩ : ∃ V, V = beN (r.rest.take k) := ⟨_, rfl⟩
    rw [← hV] at CG
    have HV : Hid (r.val k = V) := by
      have : r.val k = V := by unfold Rd.val; rw [if_neg (by omega), hV]
      exact this
    have HX : Hid (r.next k = ⟨r.rest.drop k, r.short⟩) := by
      have : r.next k = ⟨r.rest.drop k, r.short⟩ := by unfold Rd.next; rw [if_neg (by omega)]
      exact this
    have hkn : k ≤ n := by omega
    have hkc : k ≤ c := by omega
    have hkI : (k : Int) ≤ (n : Int) := by omega
    clear h hb hr hn hc hge hrow hcut hV hlt
    go_enter Tryd.func33, Tryd.ntmps33
    go_wp2_with (go_at_call 54; (with_reducible refine CG.out.mono ?_); rintro e w' ⟨rfl, rfl⟩)
    go_ret
    refine ⟨by rw [HV.out]; rfl, ?_, only_setCell w ⟨g, 0, none⟩ _⟩
    rw [HX.out]
    refine Lib.hid ⟨⟨P, n - k, c - k, Blk.put HBLK.out 0 _, HROW.out.keep fun b o hlb => ?_, by omega, by have := HC.out; omega⟩, HGE.out⟩
    exact World.cell?_of_block (a := ⟨b, o, none⟩) ((only_setCell w ⟨g, 0, none⟩ (.slice P (n - k) (c - k))).block b (by have := blk_lt HBLK.out; have := HGE.out; omega) (fun e => by injection e with e; dsimp only at e; have := HGE.out; omega))
end Go.Proofs.YtcmlchicpmnhdaaDoor.Man
