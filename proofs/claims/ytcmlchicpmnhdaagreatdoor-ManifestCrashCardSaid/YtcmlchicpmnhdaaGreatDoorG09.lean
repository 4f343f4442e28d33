/-
  Texts one behind the other: Draw, ScanDraw.
-/
import Derived.RegionTactic
import Derived.Deep.RegionHeld3
import Derived.ArgAppend
import Derived.Test.YtcmlchicpmnhdaaGreatDoorG03
import Derived.Test.YtcmlchicpmnhdaaGreatDoorG05
import Derived.Test.YtcmlchicpmnhdaaGreatDoorG07
/-
  A region that draws its order, walked by hand: the one operation that may come next; loads of whole arrays taken first under a condition on the world; appends onto a row of the call's own.
-/
namespace Go.Proofs.YtcmlchicpmnhdaaGreatDoor
open Go.RowKit
set_option linter.unusedVariables false
set_option linter.unusedSimpArgs false
variable {P : Program} {ops : Array Oper} {Q : Exit → Act → World → Prop} {md : Region.Mode}

/-- The one operation that may come next, without a guard. -/
theorem any_one (i : Nat) {o : Oper} {fuel : Nat} {listed : Array Bool} {a : Act} {w : World} (ho : ops[i]? = some o) (hr : Region.ready md ops listed = [i]) (hg : o.guard = none)
    (h : ∀ K : Act → World → Prop, (∀ a w, wpAny P md ops Q fuel (listed.setIfInBounds i true) a w → K a w) → Oper.wp P o a w K Q) : wpAny P md ops Q (fuel + 1) listed a w := by
  refine wpAny_ready hr (by simp) (AllReady.cons ho (fun K hK => ?_) AllReady.nil)
  have hw : Region.wanted o (yielded ops a.tmps) = true := by simp [Region.wanted, hg]
  rw [if_pos hw]
  exact h K hK
/-- A load of a value of several parts. -/
theorem any_load (i : Nat) {o : Oper} {fuel : Nat} {listed : Array Bool} {a : Act} {w : World} (ho : ops[i]? = some o) (hr : Region.ready md ops listed = [i]) (hg : o.guard = none) (ty : TypeId) (x : Operand) (hop : o.op = .load ty x)
    (g : Nat) (hx : a.eval x = .pointer (some ⟨g, 0, none⟩)) (t : TypeId) (cs : Array Value) (hb : Blk w g t cs) {n : Nat} {e : TypeId} (hu : P.underlying ty = some (.array n e)) (hi : (P.info? ty).map (·.size) = some cs.size)
    (h : wpAny P md ops Q fuel (listed.setIfInBounds i true) (a.put o.dst (.agg cs)) w) : wpAny P md ops Q (fuel + 1) listed a w :=
  any_one i ho hr hg fun _ hK => wp_load_row ty x hop g hx t cs (0, 0) _ hb hu rfl hi (hK _ _ h)
/-- A store of a value of several parts. -/
theorem any_store (i : Nat) {o : Oper} {fuel : Nat} {listed : Array Bool} {a : Act} {w : World} (ho : ops[i]? = some o) (hr : Region.ready md ops listed = [i]) (hg : o.guard = none) (ty : TypeId) (x y : Operand) (hop : o.op = .store ty x y)
    (g : Nat) (cells : Array Value) (hx : a.eval x = .pointer (some ⟨g, 0, none⟩)) (hy : a.eval y = .agg cells) (t : TypeId) (old : Array Value) (hb : Blk w g t old) (hi : (P.info? ty).map (·.size) = some cells.size)
    (hold : old.size = cells.size) (h1 : cells.all (·.oneCell') = true)
    (h : ∀ w', Hid (Blk w' g t cells) → Hid (w.grownBy w' (some g)) → wpAny P md ops Q fuel (listed.setIfInBounds i true) (a.put o.dst undef) w') : wpAny P md ops Q (fuel + 1) listed a w :=
  any_one i ho hr hg fun _ hK => wp_store_row ty x y hop g cells hx hy t old hb hi hold h1 (hK _ _ (h _ (setRow_heap w g old cells t (0, 0) hb) (only_setRow w g cells)))
/-- An operation is taken first, its slot named. -/
theorem held_take (i : Nat) {oi : Oper} {v : Value} {d : Option Tmp} {S : World → Prop} {fuel : Nat} {listed : Array Bool} {a : Act} {w : World} (hi : ops[i]? = some oi) (hd : oi.dst = d)
    (hs : Region.noSelect ops = true) (hf : Region.free md ops listed i = true) (hr : (Region.ready md ops listed).contains i = true)
    (hQ : ∀ c a w, Q (.panic c) (a.put d v) w → Q (.panic c) a w) (hy : YieldsIf P ops S oi v a) (hS : S w)
    (h : wpAnyH P md ops Q S fuel (listed.setIfInBounds i true) (a.put d v) w) : wpAnyH P md ops Q S (fuel + 1) listed a w := by
  subst hd
  exact wpAnyH_take hi hs hf hr hQ hy hS h
/-- Append onto a row of the call's own, in a region that draws, where the operation is wanted. -/
theorem want_append_own {P : Program} {ops : Array Oper} {o : Oper} {a : Act} {w : World} {K : Act → World → Prop} {Q : Exit → Act → World → Prop} {E : Prop} {d : Option Tmp} (hw : Region.wanted o (yielded ops a.tmps) = true) (s x : Operand) (t : TypeId)
    (hd : o.dst = d) (ho : o.op = Op.call { callee := Callee.builtin Builtin.append, args := #[s, x], argTypes := #[t, t] })
    (base : Nat) (e : TypeId) (z : Value) (bytes : Nat) (ht : P.underlying t = some (.slice e)) (hinfo : (P.info? e).map (fun i => (i.zero, i.size, i.bytes)) = some (some z, 1, bytes)) (hz1 : z.cells = #[z])
    (v : Value) (n : Nat) (xs : List Value) (hs : a.eval s = v) (hown : w.ownsRow base e 1 v n xs)
    (ad : Addr) (m c : Nat) (news : List Value) (hx : a.eval x = .slice (some ad) m c) (hl : news.length = m) (hnews : ∀ j u, news[j]? = some u → w.cell? (ad.add j) = some u) (h1 : ∀ u ∈ news, u.oneCell' = true)
    (h63 : n + m ≤ maxLen) (hbytes : (n + m) * bytes ≤ 140737488355328) (hbase : base ≤ w.heap.size)
    (hK : ∀ v' w', Hid (w'.ownsRow base e 1 v' (n + m) (xs ++ news)) → Hid (w.grownBy w' v.ownBlock) → K (a.put d v') w') :
    if Region.wanted o (yielded ops a.tmps) = true then Oper.wp P o a w K Q else E := by
  subst hd
  rw [if_pos hw]
  obtain ⟨i, hi, hzz⟩ := Option.map_eq_some_iff.1 hinfo
  simp only [Prod.mk.injEq] at hzz
  obtain ⟨hz0, hs1, hb1⟩ := hzz
  exact wp_append_own w s x t ho base e i z 1 bytes ht hi hz0 hs1 hb1 (by rw [hz1]; rfl) (by decide) v n xs hs hown ad m c news hx (by rw [hl, Nat.mul_one]) hnews h1 h63 hbytes hbase fun v' w' h2 h3 _ => hK v' w' h2 h3
/-- Append onto a full slice, in a region that draws, where the operation is wanted: a new row. -/
theorem want_append_grows {P : Program} {ops : Array Oper} {o : Oper} {a : Act} {w : World} {K : Act → World → Prop} {Q : Exit → Act → World → Prop} {E : Prop} {d : Option Tmp} (hw : Region.wanted o (yielded ops a.tmps) = true) (s x : Operand) (t : TypeId)
    (hd : o.dst = d) (ho : o.op = Op.call { callee := Callee.builtin Builtin.append, args := #[s, x], argTypes := #[t, t] })
    (e : TypeId) (z : Value) (bytes : Nat) (ht : P.underlying t = some (.slice e)) (hinfo : (P.info? e).map (fun i => (i.zero, i.size, i.bytes)) = some (some z, 1, bytes)) (hz1 : z.cells = #[z])
    (b : Addr) (n cap : Nat) (olds : List Value) (hs : a.eval s = .slice (some b) n cap) (hlo : olds.length = n) (holds : ∀ j u, olds[j]? = some u → w.cell? (b.add j) = some u)
    (ad : Addr) (m c : Nat) (news : List Value) (hx : a.eval x = .slice (some ad) m c) (hl : news.length = m) (hnews : ∀ j u, news[j]? = some u → w.cell? (ad.add j) = some u)
    (hfull : cap < n + m) (h63 : n + m ≤ maxLen) (hbytes : (n + m) * bytes ≤ 140737488355328)
    (hK : ∀ v' w', Hid (w'.ownsRow w.heap.size e 1 v' (n + m) (olds ++ news)) → Hid (w.grownBy w' none) → K (a.put d v') w') :
    if Region.wanted o (yielded ops a.tmps) = true then Oper.wp P o a w K Q else E := by
  subst hd
  rw [if_pos hw]
  obtain ⟨i, hi, hzz⟩ := Option.map_eq_some_iff.1 hinfo
  simp only [Prod.mk.injEq] at hzz
  obtain ⟨hz0, hs1, hb1⟩ := hzz
  obtain ⟨v', w', hrun, r1, r2⟩ := run_append_arg_grows (P := P) w t o.type e i z 1 bytes ht hi hz0 hs1 hb1 (by rw [hz1]; rfl) (by decide) b n cap olds (by rw [hlo, Nat.mul_one]) holds ad m c news (by rw [hl, Nat.mul_one]) hnews hfull h63 hbytes
  unfold Oper.wp
  simp [execOp, ho, resolve, invoke, builtin, hs, hx, hrun, Result.andThen]
  exact hK v' w' r1 r2
theorem row_news {w : World} {B n : Nat} {ad : Addr} {vs : List Value} (h : Row w B (some ad) n vs) : ∀ j u, vs[j]? = some u → w.cell? (ad.add j) = some u := by
  intro j u hu
  have hj : j < vs.length := (List.getElem?_eq_some_iff.1 hu).1
  obtain ⟨b, o, e, _, hc⟩ := h.2 (by rw [← h.1]; omega)
  obtain rfl := Option.some.inj e
  have := hc j u hu
  unfold Addr.add
  split
  · rename_i h0; subst h0; exact this
  · exact this

end Go.Proofs.YtcmlchicpmnhdaaGreatDoor
/-
  Laws for regions that draw: a struct is built, a slice of one is made, one more is appended to the records found.
-/
namespace Go.Proofs.YtcmlchicpmnhdaaGreatDoor.Rec
open Go.RowKit
set_option linter.unusedVariables false
set_option linter.unusedSimpArgs false

section
variable {w : World} {ops : Array Oper} {o : Oper} {a : Act} {K : Act → World → Prop} {Q : Exit → Act → World → Prop}
theorem run_build_found (T : TypeId) (y1 y2 : Operand) (ho : o.op = .build T #[(0, y1), (1, y2)]) (v1 v2 : Value) (h1 : a.eval y1 = v1) (h2 : a.eval y2 = v2) (fc : Array Value) (hb : Tryz.prog.built T [(0, v1), (1, v2)] = some fc) :
    (execOp a.eval o).run Tryz.prog w = .ok (.value (.agg fc)) w := by
  unfold execOp
  have hb' : Tryz.prog.built T (#[(0, v1), (1, v2)] : Array (Nat × Value)).toList = some fc := hb
  have := run_build (P := Tryz.prog) w T #[(0, v1), (1, v2)] fc hb'
  simp only [ho, Sem.run_bind, List.map_toArray, List.map_cons, List.map_nil, h1, h2, this, Result.andThen_ok]
  rfl
theorem wp_build_one (T e : TypeId) (y : Operand) (ho : o.op = .buildSlice T 1 #[(0, y)]) (d : Option Tmp) (hd : o.dst = d) (hu : Tryz.prog.underlying T = some (.slice e)) {z : Value} {by' k : Nat} (hk : 0 < k ∧ k ≤ 1000) (hi : (Tryz.prog.info? e).map (fun i => (i.zero, i.size, i.bytes)) = some (some z, k, by'))
    (v : Value) (hy : a.eval y = v) (fc : Array Value) (hb : Tryz.prog.builtSlice e 1 [(0, v)] = some fc) (h : K (a.put d (.slice (some ⟨w.heap.size, 0, none⟩) 1 1)) (w.alloc (.cells fc e))) : Oper.wp Tryz.prog o a w K Q := by
  obtain ⟨i, hii, hzz⟩ := Option.map_eq_some_iff.1 hi
  simp only [Prod.mk.injEq] at hzz
  obtain ⟨hz0, hs1, _⟩ := hzz
  obtain ⟨hk1, hk2⟩ := hk
  subst hd
  refine wp_buildSlice T e 1 _ ho fc i z hu hii hz0 (by rw [hs1, Nat.one_mul]; omega) (by rw [hs1]; omega) ?_ h
  unfold Program.builtSlice at hb
  simp only [hii, hz0] at hb
  rw [if_neg (by rw [hs1]; omega)] at hb
  rw [Array.toList_map]
  simp only [List.map_cons, List.map_nil, hy]
  exact hb
variable {w0 : World} {e : TypeId} {v : Value} {l : List (Nat × Rc)}
theorem wp_fd_append (h : Fd w0 e w v l) (T : TypeId) (z : Value) (by' : Nat) (hT : Tryz.prog.underlying T = some (.slice e)) (hi : (Tryz.prog.info? e).map (fun i => (i.zero, i.size, i.bytes)) = some (some z, 7, by')) (hz : z.cells.size = 7) (hby : by' ≤ 64)
    (d : Option Tmp) (hd : o.dst = d) (s y : Operand) (ho : o.op = .call { callee := .builtin .append, args := #[s, y], argTypes := #[T, T] }) (hs : a.eval s = v)
    (g c : Nat) (q : Nat × Rc) (hy : a.eval y = .slice (some ⟨g, 0, none⟩) 1 c) (hq : ∀ j u, (fcells q)[j]? = some u → w.cell? ⟨g, j, none⟩ = some u) (hl : l.length ≤ 100000000)
    (k : ∀ v' w', Hid (Fd w0 e w' v' (l ++ [q])) → K (a.put d v') w') : Oper.wp Tryz.prog o a w K Q := by
  obtain ⟨i, hii, hzz⟩ := Option.map_eq_some_iff.1 hi
  simp only [Prod.mk.injEq] at hzz
  obtain ⟨hz0, hs1, hb1⟩ := hzz
  subst hd
  refine wp_append_own w s y T ho w0.heap.size e i z 7 by' hT hii hz0 hs1 hb1 hz (by decide) v l.length (flat l) hs h.row ⟨g, 0, none⟩ 1 c (fcells q) hy (fcells_length q) ?_ (fcells_one q) (by unfold maxLen; omega) ?_ h.below.size ?_
  · intro j u hu
    have := hq j u hu
    rw [Addr.add_lit, Nat.zero_add]
    exact this
  · have : (l.length + 1) * by' ≤ (l.length + 1) * 64 := Nat.mul_le_mul_left _ hby
    omega
  · intro v' w' h1 h2 _
    refine k v' w' ⟨?_, own_below h.row h.below (Nat.le_refl _) h.below.size h2⟩
    rw [flat_snoc] at h1
    rw [List.length_append]
    exact h1
end
end Go.Proofs.YtcmlchicpmnhdaaGreatDoor.Rec
