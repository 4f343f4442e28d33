/-
  Texts one behind the other: Draw, RecRefDec3, ScanMath, ScanRow, ScanBuilt, ScanCom, MixSlot.
-/
import Derived.RegionTactic
import Derived.Deep.RegionHeld3
import Derived.ArgAppend
import Derived.Deep.Onto
import Derived.Great.Walk
import Derived.Great.BuildSlice
import Derived.Test.YtbljdcdcnnidkaaDoorG02
import Derived.Test.YtbljdcdcnnidkaaDoorG03
import Derived.Test.YtbljdcdcnnidkaaDoorG04
import Derived.Test.YtbljdcdcnnidkaaDoorG05
/-
  A region that draws its order, walked by hand: the one operation that may come next; loads of whole arrays taken first under a condition on the world; appends onto a row of the call's own.
-/
namespace Go.Proofs.YtbljdcdcnnidkaaDoor
open Go.RowKit
set_option linter.unusedVariables false
set_option linter.unusedSimpArgs false
variable {P : Program} {ops : Array Oper} {Q : Exit → Act → World → Prop} {md : Region.Mode}

/-- The one operation that may come next, without a guard. -/
theorem any_one (i : Nat) {o : Oper} {fuel : Nat} {listed : Array Bool} {a : Act} {w : World} (ho : ops[i]? = some o) (hr : Region.ready md ops listed = [i]) (hg : o.guard = none)
    (h : ∀ K : Act → World → Prop, (∀ a w, wpAny P md ops Q fuel (listed.setIfInBounds i true) a w → K a w) → Oper.wp P o a w K Q) : wpAny P md ops Q (fuel + 1) listed a w := by
  refine wpAny_ready hr (by simp) (AllReady.cons ho (fun K hK => ?_) AllReady.nil)
  have hw : Region.wanted o (yielded ops a.tmps) = true := by simp [Region.wanted, hg]
  rw [if_pos hw]
  exact h K hK
/-- A load of a value of several parts. -/
theorem any_load (i : Nat) {o : Oper} {fuel : Nat} {listed : Array Bool} {a : Act} {w : World} (ho : ops[i]? = some o) (hr : Region.ready md ops listed = [i]) (hg : o.guard = none) (ty : TypeId) (x : Operand) (hop : o.op = .load ty x)
    (g : Nat) (hx : a.eval x = .pointer (some ⟨g, 0, none⟩)) (t : TypeId) (cs : Array Value) (hb : Blk w g t cs) {n : Nat} {e : TypeId} (hu : P.underlying ty = some (.array n e)) (hi : (P.info? ty).map (·.size) = some cs.size)
    (h : wpAny P md ops Q fuel (listed.setIfInBounds i true) (a.put o.dst (.agg cs)) w) : wpAny P md ops Q (fuel + 1) listed a w :=
  any_one i ho hr hg fun _ hK => wp_load_row ty x hop g hx t cs (0, 0) _ hb hu rfl hi (hK _ _ h)
/-- A store of a value of several parts. -/
theorem any_store (i : Nat) {o : Oper} {fuel : Nat} {listed : Array Bool} {a : Act} {w : World} (ho : ops[i]? = some o) (hr : Region.ready md ops listed = [i]) (hg : o.guard = none) (ty : TypeId) (x y : Operand) (hop : o.op = .store ty x y)
    (g : Nat) (cells : Array Value) (hx : a.eval x = .pointer (some ⟨g, 0, none⟩)) (hy : a.eval y = .agg cells) (t : TypeId) (old : Array Value) (hb : Blk w g t old) (hi : (P.info? ty).map (·.size) = some cells.size)
    (hold : old.size = cells.size) (h1 : cells.all (·.oneCell') = true)
    (h : ∀ w', Hid (Blk w' g t cells) → Hid (w.grownBy w' (some g)) → wpAny P md ops Q fuel (listed.setIfInBounds i true) (a.put o.dst undef) w') : wpAny P md ops Q (fuel + 1) listed a w :=
  any_one i ho hr hg fun _ hK => wp_store_row ty x y hop g cells hx hy t old hb hi hold h1 (hK _ _ (h _ (setRow_heap w g old cells t (0, 0) hb) (only_setRow w g cells)))
/-- An operation is taken first, its slot named. -/
theorem held_take (i : Nat) {oi : Oper} {v : Value} {d : Option Tmp} {S : World → Prop} {fuel : Nat} {listed : Array Bool} {a : Act} {w : World} (hi : ops[i]? = some oi) (hd : oi.dst = d)
    (hs : Region.noSelect ops = true) (hf : Region.free md ops listed i = true) (hr : (Region.ready md ops listed).contains i = true)
    (hQ : ∀ c a w, Q (.panic c) (a.put d v) w → Q (.panic c) a w) (hy : YieldsIf P ops S oi v a) (hS : S w)
    (h : wpAnyH P md ops Q S fuel (listed.setIfInBounds i true) (a.put d v) w) : wpAnyH P md ops Q S (fuel + 1) listed a w := by
  subst hd
  exact wpAnyH_take hi hs hf hr hQ hy hS h
/-- Append onto a row of the call's own, in a region that draws, where the operation is wanted. -/
theorem want_append_own {P : Program} {ops : Array Oper} {o : Oper} {a : Act} {w : World} {K : Act → World → Prop} {Q : Exit → Act → World → Prop} {E : Prop} {d : Option Tmp} (hw : Region.wanted o (yielded ops a.tmps) = true) (s x : Operand) (t : TypeId)
    (hd : o.dst = d) (ho : o.op = Op.call { callee := Callee.builtin Builtin.append, args := #[s, x], argTypes := #[t, t] })
    (base : Nat) (e : TypeId) (z : Value) (bytes : Nat) (ht : P.underlying t = some (.slice e)) (hinfo : (P.info? e).map (fun i => (i.zero, i.size, i.bytes)) = some (some z, 1, bytes)) (hz1 : z.cells = #[z])
    (v : Value) (n : Nat) (xs : List Value) (hs : a.eval s = v) (hown : w.ownsRow base e 1 v n xs)
    (ad : Addr) (m c : Nat) (news : List Value) (hx : a.eval x = .slice (some ad) m c) (hl : news.length = m) (hnews : ∀ j u, news[j]? = some u → w.cell? (ad.add j) = some u) (h1 : ∀ u ∈ news, u.oneCell' = true)
    (h63 : n + m ≤ maxLen) (hbytes : (n + m) * bytes ≤ 140737488355328) (hbase : base ≤ w.heap.size)
    (hK : ∀ v' w', Hid (w'.ownsRow base e 1 v' (n + m) (xs ++ news)) → Hid (w.grownBy w' v.ownBlock) → K (a.put d v') w') :
    if Region.wanted o (yielded ops a.tmps) = true then Oper.wp P o a w K Q else E := by
  subst hd
  rw [if_pos hw]
  obtain ⟨i, hi, hzz⟩ := Option.map_eq_some_iff.1 hinfo
  simp only [Prod.mk.injEq] at hzz
  obtain ⟨hz0, hs1, hb1⟩ := hzz
  exact wp_append_own w s x t ho base e i z 1 bytes ht hi hz0 hs1 hb1 (by rw [hz1]; rfl) (by decide) v n xs hs hown ad m c news hx (by rw [hl, Nat.mul_one]) hnews h1 h63 hbytes hbase fun v' w' h2 h3 _ => hK v' w' h2 h3
/-- Append onto a full slice, in a region that draws, where the operation is wanted: a new row. -/
theorem want_append_grows {P : Program} {ops : Array Oper} {o : Oper} {a : Act} {w : World} {K : Act → World → Prop} {Q : Exit → Act → World → Prop} {E : Prop} {d : Option Tmp} (hw : Region.wanted o (yielded ops a.tmps) = true) (s x : Operand) (t : TypeId)
    (hd : o.dst = d) (ho : o.op = Op.call { callee := Callee.builtin Builtin.append, args := #[s, x], argTypes := #[t, t] })
    (e : TypeId) (z : Value) (bytes : Nat) (ht : P.underlying t = some (.slice e)) (hinfo : (P.info? e).map (fun i => (i.zero, i.size, i.bytes)) = some (some z, 1, bytes)) (hz1 : z.cells = #[z])
    (b : Addr) (n cap : Nat) (olds : List Value) (hs : a.eval s = .slice (some b) n cap) (hlo : olds.length = n) (holds : ∀ j u, olds[j]? = some u → w.cell? (b.add j) = some u)
    (ad : Addr) (m c : Nat) (news : List Value) (hx : a.eval x = .slice (some ad) m c) (hl : news.length = m) (hnews : ∀ j u, news[j]? = some u → w.cell? (ad.add j) = some u)
    (hfull : cap < n + m) (h63 : n + m ≤ maxLen) (hbytes : (n + m) * bytes ≤ 140737488355328)
    (hK : ∀ v' w', Hid (w'.ownsRow w.heap.size e 1 v' (n + m) (olds ++ news)) → Hid (w.grownBy w' none) → K (a.put d v') w') :
    if Region.wanted o (yielded ops a.tmps) = true then Oper.wp P o a w K Q else E := by
  subst hd
  rw [if_pos hw]
  obtain ⟨i, hi, hzz⟩ := Option.map_eq_some_iff.1 hinfo
  simp only [Prod.mk.injEq] at hzz
  obtain ⟨hz0, hs1, hb1⟩ := hzz
  obtain ⟨v', w', hrun, r1, r2⟩ := run_append_arg_grows (P := P) w t o.type e i z 1 bytes ht hi hz0 hs1 hb1 (by rw [hz1]; rfl) (by decide) b n cap olds (by rw [hlo, Nat.mul_one]) holds ad m c news (by rw [hl, Nat.mul_one]) hnews hfull h63 hbytes
  unfold Oper.wp
  simp [execOp, ho, resolve, invoke, builtin, hs, hx, hrun, Result.andThen]
  exact hK v' w' r1 r2
theorem row_news {w : World} {B n : Nat} {ad : Addr} {vs : List Value} (h : Row w B (some ad) n vs) : ∀ j u, vs[j]? = some u → w.cell? (ad.add j) = some u := by
  intro j u hu
  have hj : j < vs.length := (List.getElem?_eq_some_iff.1 hu).1
  obtain ⟨b, o, e, _, hc⟩ := h.2 (by rw [← h.1]; omega)
  obtain rfl := Option.some.inj e
  have := hc j u hu
  unfold Addr.add
  split
  · rename_i h0; subst h0; exact this
  · exact this

end Go.Proofs.YtbljdcdcnnidkaaDoor
/-
  Proved: what the reference's Decode returns of a whole head whose mark and kind are right.
  Conditions: the slice reads as bytes.
-/
namespace Go.Proofs.YtbljdcdcnnidkaaDoor.Rec
open Go.RowKit
open Go.Proofs.YtbljdcdcnnidkaaDoor.Crc (Turned)
set_option linter.unusedVariables false
set_option linter.unusedSimpArgs false

/-- Bytes as a text, in a region that draws, taken first. -/
theorem yieldsIf_conv {ops : Array Oper} {S : World → Prop} {op : Oper} {a : Act} {A : Option Addr} {n c : Nat} {s : ByteArray} (hw : Region.wanted op (yielded ops a.tmps) = true) (y : Operand) (ho : op.op = .convert 33 9 y)
    (hx : a.eval y = .slice A n c) (hS : ∀ w, S w → (convert 33 9 (.slice A n c)).run Tryd.prog w = .ok (.string s) w) : YieldsIf Tryd.prog ops S op (.string s) a :=
  .inl ⟨hw, fun w hw' => by
    unfold execOp
    simp only [ho, hx, Sem.run_bind, Sem.run_pure, Result.andThen_ok, hS w hw']⟩
/-- What the reference looks at first: all but tenant and body. -/
def bare (x : Rc) : Rc := { x with tenant := 0, body := [] }
theorem Row.lt_of {w : World} {B n b o : Nat} {vs : List Value} (h : Row w B (some ⟨b, o, none⟩) n vs) (hn : 0 < n) : b < B := by
  obtain ⟨b', o', e, hlt, _⟩ := h.2 hn
  injection e with e
  injection e with e1 e2
  subst e1
  exact hlt
theorem undrew_only {w w' : World} {row : Option Nat} (h : w.drew.grownBy w' row) : Hid (w.grownBy w' row) := ⟨h.os, h.tape, h.output, h.size, h.block⟩
end Go.Proofs.YtbljdcdcnnidkaaDoor.Rec
/-
  Plain facts: which records stand in a list of bytes, from place to place, and at its front: no Go text, no program.
-/
namespace Go.Proofs.YtbljdcdcnnidkaaDoor.Rec
set_option linter.unusedVariables false
set_option linter.unusedSimpArgs false

theorem dec_ok {bs : List UInt8} {x : Rc} {n : Nat} (h : dec bs = .ok x n) : n = 39 + x.body.length ∧ n ≤ bs.length ∧ x.May ∧ x.Fits ∧ x.bytes = bs.take n := by
  unfold dec at h
  split at h
  · cases h
  · rename_i hf
    have hf := Classical.not_not.1 hf
    split at h
    · cases h
    · split at h
      · cases h
      · rename_i hm
        have hm := Classical.not_not.1 hm
        split at h
        · cases h
        · rename_i hl
          have hl : 39 + lenOf bs ≤ bs.length := by omega
          split at h
          · cases h
          · rename_i hs
            have hs := Classical.not_not.1 hs
            injection h with h1 h2
            have hp : (part bs 39 (39 + lenOf bs)).length = lenOf bs := by rw [part_length bs 39 _ (by omega) hl]; omega
            subst h1 h2
            refine ⟨by show 39 + lenOf bs = 39 + (part bs 39 (39 + lenOf bs)).length; rw [hp], hl, again_may bs hm hl, ?_, (again bs hf hl).2 hs⟩
            exact ⟨beN_lt 4 _ (part_length bs 3 7 (by omega) (by omega)), beN_lt 8 _ (part_length bs 7 15 (by omega) (by omega)), beN_lt 8 _ (part_length bs 15 23 (by omega) (by omega)), beN_lt 8 _ (part_length bs 23 31 (by omega) (by omega))⟩
/-- The records from a place on; so many steps at most. -/
def allF : Nat → Nat → List UInt8 → List (Nat × Rc)
  | 0, _, _ => []
  | f + 1, p, bs =>
    if bs.length ≤ p then []
    else match dec (bs.drop p) with
      | .ok x n => (p, x) :: allF f (p + n) bs
      | _ => allF f (p + 1) bs
theorem allF_enough (bs : List UInt8) : ∀ (f g p : Nat), bs.length ≤ p + f → bs.length ≤ p + g → allF f p bs = allF g p bs := by
  intro f
  induction f with
  | zero =>
    intro g p h1 _
    cases g with
    | zero => rfl
    | succ g => rw [allF, allF, if_pos (by omega)]
  | succ f ih =>
    intro g p h1 h2
    cases g with
    | zero => rw [allF, allF, if_pos (by omega)]
    | succ g =>
      rw [allF, allF]
      by_cases hp : bs.length ≤ p
      · rw [if_pos hp, if_pos hp]
      · rw [if_neg hp, if_neg hp]
        cases hd : dec (bs.drop p) with
        | ok x n =>
          have := (dec_ok hd).1
          show _ :: _ = _ :: _
          rw [ih g (p + n) (by omega) (by omega)]
        | more => exact ih g (p + 1) (by omega) (by omega)
        | bad => exact ih g (p + 1) (by omega) (by omega)
/-- The records from a place on. -/
def allFrom (p : Nat) (bs : List UInt8) : List (Nat × Rc) := allF (bs.length - p) p bs
theorem allFrom_end (p : Nat) (bs : List UInt8) (h : bs.length ≤ p) : allFrom p bs = [] := by
  unfold allFrom
  rw [Nat.sub_eq_zero_of_le h]
  rfl
theorem allFrom_ok {p n : Nat} {bs : List UInt8} {x : Rc} (h : p < bs.length) (hd : dec (bs.drop p) = .ok x n) : allFrom p bs = (p, x) :: allFrom (p + n) bs := by
  have hn := (dec_ok hd).1
  unfold allFrom
  rw [show bs.length - p = (bs.length - p - 1) + 1 by omega, allF, if_neg (by omega), hd]
  show _ :: _ = _ :: _
  rw [allF_enough bs (bs.length - p - 1) (bs.length - (p + n)) (p + n) (by omega) (by omega)]
theorem allFrom_no {p : Nat} {bs : List UInt8} (h : p < bs.length) (hd : ∀ x n, dec (bs.drop p) ≠ .ok x n) : allFrom p bs = allFrom (p + 1) bs := by
  unfold allFrom
  rw [show bs.length - p = (bs.length - p - 1) + 1 by omega, allF, if_neg (by omega), show bs.length - (p + 1) = bs.length - p - 1 by omega]
  cases hd' : dec (bs.drop p) with
  | ok x n => exact absurd hd' (hd x n)
  | more => rfl
  | bad => rfl
/-- The records one behind the other from a place on; so many at most. -/
def frontF : Nat → Nat → List UInt8 → List (Nat × Rc)
  | 0, _, _ => []
  | f + 1, p, bs => match dec (bs.drop p) with
      | .ok x n => (p, x) :: frontF f (p + n) bs
      | _ => []
theorem frontF_enough (bs : List UInt8) : ∀ (f g p : Nat), bs.length < p + f → bs.length < p + g → frontF f p bs = frontF g p bs := by
  intro f
  induction f with
  | zero =>
    intro g p h1 _
    cases g with
    | zero => rfl
    | succ g =>
      rw [frontF, frontF]
      cases hd : dec (bs.drop p) with
      | ok x n =>
        have h2 := (dec_ok hd).1
        have h3 := (dec_ok hd).2.1
        rw [List.length_drop] at h3
        omega
      | more => rfl
      | bad => rfl
  | succ f ih =>
    intro g p h1 h2
    cases g with
    | zero =>
      rw [frontF, frontF]
      cases hd : dec (bs.drop p) with
      | ok x n =>
        have h2 := (dec_ok hd).1
        have h3 := (dec_ok hd).2.1
        rw [List.length_drop] at h3
        omega
      | more => rfl
      | bad => rfl
    | succ g =>
      rw [frontF, frontF]
      cases hd : dec (bs.drop p) with
      | ok x n =>
        have := (dec_ok hd).1
        show _ :: _ = _ :: _
        rw [ih g (p + n) (by omega) (by omega)]
      | more => rfl
      | bad => rfl
def frontFrom (p : Nat) (bs : List UInt8) : List (Nat × Rc) := frontF (bs.length - p + 1) p bs
theorem frontFrom_ok {p n : Nat} {bs : List UInt8} {x : Rc} (hd : dec (bs.drop p) = .ok x n) : frontFrom p bs = (p, x) :: frontFrom (p + n) bs := by
  have hn := (dec_ok hd).1
  have hl := (dec_ok hd).2.1
  rw [List.length_drop] at hl
  unfold frontFrom
  rw [frontF, hd]
  show _ :: _ = _ :: _
  rw [frontF_enough bs (bs.length - p) (bs.length - (p + n) + 1) (p + n) (by omega) (by omega)]
theorem frontFrom_no {p : Nat} {bs : List UInt8} (hd : ∀ x n, dec (bs.drop p) ≠ .ok x n) : frontFrom p bs = [] := by
  unfold frontFrom
  rw [frontF]
  cases hd' : dec (bs.drop p) with
  | ok x n => exact absurd hd' (hd x n)
  | more => rfl
  | bad => rfl
/-- How many bytes they take. -/
def endOf (p : Nat) : List (Nat × Rc) → Nat
  | [] => p
  | (q, x) :: l => endOf (q + (39 + x.body.length)) l
end Go.Proofs.YtbljdcdcnnidkaaDoor.Rec
/-
  Plain facts: records found, as a row of structs of seven cells that the call itself made; an append of one more.
-/
namespace Go.Proofs.YtbljdcdcnnidkaaDoor.Rec
open Go.RowKit
set_option linter.unusedVariables false
set_option linter.unusedSimpArgs false

/-- The cells of one record found. -/
def fcells (q : Nat × Rc) : List Value := .int .i64 (q.1 : Int) :: q.2.vals.toList
def flat (l : List (Nat × Rc)) : List Value := l.flatMap fcells
theorem fcells_length (q : Nat × Rc) : (fcells q).length = 7 := rfl
theorem flat_length (l : List (Nat × Rc)) : (flat l).length = l.length * 7 := by
  induction l with
  | nil => rfl
  | cons q l ih =>
    unfold flat at ih ⊢
    rw [List.flatMap_cons, List.length_append, ih, fcells_length, List.length_cons]
    omega
theorem flat_snoc (l : List (Nat × Rc)) (q : Nat × Rc) : flat l ++ fcells q = flat (l ++ [q]) := by
  unfold flat
  rw [List.flatMap_append, List.flatMap_singleton]
theorem fcells_one (q : Nat × Rc) : ∀ u ∈ fcells q, u.oneCell' = true := by
  intro u hu
  simp only [fcells, Rc.vals, List.mem_cons, List.not_mem_nil, or_false] at hu
  rcases hu with rfl | rfl | rfl | rfl | rfl | rfl | rfl <;> rfl
/-- Records found so far: a row of the call's own, of any struct type that has these cells. -/
structure Fd (w0 : World) (e : TypeId) (w : World) (v : Value) (l : List (Nat × Rc)) : Prop where
  row : w.ownsRow w0.heap.size e 7 v l.length (flat l)
  below : Below w0.heap.size w0 w
theorem Fd.nil (w : World) (e : TypeId) : Fd w e w (.slice none 0 0) [] := ⟨World.ownsRow_nil _ _ _ _, Below.refl _ _⟩
theorem Fd.all {w0 w w' : World} {e : TypeId} {v : Value} {l : List (Nat × Rc)} (h : Fd w0 e w v l) (hb : Below w.heap.size w w') : Fd w0 e w' v l :=
  ⟨h.row.kept (row := none) ⟨hb.os, hb.tape, hb.output, hb.size, fun i hi _ => hb.block i hi⟩ (Classical.em _), h.below.trans (hb.mono h.below.size)⟩
section
variable {w0 w : World} {e : TypeId} {v : Value} {l : List (Nat × Rc)} {ops : Array Oper} {rest : List Oper} {o : Oper} {a : Act} {Q : Exit → Act → World → Prop}
theorem fd_append (h : Fd w0 e w v l) (T : TypeId) (z : Value) (by' : Nat) (hT : Tryd.prog.underlying T = some (.slice e)) (hi : (Tryd.prog.info? e).map (fun i => (i.zero, i.size, i.bytes)) = some (some z, 7, by')) (hz : z.cells.size = 7) (hby : by' ≤ 64)
    (hgd : o.guard = none) (s y : Operand) (ho : o.op = .call { callee := .builtin .append, args := #[s, y], argTypes := #[T, T] }) (hs : a.eval s = v)
    (g c : Nat) (q : Nat × Rc) (hy : a.eval y = .slice (some ⟨g, 0, none⟩) 1 c) (hq : ∀ j u, (fcells q)[j]? = some u → w.cell? ⟨g, j, none⟩ = some u) (hl : l.length ≤ 100000000)
    (k : ∀ v' w', Hid (Fd w0 e w' v' (l ++ [q])) → wpList Tryd.prog ops Q rest (a.put o.dst v') w') : wpList Tryd.prog ops Q (o :: rest) a w := by
  obtain ⟨i, hii, hzz⟩ := Option.map_eq_some_iff.1 hi
  simp only [Prod.mk.injEq] at hzz
  obtain ⟨hz0, hs1, hb1⟩ := hzz
  refine wpList_append_own (w := w) hgd s y T ho w0.heap.size e i z 7 by' hT hii hz0 hs1 hb1 hz (by decide) v l.length (flat l) hs h.row ⟨g, 0, none⟩ 1 c (fcells q) hy (fcells_length q) ?_ (fcells_one q) (by unfold maxLen; omega) ?_ h.below.size ?_
  · intro j u hu
    have := hq j u hu
    rw [Addr.add_lit, Nat.zero_add]
    exact this
  · have : (l.length + 1) * by' ≤ (l.length + 1) * 64 := Nat.mul_le_mul_left _ hby
    omega
  · intro v' w' h1 h2 _
    refine k v' w' ⟨?_, own_below h.row h.below (Nat.le_refl _) h.below.size h2⟩
    rw [flat_snoc] at h1
    rw [List.length_append]
    exact h1
end
/-- A block of one record found. -/
theorem one_cells (w : World) (t : TypeId) (fr : Nat × Nat) (q : Nat × Rc) (cs : Array Value) (h : cs.toList = fcells q) : ∀ j u, (fcells q)[j]? = some u → (w.alloc (.cells cs t fr)).cell? ⟨w.heap.size, j, none⟩ = some u := by
  intro j u hu
  rw [cell_of_row _ w.heap.size j cs t fr (heap_alloc_new w _), ← Array.getElem?_toList, h]
  exact hu
end Go.Proofs.YtbljdcdcnnidkaaDoor.Rec
/-
  Plain facts: a record found, built out of its place and the record; a slice of one of these.
-/
namespace Go.Proofs.YtbljdcdcnnidkaaDoor.Rec
open Go.RowKit
set_option linter.unusedVariables false
set_option linter.unusedSimpArgs false

section
variable {w : World} {ops : Array Oper} {rest : List Oper} {o : Oper} {a : Act} {Q : Exit → Act → World → Prop}
theorem build_found (hg : o.guard = none) (T : TypeId) (y1 y2 : Operand) (ho : o.op = .build T #[(0, y1), (1, y2)]) (d : Option Tmp) (hd : o.dst = d) (v1 v2 : Value) (h1 : a.eval y1 = v1) (h2 : a.eval y2 = v2) (fc : Array Value)
    (hb : Tryd.prog.built T [(0, v1), (1, v2)] = some fc) (k : wpList Tryd.prog ops Q rest (a.put d (.agg fc)) w) : wpList Tryd.prog ops Q (o :: rest) a w := by
  refine wpList_buildTo hg T _ ho d hd fc ?_ k
  rw [Array.toList_map]
  simp only [List.map_cons, List.map_nil, h1, h2]
  exact hb
theorem build_one (hg : o.guard = none) (T e : TypeId) (y : Operand) (ho : o.op = .buildSlice T 1 #[(0, y)]) (d : Option Tmp) (hd : o.dst = d) (hu : Tryd.prog.underlying T = some (.slice e)) (v : Value) (hy : a.eval y = v) (fc : Array Value)
    (hb : Tryd.prog.builtSlice e 1 [(0, v)] = some fc) (k : wpList Tryd.prog ops Q rest (a.put d (.slice (some ⟨w.heap.size, 0, none⟩) 1 1)) (w.alloc (.cells fc e))) : wpList Tryd.prog ops Q (o :: rest) a w := by
  refine Go.Great.wpList_buildSliceTo hg T e 1 _ ho w.heap.size rfl d hd hu fc ?_ k
  rw [Array.toList_map]
  simp only [List.map_cons, List.map_nil, hy]
  exact hb
end
end Go.Proofs.YtbljdcdcnnidkaaDoor.Rec
/-
  Plain facts: what Decode says as a value, slices from a place on, a new variable beside records found.
-/
namespace Go.Proofs.YtbljdcdcnnidkaaDoor.Rec
open Go.RowKit
set_option linter.unusedVariables false
set_option linter.unusedSimpArgs false

theorem out_ok (o : Out) : (∃ x n, o = .ok x n) ∨ ∃ e : Int, e ≠ 0 ∧ o.vals = #[.agg zeroRc.vals, .int .i64 0, .int .i64 e] ∧ ∀ x n, o ≠ .ok x n := by
  cases o with
  | ok x n => exact .inl ⟨x, n, rfl⟩
  | more => exact .inr ⟨11, by decide, rfl, fun _ _ h => by cases h⟩
  | bad => exact .inr ⟨4, by decide, rfl, fun _ _ h => by cases h⟩
theorem row_from {w : World} {B n p b o : Nat} {bs : List UInt8} (h : Row w B (some ⟨b, o, none⟩) n (bvs bs)) (hp : p < n) : Row w B (some ⟨b, o + p, none⟩) (n - p) (bvs (bs.drop p)) := by
  have := h.drop hp
  rwa [bvs_drop] at this
/-- .. behind a new record of the call's own. -/
theorem fd_store {w0 w w' : World} {e t : TypeId} {v : Value} {l : List (Nat × Rc)} {cs : Array Value} (h : Fd w0 e w v l) (hg : (w.alloc (.cells cs t)).grownBy w' (some w.heap.size)) : Hid (Fd w0 e w' v l) := by
  have hb : Below w.heap.size w w' := below_only (below_alloc w (.cells cs t)) hg (Nat.le_refl _) (by simp)
  exact h.all hb
/-- A slice from a place on, that place at its end too. -/
theorem row_upto {w : World} {B n p b o c : Nat} {bs : List UInt8} {P : Option Addr} (h : Row w B (some ⟨b, o, none⟩) n (bvs bs)) (hp : p ≤ n) (hnc : n ≤ c) (hP : (if c = p then some (⟨b, o, none⟩ : Addr) else some ⟨b, o + p, none⟩) = P) : Row w B P (n - p) (bvs (bs.drop p)) := by
  by_cases hlt : p < n
  · rw [if_neg (by omega)] at hP
    subst hP
    exact row_from h hlt
  · exact ⟨by rw [bvs_length, List.length_drop, h.size], fun hn => absurd hn (by omega)⟩
theorem dec_nil : dec [] = .more := by
  unfold dec
  rw [if_neg (not_not_intro ⟨fun h => absurd h (by decide), fun h => absurd h (by decide), fun h => absurd h (by decide)⟩), if_pos (by decide)]
theorem front_nil : frontFrom 0 [] = [] := frontFrom_no (fun x n h => by rw [List.drop_nil, dec_nil] at h; cases h)
theorem empty_row {w : World} {B : Nat} {A : Option Addr} : Row w B A 0 (bvs []) := ⟨rfl, fun h => absurd h (by omega)⟩
end Go.Proofs.YtbljdcdcnnidkaaDoor.Rec
/-
  Proved: what slot of law 8 returns: how many bytes of a slot's beginning fit their sum.
  Conditions: the slice reads as bytes, not too many.
-/
namespace Go.Proofs.YtbljdcdcnnidkaaDoor.Rec
open Go.RowKit
set_option linter.unusedVariables false
set_option linter.unusedSimpArgs false

def slotN (bs : List UInt8) : Nat :=
  if bs.length < 16 then 0
  else if 4080 < beN (part bs 8 12) ∨ bs.length - 16 < beN (part bs 8 12) then 0
  else if beN (part bs 12 16) ≠ (Crc.sum (bs.take 12 ++ part bs 16 (16 + beN (part bs 8 12)))).toNat then 0
  else 16 + beN (part bs 8 12)
theorem below_app {a w w' : World} {B : Nat} (h : Below B a w) (hg : w.grownBy w' (Value.slice none 0 0).ownBlock) (hB : B ≤ w.heap.size) : Below B a w' := h.grown hg hB (fun k hk => by simp [Value.ownBlock] at hk)
end Go.Proofs.YtbljdcdcnnidkaaDoor.Rec
