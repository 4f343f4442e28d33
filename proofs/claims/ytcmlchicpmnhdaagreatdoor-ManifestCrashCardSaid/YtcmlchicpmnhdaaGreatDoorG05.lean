/-
  Texts one behind the other: Agg, RecEq, RecTable.
-/
import Derived.Laws.StructEq
import Derived.Laws.CopyOwn
import Derived.Laws.AppendOwn
import Derived.OwnWalk
import Derived.Deep.DeepCutAuto
import Derived.Deep.RegionLaw
import Derived.Test.YtcmlchicpmnhdaaGreatDoorRows
import Derived.Lib.LaidTab
import Derived.ProofKit
import Derived.OpenShut
import Derived.ShutString
import Derived.WideShapes
import Derived.Test.YtcmlchicpmnhdaaGreatDoorG03
import Derived.Test.YtcmlchicpmnhdaaGreatDoorG04
/-
  Arrays of one-cell values by value: an element, '==' of two of them, a row of cells stored in a block; worlds of which only one block turned.
-/
namespace Go.Proofs.YtcmlchicpmnhdaaGreatDoor
open Go.RowKit
variable {P : Program}

theorem run_isAgg_no {t : TypeId} {d : TypeDesc} (h : P.underlying t = some d) (hd : (match d with | .struct _ | .array _ _ => true | _ => false) = false) (w : World) : (isAgg t).run P w = .ok false w := by
  unfold isAgg
  rw [Sem.run_bind, run_underlying h w]
  cases d <;> simp_all
/-- An element of an array by value. -/
theorem run_index_agg {T e : TypeId} {n : Nat} {k : IntKind} (ht : P.underlying T = some (.array n e)) (he : P.underlying e = some (.int k)) (hs : (P.info? e).map (·.size) = some 1)
    (cs : Array Value) (i : Nat) (v : Value) (hi : i < n) (hv : cs[i]? = some v) (kk : IntKind) (w : World) : (Instr.index T (.agg cs) (.int kk (i : Int))).run P w = .ok v w := by
  obtain ⟨info, hinfo, hsize⟩ := Option.map_eq_some_iff.1 hs
  have ha := run_isAgg_no he rfl w
  simp [Instr.index, asIntOf, run_underlying ht, part, sizeOf, typeInfo, hinfo, hsize, hi, ha, hv]

/-- '==' of two arrays of integers of one kind. -/
theorem run_equalIn_array_at {T e : TypeId} {n : Nat} {k : IntKind} (ht : P.underlying T = some (.array n e)) (he : P.underlying e = some (.int k)) (hs : (P.info? e).map (·.size) = some 1)
    (k' : IntKind) (f g : Nat → Int) (xs ys : Array Value) (hx : ∀ i, i < n → xs[i]? = some (.int k' (f i))) (hy : ∀ i, i < n → ys[i]? = some (.int k' (g i))) (d : Nat)
    (hq : ∀ a b (w : World), (Op.equalIn d e (.int k' a) (.int k' b)).run P w = .ok (a == b) w) (w : World) :
    (Op.equalIn (d + 1) T (.agg xs) (.agg ys)).run P w = .ok ((List.range n).all fun i => f i == g i) w := by
  obtain ⟨info, hinfo, hsize⟩ := Option.map_eq_some_iff.1 hs
  have ha := run_isAgg_no he rfl
  have hp : ∀ (zs : Array Value) (h : Nat → Int), (∀ i, i < n → zs[i]? = some (.int k' (h i))) → ∀ i, i < n → (part e zs (i * 1)).run P w = .ok (.int k' (h i)) w := by
    intro zs h hz i hi
    simp [part, ha, hz i hi]
  have hpx := hp xs f hx
  have hpy := hp ys g hy
  clear hp hx hy
  simp only [Op.equalIn, Sem.run_bind, run_underlying ht, Result.andThen_ok, sizeOf, typeInfo, run_program, hinfo, hsize, Sem.run_pure]
  rw [Std.Legacy.Range.forIn_eq_forIn_range']
  simp only [Std.Legacy.Range.size, Nat.sub_zero, Nat.add_sub_cancel, Nat.div_one]
  rw [List.range_eq_range']
  have hl : ∀ i ∈ List.range' 0 n, i < n := fun i hi => by simpa using hi
  revert hl
  generalize List.range' 0 n = l
  intro hl
  induction l with
  | nil => simp
  | cons i l ih =>
    have hi := hl i (by simp)
    have ih' := ih fun j hj => hl j (by simp [hj])
    simp only [List.forIn_cons, Sem.run_bind, hpx i hi, hpy i hi, hq, Result.andThen_ok, List.all_cons]
    cases hfg : f i == g i
    · simp
    · simpa using ih'
theorem run_equalIn_array {T e : TypeId} {n : Nat} {k : IntKind} (ht : P.underlying T = some (.array n e)) (he : P.underlying e = some (.int k)) (hs : (P.info? e).map (·.size) = some 1)
    (k' : IntKind) (f g : Nat → Int) (xs ys : Array Value) (hx : ∀ i, i < n → xs[i]? = some (.int k' (f i))) (hy : ∀ i, i < n → ys[i]? = some (.int k' (g i))) (w : World) :
    (Op.equalIn 10000 T (.agg xs) (.agg ys)).run P w = .ok ((List.range n).all fun i => f i == g i) w :=
  run_equalIn_array_at ht he hs k' f g xs ys hx hy 9999 (fun a b w => run_equalIn_int w 9998 e k' k a b he) w
/-- '==' of two arrays of bytes. -/
theorem run_eql_bytes {T e : TypeId} {n : Nat} {k : IntKind} (ht : P.underlying T = some (.array n e)) (he : P.underlying e = some (.int k)) (hs : (P.info? e).map (·.size) = some 1)
    (a b : List UInt8) (ha : a.length = n) (hb : b.length = n) (w : World) : (binOp .eql T (.agg (bvs a).toArray) (.agg (bvs b).toArray)).run P w = .ok (.bool (decide (a = b))) w := by
  have h : ∀ (l : List UInt8), l.length = n → ∀ i, i < n → (bvs l).toArray[i]? = some (.int .u8 ((l.getD i 0).toNat : Int)) := by
    intro l hl i hi
    rw [List.getElem?_toArray, bvs, List.getElem?_map, List.getD_eq_getElem?_getD, List.getElem?_eq_getElem (by omega)]
    rfl
  rw [run_eql_struct, run_equalIn_array ht he hs .u8 _ _ _ _ (h a ha) (h b hb) w]
  simp only [Result.andThen_ok]
  congr 2
  rw [Bool.eq_iff_iff, List.all_eq_true]
  simp only [List.mem_range, beq_iff_eq, decide_eq_true_eq]
  constructor
  · intro hh
    apply List.ext_getElem (by omega)
    intro i h1 h2
    have := hh i (by omega)
    rw [List.getD_eq_getElem?_getD, List.getD_eq_getElem?_getD, List.getElem?_eq_getElem h1, List.getElem?_eq_getElem h2] at this
    exact UInt8.toNat_inj.1 (Int.ofNat.inj this)
  · rintro rfl i _
    rfl
theorem run_neq_bytes {T e : TypeId} {n : Nat} {k : IntKind} (ht : P.underlying T = some (.array n e)) (he : P.underlying e = some (.int k)) (hs : (P.info? e).map (·.size) = some 1)
    (a b : List UInt8) (ha : a.length = n) (hb : b.length = n) (w : World) : (binOp .neq T (.agg (bvs a).toArray) (.agg (bvs b).toArray)).run P w = .ok (.bool (!decide (a = b))) w := by
  have h1 := run_eql_bytes ht he hs a b ha hb w
  rw [run_eql_struct] at h1
  rw [run_neq_struct]
  revert h1
  generalize (Op.equalIn 10000 T (.agg (bvs a).toArray) (.agg (bvs b).toArray)).run P w = r
  intro h1
  cases r with
  | ok x w' =>
    simp only [Result.andThen_ok, Result.ok.injEq, Value.bool.injEq] at h1 ⊢
    rw [h1.1]
    exact ⟨rfl, h1.2⟩
  | halt x w' => simp [Result.andThen] at h1

/-! Only one block has turned, and what is new. -/
theorem only_refl (w : World) (row : Option Nat) : w.grownBy w row := World.grownBy.refl w row
theorem only_trans {a b c : World} {row : Option Nat} (h : a.grownBy b row) (k : b.grownBy c row) : a.grownBy c row :=
  ⟨k.os.trans h.os, k.tape.trans h.tape, k.output.trans h.output, Nat.le_trans h.size k.size, fun i hi hn => (k.block i (Nat.lt_of_lt_of_le hi h.size) hn).trans (h.block i hi hn)⟩
theorem only_of_below {a w w' : World} (h : a.grownBy w none) (hb : Below a.heap.size w w') : a.grownBy w' none :=
  ⟨hb.os.trans h.os, hb.tape.trans h.tape, hb.output.trans h.output, Nat.le_trans h.size hb.size, fun i hi _ => (hb.block i hi).trans (h.block i hi (by simp))⟩
theorem only_below {a w w' : World} {row : Option Nat} (h : a.grownBy w row) (hb : Below a.heap.size w w') : a.grownBy w' row :=
  ⟨hb.os.trans h.os, hb.tape.trans h.tape, hb.output.trans h.output, Nat.le_trans h.size hb.size, fun i hi hn => (hb.block i hi).trans (h.block i hi hn)⟩
theorem only_new {a w w' : World} {row : Option Nat} {k : Nat} (h : a.grownBy w row) (hk : a.heap.size ≤ k) (hg : w.grownBy w' (some k)) : a.grownBy w' row :=
  ⟨hg.os.trans h.os, hg.tape.trans h.tape, hg.output.trans h.output, Nat.le_trans h.size hg.size, fun i hi hn => (hg.block i (Nat.lt_of_lt_of_le hi h.size) (by intro e; injection e with e; omega)).trans (h.block i hi hn)⟩
theorem only_setRow (w : World) (g : Nat) (cs : Array Value) : w.grownBy (w.setRow g cs) (some g) :=
  ⟨rfl, rfl, rfl, by simp, fun i _ hn => setRow_other w g i cs (by intro e; exact hn (by rw [e]))⟩
theorem only_setCell (w : World) (p : Addr) (u : Value) : w.grownBy (w.setCell p u) (some p.block) :=
  ⟨rfl, rfl, rfl, by simp [World.setCell], fun i _ hn => Below.heap_setCell w p u i (by intro e; exact hn (by rw [e]))⟩
theorem below_only {B g : Nat} {a w w' : World} (h : Below B a w) (hg : w.grownBy w' (some g)) (hB : B ≤ g) (hs : B ≤ w.heap.size) : Below B a w' :=
  h.grown hg hs (fun k hk => by injection hk with hk; omega)
theorem only_drewN {a w : World} {row : Option Nat} (h : a.grownBy w row) (n : Nat) : a.grownBy (w.drewN n) row := ⟨h.os, h.tape, h.output, h.size, h.block⟩
theorem below_drewN {B : Nat} {a w : World} (h : Below B a w) (n : Nat) : Below B a (w.drewN n) := ⟨h.os, h.tape, h.output, h.size, h.block⟩

/-! A value of several one-cell parts, stored into a block that is known whole and loaded from one: the world behind it is any of which that is known. -/
theorem wpList_store_blk {w : World} {ops : Array Oper} {rest : List Oper} {o : Oper} {a : Act} {Q : Exit → Act → World → Prop} (hgd : o.guard = none) (ty : TypeId) (x y : Operand) (ho : o.op = .store ty x y)
    (g : Nat) (cells : Array Value) (hx : a.eval x = .pointer (some ⟨g, 0, none⟩)) (hy : a.eval y = .agg cells)
    (t : TypeId) (old : Array Value) (hg : Blk w g t old) (hi : (P.info? ty).map (·.size) = some cells.size)
    (hold : old.size = cells.size) (h1 : cells.all (·.oneCell') = true)
    (h : ∀ w', Hid (Blk w' g t cells) → Hid (w.grownBy w' (some g)) → wpList P ops Q rest (a.put o.dst undef) w') : wpList P ops Q (o :: rest) a w :=
  wpList_store_row hgd ty x y ho g cells hx hy t old hg hi hold h1 (h _ (setRow_heap w g old cells t (0, 0) hg) (only_setRow w g cells))
theorem only_hid {w w' : World} {row : Option Nat} (h : Hid (w.grownBy w' row)) : w.grownBy w' row := h
/-- The same into a part of a greater block. -/
theorem wpList_store_at {w : World} {ops : Array Oper} {rest : List Oper} {o : Oper} {a : Act} {Q : Exit → Act → World → Prop} (hgd : o.guard = none) (ty : TypeId) (x y : Operand) (ho : o.op = .store ty x y)
    (g off : Nat) (cells : Array Value) (hx : a.eval x = .pointer (some ⟨g, off, none⟩)) (hy : a.eval y = .agg cells)
    (t : TypeId) (cur : List Value) (hg : Blk w g t cur.toArray) (hi : (P.info? ty).map (·.size) = some cells.size)
    (hfit : off + cells.size ≤ cur.length) (h1 : cells.all (·.oneCell') = true)
    (h : ∀ w', Hid (Blk w' g t (splice cur off cells.toList).toArray) → Hid (w.grownBy w' (some g)) → wpList P ops Q rest (a.put o.dst undef) w') : wpList P ops Q (o :: rest) a w := by
  refine wpList_plain hgd fun K hK => ?_
  have hs := run_storeCells_at (P := P) g off t cells.toList 0 cur.toArray w hg (by simpa using hfit) (fun v hv => (Array.all_eq_true_iff_forall_mem.1 h1) v (by simpa using hv))
  have hrun : (storeVar ty ⟨g, off, none⟩ (.agg cells)).run P w = .ok () (w.setRow g (splice cur off cells.toList).toArray) := by
    obtain ⟨i, hq, hz⟩ := Option.map_eq_some_iff.1 hi
    simp [storeVar, sizeOf, typeInfo, hq, Value.cells, hz.symm]
    simpa [splice] using hs
  unfold Oper.wp execOp
  simp only [ho, hx, hy, Instr.storeAt, Instr.sureAddr, Sem.run_bind, Sem.run_pure, Result.andThen_ok, hrun]
  exact hK _ _ (h _ (setRow_heap w g _ _ t (0, 0) hg) (only_setRow w g _))
/-- copy into a block that is known whole, from anything that reads as a list. -/
theorem wpList_copy_blk {w : World} {ops : Array Oper} {rest : List Oper} {o : Oper} {a : Act} {Q : Exit → Act → World → Prop} (hgd : o.guard = none) (d s : Operand) (dT sT : TypeId)
    (ho : o.op = .call { callee := .builtin .copy, args := #[d, s], argTypes := #[dT, sT] }) (elem : TypeId) (hu : P.underlying dT = some (.slice elem)) (hsz : (P.info? elem).map (·.size) = some 1)
    (g off dLen dCap : Nat) (sp : Option Addr) (sLen sCap : Nat) (hd : a.eval d = .slice (some ⟨g, off, none⟩) dLen dCap) (hs : a.eval s = .slice sp sLen sCap)
    (t : TypeId) (cur : List Value) (hg : Blk w g t cur.toArray) (cs : List Value) (hn : cs.length = Nat.min sLen dLen)
    (hsrc : 0 < cs.length → ∃ b i, sp = some ⟨b, i, none⟩ ∧ ∀ j v, cs[j]? = some v → w.cell? ⟨b, i + j, none⟩ = some v) (hfit : off + cs.length ≤ cur.length) (h1 : ∀ v ∈ cs, v.oneCell' = true)
    (h : ∀ w', Hid (Blk w' g t (splice cur off cs).toArray) → Hid (w.grownBy w' (some g)) → wpList P ops Q rest (a.put o.dst (goInt cs.length)) w') : wpList P ops Q (o :: rest) a w := by
  by_cases h0 : cs.length = 0
  · obtain rfl : cs = [] := List.eq_nil_of_length_eq_zero h0
    refine wpList_copy_nothing hgd d s dT sT ho elem hu hsz _ sp dLen dCap sLen sCap hd hs (by simpa using hn.symm) ?_
    exact h w (show Blk w g t _ by rw [show splice cur off [] = cur by simp [splice]]; exact hg) (only_refl w _)
  · obtain ⟨b, i, rfl, hc⟩ := hsrc (by omega)
    refine wpList_copy_own hgd d s dT sT ho elem hu hsz g off dLen dCap ⟨b, i, none⟩ sLen sCap hd hs cur.toArray t hg cs hn ?_ (by simpa using hfit) h1 ?_
    · intro j v hv
      have := hc j v hv
      unfold Addr.add
      split
      · rename_i hj; subst hj; exact this
      · exact this
    · exact h _ (show _ = _ by simpa [splice] using setRow_heap w g _ _ t (0, 0) hg) (only_setRow w g _)
/-- A slice that reads as these values, in blocks but g. -/
def Src (w : World) (g : Nat) (A : Option Addr) (n : Nat) (vs : List Value) : Prop :=
  vs.length = n ∧ (0 < n → ∃ b o, A = some ⟨b, o, none⟩ ∧ b ≠ g ∧ b < w.heap.size ∧ ∀ i v, vs[i]? = some v → w.cell? ⟨b, o + i, none⟩ = some v)
theorem Row.src {w : World} {B g n : Nat} {A : Option Addr} {vs : List Value} (h : Row w B A n vs) (hB : B ≤ w.heap.size) (hg : B ≤ g) : Src w g A n vs := by
  refine ⟨h.1, fun hn => ?_⟩
  obtain ⟨b, o, e, hb, hc⟩ := h.2 hn
  exact ⟨b, o, e, by omega, by omega, hc⟩
theorem Src.only {w w' : World} {g k n : Nat} {A : Option Addr} {vs : List Value} (h : Src w g A n vs) (hw : w.grownBy w' (some g)) (hk : k = g) : Src w' k A n vs := by
  subst hk
  refine ⟨h.1, fun hn => ?_⟩
  obtain ⟨b, o, e, hb, hlt, hc⟩ := h.2 hn
  exact ⟨b, o, e, hb, Nat.lt_of_lt_of_le hlt hw.size, fun i v hv => (World.cell?_of_block (a := ⟨b, o + i, none⟩) (hw.block b hlt (by intro e; injection e with e; exact hb e))).trans (hc i v hv)⟩
theorem Src.cells {w w' : World} {g n : Nat} {A : Option Addr} {vs : List Value} (h : Src w g A n vs) (hw : w.grownBy w' (some g)) : Src w' g A n vs := h.only hw rfl
theorem Src.row {w : World} {g n : Nat} {A : Option Addr} {vs : List Value} (h : Src w g A n vs) : Row w w.heap.size A n vs := by
  refine ⟨h.1, fun hn => ?_⟩
  obtain ⟨b, o, e, _, hlt, hc⟩ := h.2 hn
  exact ⟨b, o, e, hlt, hc⟩
theorem Src.take {w : World} {g n k : Nat} {A : Option Addr} {vs : List Value} (h : Src w g A n vs) (hk : k ≤ n) : Src w g A k (vs.take k) := by
  refine ⟨by rw [List.length_take, h.1]; omega, fun h0 => ?_⟩
  obtain ⟨b, o, e, hb, hlt, hc⟩ := h.2 (by omega)
  refine ⟨b, o, e, hb, hlt, fun i v hv => hc i v ?_⟩
  rw [List.getElem?_take] at hv
  split at hv
  · exact hv
  · cases hv
theorem Src.drop {w : World} {g n k b o : Nat} {vs : List Value} (h : Src w g (some ⟨b, o, none⟩) n vs) (hk : k ≤ n) : Src w g (some ⟨b, o + k, none⟩) (n - k) (vs.drop k) := by
  refine ⟨by rw [List.length_drop, h.1], fun h0 => ?_⟩
  obtain ⟨b', o', e, hb, hlt, hc⟩ := h.2 (by omega)
  injection e with e
  injection e with e1 e2
  subst e1 e2
  refine ⟨b, o + k, rfl, hb, hlt, fun i v hv => ?_⟩
  rw [List.getElem?_drop] at hv
  rw [Nat.add_assoc]
  exact hc _ v hv
theorem Src.none_left {w : World} {g n : Nat} {A A' : Option Addr} {vs : List Value} (h : Src w g A n vs) : Src w g A' 0 (vs.drop n) :=
  ⟨by rw [List.length_drop, h.1]; omega, fun h0 => absurd h0 (by omega)⟩
end Go.Proofs.YtcmlchicpmnhdaaGreatDoor
/-
  Proved: what Eq of two records, sumOf and Cut of a record return.
  Conditions: numbers and texts are those of values.
-/
namespace Go.Proofs.YtcmlchicpmnhdaaGreatDoor.Rec
open Go.RowKit
set_option linter.unusedVariables false
set_option linter.unusedSimpArgs false
open Go.Proofs.YtcmlchicpmnhdaaGreatDoor.Crc (Turned)

/-- The same record? -/
instance : DecidableEq Rc := fun a b => by
  cases a; cases b
  rw [Rc.mk.injEq]
  exact inferInstance
theorem cut_str (l : List UInt8) (m : Nat) : (if m < (str l).size then (str l).extract 0 m else str l) = str (l.take m) := by
  rw [str_size]
  split
  · apply ByteArray.ext
    apply Array.ext'
    simp [str]
  · rw [List.take_of_length_le (by omega)]
def Rc.cut (x : Rc) (m : Nat) : Rc := { x with body := x.body.take m }
theorem zeroRec (w : World) : (zeroValue 91).run Tryz.prog w = .ok (.agg #[.int .i64 0, .int .u32 0, .int .u64 0, .int .u64 0, .int .u64 0, .string ⟨#[]⟩]) w := by kernel_rfl
theorem rec_info : (Tryz.prog.info? 91).map (·.size) = some 6 := by kernel_rfl
theorem Rc.vals_size (x : Rc) : x.vals.size = 6 := rfl
theorem Rc.vals_one (x : Rc) : x.vals.all (·.oneCell') = true := by simp [Rc.vals, Value.oneCell']
/-- A block that holds a record. -/
def RecAt (w : World) (g : Nat) (x : Rc) : Prop := Blk w g 91 x.vals
theorem blk_lt {w : World} {g : Nat} {t : TypeId} {cs : Array Value} (h : Blk w g t cs) : g < w.heap.size := by
  rcases Nat.lt_or_ge g w.heap.size with hh | hh
  · exact hh
  · unfold Blk at h; rw [Array.getElem?_eq_none hh] at h; cases h
theorem blk_kept {w w' : World} {g : Nat} {t : TypeId} {cs : Array Value} {row : Option Nat} (h : Blk w g t cs) (hg : w.grownBy w' row) (hne : some g ≠ row) : Blk w' g t cs := (hg.block g (blk_lt h) hne).trans h
theorem blk_below {w w' : World} {B g : Nat} {t : TypeId} {cs : Array Value} (h : Blk w g t cs) (hb : Below B w w') (hg : g < B) : Blk w' g t cs := (hb.block g hg).trans h
theorem RecAt.lt {w : World} {g : Nat} {x : Rc} (h : RecAt w g x) : g < w.heap.size := blk_lt h
theorem RecAt.below {w w' : World} {B g : Nat} {x : Rc} (h : RecAt w g x) (hb : Below B w w') (hg : g < B) : RecAt w' g x := blk_below h hb hg
theorem RecAt.kept {w w' : World} {g : Nat} {x : Rc} {row : Option Nat} (h : RecAt w g x) (hg : w.grownBy w' row) (hne : some g ≠ row) : RecAt w' g x := blk_kept h hg hne
theorem RecAt.new (w : World) (x : Rc) : RecAt (w.alloc (.cells x.vals 91)) w.heap.size x := Blk.new _ _ _
section
variable {w : World} {ops : Array Oper} {rest : List Oper} {o : Oper} {a : Act} {Q : Exit → Act → World → Prop}
/-- A record is loaded whole. -/
theorem load_rec {g : Nat} {x : Rc} (h : RecAt w g x) (hgd : o.guard = none) (y : Operand) (ho : o.op = .load 91 y) (hx : a.eval y = .pointer (some ⟨g, 0, none⟩))
    (k : wpList Tryz.prog ops Q rest (a.put o.dst (.agg x.vals)) w) : wpList Tryz.prog ops Q (o :: rest) a w :=
  wpList_load_row hgd 91 y ho g hx 91 x.vals (0, 0) _ h Tryz.underlying91 rfl rec_info k
/-- A record is stored whole. -/
theorem store_rec {g : Nat} {old : Array Value} (h : Blk w g 91 old) (hs : old.size = 6) (hgd : o.guard = none) (y z : Operand) (ho : o.op = .store 91 y z) (hx : a.eval y = .pointer (some ⟨g, 0, none⟩)) (x : Rc) (hy : a.eval z = .agg x.vals)
    (k : ∀ w', Hid (RecAt w' g x) → Hid (w.grownBy w' (some g)) → wpList Tryz.prog ops Q rest (a.put o.dst undef) w') : wpList Tryz.prog ops Q (o :: rest) a w :=
  wpList_store_blk hgd 91 y z ho g x.vals hx hy 91 old h rec_info hs x.vals_one k
end
theorem result_rec {w : World} {fn : Func} {p : Tmp} {g : Nat} {x : Rc} (h : RecAt w g x) (hr : fn.results = #[.cell p 91]) (tmps : Array Value) (hp : tmps.getD p undef = .pointer (some ⟨g, 0, none⟩)) :
    (results fn tmps).run Tryz.prog w = .ok (.agg x.vals) w :=
  results_cell_row hr tmps w g 91 x.vals (0, 0) _ hp h Tryz.underlying91 rfl rec_info
/-- A record's text is stored. -/
theorem RecAt.body {w : World} {g : Nat} {x : Rc} (h : RecAt w g x) (l : List UInt8) : RecAt (w.setCell ⟨g, 5, none⟩ (.string (str l))) g { x with body := l } := Blk.put h 5 _
def zeroRc : Rc := ⟨0, 0, 0, 0, 0, []⟩
end Go.Proofs.YtcmlchicpmnhdaaGreatDoor.Rec
/-
  Plain facts: the table of half bytes out of a row's list; a record among a statement's arguments, as the form reads it.
-/
namespace Go.Proofs.YtcmlchicpmnhdaaGreatDoor.Crc
open Go.RowKit
set_option linter.unusedVariables false

theorem g_turned : Tryz.prog.globalNamed "stillroom/crc.turned" = some 0 := by kernel_rfl
theorem t_turned : (Tryz.prog.globals[0]?).map (·.type) = some 174 := by kernel_rfl
theorem c_turned : Tryz.prog.cellsOf 174 = 16 := by kernel_rfl
theorem c_u32 : Tryz.prog.cellsOf 31 = 1 := by kernel_rfl
/-- What a row's list says of the table. -/
theorem turned_of {W : World} {rest : List (String × DataW Unit)} (h : laidMet Tryz.prog (("stillroom/crc.turned", Rows.laid_stillroom_crc_turned) :: rest) W) : Turned W := by
  have ht : Lib.TabIs Tryz.prog W "stillroom/crc.turned" .u32 (tab.map Int.ofNat) :=
    Lib.tabIs_of_head (rest := rest) g_turned t_turned Tryz.underlying174 Tryz.underlying31 c_u32 c_turned h
  intro i hi
  have := ht.cell g_turned i (by simp [tab]; omega)
  rw [this]
  have : tab.length = 16 := rfl
  simp [List.getD, List.getElem?_eq_getElem (l := tab) (i := i) (by omega)]

end Go.Proofs.YtcmlchicpmnhdaaGreatDoor.Crc
namespace Go.Proofs.YtcmlchicpmnhdaaGreatDoor.Rec
open Go.RowKit Go.ChangeShapes Go.WideShapes
/-- A record whose parts are those of a value. -/
structure Rc.Ok (x : Rc) : Prop where
  kind : -9223372036854775808 ≤ x.kind ∧ x.kind ≤ 9223372036854775807
  fits : x.Fits
  body : x.body.length ≤ maxLen
theorem six : ∀ (l : List Value), l.length = 6 → ∃ a b c d e f, l = [a, b, c, d, e, f]
  | [a, b, c, d, e, f], _ => ⟨a, b, c, d, e, f, rfl⟩
theorem str_toList (s : ByteArray) : str s.data.toList = s := by
  unfold str
  rfl
theorem rec_of_trod {H : Type} {enc : TypeId × Value → H} {W : World} {base : Nat} {held : Bool} {n : Nat} {cs : List Value} {x : DataW H × List MemPlace} (h : DataW.trod enc Tryz.prog W base (fun _ => true) held n 91 cs = some x) :
    ∃ y : Rc, y.Ok ∧ cs = y.vals.toList := by
  obtain ⟨xs, k, rfl, _, hl, hxl, hf⟩ := DataW.trod_struct Tryz.underlying91 h
  obtain ⟨c0, c1, c2, c3, c4, c5, rfl⟩ := six cs (by rw [hl]; kernel_rfl)
  have hz : xs.length = 6 := hxl
  have g0 : DataW.trod enc Tryz.prog W base (fun _ => true) held k 3 (([c0, c1, c2, c3, c4, c5].drop 0).take (Tryz.prog.cellsOf 3)) = xs[0]? := hf 0 _ rfl
  have g1 : DataW.trod enc Tryz.prog W base (fun _ => true) held k 31 (([c0, c1, c2, c3, c4, c5].drop 1).take (Tryz.prog.cellsOf 31)) = xs[1]? := hf 1 _ rfl
  have g2 : DataW.trod enc Tryz.prog W base (fun _ => true) held k 32 (([c0, c1, c2, c3, c4, c5].drop 2).take (Tryz.prog.cellsOf 32)) = xs[2]? := hf 2 _ rfl
  have g3 : DataW.trod enc Tryz.prog W base (fun _ => true) held k 32 (([c0, c1, c2, c3, c4, c5].drop 3).take (Tryz.prog.cellsOf 32)) = xs[3]? := hf 3 _ rfl
  have g4 : DataW.trod enc Tryz.prog W base (fun _ => true) held k 32 (([c0, c1, c2, c3, c4, c5].drop 4).take (Tryz.prog.cellsOf 32)) = xs[4]? := hf 4 _ rfl
  have g5 : DataW.trod enc Tryz.prog W base (fun _ => true) held k 9 (([c0, c1, c2, c3, c4, c5].drop 5).take (Tryz.prog.cellsOf 9)) = xs[5]? := hf 5 _ rfl
  rw [List.getElem?_eq_getElem (by omega)] at g0 g1 g2 g3 g4 g5
  have e1 : Tryz.prog.cellsOf 3 = 1 := by kernel_rfl
  have e2 : Tryz.prog.cellsOf 31 = 1 := by kernel_rfl
  have e3 : Tryz.prog.cellsOf 32 = 1 := by kernel_rfl
  have e4 : Tryz.prog.cellsOf 9 = 1 := by kernel_rfl
  simp only [e1, e2, e3, e4, List.drop_succ_cons, List.drop_zero, List.take_succ_cons, List.take_zero] at g0 g1 g2 g3 g4 g5
  obtain ⟨n0, r0, _, w0⟩ := DataW.trod_int Tryz.underlying3 g0
  obtain ⟨n1, r1, _, w1⟩ := DataW.trod_int Tryz.underlying31 g1
  obtain ⟨n2, r2, _, w2⟩ := DataW.trod_int Tryz.underlying32 g2
  obtain ⟨n3, r3, _, w3⟩ := DataW.trod_int Tryz.underlying32 g3
  obtain ⟨n4, r4, _, w4⟩ := DataW.trod_int Tryz.underlying32 g4
  obtain ⟨s5, r5, _, w5⟩ := DataW.trod_string Tryz.underlying9 g5
  injection r0 with r0
  injection r1 with r1
  injection r2 with r2
  injection r3 with r3
  injection r4 with r4
  injection r5 with r5
  subst r0 r1 r2 r3 r4 r5
  have b1 := bounds_u32 w1
  have b2 := bounds_u64 w2
  have b3 := bounds_u64 w3
  have b4 := bounds_u64 w4
  obtain ⟨m1, rfl⟩ : ∃ m : Nat, n1 = m := ⟨n1.toNat, by omega⟩
  obtain ⟨m2, rfl⟩ : ∃ m : Nat, n2 = m := ⟨n2.toNat, by omega⟩
  obtain ⟨m3, rfl⟩ : ∃ m : Nat, n3 = m := ⟨n3.toNat, by omega⟩
  obtain ⟨m4, rfl⟩ : ∃ m : Nat, n4 = m := ⟨n4.toNat, by omega⟩
  refine ⟨⟨n0, m1, m2, m3, m4, s5.data.toList⟩, ⟨bounds_i64 w0, ⟨?_, ?_, ?_, ?_⟩, ?_⟩, ?_⟩
  · show m1 < _; omega
  · show m2 < _; omega
  · show m3 < _; omega
  · show m4 < _; omega
  · show s5.data.toList.length ≤ maxLen
    rw [Array.length_toList]
    exact w5
  · show _ = [Value.int .i64 n0, .int .u32 (m1 : Int), .int .u64 (m2 : Int), .int .u64 (m3 : Int), .int .u64 (m4 : Int), .string (str s5.data.toList)]
    rw [str_toList]
theorem rec_of_form {H : Type} {enc : TypeId × Value → H} {W : World} {base : Nat} {held : Bool} {n : Nat} {cs : Array Value} {x : DataW H × List MemPlace} (h : DataW.trod enc Tryz.prog W base (fun _ => true) held n 91 cs.toList = some x) :
    ∃ y : Rc, y.Ok ∧ cs = y.vals := by
  obtain ⟨y, hy, e⟩ := rec_of_trod h
  exact ⟨y, hy, Array.toList_inj.1 e⟩
end Go.Proofs.YtcmlchicpmnhdaaGreatDoor.Rec
