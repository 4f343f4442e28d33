/-
  Texts one behind the other: RecBegins, Agg, RecEq, RecTable, RecEnc.
-/
import Derived.Lib.MinMax
import Derived.Laws.BytesString
import Derived.Laws.BytesArg
import Derived.Laws.StructEq
import Derived.MapKept
import Derived.Laws.CopyOwn
import Derived.Laws.AppendOwn
import Derived.OwnWalk
import Derived.Deep.DeepCutAuto
import Derived.Deep.RegionLaw
import Derived.Test.YtcmlchicpmnhdaaDoorRows
import Derived.Lib.LaidTab
import Derived.ProofKit
import Derived.OpenShut
import Derived.ShutString
import Derived.WideShapes
import Derived.Lib.AppendStr
import Derived.Deep.Onto
import Derived.Lib.SlBytesConst
import Derived.Laws.IdiomStrings
import Derived.Test.YtcmlchicpmnhdaaDoorG03
/-
  Proved: what HasPrefix returns of "SR" and a short text; what beginsRight returns.
  Conditions: the slice reads as bytes.
-/
namespace Go.Proofs.YtcmlchicpmnhdaaDoor.Rec
open Go.RowKit
set_option linter.unusedVariables false
set_option linter.unusedSimpArgs false

theorem bytes_string {P : Program} {w : World} {B n c : Nat} {A : Option Addr} {bs : List UInt8} {src dst e : TypeId} (hs : P.underlying src = some (.slice e)) (he : P.underlying e = some (.int .u8)) (hd : P.underlying dst = some .string)
    (hR : Row w B A n (bvs bs)) : (convert src dst (.slice A n c)).run P w = .ok (.string (str bs)) w := by
  rcases Nat.eq_zero_or_pos n with h0 | h0
  · subst h0
    obtain rfl : bs = [] := List.eq_nil_of_length_eq_zero hR.size
    rcases A with _ | a
    · exact run_convert_bytes_nil w src e hs he 0 c dst hd
    · rw [run_convert_bytes_string w src dst e _ 0 c hs he hd, run_bytesToString w _ 0 c [] (run_loadCells_list (P := P) w a [] (fun j v hv => by simp at hv))]
      rfl
  · obtain ⟨b, o, rfl, _, hc⟩ := hR.byte h0
    rw [run_convert_bytes_arg w src e hs he b o n c (bs.map fun x => (x.toNat : Int)) (by rw [List.length_map]; exact hR.size) (fun i hi => by
      rw [hc i hi, List.getD_eq_getElem?_getD, List.getD_eq_getElem?_getD, List.getElem?_map, List.getElem?_eq_getElem (by rw [hR.size]; exact hi)]
      rfl) dst hd]
    congr 2
    have e : ((bs.map fun x => (x.toNat : Int)).map fun n => UInt8.ofNat n.toNat) = bs := by
      rw [List.map_map]
      refine (List.map_congr_left (g := id) fun x _ => ?_).trans (List.map_id bs)
      exact UInt8.toNat_inj.1 (by simp)
    unfold strOfNums str
    rw [e]
theorem text_eq (a b : ByteArray) : (a.toList == b.toList) = decide (a = b) := by
  rw [← beq_toListBytes]
  by_cases h : a = b
  · rw [decide_eq_true h]; exact (Go.MapKept.bytes_beq a b).2 h
  · rw [decide_eq_false h]
    cases e : (a == b)
    · rfl
    · exact absurd ((Go.MapKept.bytes_beq a b).1 e) h
def sSR : ByteArray := ⟨#[83, 82]⟩
theorem sr_front (bs : List UInt8) : sSR.extract 0 (bs.take 2).length = str (bs.take 2) ↔ (0 < bs.length → bs.getD 0 0 = 83) ∧ (1 < bs.length → bs.getD 1 0 = 82) := by
  have h0 : sSR.extract 0 0 = str [] := by decide
  have h1 : sSR.extract 0 1 = str [83] := by decide
  have h2 : sSR.extract 0 2 = str [83, 82] := by decide
  match bs with
  | [] => exact ⟨fun _ => ⟨fun h => absurd h (by simp), fun h => absurd h (by simp)⟩, fun _ => h0⟩
  | [a] =>
    constructor
    · intro h
      have : str [83] = str [a] := by rw [← h1]; exact h
      have := str_inj this
      simp at this
      simp [this]
    · rintro ⟨h, _⟩
      have : a = 83 := h (by simp)
      subst this
      exact h1
  | a :: b :: r =>
    constructor
    · intro h
      have : str [83, 82] = str [a, b] := by rw [← h2]; exact h
      have := str_inj this
      simp at this
      simp [this.1, this.2]
    · rintro ⟨h, g⟩
      have e1 : a = 83 := h (by simp)
      have e2 : b = 82 := g (by simp)
      subst e1 e2
      exact h2
theorem front_iff (bs : List UInt8) : Front bs ↔ sSR.extract 0 (str (bs.take 2)).size = str (bs.take 2) ∧ (2 < bs.length → mayKind ((bs.getD 2 0).toNat : Int)) := by
  rw [str_size, sr_front]
  unfold Front
  exact ⟨fun ⟨a, b, c⟩ => ⟨⟨a, b⟩, c⟩, fun ⟨⟨a, b⟩, c⟩ => ⟨a, b, c⟩⟩
end Go.Proofs.YtcmlchicpmnhdaaDoor.Rec
/-
  Arrays of one-cell values by value: an element, '==' of two of them, a row of cells stored in a block; worlds of which only one block turned.
-/
namespace Go.Proofs.YtcmlchicpmnhdaaDoor
open Go.RowKit
variable {P : Program}

theorem run_isAgg_no {t : TypeId} {d : TypeDesc} (h : P.underlying t = some d) (hd : (match d with | .struct _ | .array _ _ => true | _ => false) = false) (w : World) : (isAgg t).run P w = .ok false w := by
  unfold isAgg
  rw [Sem.run_bind, run_underlying h w]
  cases d <;> simp_all
/-- An element of an array by value. -/
theorem run_index_agg {T e : TypeId} {n : Nat} {k : IntKind} (ht : P.underlying T = some (.array n e)) (he : P.underlying e = some (.int k)) (hs : (P.info? e).map (·.size) = some 1)
    (cs : Array Value) (i : Nat) (v : Value) (hi : i < n) (hv : cs[i]? = some v) (kk : IntKind) (w : World) : (Instr.index T (.agg cs) (.int kk (i : Int))).run P w = .ok v w := by
  obtain ⟨info, hinfo, hsize⟩ := Option.map_eq_some_iff.1 hs
  have ha := run_isAgg_no he rfl w
  simp [Instr.index, asIntOf, run_underlying ht, part, sizeOf, typeInfo, hinfo, hsize, hi, ha, hv]

/-- '==' of two arrays of integers of one kind. -/
theorem run_equalIn_array_at {T e : TypeId} {n : Nat} {k : IntKind} (ht : P.underlying T = some (.array n e)) (he : P.underlying e = some (.int k)) (hs : (P.info? e).map (·.size) = some 1)
    (k' : IntKind) (f g : Nat → Int) (xs ys : Array Value) (hx : ∀ i, i < n → xs[i]? = some (.int k' (f i))) (hy : ∀ i, i < n → ys[i]? = some (.int k' (g i))) (d : Nat)
    (hq : ∀ a b (w : World), (Op.equalIn d e (.int k' a) (.int k' b)).run P w = .ok (a == b) w) (w : World) :
    (Op.equalIn (d + 1) T (.agg xs) (.agg ys)).run P w = .ok ((List.range n).all fun i => f i == g i) w := by
  obtain ⟨info, hinfo, hsize⟩ := Option.map_eq_some_iff.1 hs
  have ha := run_isAgg_no he rfl
  have hp : ∀ (zs : Array Value) (h : Nat → Int), (∀ i, i < n → zs[i]? = some (.int k' (h i))) → ∀ i, i < n → (part e zs (i * 1)).run P w = .ok (.int k' (h i)) w := by
    intro zs h hz i hi
    simp [part, ha, hz i hi]
  have hpx := hp xs f hx
  have hpy := hp ys g hy
  clear hp hx hy
  simp only [Op.equalIn, Sem.run_bind, run_underlying ht, Result.andThen_ok, sizeOf, typeInfo, run_program, hinfo, hsize, Sem.run_pure]
  rw [Std.Legacy.Range.forIn_eq_forIn_range']
  simp only [Std.Legacy.Range.size, Nat.sub_zero, Nat.add_sub_cancel, Nat.div_one]
  rw [List.range_eq_range']
  have hl : ∀ i ∈ List.range' 0 n, i < n := fun i hi => by simpa using hi
  revert hl
  generalize List.range' 0 n = l
  intro hl
  induction l with
  | nil => simp
  | cons i l ih =>
    have hi := hl i (by simp)
    have ih' := ih fun j hj => hl j (by simp [hj])
    simp only [List.forIn_cons, Sem.run_bind, hpx i hi, hpy i hi, hq, Result.andThen_ok, List.all_cons]
    cases hfg : f i == g i
    · simp
    · simpa using ih'
theorem run_equalIn_array {T e : TypeId} {n : Nat} {k : IntKind} (ht : P.underlying T = some (.array n e)) (he : P.underlying e = some (.int k)) (hs : (P.info? e).map (·.size) = some 1)
    (k' : IntKind) (f g : Nat → Int) (xs ys : Array Value) (hx : ∀ i, i < n → xs[i]? = some (.int k' (f i))) (hy : ∀ i, i < n → ys[i]? = some (.int k' (g i))) (w : World) :
    (Op.equalIn 10000 T (.agg xs) (.agg ys)).run P w = .ok ((List.range n).all fun i => f i == g i) w :=
  run_equalIn_array_at ht he hs k' f g xs ys hx hy 9999 (fun a b w => run_equalIn_int w 9998 e k' k a b he) w
/-- '==' of two arrays of bytes. -/
theorem run_eql_bytes {T e : TypeId} {n : Nat} {k : IntKind} (ht : P.underlying T = some (.array n e)) (he : P.underlying e = some (.int k)) (hs : (P.info? e).map (·.size) = some 1)
    (a b : List UInt8) (ha : a.length = n) (hb : b.length = n) (w : World) : (binOp .eql T (.agg (bvs a).toArray) (.agg (bvs b).toArray)).run P w = .ok (.bool (decide (a = b))) w := by
  have h : ∀ (l : List UInt8), l.length = n → ∀ i, i < n → (bvs l).toArray[i]? = some (.int .u8 ((l.getD i 0).toNat : Int)) := by
    intro l hl i hi
    rw [List.getElem?_toArray, bvs, List.getElem?_map, List.getD_eq_getElem?_getD, List.getElem?_eq_getElem (by omega)]
    rfl
  rw [run_eql_struct, run_equalIn_array ht he hs .u8 _ _ _ _ (h a ha) (h b hb) w]
  simp only [Result.andThen_ok]
  congr 2
  rw [Bool.eq_iff_iff, List.all_eq_true]
  simp only [List.mem_range, beq_iff_eq, decide_eq_true_eq]
  constructor
  · intro hh
    apply List.ext_getElem (by omega)
    intro i h1 h2
    have := hh i (by omega)
    rw [List.getD_eq_getElem?_getD, List.getD_eq_getElem?_getD, List.getElem?_eq_getElem h1, List.getElem?_eq_getElem h2] at this
    exact UInt8.toNat_inj.1 (Int.ofNat.inj this)
  · rintro rfl i _
    rfl
theorem run_neq_bytes {T e : TypeId} {n : Nat} {k : IntKind} (ht : P.underlying T = some (.array n e)) (he : P.underlying e = some (.int k)) (hs : (P.info? e).map (·.size) = some 1)
    (a b : List UInt8) (ha : a.length = n) (hb : b.length = n) (w : World) : (binOp .neq T (.agg (bvs a).toArray) (.agg (bvs b).toArray)).run P w = .ok (.bool (!decide (a = b))) w := by
  have h1 := run_eql_bytes ht he hs a b ha hb w
  rw [run_eql_struct] at h1
  rw [run_neq_struct]
  revert h1
  generalize (Op.equalIn 10000 T (.agg (bvs a).toArray) (.agg (bvs b).toArray)).run P w = r
  intro h1
  cases r with
  | ok x w' =>
    simp only [Result.andThen_ok, Result.ok.injEq, Value.bool.injEq] at h1 ⊢
    rw [h1.1]
    exact ⟨rfl, h1.2⟩
  | halt x w' => simp [Result.andThen] at h1

/-! Only one block has turned, and what is new. -/
theorem only_refl (w : World) (row : Option Nat) : w.grownBy w row := World.grownBy.refl w row
theorem only_trans {a b c : World} {row : Option Nat} (h : a.grownBy b row) (k : b.grownBy c row) : a.grownBy c row :=
  ⟨k.os.trans h.os, k.tape.trans h.tape, k.output.trans h.output, Nat.le_trans h.size k.size, fun i hi hn => (k.block i (Nat.lt_of_lt_of_le hi h.size) hn).trans (h.block i hi hn)⟩
theorem only_of_below {a w w' : World} (h : a.grownBy w none) (hb : Below a.heap.size w w') : a.grownBy w' none :=
  ⟨hb.os.trans h.os, hb.tape.trans h.tape, hb.output.trans h.output, Nat.le_trans h.size hb.size, fun i hi _ => (hb.block i hi).trans (h.block i hi (by simp))⟩
theorem only_below {a w w' : World} {row : Option Nat} (h : a.grownBy w row) (hb : Below a.heap.size w w') : a.grownBy w' row :=
  ⟨hb.os.trans h.os, hb.tape.trans h.tape, hb.output.trans h.output, Nat.le_trans h.size hb.size, fun i hi hn => (hb.block i hi).trans (h.block i hi hn)⟩
theorem only_new {a w w' : World} {row : Option Nat} {k : Nat} (h : a.grownBy w row) (hk : a.heap.size ≤ k) (hg : w.grownBy w' (some k)) : a.grownBy w' row :=
  ⟨hg.os.trans h.os, hg.tape.trans h.tape, hg.output.trans h.output, Nat.le_trans h.size hg.size, fun i hi hn => (hg.block i (Nat.lt_of_lt_of_le hi h.size) (by intro e; injection e with e; omega)).trans (h.block i hi hn)⟩
theorem only_setRow (w : World) (g : Nat) (cs : Array Value) : w.grownBy (w.setRow g cs) (some g) :=
  ⟨rfl, rfl, rfl, by simp, fun i _ hn => setRow_other w g i cs (by intro e; exact hn (by rw [e]))⟩
theorem only_setCell (w : World) (p : Addr) (u : Value) : w.grownBy (w.setCell p u) (some p.block) :=
  ⟨rfl, rfl, rfl, by simp [World.setCell], fun i _ hn => Below.heap_setCell w p u i (by intro e; exact hn (by rw [e]))⟩
theorem below_only {B g : Nat} {a w w' : World} (h : Below B a w) (hg : w.grownBy w' (some g)) (hB : B ≤ g) (hs : B ≤ w.heap.size) : Below B a w' :=
  h.grown hg hs (fun k hk => by injection hk with hk; omega)
theorem only_drewN {a w : World} {row : Option Nat} (h : a.grownBy w row) (n : Nat) : a.grownBy (w.drewN n) row := ⟨h.os, h.tape, h.output, h.size, h.block⟩
theorem below_drewN {B : Nat} {a w : World} (h : Below B a w) (n : Nat) : Below B a (w.drewN n) := ⟨h.os, h.tape, h.output, h.size, h.block⟩

/-! A value of several one-cell parts, stored into a block that is known whole and loaded from one: the world behind it is any of which that is known. -/
theorem wpList_store_blk {w : World} {ops : Array Oper} {rest : List Oper} {o : Oper} {a : Act} {Q : Exit → Act → World → Prop} (hgd : o.guard = none) (ty : TypeId) (x y : Operand) (ho : o.op = .store ty x y)
    (g : Nat) (cells : Array Value) (hx : a.eval x = .pointer (some ⟨g, 0, none⟩)) (hy : a.eval y = .agg cells)
    (t : TypeId) (old : Array Value) (hg : Blk w g t old) (hi : (P.info? ty).map (·.size) = some cells.size)
    (hold : old.size = cells.size) (h1 : cells.all (·.oneCell') = true)
    (h : ∀ w', Hid (Blk w' g t cells) → Hid (w.grownBy w' (some g)) → wpList P ops Q rest (a.put o.dst undef) w') : wpList P ops Q (o :: rest) a w :=
  wpList_store_row hgd ty x y ho g cells hx hy t old hg hi hold h1 (h _ (setRow_heap w g old cells t (0, 0) hg) (only_setRow w g cells))
theorem only_hid {w w' : World} {row : Option Nat} (h : Hid (w.grownBy w' row)) : w.grownBy w' row := h
/-- The same into a part of a greater block. -/
theorem wpList_store_at {w : World} {ops : Array Oper} {rest : List Oper} {o : Oper} {a : Act} {Q : Exit → Act → World → Prop} (hgd : o.guard = none) (ty : TypeId) (x y : Operand) (ho : o.op = .store ty x y)
    (g off : Nat) (cells : Array Value) (hx : a.eval x = .pointer (some ⟨g, off, none⟩)) (hy : a.eval y = .agg cells)
    (t : TypeId) (cur : List Value) (hg : Blk w g t cur.toArray) (hi : (P.info? ty).map (·.size) = some cells.size)
    (hfit : off + cells.size ≤ cur.length) (h1 : cells.all (·.oneCell') = true)
    (h : ∀ w', Hid (Blk w' g t (splice cur off cells.toList).toArray) → Hid (w.grownBy w' (some g)) → wpList P ops Q rest (a.put o.dst undef) w') : wpList P ops Q (o :: rest) a w := by
  refine wpList_plain hgd fun K hK => ?_
  have hs := run_storeCells_at (P := P) g off t cells.toList 0 cur.toArray w hg (by simpa using hfit) (fun v hv => (Array.all_eq_true_iff_forall_mem.1 h1) v (by simpa using hv))
  have hrun : (storeVar ty ⟨g, off, none⟩ (.agg cells)).run P w = .ok () (w.setRow g (splice cur off cells.toList).toArray) := by
    obtain ⟨i, hq, hz⟩ := Option.map_eq_some_iff.1 hi
    simp [storeVar, sizeOf, typeInfo, hq, Value.cells, hz.symm]
    simpa [splice] using hs
  unfold Oper.wp execOp
  simp only [ho, hx, hy, Instr.storeAt, Instr.sureAddr, Sem.run_bind, Sem.run_pure, Result.andThen_ok, hrun]
  exact hK _ _ (h _ (setRow_heap w g _ _ t (0, 0) hg) (only_setRow w g _))
/-- copy into a block that is known whole, from anything that reads as a list. -/
theorem wpList_copy_blk {w : World} {ops : Array Oper} {rest : List Oper} {o : Oper} {a : Act} {Q : Exit → Act → World → Prop} (hgd : o.guard = none) (d s : Operand) (dT sT : TypeId)
    (ho : o.op = .call { callee := .builtin .copy, args := #[d, s], argTypes := #[dT, sT] }) (elem : TypeId) (hu : P.underlying dT = some (.slice elem)) (hsz : (P.info? elem).map (·.size) = some 1)
    (g off dLen dCap : Nat) (sp : Option Addr) (sLen sCap : Nat) (hd : a.eval d = .slice (some ⟨g, off, none⟩) dLen dCap) (hs : a.eval s = .slice sp sLen sCap)
    (t : TypeId) (cur : List Value) (hg : Blk w g t cur.toArray) (cs : List Value) (hn : cs.length = Nat.min sLen dLen)
    (hsrc : 0 < cs.length → ∃ b i, sp = some ⟨b, i, none⟩ ∧ ∀ j v, cs[j]? = some v → w.cell? ⟨b, i + j, none⟩ = some v) (hfit : off + cs.length ≤ cur.length) (h1 : ∀ v ∈ cs, v.oneCell' = true)
    (h : ∀ w', Hid (Blk w' g t (splice cur off cs).toArray) → Hid (w.grownBy w' (some g)) → wpList P ops Q rest (a.put o.dst (goInt cs.length)) w') : wpList P ops Q (o :: rest) a w := by
  by_cases h0 : cs.length = 0
  · obtain rfl : cs = [] := List.eq_nil_of_length_eq_zero h0
    refine wpList_copy_nothing hgd d s dT sT ho elem hu hsz _ sp dLen dCap sLen sCap hd hs (by simpa using hn.symm) ?_
    exact h w (show Blk w g t _ by rw [show splice cur off [] = cur by simp [splice]]; exact hg) (only_refl w _)
  · obtain ⟨b, i, rfl, hc⟩ := hsrc (by omega)
    refine wpList_copy_own hgd d s dT sT ho elem hu hsz g off dLen dCap ⟨b, i, none⟩ sLen sCap hd hs cur.toArray t hg cs hn ?_ (by simpa using hfit) h1 ?_
    · intro j v hv
      have := hc j v hv
      unfold Addr.add
      split
      · rename_i hj; subst hj; exact this
      · exact this
    · exact h _ (show _ = _ by simpa [splice] using setRow_heap w g _ _ t (0, 0) hg) (only_setRow w g _)
/-- A slice that reads as these values, in blocks but g. -/
def Src (w : World) (g : Nat) (A : Option Addr) (n : Nat) (vs : List Value) : Prop :=
  vs.length = n ∧ (0 < n → ∃ b o, A = some ⟨b, o, none⟩ ∧ b ≠ g ∧ b < w.heap.size ∧ ∀ i v, vs[i]? = some v → w.cell? ⟨b, o + i, none⟩ = some v)
theorem Row.src {w : World} {B g n : Nat} {A : Option Addr} {vs : List Value} (h : Row w B A n vs) (hB : B ≤ w.heap.size) (hg : B ≤ g) : Src w g A n vs := by
  refine ⟨h.1, fun hn => ?_⟩
  obtain ⟨b, o, e, hb, hc⟩ := h.2 hn
  exact ⟨b, o, e, by omega, by omega, hc⟩
theorem Src.only {w w' : World} {g k n : Nat} {A : Option Addr} {vs : List Value} (h : Src w g A n vs) (hw : w.grownBy w' (some g)) (hk : k = g) : Src w' k A n vs := by
  subst hk
  refine ⟨h.1, fun hn => ?_⟩
  obtain ⟨b, o, e, hb, hlt, hc⟩ := h.2 hn
  exact ⟨b, o, e, hb, Nat.lt_of_lt_of_le hlt hw.size, fun i v hv => (World.cell?_of_block (a := ⟨b, o + i, none⟩) (hw.block b hlt (by intro e; injection e with e; exact hb e))).trans (hc i v hv)⟩
theorem Src.cells {w w' : World} {g n : Nat} {A : Option Addr} {vs : List Value} (h : Src w g A n vs) (hw : w.grownBy w' (some g)) : Src w' g A n vs := h.only hw rfl
theorem Src.row {w : World} {g n : Nat} {A : Option Addr} {vs : List Value} (h : Src w g A n vs) : Row w w.heap.size A n vs := by
  refine ⟨h.1, fun hn => ?_⟩
  obtain ⟨b, o, e, _, hlt, hc⟩ := h.2 hn
  exact ⟨b, o, e, hlt, hc⟩
theorem Src.take {w : World} {g n k : Nat} {A : Option Addr} {vs : List Value} (h : Src w g A n vs) (hk : k ≤ n) : Src w g A k (vs.take k) := by
  refine ⟨by rw [List.length_take, h.1]; omega, fun h0 => ?_⟩
  obtain ⟨b, o, e, hb, hlt, hc⟩ := h.2 (by omega)
  refine ⟨b, o, e, hb, hlt, fun i v hv => hc i v ?_⟩
  rw [List.getElem?_take] at hv
  split at hv
  · exact hv
  · cases hv
theorem Src.drop {w : World} {g n k b o : Nat} {vs : List Value} (h : Src w g (some ⟨b, o, none⟩) n vs) (hk : k ≤ n) : Src w g (some ⟨b, o + k, none⟩) (n - k) (vs.drop k) := by
  refine ⟨by rw [List.length_drop, h.1], fun h0 => ?_⟩
  obtain ⟨b', o', e, hb, hlt, hc⟩ := h.2 (by omega)
  injection e with e
  injection e with e1 e2
  subst e1 e2
  refine ⟨b, o + k, rfl, hb, hlt, fun i v hv => ?_⟩
  rw [List.getElem?_drop] at hv
  rw [Nat.add_assoc]
  exact hc _ v hv
theorem Src.none_left {w : World} {g n : Nat} {A A' : Option Addr} {vs : List Value} (h : Src w g A n vs) : Src w g A' 0 (vs.drop n) :=
  ⟨by rw [List.length_drop, h.1]; omega, fun h0 => absurd h0 (by omega)⟩
end Go.Proofs.YtcmlchicpmnhdaaDoor
/-
  Proved: what Eq of two records, sumOf and Cut of a record return.
  Conditions: numbers and texts are those of values.
-/
namespace Go.Proofs.YtcmlchicpmnhdaaDoor.Rec
open Go.RowKit
set_option linter.unusedVariables false
set_option linter.unusedSimpArgs false
open Go.Proofs.YtcmlchicpmnhdaaDoor.Crc (Turned)

/-- The same record? -/
instance : DecidableEq Rc := fun a b => by
  cases a; cases b
  rw [Rc.mk.injEq]
  exact inferInstance
theorem cut_str (l : List UInt8) (m : Nat) : (if m < (str l).size then (str l).extract 0 m else str l) = str (l.take m) := by
  rw [str_size]
  split
  · apply ByteArray.ext
    apply Array.ext'
    simp [str]
  · rw [List.take_of_length_le (by omega)]
def Rc.cut (x : Rc) (m : Nat) : Rc := { x with body := x.body.take m }
theorem Rc.vals_size (x : Rc) : x.vals.size = 6 := rfl
theorem Rc.vals_one (x : Rc) : x.vals.all (·.oneCell') = true := by simp [Rc.vals, Value.oneCell']
theorem blk_lt {w : World} {g : Nat} {t : TypeId} {cs : Array Value} (h : Blk w g t cs) : g < w.heap.size := by
  rcases Nat.lt_or_ge g w.heap.size with hh | hh
  · exact hh
  · unfold Blk at h; rw [Array.getElem?_eq_none hh] at h; cases h
theorem blk_kept {w w' : World} {g : Nat} {t : TypeId} {cs : Array Value} {row : Option Nat} (h : Blk w g t cs) (hg : w.grownBy w' row) (hne : some g ≠ row) : Blk w' g t cs := (hg.block g (blk_lt h) hne).trans h
theorem blk_below {w w' : World} {B g : Nat} {t : TypeId} {cs : Array Value} (h : Blk w g t cs) (hb : Below B w w') (hg : g < B) : Blk w' g t cs := (hb.block g hg).trans h
section
variable {w : World} {ops : Array Oper} {rest : List Oper} {o : Oper} {a : Act} {Q : Exit → Act → World → Prop}
end
def zeroRc : Rc := ⟨0, 0, 0, 0, 0, []⟩
end Go.Proofs.YtcmlchicpmnhdaaDoor.Rec
/-
  Plain facts: the table of half bytes out of a row's list; a record among a statement's arguments, as the form reads it.
-/
namespace Go.Proofs.YtcmlchicpmnhdaaDoor.Crc
open Go.RowKit
set_option linter.unusedVariables false

theorem g_turned : Tryd.prog.globalNamed "stillroom/crc.turned" = some 0 := by kernel_rfl
theorem t_turned : (Tryd.prog.globals[0]?).map (·.type) = some 118 := by kernel_rfl
theorem c_turned : Tryd.prog.cellsOf 118 = 16 := by kernel_rfl
theorem c_u32 : Tryd.prog.cellsOf 31 = 1 := by kernel_rfl
/-- What a row's list says of the table. -/
theorem turned_of {W : World} {rest : List (String × DataW Unit)} (h : laidMet Tryd.prog (("stillroom/crc.turned", Rows.laid_stillroom_crc_turned) :: rest) W) : Turned W := by
  have ht : Lib.TabIs Tryd.prog W "stillroom/crc.turned" .u32 (tab.map Int.ofNat) :=
    Lib.tabIs_of_head (rest := rest) g_turned t_turned Tryd.underlying118 Tryd.underlying31 c_u32 c_turned h
  intro i hi
  have := ht.cell g_turned i (by simp [tab]; omega)
  rw [this]
  have : tab.length = 16 := rfl
  simp [List.getD, List.getElem?_eq_getElem (l := tab) (i := i) (by omega)]

end Go.Proofs.YtcmlchicpmnhdaaDoor.Crc
namespace Go.Proofs.YtcmlchicpmnhdaaDoor.Rec
open Go.RowKit Go.ChangeShapes Go.WideShapes
/-- A record whose parts are those of a value. -/
structure Rc.Ok (x : Rc) : Prop where
  kind : -9223372036854775808 ≤ x.kind ∧ x.kind ≤ 9223372036854775807
  fits : x.Fits
  body : x.body.length ≤ maxLen
theorem six : ∀ (l : List Value), l.length = 6 → ∃ a b c d e f, l = [a, b, c, d, e, f]
  | [a, b, c, d, e, f], _ => ⟨a, b, c, d, e, f, rfl⟩
theorem str_toList (s : ByteArray) : str s.data.toList = s := by
  unfold str
  rfl
end Go.Proofs.YtcmlchicpmnhdaaDoor.Rec
/-
  Proved: bytes under way in a row of the call's own, beside a record's block: appends of them; a text as bytes.
  Conditions: the lengths are small.
-/
namespace Go.Proofs.YtcmlchicpmnhdaaDoor.Rec
open Go.RowKit
open Go.Proofs.YtcmlchicpmnhdaaDoor.Crc (Turned)
set_option linter.unusedVariables false
set_option linter.unusedSimpArgs false

theorem turned_below {w w' : World} {B : Nat} (h : Turned w) (hb : Below B w w') (hB : B = w.heap.size) : Turned w' := fun i hi => by
  subst hB
  exact (hb.cell (block_lt_of_cell (h i hi))).trans (h i hi)
section
variable {w0 w : World} {g : Nat} {x : Rc} {v : Value} {bs : List UInt8} {ops : Array Oper} {rest : List Oper} {o : Oper} {a : Act} {Q : Exit → Act → World → Prop}
end
theorem enc_may {x : Rc} (h : x.May) : enc x = x.bytes := if_pos h
theorem enc_not {x : Rc} (h : ¬ x.May) : enc x = [] := if_neg h
theorem may_true {x : Rc} (h : x.May) : x.may = true := decide_eq_true h
theorem may_false {x : Rc} (h : ¬ x.May) : x.may = false := decide_eq_false h
/-- '[]byte(s)' of any text. -/
theorem conv_bytes (w : World) (l : List UInt8) : ∃ c w', (convert 9 44 (.string (str l))).run Tryd.prog w = .ok (.slice (some ⟨w.heap.size, 0, none⟩) l.length c) w' ∧ Hid (Below w.heap.size w w') ∧ Hid (Row w' w'.heap.size (some ⟨w.heap.size, 0, none⟩) l.length (bvs l)) := by
  have h0 := run_bytes_of_string (P := Tryd.prog) w 9 44 5 (str l) Tryd.underlying9 Tryd.underlying44 Tryd.underlying5
  obtain ⟨cap, hcap⟩ : ∃ cap, cap = grownCap w (str l).size 0 5 := ⟨_, rfl⟩
  obtain ⟨C, hC⟩ : ∃ C, C = bytesRow (str l) cap := ⟨_, rfl⟩
  rw [← hcap, ← hC, str_size] at h0
  refine ⟨_, _, h0, (Below.refl _ _).drew.alloc (Nat.le_refl _) _, ?_⟩
  have h := Row.fresh w.drew 5 (C.size, C.size + 1) C
  have e0 : C.toList = bvs l ++ List.replicate (cap - l.length) (.int .u8 0) := by
    rw [hC]
    simp [bytesRow, str, bvs, bv, ByteArray.size]
  have hsz : l.length ≤ C.size := by
    rw [← Array.length_toList, e0, List.length_append, bvs_length]
    omega
  have h2 := h.take (k := l.length) hsz
  have e : C.toList.take l.length = bvs l := by
    rw [e0]
    exact List.take_left' (bvs_length l)
  rw [e] at h2
  have hs : (w.drew.alloc (.cells C 5 (C.size, C.size + 1))).heap.size = w.heap.size + 1 := by
    show (w.heap.push _).size = _
    simp
  show Row _ _ _ _ _
  rw [hs]
  exact h2
end Go.Proofs.YtcmlchicpmnhdaaDoor.Rec
