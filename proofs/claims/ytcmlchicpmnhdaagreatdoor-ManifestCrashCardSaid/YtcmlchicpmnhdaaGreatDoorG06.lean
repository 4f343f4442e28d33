/-
  Texts one behind the other: RecEnc, RecStore, ScanRow, ScanBuilt, RecHead, RecDecode, ScanCom.
-/
import Derived.Lib.AppendStr
import Derived.Deep.Onto
import Derived.Lib.SlBytesConst
import Derived.Laws.IdiomStrings
import Derived.BigQuiet
import Derived.Great.Walk
import Derived.Great.BuildSlice
import Derived.StillTailTactics
import Derived.Test.YtcmlchicpmnhdaaGreatDoorG02
import Derived.Test.YtcmlchicpmnhdaaGreatDoorG05
/-
  Proved: bytes under way in a row of the call's own, beside a record's block: appends of them; a text as bytes.
  Conditions: the lengths are small.
-/
namespace Go.Proofs.YtcmlchicpmnhdaaGreatDoor.Rec
open Go.RowKit
open Go.Proofs.YtcmlchicpmnhdaaGreatDoor.Crc (Turned)
set_option linter.unusedVariables false
set_option linter.unusedSimpArgs false

theorem turned_below {w w' : World} {B : Nat} (h : Turned w) (hb : Below B w w') (hB : B = w.heap.size) : Turned w' := fun i hi => by
  subst hB
  exact (hb.cell (block_lt_of_cell (h i hi))).trans (h i hi)
/-- Bytes that are under way, in a row of the call's own, beside a record's block g. -/
structure Enc (w0 : World) (g : Nat) (x : Rc) (w : World) (v : Value) (bs : List UInt8) : Prop where
  at' : RecAt w g x
  row : w.ownsRow (g + 1) 5 1 v bs.length (bvs bs)
  below : Below w0.heap.size w0 w
  old : w0.heap.size = g
theorem Enc.lt {w0 w : World} {g : Nat} {x : Rc} {v : Value} {bs : List UInt8} (h : Enc w0 g x w v bs) : g < w.heap.size := h.at'.lt
/-- .. where nothing that lay has turned. -/
theorem Enc.all {w0 w w' : World} {g : Nat} {x : Rc} {v : Value} {bs : List UInt8} (h : Enc w0 g x w v bs) (hb : Below w.heap.size w w') : Enc w0 g x w' v bs := by
  exact ⟨h.at'.below hb h.lt, h.row.kept (row := none) ⟨hb.os, hb.tape, hb.output, hb.size, fun i hi _ => hb.block i hi⟩ (Classical.em _), h.below.trans (hb.mono h.below.size), h.old⟩
theorem enc_row {w0 w : World} {g : Nat} {x : Rc} {v : Value} {bs : List UInt8} (h : Enc w0 g x w v bs) : ∃ A c, v = .slice A bs.length c ∧ bs.length ≤ c ∧ c ≤ maxLen ∧ Row w w.heap.size A bs.length (bvs bs) := by
  obtain ⟨A, c, rfl, h1, h2⟩ := own_form h.row
  exact ⟨A, c, rfl, h1, h2, Row.own h.row⟩
theorem grown_at {w w' : World} {g : Nat} {x : Rc} {v : Value} {n : Nat} {vs : List Value} (h : RecAt w g x) (ho : w.ownsRow (g + 1) 5 1 v n vs) (hg : w.grownBy w' v.ownBlock) : RecAt w' g x :=
  h.kept hg fun e => by
    have := (ho.lt g e.symm).1
    omega
section
variable {w0 w : World} {g : Nat} {x : Rc} {v : Value} {bs : List UInt8} {ops : Array Oper} {rest : List Oper} {o : Oper} {a : Act} {Q : Exit → Act → World → Prop}
theorem enc_append (h : Enc w0 g x w v bs) (hgd : o.guard = none) (s y : Operand) (ho : o.op = .call { callee := .builtin .append, args := #[s, y], argTypes := #[51, 51] })
    (hs : a.eval s = v) (B : Nat) (A : Option Addr) (m c : Nat) (ps : List UInt8) (hy : a.eval y = .slice A m c) (hr : Row w B A m (bvs ps)) (hl : bs.length + m ≤ 1000000)
    (k : ∀ v' w', Hid (Enc w0 g x w' v' (bs ++ ps)) → wpList Tryz.prog ops Q rest (a.put o.dst v') w') : wpList Tryz.prog ops Q (o :: rest) a w := by
  have hm : ps.length = m := hr.size
  refine wpList_append_reads hgd s y 51 ho (g + 1) 5 (.int .u8 0) 1 Tryz.underlying51 u8_info rfl v bs.length (bvs bs) hs h.row B A m c _ hy hr (bvs_one _) (by unfold maxLen; omega) (by omega) h.lt ?_
  intro v' w' h1 h2
  refine k v' w' ⟨grown_at h.at' h.row h2, ?_, own_below h.row h.below (by have := h.old; omega) h.lt h2, h.old⟩
  rw [bvs_append] at h1
  rw [List.length_append, hm]
  exact h1
theorem enc_string (h : Enc w0 g x w v bs) (hgd : o.guard = none) (s y : Operand) (ho : o.op = .call { callee := .builtin .append, args := #[s, y], argTypes := #[51, 9] })
    (hs : a.eval s = v) (l : List UInt8) (hy : a.eval y = .string (str l)) (hl : bs.length + l.length ≤ 1000000)
    (k : ∀ v' w', Hid (Enc w0 g x w' v' (bs ++ l)) → wpList Tryz.prog ops Q rest (a.put o.dst v') w') : wpList Tryz.prog ops Q (o :: rest) a w := by
  obtain ⟨i, hi, hz0, hz1, hz2⟩ := u8_info3
  have e : Lib.strCells (str l) = bvs l := by simp [Lib.strCells, str, bvs, bv]
  refine Lib.wpList_append_own_string w hgd s y 51 9 ho (g + 1) 5 i Tryz.underlying51 Tryz.underlying9 hi hz0 hz1 hz2 v bs.length (bvs bs) hs h.row (str l) hy (by rw [str_size]; unfold maxLen; omega) (by rw [str_size]; omega) h.lt ?_
  intro v' w' h1 h2 _
  refine k v' w' ⟨grown_at h.at' h.row h2, ?_, own_below h.row h.below (by have := h.old; omega) h.lt h2, h.old⟩
  rw [e, bvs_append, str_size] at h1
  rw [List.length_append]
  exact h1
end
theorem enc_refput {w0 w : World} {g : Nat} {x : Rc} {v : Value} {bs : List UInt8} (h : Hid (Enc w0 g x w v bs)) (n k : Nat) (K : Int) (hK : K = (k : Int)) (hk : 1 ≤ k ∧ k ≤ 8) (hn : n < 18446744073709551616) :
    Calls Tryz.prog 71 #[.int .u64 (n : Int), .int .i64 K] w fun e w' => ∃ A c, e = .returned (.slice A k c) ∧ Hid (Enc w0 g x w' v bs) ∧ Hid (Row w' w'.heap.size A k (bvs (be n k))) ∧ Hid (Below w.heap.size w w') := by
  refine (refput_any n k K w hK hk hn).mono ?_
  rintro e w' ⟨u, rfl, ho, hb⟩
  obtain ⟨A, c, rfl, _, _⟩ := own_form ho
  exact ⟨A, c, rfl, h.out.all hb, Row.own ho, hb⟩
/-- The bytes of a text, in a new block that nothing may be written to. -/
theorem enc_bytes {w0 w : World} {g : Nat} {x : Rc} {v : Value} {bs : List UInt8} (h : Enc w0 g x w v bs) (o : Obj) : Enc w0 g x (w.alloc o) v bs := h.all (below_alloc w o)
theorem enc_may {x : Rc} (h : x.May) : enc x = x.bytes := if_pos h
theorem enc_not {x : Rc} (h : ¬ x.May) : enc x = [] := if_neg h
theorem may_true {x : Rc} (h : x.May) : x.may = true := decide_eq_true h
theorem may_false {x : Rc} (h : ¬ x.May) : x.may = false := decide_eq_false h
/-- '[]byte(s)' of any text. -/
theorem conv_bytes (w : World) (l : List UInt8) : ∃ c w', (convert 9 51 (.string (str l))).run Tryz.prog w = .ok (.slice (some ⟨w.heap.size, 0, none⟩) l.length c) w' ∧ Hid (Below w.heap.size w w') ∧ Hid (Row w' w'.heap.size (some ⟨w.heap.size, 0, none⟩) l.length (bvs l)) := by
  have h0 := run_bytes_of_string (P := Tryz.prog) w 9 51 5 (str l) Tryz.underlying9 Tryz.underlying51 Tryz.underlying5
  obtain ⟨cap, hcap⟩ : ∃ cap, cap = grownCap w (str l).size 0 5 := ⟨_, rfl⟩
  obtain ⟨C, hC⟩ : ∃ C, C = bytesRow (str l) cap := ⟨_, rfl⟩
  rw [← hcap, ← hC, str_size] at h0
  refine ⟨_, _, h0, (Below.refl _ _).drew.alloc (Nat.le_refl _) _, ?_⟩
  have h := Row.fresh w.drew 5 (C.size, C.size + 1) C
  have e0 : C.toList = bvs l ++ List.replicate (cap - l.length) (.int .u8 0) := by
    rw [hC]
    simp [bytesRow, str, bvs, bv, ByteArray.size]
  have hsz : l.length ≤ C.size := by
    rw [← Array.length_toList, e0, List.length_append, bvs_length]
    omega
  have h2 := h.take (k := l.length) hsz
  have e : C.toList.take l.length = bvs l := by
    rw [e0]
    exact List.take_left' (bvs_length l)
  rw [e] at h2
  have hs : (w.drew.alloc (.cells C 5 (C.size, C.size + 1))).heap.size = w.heap.size + 1 := by
    show (w.heap.push _).size = _
    simp
  show Row _ _ _ _ _
  rw [hs]
  exact h2
end Go.Proofs.YtcmlchicpmnhdaaGreatDoor.Rec
/-
  Records in memory: stores, loads behind guards and in regions that draw; rows of bytes of the call's own: a byte is written, a front is taken; small facts.
  Conditions: none.
-/
namespace Go.Proofs.YtcmlchicpmnhdaaGreatDoor.Rec
open Go.RowKit
open Go.Proofs.YtcmlchicpmnhdaaGreatDoor.Crc (Turned)
set_option linter.unusedVariables false
set_option linter.unusedSimpArgs false

/-- 'make([]byte, n)' reads as so many noughts. -/
theorem own_noughts {w : World} {base g n : Nat} {c : Nat} (h : w.ownsRow base 5 1 (.slice (some ⟨g, 0, none⟩) n c) n (madeCells (Value.int .u8 0).cells (n * 1)).toList) : Row w w.heap.size (some ⟨g, 0, none⟩) n (bvs (List.replicate n 0)) := by
  have := Row.own h
  have e : (madeCells (Value.int .u8 0).cells (n * 1)).toList = bvs (List.replicate n 0) := by
    apply List.ext_getElem?
    intro j
    by_cases hj : j < n
    · simp [madeCells, Value.cells, bvs, bv, hj, Nat.mod_one]
    · simp [madeCells, Value.cells, bvs, bv, hj]
  rwa [e] at this
/-- A record is stored whole; the frame stays as it is. -/
theorem store_recN {w : World} {ops : Array Oper} {rest : List Oper} {o : Oper} {a : Act} {Q : Exit → Act → World → Prop} {g : Nat} {old : Array Value} (h : Blk w g 91 old) (hs : old.size = 6) (hgd : o.guard = none) (y z : Operand) (ho : o.op = .store 91 y z) (hx : a.eval y = .pointer (some ⟨g, 0, none⟩)) (x : Rc) (hy : a.eval z = .agg x.vals) (hd : o.dst = none)
    (k : ∀ w', Hid (RecAt w' g x) → Hid (w.grownBy w' (some g)) → wpList Tryz.prog ops Q rest a w') : wpList Tryz.prog ops Q (o :: rest) a w :=
  store_rec h hs hgd y z ho hx x hy fun w' h1 h2 => by rw [hd]; exact k w' h1 h2
theorem wpList_want {P : Program} {w : World} {ops : Array Oper} {rest : List Oper} {o : Oper} {a : Act} {Q : Exit → Act → World → Prop} (hw : Region.wanted o (yielded ops a.tmps) = true)
    (h : ∀ K : Act → World → Prop, (∀ a w, wpList P ops Q rest a w → K a w) → o.wp P a w K Q) : wpList P ops Q (o :: rest) a w :=
  wpList_step fun K hK => by rw [if_pos hw]; exact h K hK
/-- A record is loaded whole, behind a guard. -/
theorem load_recG {w : World} {ops : Array Oper} {rest : List Oper} {o : Oper} {a : Act} {Q : Exit → Act → World → Prop} {g : Nat} {x : Rc} (h : RecAt w g x) (hw : Region.wanted o (yielded ops a.tmps) = true) (y : Operand) (ho : o.op = .load 91 y) (hx : a.eval y = .pointer (some ⟨g, 0, none⟩))
    (k : wpList Tryz.prog ops Q rest (a.put o.dst (.agg x.vals)) w) : wpList Tryz.prog ops Q (o :: rest) a w :=
  wpList_want hw fun _ hK => wp_load_row 91 y ho g hx 91 x.vals (0, 0) _ h Tryz.underlying91 rfl rec_info (hK _ _ k)
/-- A record is loaded whole in a region that draws. -/
theorem step_load_rec {ops : Array Oper} {o : Oper} {a : Act} {w : World} {K : Act → World → Prop} {Q : Exit → Act → World → Prop} {E : Prop} {g : Nat} {x : Rc} (h : RecAt w g x) (hw : Region.wanted o (yielded ops a.tmps) = true) (y : Operand) (ho : o.op = .load 91 y) (hx : a.eval y = .pointer (some ⟨g, 0, none⟩))
    (k : K (a.put o.dst (.agg x.vals)) w) : if Region.wanted o (yielded ops a.tmps) = true then Oper.wp Tryz.prog o a w K Q else E := by
  rw [if_pos hw]
  exact wp_load_row 91 y ho g hx 91 x.vals (0, 0) _ h Tryz.underlying91 rfl rec_info k
theorem rec_cells {w : World} {g : Nat} {z : Rc} (h : RecAt w g z) : w.cell? ⟨g, 0, none⟩ = some (.int .i64 z.kind) ∧ w.cell? ⟨g, 1, none⟩ = some (.int .u32 (z.tenant : Int)) ∧ w.cell? ⟨g, 2, none⟩ = some (.int .u64 (z.epoch : Int)) ∧ w.cell? ⟨g, 3, none⟩ = some (.int .u64 (z.object : Int)) ∧ w.cell? ⟨g, 4, none⟩ = some (.int .u64 (z.seq : Int)) ∧ w.cell? ⟨g, 5, none⟩ = some (.string (str z.body)) :=
  ⟨h.cell 0, h.cell 1, h.cell 2, h.cell 3, h.cell 4, h.cell 5⟩
theorem conv_row {w : World} {B n c : Nat} {A : Option Addr} {l : List UInt8} {s : ByteArray} (hR : Row w B A n (bvs l)) (hs : Hid (s = str l)) : (convert 51 9 (.slice A n c)).run Tryz.prog w = .ok (.string s) w := by
  rw [hs.out]
  exact bytes_string Tryz.underlying51 Tryz.underlying5 Tryz.underlying9 hR
theorem below_of_drew {w w' : World} (h : Below w.drew.heap.size w.drew w') : Hid (Below w.heap.size w w') := ⟨h.os, h.tape, h.output, h.size, h.block⟩
theorem conv_own {w : World} {base n : Nat} {u : Value} {l : List UInt8} {s : ByteArray} (h : w.ownsRow base 5 1 u n (bvs l)) (hs : Hid (s = str l)) : ∃ A c, u = .slice A n c ∧ (convert 51 9 (.slice A n c)).run Tryz.prog w = .ok (.string s) w := by
  obtain ⟨A, c, rfl, _, _⟩ := own_form h
  exact ⟨A, c, rfl, conv_row (Row.own h) hs⟩
theorem dec_enc (y : Rc) (hy : y.May) (hf : y.Fits) : dec (enc y) = .ok y (39 + y.body.length) := by
  have := dec_bytes y [] hy hf
  rw [List.append_nil] at this
  rw [enc_may hy]
  exact this
theorem xor_u8 (a b : UInt8) : bits .xor .u8 (a.toNat : Int) (b.toNat : Int) = ((a ^^^ b).toNat : Int) := by
  rw [u8_xor_nat _ _ a.toNat_lt b.toNat_lt, UInt8.toNat_xor]
theorem xor_ne (a b : UInt8) (h : b ≠ 0) : a ^^^ b ≠ a := by
  intro e
  refine h ?_
  have : a ^^^ (a ^^^ b) = a ^^^ a := by rw [e]
  rw [← UInt8.xor_assoc, UInt8.xor_self, UInt8.zero_xor] at this
  exact this
/-- A byte of a row of the call's own is written. -/
theorem own_put {w : World} {base g n c : Nat} {bs : List UInt8} (h : w.ownsRow base 5 1 (.slice (some ⟨g, 0, none⟩) n c) n (bvs bs)) (k : Nat) (z : UInt8) (hk : k < n) :
    Hid (Row (w.setCell ⟨g, k, none⟩ (.int .u8 (z.toNat : Int))) w.heap.size (some ⟨g, 0, none⟩) n (bvs (bs.set k z))) := by
  have hr := Row.own h
  have hs := hr.size
  obtain ⟨b, o, e, hlt, hc⟩ := hr.2 (by omega)
  injection e with e
  injection e with e1 e2
  subst e1 e2
  refine ⟨by rw [bvs_length, List.length_set, hs], fun _ => ⟨g, 0, rfl, hlt, fun i v hv => ?_⟩⟩
  obtain ⟨g', cap, cur, hv', _, hblk, _, _, hsz, _⟩ := own_block h (by omega)
  injection hv' with a1 a2 a3
  injection a1 with a1
  injection a1 with a1
  subst a1
  rw [Nat.zero_add, (hblk.put k _).cell i]
  rw [bvs, List.getElem?_map, List.getElem?_set] at hv
  by_cases hik : k = i
  · subst hik
    rw [if_pos rfl, if_pos (by omega)] at hv
    rw [Array.getElem?_setIfInBounds_self_of_lt (by omega)]
    exact hv
  · rw [if_neg hik] at hv
    rw [Array.getElem?_setIfInBounds_ne hik, ← hblk.cell i]
    have := hc i v (by rw [bvs, List.getElem?_map]; exact hv)
    rwa [Nat.zero_add] at this
theorem own_cells {w : World} {base g n c : Nat} {bs : List UInt8} (h : w.ownsRow base 5 1 (.slice (some ⟨g, 0, none⟩) n c) n (bvs bs)) (k : Nat) (hk : k < n) :
    w.cell? ⟨g, k, none⟩ = some (.int .u8 ((bs.getD k 0).toNat : Int)) ∧ w.frozen? ⟨g, k, none⟩ = false := by
  obtain ⟨b, o, e, hlt, hc⟩ := (Row.own h).byte (by omega)
  injection e with e
  injection e with e1 e2
  subst e1 e2
  obtain ⟨g', cap, cur, hv', _, hblk, _⟩ := own_block h (by omega)
  injection hv' with a1 a2 a3
  injection a1 with a1
  injection a1 with a1
  subst a1
  have := hc k hk
  rw [Nat.zero_add] at this
  exact ⟨this, hblk.free k⟩
theorem own_take {w : World} {base n c k : Nat} {A : Option Addr} {bs : List UInt8} (h : w.ownsRow base 5 1 (.slice A n c) n (bvs bs)) (hk : k ≤ n) : w.ownsRow base 5 1 (.slice A k c) k (bvs (bs.take k)) := by
  have hl : bs.length = n := by have := h.1; rw [bvs_length] at this; omega
  refine ⟨by rw [bvs_length, List.length_take]; omega, ?_⟩
  rcases h.2 with ⟨h0, hn⟩ | ⟨g, cap, cur, hv, hb, hg, hnc, hm, hs, hx⟩
  · injection h0 with h1 h2 h3
    subst h1 h3
    exact .inl ⟨by rw [show k = 0 by omega], by omega⟩
  · injection hv with h1 h2 h3
    subst h1 h3
    refine .inr ⟨g, c, cur, rfl, hb, hg, by omega, hm, hs, ?_⟩
    rw [← bvs_take, ← hx, List.take_take]
    congr 1
    omega
theorem Rc.Ok.cut {x : Rc} (h : x.Ok) (m : Nat) (hm : m ≤ maxLen) : (x.cut m).Ok :=
  ⟨h.kind, ⟨h.fits.tenant, h.fits.epoch, h.fits.object, h.fits.seq⟩, by show (x.body.take m).length ≤ maxLen; rw [List.length_take]; have := h.body; omega⟩
theorem cut_small (x : Rc) (m : Nat) : (x.cut m).body.length ≤ m := by
  show (x.body.take m).length ≤ m
  rw [List.length_take]
  omega
end Go.Proofs.YtcmlchicpmnhdaaGreatDoor.Rec
/-
  Plain facts: records found, as a row of structs of seven cells that the call itself made; an append of one more.
-/
namespace Go.Proofs.YtcmlchicpmnhdaaGreatDoor.Rec
open Go.RowKit
set_option linter.unusedVariables false
set_option linter.unusedSimpArgs false

/-- The cells of one record found. -/
def fcells (q : Nat × Rc) : List Value := .int .i64 (q.1 : Int) :: q.2.vals.toList
def flat (l : List (Nat × Rc)) : List Value := l.flatMap fcells
theorem fcells_length (q : Nat × Rc) : (fcells q).length = 7 := rfl
theorem flat_length (l : List (Nat × Rc)) : (flat l).length = l.length * 7 := by
  induction l with
  | nil => rfl
  | cons q l ih =>
    unfold flat at ih ⊢
    rw [List.flatMap_cons, List.length_append, ih, fcells_length, List.length_cons]
    omega
theorem flat_snoc (l : List (Nat × Rc)) (q : Nat × Rc) : flat l ++ fcells q = flat (l ++ [q]) := by
  unfold flat
  rw [List.flatMap_append, List.flatMap_singleton]
theorem fcells_one (q : Nat × Rc) : ∀ u ∈ fcells q, u.oneCell' = true := by
  intro u hu
  simp only [fcells, Rc.vals, List.mem_cons, List.not_mem_nil, or_false] at hu
  rcases hu with rfl | rfl | rfl | rfl | rfl | rfl | rfl <;> rfl
/-- Records found so far: a row of the call's own, of any struct type that has these cells. -/
structure Fd (w0 : World) (e : TypeId) (w : World) (v : Value) (l : List (Nat × Rc)) : Prop where
  row : w.ownsRow w0.heap.size e 7 v l.length (flat l)
  below : Below w0.heap.size w0 w
theorem Fd.nil (w : World) (e : TypeId) : Fd w e w (.slice none 0 0) [] := ⟨World.ownsRow_nil _ _ _ _, Below.refl _ _⟩
theorem Fd.all {w0 w w' : World} {e : TypeId} {v : Value} {l : List (Nat × Rc)} (h : Fd w0 e w v l) (hb : Below w.heap.size w w') : Fd w0 e w' v l :=
  ⟨h.row.kept (row := none) ⟨hb.os, hb.tape, hb.output, hb.size, fun i hi _ => hb.block i hi⟩ (Classical.em _), h.below.trans (hb.mono h.below.size)⟩
section
variable {w0 w : World} {e : TypeId} {v : Value} {l : List (Nat × Rc)} {ops : Array Oper} {rest : List Oper} {o : Oper} {a : Act} {Q : Exit → Act → World → Prop}
theorem fd_append (h : Fd w0 e w v l) (T : TypeId) (z : Value) (by' : Nat) (hT : Tryz.prog.underlying T = some (.slice e)) (hi : (Tryz.prog.info? e).map (fun i => (i.zero, i.size, i.bytes)) = some (some z, 7, by')) (hz : z.cells.size = 7) (hby : by' ≤ 64)
    (hgd : o.guard = none) (s y : Operand) (ho : o.op = .call { callee := .builtin .append, args := #[s, y], argTypes := #[T, T] }) (hs : a.eval s = v)
    (g c : Nat) (q : Nat × Rc) (hy : a.eval y = .slice (some ⟨g, 0, none⟩) 1 c) (hq : ∀ j u, (fcells q)[j]? = some u → w.cell? ⟨g, j, none⟩ = some u) (hl : l.length ≤ 100000000)
    (k : ∀ v' w', Hid (Fd w0 e w' v' (l ++ [q])) → wpList Tryz.prog ops Q rest (a.put o.dst v') w') : wpList Tryz.prog ops Q (o :: rest) a w := by
  obtain ⟨i, hii, hzz⟩ := Option.map_eq_some_iff.1 hi
  simp only [Prod.mk.injEq] at hzz
  obtain ⟨hz0, hs1, hb1⟩ := hzz
  refine wpList_append_own (w := w) hgd s y T ho w0.heap.size e i z 7 by' hT hii hz0 hs1 hb1 hz (by decide) v l.length (flat l) hs h.row ⟨g, 0, none⟩ 1 c (fcells q) hy (fcells_length q) ?_ (fcells_one q) (by unfold maxLen; omega) ?_ h.below.size ?_
  · intro j u hu
    have := hq j u hu
    rw [Addr.add_lit, Nat.zero_add]
    exact this
  · have : (l.length + 1) * by' ≤ (l.length + 1) * 64 := Nat.mul_le_mul_left _ hby
    omega
  · intro v' w' h1 h2 _
    refine k v' w' ⟨?_, own_below h.row h.below (Nat.le_refl _) h.below.size h2⟩
    rw [flat_snoc] at h1
    rw [List.length_append]
    exact h1
end
/-- A block of one record found. -/
theorem one_cells (w : World) (t : TypeId) (fr : Nat × Nat) (q : Nat × Rc) (cs : Array Value) (h : cs.toList = fcells q) : ∀ j u, (fcells q)[j]? = some u → (w.alloc (.cells cs t fr)).cell? ⟨w.heap.size, j, none⟩ = some u := by
  intro j u hu
  rw [cell_of_row _ w.heap.size j cs t fr (heap_alloc_new w _), ← Array.getElem?_toList, h]
  exact hu
end Go.Proofs.YtcmlchicpmnhdaaGreatDoor.Rec
/-
  Plain facts: a record found, built out of its place and the record; a slice of one of these.
-/
namespace Go.Proofs.YtcmlchicpmnhdaaGreatDoor.Rec
open Go.RowKit
set_option linter.unusedVariables false
set_option linter.unusedSimpArgs false

theorem built_ref (p : Nat) (x : Rc) : Tryz.prog.built 93 [(0, .int .i64 (p : Int)), (1, .agg x.vals)] = some (fcells (p, x)).toArray := by kernel_rfl
theorem slice_ref (p : Nat) (x : Rc) : Tryz.prog.builtSlice 93 1 [(0, .agg (fcells (p, x)).toArray)] = some (fcells (p, x)).toArray := by kernel_rfl
section
variable {w : World} {ops : Array Oper} {rest : List Oper} {o : Oper} {a : Act} {Q : Exit → Act → World → Prop}
theorem build_found (hg : o.guard = none) (T : TypeId) (y1 y2 : Operand) (ho : o.op = .build T #[(0, y1), (1, y2)]) (d : Option Tmp) (hd : o.dst = d) (v1 v2 : Value) (h1 : a.eval y1 = v1) (h2 : a.eval y2 = v2) (fc : Array Value)
    (hb : Tryz.prog.built T [(0, v1), (1, v2)] = some fc) (k : wpList Tryz.prog ops Q rest (a.put d (.agg fc)) w) : wpList Tryz.prog ops Q (o :: rest) a w := by
  refine wpList_buildTo hg T _ ho d hd fc ?_ k
  rw [Array.toList_map]
  simp only [List.map_cons, List.map_nil, h1, h2]
  exact hb
theorem build_one (hg : o.guard = none) (T e : TypeId) (y : Operand) (ho : o.op = .buildSlice T 1 #[(0, y)]) (d : Option Tmp) (hd : o.dst = d) (hu : Tryz.prog.underlying T = some (.slice e)) (v : Value) (hy : a.eval y = v) (fc : Array Value)
    (hb : Tryz.prog.builtSlice e 1 [(0, v)] = some fc) (k : wpList Tryz.prog ops Q rest (a.put d (.slice (some ⟨w.heap.size, 0, none⟩) 1 1)) (w.alloc (.cells fc e))) : wpList Tryz.prog ops Q (o :: rest) a w := by
  refine Go.Great.wpList_buildSliceTo hg T e 1 _ ho w.heap.size rfl d hd hu fc ?_ k
  rw [Array.toList_map]
  simp only [List.map_cons, List.map_nil, hy]
  exact hb
end
end Go.Proofs.YtcmlchicpmnhdaaGreatDoor.Rec
/-
  Proved: what withoutBody returns of a whole head.
  Conditions: the slice reads as bytes, at least 39.
-/
namespace Go.Proofs.YtcmlchicpmnhdaaGreatDoor.Rec
open Go.RowKit
set_option linter.unusedVariables false
set_option linter.unusedSimpArgs false

theorem row_heap {w w' : World} {B n : Nat} {A : Option Addr} {vs : List Value} (h : Row w B A n vs) (e : w'.heap = w.heap) : Row w' B A n vs :=
  h.keep fun b o _ => by unfold World.cell?; rw [e]
theorem row_part {w : World} {B n k m b o : Nat} {bs : List UInt8} (h : Row w B (some ⟨b, o, none⟩) n (bvs bs)) (hk : k < m) (hm : m ≤ n) : Row w B (some ⟨b, o + k, none⟩) (m - k) (bvs (part bs k m)) := by
  have := (h.drop (k := k) (by omega)).take (k := m - k) (by omega)
  rw [bvs_drop, bvs_take] at this
  exact this
theorem get_part {w : World} {B n b o c : Nat} {bs : List UInt8} (h : Row w B (some ⟨b, o, none⟩) n (bvs bs)) (hnc : n ≤ c) (hc : c ≤ maxLen) (k m z d : Nat) (hk : k < m) (hm : m ≤ n) (hz : z = m - k) (h8 : z ≤ 8) (hd : d = c - k) :
    Hid (∀ w', w'.heap = w.heap → Calls Tryz.prog 91 #[.slice (some ⟨b, o + k, none⟩) z d] w' fun e w'' => e = .returned (.int .u64 (beN (part bs k m) : Int)) ∧ w'' = w') := by
  intro w' e
  subst hz hd
  refine (get_any _ _ _ B _ w' (row_heap (row_part h hk hm) e) h8 (by omega) (by omega)).mono ?_
  rintro e w'' ⟨h1, rfl⟩
  exact ⟨h1, rfl⟩
end Go.Proofs.YtcmlchicpmnhdaaGreatDoor.Rec
/-
  Proved: what Decode of record returns: what a list of bytes begins with.
  Conditions: the slice reads as bytes; the table crc.turned holds its sixteen words.
-/
namespace Go.Proofs.YtcmlchicpmnhdaaGreatDoor.Rec
open Go.RowKit
open Go.Proofs.YtcmlchicpmnhdaaGreatDoor.Crc (Turned)
set_option linter.unusedVariables false
set_option linter.unusedSimpArgs false

theorem result_rec3 {w : World} {fn : Func} {p q r : Tmp} {g : Nat} {x : Rc} (h : RecAt w g x) (hr : fn.results = #[.cell p 91, .tmp q, .tmp r]) (tmps : Array Value) (hp : tmps.getD p undef = .pointer (some ⟨g, 0, none⟩)) :
    (results fn tmps).run Tryz.prog w = .ok (.tuple #[.agg x.vals, tmps.getD q undef, tmps.getD r undef]) w := by
  have hp' : tmps[p]?.getD undef = .pointer (some ⟨g, 0, none⟩) := by simpa using hp
  simp [results, hr, hp', asAddr, run_loadVar_row w g 91 91 x.vals (0, 0) _ h Tryz.underlying91 rfl rec_info]
def Out.vals : Out → Array Value
  | .ok x n => #[.agg x.vals, .int .i64 (n : Int), .int .i64 0]
  | .more => #[.agg zeroRc.vals, .int .i64 0, .int .i64 11]
  | .bad => #[.agg zeroRc.vals, .int .i64 0, .int .i64 4]
theorem zero_new (w : World) : RecAt (w.alloc (.cells #[.int .i64 0, .int .u32 0, .int .u64 0, .int .u64 0, .int .u64 0, .string ⟨#[]⟩] 91)) w.heap.size zeroRc := Blk.new w 91 zeroRc.vals

theorem beN_part_lt (bs : List UInt8) (i j k : Nat) (h : i ≤ j) (hj : j ≤ bs.length) (hk : j - i = k) : beN (part bs i j) < 256 ^ k := beN_lt k _ (by rw [part_length bs i j h hj, hk])
theorem headOf_fits (bs : List UInt8) (h : 39 ≤ bs.length) : (headOf bs).Fits :=
  ⟨beN_part_lt bs 3 7 4 (by omega) (by omega) rfl, beN_part_lt bs 7 15 8 (by omega) (by omega) rfl, beN_part_lt bs 15 23 8 (by omega) (by omega) rfl, beN_part_lt bs 23 31 8 (by omega) (by omega) rfl⟩
end Go.Proofs.YtcmlchicpmnhdaaGreatDoor.Rec
/-
  Plain facts: what Decode says as a value, slices from a place on, a new variable beside records found.
-/
namespace Go.Proofs.YtcmlchicpmnhdaaGreatDoor.Rec
open Go.RowKit
set_option linter.unusedVariables false
set_option linter.unusedSimpArgs false

theorem found_info : (Tryz.prog.info? 93).map (fun i => (i.zero, i.size, i.bytes)) = some (some (.agg #[.int .i64 0, .int .i64 0, .int .u32 0, .int .u64 0, .int .u64 0, .int .u64 0, .string ⟨#[]⟩]), 7, 64) := by kernel_rfl
theorem out_ok (o : Out) : (∃ x n, o = .ok x n) ∨ ∃ e : Int, e ≠ 0 ∧ o.vals = #[.agg zeroRc.vals, .int .i64 0, .int .i64 e] ∧ ∀ x n, o ≠ .ok x n := by
  cases o with
  | ok x n => exact .inl ⟨x, n, rfl⟩
  | more => exact .inr ⟨11, by decide, rfl, fun _ _ h => by cases h⟩
  | bad => exact .inr ⟨4, by decide, rfl, fun _ _ h => by cases h⟩
theorem row_from {w : World} {B n p b o : Nat} {bs : List UInt8} (h : Row w B (some ⟨b, o, none⟩) n (bvs bs)) (hp : p < n) : Row w B (some ⟨b, o + p, none⟩) (n - p) (bvs (bs.drop p)) := by
  have := h.drop hp
  rwa [bvs_drop] at this
/-- .. behind a new record of the call's own. -/
theorem fd_store {w0 w w' : World} {e t : TypeId} {v : Value} {l : List (Nat × Rc)} {cs : Array Value} (h : Fd w0 e w v l) (hg : (w.alloc (.cells cs t)).grownBy w' (some w.heap.size)) : Hid (Fd w0 e w' v l) := by
  have hb : Below w.heap.size w w' := below_only (below_alloc w (.cells cs t)) hg (Nat.le_refl _) (by simp)
  exact h.all hb
/-- A slice from a place on, that place at its end too. -/
theorem row_upto {w : World} {B n p b o c : Nat} {bs : List UInt8} {P : Option Addr} (h : Row w B (some ⟨b, o, none⟩) n (bvs bs)) (hp : p ≤ n) (hnc : n ≤ c) (hP : (if c = p then some (⟨b, o, none⟩ : Addr) else some ⟨b, o + p, none⟩) = P) : Row w B P (n - p) (bvs (bs.drop p)) := by
  by_cases hlt : p < n
  · rw [if_neg (by omega)] at hP
    subst hP
    exact row_from h hlt
  · exact ⟨by rw [bvs_length, List.length_drop, h.size], fun hn => absurd hn (by omega)⟩
theorem dec_nil : dec [] = .more := by
  unfold dec
  rw [if_neg (not_not_intro ⟨fun h => absurd h (by decide), fun h => absurd h (by decide), fun h => absurd h (by decide)⟩), if_pos (by decide)]
theorem front_nil : frontFrom 0 [] = [] := frontFrom_no (fun x n h => by rw [List.drop_nil, dec_nil] at h; cases h)
theorem empty_row {w : World} {B : Nat} {A : Option Addr} : Row w B A 0 (bvs []) := ⟨rfl, fun h => absurd h (by omega)⟩
end Go.Proofs.YtcmlchicpmnhdaaGreatDoor.Rec
