/-
  Proved: what Encode of record returns: a record's bytes in memory of its own; none where it may not be.
  Conditions: numbers and texts are those of values; the table crc.turned holds its sixteen words.
-/
import Derived.Test.YtnhhoodmmefjdaaDoorRecEq
import Derived.Lib.AppendStr
import Derived.Deep.Onto
namespace Go.Proofs.YtnhhoodmmefjdaaDoor.Rec
open Go.RowKit
open Go.Proofs.YtnhhoodmmefjdaaDoor.Crc (Turned)
set_option linter.unusedVariables false
set_option linter.unusedSimpArgs false

theorem turned_below {w w' : World} {B : Nat} (h : Turned w) (hb : Below B w w') (hB : B = w.heap.size) : Turned w' := fun i hi => by
  subst hB
  exact (hb.cell (block_lt_of_cell (h i hi))).trans (h i hi)
/-- Bytes that are under way, in a row of the call's own, beside a record's block g. -/
structure Enc (w0 : World) (g : Nat) (x : Rc) (w : World) (v : Value) (bs : List UInt8) : Prop where
  at' : RecAt w g x
  row : w.ownsRow (g + 1) 5 1 v bs.length (bvs bs)
  below : Below w0.heap.size w0 w
  old : w0.heap.size = g
theorem Enc.lt {w0 w : World} {g : Nat} {x : Rc} {v : Value} {bs : List UInt8} (h : Enc w0 g x w v bs) : g < w.heap.size := h.at'.lt
/-- .. where nothing that lay has turned. -/
theorem Enc.all {w0 w w' : World} {g : Nat} {x : Rc} {v : Value} {bs : List UInt8} (h : Enc w0 g x w v bs) (hb : Below w.heap.size w w') : Enc w0 g x w' v bs := by
  exact ⟨h.at'.below hb h.lt, h.row.kept (row := none) ⟨hb.os, hb.tape, hb.output, hb.size, fun i hi _ => hb.block i hi⟩ (Classical.em _), h.below.trans (hb.mono h.below.size), h.old⟩
theorem enc_row {w0 w : World} {g : Nat} {x : Rc} {v : Value} {bs : List UInt8} (h : Enc w0 g x w v bs) : ∃ A c, v = .slice A bs.length c ∧ bs.length ≤ c ∧ c ≤ maxLen ∧ Row w w.heap.size A bs.length (bvs bs) := by
  obtain ⟨A, c, rfl, h1, h2⟩ := own_form h.row
  exact ⟨A, c, rfl, h1, h2, Row.own h.row⟩
theorem grown_at {w w' : World} {g : Nat} {x : Rc} {v : Value} {n : Nat} {vs : List Value} (h : RecAt w g x) (ho : w.ownsRow (g + 1) 5 1 v n vs) (hg : w.grownBy w' v.ownBlock) : RecAt w' g x :=
  h.kept hg fun e => by
    have := (ho.lt g e.symm).1
    omega
section
variable {w0 w : World} {g : Nat} {x : Rc} {v : Value} {bs : List UInt8} {ops : Array Oper} {rest : List Oper} {o : Oper} {a : Act} {Q : Exit → Act → World → Prop}
theorem enc_append (h : Enc w0 g x w v bs) (hgd : o.guard = none) (s y : Operand) (ho : o.op = .call { callee := .builtin .append, args := #[s, y], argTypes := #[28, 28] })
    (hs : a.eval s = v) (B : Nat) (A : Option Addr) (m c : Nat) (ps : List UInt8) (hy : a.eval y = .slice A m c) (hr : Row w B A m (bvs ps)) (hl : bs.length + m ≤ 1000000)
    (k : ∀ v' w', Hid (Enc w0 g x w' v' (bs ++ ps)) → wpList Tryd.prog ops Q rest (a.put o.dst v') w') : wpList Tryd.prog ops Q (o :: rest) a w := by
  have hm : ps.length = m := hr.size
  refine wpList_append_reads hgd s y 28 ho (g + 1) 5 (.int .u8 0) 1 Tryd.underlying28 u8_info rfl v bs.length (bvs bs) hs h.row B A m c _ hy hr (bvs_one _) (by unfold maxLen; omega) (by omega) h.lt ?_
  intro v' w' h1 h2
  refine k v' w' ⟨grown_at h.at' h.row h2, ?_, own_below h.row h.below (by have := h.old; omega) h.lt h2, h.old⟩
  rw [bvs_append] at h1
  rw [List.length_append, hm]
  exact h1
theorem enc_string (h : Enc w0 g x w v bs) (hgd : o.guard = none) (s y : Operand) (ho : o.op = .call { callee := .builtin .append, args := #[s, y], argTypes := #[28, 9] })
    (hs : a.eval s = v) (l : List UInt8) (hy : a.eval y = .string (str l)) (hl : bs.length + l.length ≤ 1000000)
    (k : ∀ v' w', Hid (Enc w0 g x w' v' (bs ++ l)) → wpList Tryd.prog ops Q rest (a.put o.dst v') w') : wpList Tryd.prog ops Q (o :: rest) a w := by
  obtain ⟨i, hi, hz0, hz1, hz2⟩ := u8_info3
  have e : Lib.strCells (str l) = bvs l := by simp [Lib.strCells, str, bvs, bv]
  refine Lib.wpList_append_own_string w hgd s y 28 9 ho (g + 1) 5 i Tryd.underlying28 Tryd.underlying9 hi hz0 hz1 hz2 v bs.length (bvs bs) hs h.row (str l) hy (by rw [str_size]; unfold maxLen; omega) (by rw [str_size]; omega) h.lt ?_
  intro v' w' h1 h2 _
  refine k v' w' ⟨grown_at h.at' h.row h2, ?_, own_below h.row h.below (by have := h.old; omega) h.lt h2, h.old⟩
  rw [e, bvs_append, str_size] at h1
  rw [List.length_append]
  exact h1
end
theorem enc_put {w0 w : World} {g : Nat} {x : Rc} {v : Value} {bs : List UInt8} (h : Hid (Enc w0 g x w v bs)) (n k : Nat) (K : Int) (hK : K = (k : Int)) (hk : 1 ≤ k ∧ k ≤ 8) (hn : n < 18446744073709551616) :
    Calls Tryd.prog 19 #[.int .u64 (n : Int), .int .i64 K] w fun e w' => ∃ A c, e = .returned (.slice A k c) ∧ Hid (Enc w0 g x w' v bs) ∧ Hid (Row w' w'.heap.size A k (bvs (be n k))) ∧ Hid (Below w.heap.size w w') := by
  refine (put_any n k K w hK hk hn).mono ?_
  rintro e w' ⟨u, rfl, ho, hb⟩
  obtain ⟨A, c, rfl, _, _⟩ := own_form ho
  exact ⟨A, c, rfl, h.out.all hb, Row.own ho, hb⟩
theorem enc_refput {w0 w : World} {g : Nat} {x : Rc} {v : Value} {bs : List UInt8} (h : Hid (Enc w0 g x w v bs)) (n k : Nat) (K : Int) (hK : K = (k : Int)) (hk : 1 ≤ k ∧ k ≤ 8) (hn : n < 18446744073709551616) :
    Calls Tryd.prog 21 #[.int .u64 (n : Int), .int .i64 K] w fun e w' => ∃ A c, e = .returned (.slice A k c) ∧ Hid (Enc w0 g x w' v bs) ∧ Hid (Row w' w'.heap.size A k (bvs (be n k))) ∧ Hid (Below w.heap.size w w') := by
  refine (refput_any n k K w hK hk hn).mono ?_
  rintro e w' ⟨u, rfl, ho, hb⟩
  obtain ⟨A, c, rfl, _, _⟩ := own_form ho
  exact ⟨A, c, rfl, h.out.all hb, Row.own ho, hb⟩
/-- The bytes of a text, in a new block that nothing may be written to. -/
theorem enc_bytes {w0 w : World} {g : Nat} {x : Rc} {v : Value} {bs : List UInt8} (h : Enc w0 g x w v bs) (o : Obj) : Enc w0 g x (w.alloc o) v bs := h.all (below_alloc w o)
end Go.Proofs.YtnhhoodmmefjdaaDoor.Rec
