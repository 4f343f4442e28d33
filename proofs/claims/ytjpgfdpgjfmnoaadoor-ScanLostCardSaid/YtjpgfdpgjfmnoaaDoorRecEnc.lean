/-
  Proved: bytes under way in a row of the call's own, beside a record's block: appends of them; a text as bytes.
  Conditions: the lengths are small.
-/
import Derived.Test.YtjpgfdpgjfmnoaaDoorRecEq
import Derived.Lib.AppendStr
import Derived.Deep.Onto
import Derived.Lib.SlBytesConst
import Derived.Laws.IdiomStrings
namespace Go.Proofs.YtjpgfdpgjfmnoaaDoor.Rec
open Go.RowKit
open Go.Proofs.YtjpgfdpgjfmnoaaDoor.Crc (Turned)
set_option linter.unusedVariables false
set_option linter.unusedSimpArgs false

theorem turned_below {w w' : World} {B : Nat} (h : Turned w) (hb : Below B w w') (hB : B = w.heap.size) : Turned w' := fun i hi => by
  subst hB
  exact (hb.cell (block_lt_of_cell (h i hi))).trans (h i hi)
/-- Bytes that are under way, in a row of the call's own, beside a record's block g. -/
structure Enc (w0 : World) (g : Nat) (x : Rc) (w : World) (v : Value) (bs : List UInt8) : Prop where
  at' : RecAt w g x
  row : w.ownsRow (g + 1) 5 1 v bs.length (bvs bs)
  below : Below w0.heap.size w0 w
  old : w0.heap.size = g
theorem Enc.lt {w0 w : World} {g : Nat} {x : Rc} {v : Value} {bs : List UInt8} (h : Enc w0 g x w v bs) : g < w.heap.size := h.at'.lt
/-- .. where nothing that lay has turned. -/
theorem Enc.all {w0 w w' : World} {g : Nat} {x : Rc} {v : Value} {bs : List UInt8} (h : Enc w0 g x w v bs) (hb : Below w.heap.size w w') : Enc w0 g x w' v bs := by
  exact ⟨h.at'.below hb h.lt, h.row.kept (row := none) ⟨hb.os, hb.tape, hb.output, hb.size, fun i hi _ => hb.block i hi⟩ (Classical.em _), h.below.trans (hb.mono h.below.size), h.old⟩
theorem enc_row {w0 w : World} {g : Nat} {x : Rc} {v : Value} {bs : List UInt8} (h : Enc w0 g x w v bs) : ∃ A c, v = .slice A bs.length c ∧ bs.length ≤ c ∧ c ≤ maxLen ∧ Row w w.heap.size A bs.length (bvs bs) := by
  obtain ⟨A, c, rfl, h1, h2⟩ := own_form h.row
  exact ⟨A, c, rfl, h1, h2, Row.own h.row⟩
theorem grown_at {w w' : World} {g : Nat} {x : Rc} {v : Value} {n : Nat} {vs : List Value} (h : RecAt w g x) (ho : w.ownsRow (g + 1) 5 1 v n vs) (hg : w.grownBy w' v.ownBlock) : RecAt w' g x :=
  h.kept hg fun e => by
    have := (ho.lt g e.symm).1
    omega
section
variable {w0 w : World} {g : Nat} {x : Rc} {v : Value} {bs : List UInt8} {ops : Array Oper} {rest : List Oper} {o : Oper} {a : Act} {Q : Exit → Act → World → Prop}
theorem enc_append (h : Enc w0 g x w v bs) (hgd : o.guard = none) (s y : Operand) (ho : o.op = .call { callee := .builtin .append, args := #[s, y], argTypes := #[26, 26] })
    (hs : a.eval s = v) (B : Nat) (A : Option Addr) (m c : Nat) (ps : List UInt8) (hy : a.eval y = .slice A m c) (hr : Row w B A m (bvs ps)) (hl : bs.length + m ≤ 1000000)
    (k : ∀ v' w', Hid (Enc w0 g x w' v' (bs ++ ps)) → wpList Tryd.prog ops Q rest (a.put o.dst v') w') : wpList Tryd.prog ops Q (o :: rest) a w := by
  have hm : ps.length = m := hr.size
  refine wpList_append_reads hgd s y 26 ho (g + 1) 5 (.int .u8 0) 1 Tryd.underlying26 u8_info rfl v bs.length (bvs bs) hs h.row B A m c _ hy hr (bvs_one _) (by unfold maxLen; omega) (by omega) h.lt ?_
  intro v' w' h1 h2
  refine k v' w' ⟨grown_at h.at' h.row h2, ?_, own_below h.row h.below (by have := h.old; omega) h.lt h2, h.old⟩
  rw [bvs_append] at h1
  rw [List.length_append, hm]
  exact h1
theorem enc_string (h : Enc w0 g x w v bs) (hgd : o.guard = none) (s y : Operand) (ho : o.op = .call { callee := .builtin .append, args := #[s, y], argTypes := #[26, 9] })
    (hs : a.eval s = v) (l : List UInt8) (hy : a.eval y = .string (str l)) (hl : bs.length + l.length ≤ 1000000)
    (k : ∀ v' w', Hid (Enc w0 g x w' v' (bs ++ l)) → wpList Tryd.prog ops Q rest (a.put o.dst v') w') : wpList Tryd.prog ops Q (o :: rest) a w := by
  obtain ⟨i, hi, hz0, hz1, hz2⟩ := u8_info3
  have e : Lib.strCells (str l) = bvs l := by simp [Lib.strCells, str, bvs, bv]
  refine Lib.wpList_append_own_string w hgd s y 26 9 ho (g + 1) 5 i Tryd.underlying26 Tryd.underlying9 hi hz0 hz1 hz2 v bs.length (bvs bs) hs h.row (str l) hy (by rw [str_size]; unfold maxLen; omega) (by rw [str_size]; omega) h.lt ?_
  intro v' w' h1 h2 _
  refine k v' w' ⟨grown_at h.at' h.row h2, ?_, own_below h.row h.below (by have := h.old; omega) h.lt h2, h.old⟩
  rw [e, bvs_append, str_size] at h1
  rw [List.length_append]
  exact h1
end
theorem enc_refput {w0 w : World} {g : Nat} {x : Rc} {v : Value} {bs : List UInt8} (h : Hid (Enc w0 g x w v bs)) (n k : Nat) (K : Int) (hK : K = (k : Int)) (hk : 1 ≤ k ∧ k ≤ 8) (hn : n < 18446744073709551616) :
    Calls Tryd.prog 21 #[.int .u64 (n : Int), .int .i64 K] w fun e w' => ∃ A c, e = .returned (.slice A k c) ∧ Hid (Enc w0 g x w' v bs) ∧ Hid (Row w' w'.heap.size A k (bvs (be n k))) ∧ Hid (Below w.heap.size w w') := by
  refine (refput_any n k K w hK hk hn).mono ?_
  rintro e w' ⟨u, rfl, ho, hb⟩
  obtain ⟨A, c, rfl, _, _⟩ := own_form ho
  exact ⟨A, c, rfl, h.out.all hb, Row.own ho, hb⟩
/-- The bytes of a text, in a new block that nothing may be written to. -/
theorem enc_bytes {w0 w : World} {g : Nat} {x : Rc} {v : Value} {bs : List UInt8} (h : Enc w0 g x w v bs) (o : Obj) : Enc w0 g x (w.alloc o) v bs := h.all (below_alloc w o)
theorem enc_may {x : Rc} (h : x.May) : enc x = x.bytes := if_pos h
theorem enc_not {x : Rc} (h : ¬ x.May) : enc x = [] := if_neg h
theorem may_true {x : Rc} (h : x.May) : x.may = true := decide_eq_true h
theorem may_false {x : Rc} (h : ¬ x.May) : x.may = false := decide_eq_false h
/-- '[]byte(s)' of any text. -/
theorem conv_bytes (w : World) (l : List UInt8) : ∃ c w', (convert 9 26 (.string (str l))).run Tryd.prog w = .ok (.slice (some ⟨w.heap.size, 0, none⟩) l.length c) w' ∧ Hid (Below w.heap.size w w') ∧ Hid (Row w' w'.heap.size (some ⟨w.heap.size, 0, none⟩) l.length (bvs l)) := by
  have h0 := run_bytes_of_string (P := Tryd.prog) w 9 26 5 (str l) Tryd.underlying9 Tryd.underlying26 Tryd.underlying5
  obtain ⟨cap, hcap⟩ : ∃ cap, cap = grownCap w (str l).size 0 5 := ⟨_, rfl⟩
  obtain ⟨C, hC⟩ : ∃ C, C = bytesRow (str l) cap := ⟨_, rfl⟩
  rw [← hcap, ← hC, str_size] at h0
  refine ⟨_, _, h0, (Below.refl _ _).drew.alloc (Nat.le_refl _) _, ?_⟩
  have h := Row.fresh w.drew 5 (C.size, C.size + 1) C
  have e0 : C.toList = bvs l ++ List.replicate (cap - l.length) (.int .u8 0) := by
    rw [hC]
    simp [bytesRow, str, bvs, bv, ByteArray.size]
  have hsz : l.length ≤ C.size := by
    rw [← Array.length_toList, e0, List.length_append, bvs_length]
    omega
  have h2 := h.take (k := l.length) hsz
  have e : C.toList.take l.length = bvs l := by
    rw [e0]
    exact List.take_left' (bvs_length l)
  rw [e] at h2
  have hs : (w.drew.alloc (.cells C 5 (C.size, C.size + 1))).heap.size = w.heap.size + 1 := by
    show (w.heap.push _).size = _
    simp
  show Row _ _ _ _ _
  rw [hs]
  exact h2
end Go.Proofs.YtjpgfdpgjfmnoaaDoor.Rec
