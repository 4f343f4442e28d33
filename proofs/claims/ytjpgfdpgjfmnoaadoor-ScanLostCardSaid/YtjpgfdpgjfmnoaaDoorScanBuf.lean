/-
  Plain facts: a text under way as a row of the call's own; what stands in texts of records one behind the other.
-/
import Derived.Test.YtjpgfdpgjfmnoaaDoorScanRecs
import Derived.Test.YtjpgfdpgjfmnoaaDoorDraw
namespace Go.Proofs.YtjpgfdpgjfmnoaaDoor.Rec
open Go.RowKit
set_option linter.unusedVariables false
set_option linter.unusedSimpArgs false

/-- A text under way. -/
structure Bf (w0 w : World) (v : Value) (bs : List UInt8) : Prop where
  row : w.ownsRow w0.heap.size 5 1 v bs.length (bvs bs)
  below : Below w0.heap.size w0 w
theorem Bf.nil (w : World) : Bf w w (.slice none 0 0) [] := ⟨World.ownsRow_nil _ _ _ _, Below.refl _ _⟩
theorem Bf.all {w0 w w' : World} {v : Value} {bs : List UInt8} (h : Bf w0 w v bs) (hb : Below w.heap.size w w') : Bf w0 w' v bs :=
  ⟨h.row.kept (row := none) ⟨hb.os, hb.tape, hb.output, hb.size, fun i hi _ => hb.block i hi⟩ (Classical.em _), h.below.trans (hb.mono h.below.size)⟩
theorem Bf.form {w0 w : World} {v : Value} {bs : List UInt8} (h : Bf w0 w v bs) : ∃ A c, v = .slice A bs.length c ∧ bs.length ≤ c ∧ c ≤ maxLen ∧ Row w w.heap.size A bs.length (bvs bs) := by
  obtain ⟨A, c, rfl, h1, h2⟩ := own_form h.row
  exact ⟨A, c, rfl, h1, h2, Row.own h.row⟩
section
variable {w0 w : World} {v : Value} {bs : List UInt8} {ops : Array Oper} {rest : List Oper} {o : Oper} {a : Act} {Q : Exit → Act → World → Prop}
theorem bf_append (h : Bf w0 w v bs) (hgd : o.guard = none) (s y : Operand) (ho : o.op = .call { callee := .builtin .append, args := #[s, y], argTypes := #[26, 26] }) (hs : a.eval s = v)
    (B : Nat) (A : Option Addr) (m c : Nat) (news : List UInt8) (hy : a.eval y = .slice A m c) (hr : Row w B A m (bvs news)) (hl : bs.length + m ≤ 1000000)
    (k : ∀ v' w', Hid (Bf w0 w' v' (bs ++ news)) → wpList Tryd.prog ops Q rest (a.put o.dst v') w') : wpList Tryd.prog ops Q (o :: rest) a w := by
  refine wpList_append_reads hgd s y 26 ho w0.heap.size 5 (.int .u8 0) 1 Tryd.underlying26 u8_info rfl v bs.length (bvs bs) hs h.row B A m c (bvs news) hy hr (bvs_one _) (by unfold maxLen; omega) (by omega) h.below.size ?_
  intro v' w' h1 h2
  refine k v' w' ⟨?_, own_below h.row h.below (Nat.le_refl _) h.below.size h2⟩
  have e : bvs bs ++ bvs news = bvs (bs ++ news) := by unfold bvs; rw [List.map_append]
  rw [e] at h1
  rw [List.length_append, hr.size]
  exact h1
theorem below_grows {w w' : World} (hg : w.grownBy w' none) : Below w.heap.size w w' := ⟨hg.os, hg.tape, hg.output, hg.size, fun i hi => hg.block i hi (by simp)⟩
/-- An append onto a full slice: a new row. -/
theorem bf_grows {w : World} (hgd : o.guard = none) (s y : Operand) (ho : o.op = .call { callee := .builtin .append, args := #[s, y], argTypes := #[26, 26] })
    (ad : Addr) (n cap B : Nat) (bs : List UInt8) (hs : a.eval s = .slice (some ad) n cap) (hr0 : Row w B (some ad) n (bvs bs))
    (B2 : Nat) (ad2 : Addr) (m c : Nat) (news : List UInt8) (hy : a.eval y = .slice (some ad2) m c) (hr : Row w B2 (some ad2) m (bvs news)) (hfull : cap < n + m) (hl : n + m ≤ 1000000)
    (k : ∀ v' w', Hid (Bf w w' v' (bs ++ news)) → wpList Tryd.prog ops Q rest (a.put o.dst v') w') : wpList Tryd.prog ops Q (o :: rest) a w := by
  obtain ⟨i, hii, hzz⟩ := Option.map_eq_some_iff.1 u8_info
  simp only [Prod.mk.injEq] at hzz
  obtain ⟨hz0, hs1, hb1⟩ := hzz
  refine wpList_append_grows w hgd s y 26 ho 5 i (.int .u8 0) 1 1 Tryd.underlying26 hii hz0 hs1 hb1 rfl (by decide) (some ad) n cap (bvs bs) hs (by simp) (by rw [bvs_length, hr0.size, Nat.mul_one]) (fun b hb => by obtain rfl := Option.some.inj hb; exact row_news hr0)
    ad2 m c (bvs news) hy (by rw [bvs_length, hr.size, Nat.mul_one]) (row_news hr) (bvs_one _) hfull (by unfold maxLen; omega) (by omega) ?_
  intro v' w' h1 h2
  refine k v' w' ⟨?_, below_grows h2⟩
  have e : bvs bs ++ bvs news = bvs (bs ++ news) := by unfold bvs; rw [List.map_append]
  rw [e] at h1
  rw [List.length_append, hr0.size, hr.size]
  exact h1
end
/-! What stands in texts. -/
theorem dec_head {bs : List UInt8} (h0 : 0 < bs.length) (h : bs.getD 0 0 ≠ 83) : ∀ x n, dec bs ≠ .ok x n := by
  intro x n e
  unfold dec at e
  rw [if_pos (fun hf : Front bs => h (hf.1 h0))] at e
  cases e
theorem dec_head2 {bs : List UInt8} (h0 : 1 < bs.length) (h : bs.getD 1 0 ≠ 82) : ∀ x n, dec bs ≠ .ok x n := by
  intro x n e
  unfold dec at e
  rw [if_pos (fun hf : Front bs => h (hf.2.1 h0))] at e
  cases e
theorem dec_short {bs : List UInt8} (h0 : bs.length < 39) : ∀ x n, dec bs ≠ .ok x n := by
  intro x n e
  have := dec_ok e
  omega
theorem dec_behind (pre rest : List UInt8) (x : Rc) (hm : x.May) (hf : x.Fits) {p : Nat} (hp : p = pre.length) : dec ((pre ++ (enc x ++ rest)).drop p) = .ok x (39 + x.body.length) := by
  subst hp
  rw [List.drop_left, enc_may hm, dec_bytes x rest hm hf]
theorem enc_length (x : Rc) (hm : x.May) : (enc x).length = 39 + x.body.length := by rw [enc_may hm, x.bytes_length]
end Go.Proofs.YtjpgfdpgjfmnoaaDoor.Rec
