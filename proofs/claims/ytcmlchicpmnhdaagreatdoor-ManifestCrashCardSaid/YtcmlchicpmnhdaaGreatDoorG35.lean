/-
  Texts one behind the other: SlotLeaf.
-/
import Derived.Test.YtcmlchicpmnhdaaGreatDoorG06
import Derived.Test.YtcmlchicpmnhdaaGreatDoorG34
/-
  Proved: what sumOf, laid, Text, Turn of package slots return.
  Conditions: the slices read as bytes, not too many; the table crc.turned holds its sixteen words.
-/
namespace Go.Proofs.YtcmlchicpmnhdaaGreatDoor
open Go.RowKit
set_option linter.unusedVariables false
set_option linter.unusedSimpArgs false
section
variable {P : Program}
/-- append(s, make([]T, 0)...): nothing is done. -/
theorem run_append_none_zeros (w : World) (base : Nat) (t tn ty e : TypeId) (i : TypeInfo) (size : Nat) (k kn : IntKind) (ht : P.underlying t = some (.slice e)) (htn : P.underlying tn = some (.int kn)) (hi : P.info? e = some i)
    (v : Value) (n : Nat) (xs : List Value) (hown : w.ownsRow base e size v n xs) : (Builtin.append_ #[t, tn] ty #[v, .int k 0]).run P w = .ok v w := by
  obtain ⟨A, c, rfl, hk, _⟩ := own_form hown
  have h0 : IntKind.i64.wrap 0 = 0 := rfl
  rcases hown.2 with ⟨h0, rfl⟩ | ⟨g, cap, cur, h0, _⟩
  · injection h0 with h1 h2 h3
    subst h1 h3
    simp [Builtin.append_, run_underlying ht, run_underlying htn, sizeOf, typeInfo, hi, asInt, asIntOf, h0]
  · injection h0 with h1 h2 h3
    subst h1
    simp [Builtin.append_, run_underlying ht, run_underlying htn, sizeOf, typeInfo, hi, asInt, asIntOf, h0, hk, storeCells]
end
end Go.Proofs.YtcmlchicpmnhdaaGreatDoor
namespace Go.Proofs.YtcmlchicpmnhdaaGreatDoor.Slot
open Go.RowKit Go.Proofs.YtcmlchicpmnhdaaGreatDoor.Rec Go.Proofs.YtcmlchicpmnhdaaGreatDoor.Disk
open Go.Proofs.YtcmlchicpmnhdaaGreatDoor.Crc (Turned)
set_option linter.unusedVariables false
set_option linter.unusedSimpArgs false

/-- Bytes under way in a row of the call's own. -/
structure Mk (w0 w : World) (v : Value) (n : Nat) (bs : List UInt8) : Prop where
  row : w.ownsRow w0.heap.size 5 1 v n (bvs bs)
  below : Below w0.heap.size w0 w
theorem own_keep {w w' : World} {base k n : Nat} {e : TypeId} {v : Value} {xs : List Value} (h : w.ownsRow base e k v n xs) (hb : Below w.heap.size w w') : w'.ownsRow base e k v n xs := by
  refine ⟨h.1, ?_⟩
  rcases h.2 with h0 | ⟨g, cap, cur, hv, h1, h2, h3⟩
  · exact .inl h0
  · exact .inr ⟨g, cap, cur, hv, h1, (hb.block g (h.lt g (by rw [hv]; rfl)).2).trans h2, h3⟩
theorem Mk.all {w0 w w' : World} {v : Value} {n : Nat} {bs : List UInt8} (h : Mk w0 w v n bs) (hb : Below w.heap.size w w') : Mk w0 w' v n bs :=
  ⟨own_keep h.row hb, h.below.trans (hb.mono h.below.size)⟩
theorem Mk.form {w0 w : World} {v : Value} {n : Nat} {bs : List UInt8} (h : Mk w0 w v n bs) : ∃ A c, v = .slice A n c ∧ n ≤ c ∧ c ≤ maxLen ∧ Row w w.heap.size A n (bvs bs) := by
  obtain ⟨A, c, rfl, h1, h2⟩ := own_form h.row
  exact ⟨A, c, rfl, h1, h2, Row.own h.row⟩
theorem Mk.nil (w : World) : Mk w w (.slice none 0 0) 0 [] := ⟨World.ownsRow_nil _ _ _ _, Below.refl _ _⟩
theorem bvs_zeros (m : Nat) : bvs (List.replicate m 0) = List.replicate m (.int .u8 0) := by simp [bvs, bv]
section
variable {w0 w : World} {v : Value} {n : Nat} {bs : List UInt8} {ops : Array Oper} {rest : List Oper} {o : Oper} {a : Act} {Q : Exit → Act → World → Prop}
theorem mk_append (h : Mk w0 w v n bs) (hgd : o.guard = none) (s y : Operand) (ho : o.op = .call { callee := .builtin .append, args := #[s, y], argTypes := #[51, 51] })
    (hs : a.eval s = v) (B : Nat) (A : Option Addr) (m c : Nat) (ps : List UInt8) (hy : a.eval y = .slice A m c) (hr : Row w B A m (bvs ps)) (n' : Nat) (hn : n + m = n') (hl : n' ≤ 1000000)
    (k : ∀ v' w', Hid (Mk w0 w' v' n' (bs ++ ps)) → Hid (w.grownBy w' v.ownBlock) → wpList Tryz.prog ops Q rest (a.put o.dst v') w') : wpList Tryz.prog ops Q (o :: rest) a w := by
  subst hn
  refine wpList_append_reads hgd s y 51 ho w0.heap.size 5 (.int .u8 0) 1 Tryz.underlying51 u8_info rfl v n (bvs bs) hs h.row B A m c _ hy hr (bvs_one _) (by unfold maxLen; omega) (by omega) h.below.size ?_
  intro v' w' h1 h2
  refine k v' w' ⟨?_, own_below h.row h.below (Nat.le_refl _) h.below.size h2⟩ h2
  rw [bvs_append] at h1
  exact h1
theorem mk_zeros (h : Mk w0 w v n bs) (hgd : o.guard = none) (s y : Operand) (ho : o.op = .call { callee := .builtin .append, args := #[s, y], argTypes := #[51, 3] })
    (hs : a.eval s = v) (m : Nat) (hy : a.eval y = .int .i64 (m : Int)) (n' : Nat) (hn : n + m = n') (hl : n' ≤ 1000000)
    (k : ∀ v' w', Hid (Mk w0 w' v' n' (bs ++ List.replicate m 0)) → Hid (w.grownBy w' v.ownBlock) → wpList Tryz.prog ops Q rest (a.put o.dst v') w') : wpList Tryz.prog ops Q (o :: rest) a w := by
  subst hn
  rcases Nat.eq_zero_or_pos m with h0 | h0
  · subst h0
    obtain ⟨i, hi, _⟩ := u8_info3
    refine Lib.wpList_append_run w hgd s y _ _ ho v _ hs hy v w (run_append_none_zeros w w0.heap.size _ _ _ _ i 1 .i64 .i64 Tryz.underlying51 Tryz.underlying3 hi v n _ h.row) (k v w ?_ (World.grownBy.refl _ _))
    show Mk _ _ _ _ _
    simpa using h
  · refine wpList_append_zeros hgd s y _ _ ho w0.heap.size 5 (.int .u8 0) 1 .i64 .i64 Tryz.underlying51 Tryz.underlying3 u8_info rfl rfl v n (bvs bs) hs h.row m hy h0 (by unfold maxLen; omega) (by omega) h.below.size ?_
    intro v' w' h1 h2
    refine k v' w' ⟨?_, own_below h.row h.below (Nat.le_refl _) h.below.size h2⟩ h2
    rw [← bvs_zeros, bvs_append] at h1
    exact h1
end
theorem mk_new (n k : Nat) (K : Int) (w : World) (hK : K = (k : Int)) (hk : 1 ≤ k ∧ k ≤ 8) (hn : n < 18446744073709551616) :
    Calls Tryz.prog 43 #[.int .u64 (n : Int), .int .i64 K] w fun e w' => ∃ A c, e = .returned (.slice A k c) ∧ Hid (Mk w w' (.slice A k c) k (be n k)) := by
  refine (put_any n k K w hK hk hn).mono ?_
  rintro e w' ⟨u, rfl, ho, hb⟩
  obtain ⟨A, c, rfl, _, _⟩ := own_form ho
  exact ⟨A, c, rfl, ho, hb⟩
theorem mk_put {w0 w : World} {v : Value} {m : Nat} {bs : List UInt8} (h : Hid (Mk w0 w v m bs)) (n k : Nat) (K : Int) (hK : K = (k : Int)) (hk : 1 ≤ k ∧ k ≤ 8) (hn : n < 18446744073709551616) :
    Calls Tryz.prog 43 #[.int .u64 (n : Int), .int .i64 K] w fun e w' => ∃ A c, e = .returned (.slice A k c) ∧ Hid (Mk w0 w' v m bs) ∧ Hid (Row w' w'.heap.size A k (bvs (be n k))) := by
  refine (put_any n k K w hK hk hn).mono ?_
  rintro e w' ⟨u, rfl, ho, hb⟩
  obtain ⟨A, c, rfl, _, _⟩ := own_form ho
  exact ⟨A, c, rfl, h.out.all hb, Row.own ho⟩
set_option maxRecDepth 100000 in
set_option maxHeartbeats 1000000 in
theorem slotSum_any (A1 A2 : Option Addr) (n1 c1 n2 c2 : Nat) (a b : List UInt8) (w : World) (hT : Turned w) (h1 : Row w w.heap.size A1 n1 (bvs a)) (h2 : Row w w.heap.size A2 n2 (bvs b)) (l1 : n1 ≤ maxLen) (l2 : n2 ≤ maxLen) :
    Calls Tryz.prog 76 #[.slice A1 n1 c1, .slice A2 n2 c2] w fun e w' => e = .returned (.int .u64 ((Crc.sum (a ++ b)).toNat : Int)) ∧ w' = w := by
  have C1 := Lib.hid (Crc.sum_any A1 n1 c1 a w hT h1 l1)
  have C2 := Crc.more_any (Crc.sum a) A2 n2 c2 b w hT h2 l2
  rw [Crc.more_sum] at C2
  obtain ⟨S, hS⟩ : ∃ S, S = (Crc.sum (a ++ b)).toNat := ⟨_, rfl⟩
  have hlt : S < 4294967296 := by rw [hS]; exact (Crc.sum _).isLt
  obtain ⟨S1, hS1⟩ : ∃ S1, S1 = Crc.sum a := ⟨_, rfl⟩
  rw [← hS] at C2 ⊢
  rw [← hS1] at C1 C2
  have C2' := Lib.hid C2
  have hw : IntKind.u64.wrap (S : Int) = (S : Int) := by simp [IntKind.wrap, IntKind.bits, IntKind.signed]; omega
  clear C2 hS hS1 hT h1 h2 l1 l2
  go_enter Tryz.func76, Tryz.ntmps76
  go_wp2_with (first
    | (go_at_call 94; refine C1.out.mono ?_; rintro e w' ⟨rfl, rfl⟩)
    | (go_at_call 93; refine C2'.out.mono ?_; rintro e w' ⟨rfl, rfl⟩))
  go_ret
  exact ⟨rfl, rfl⟩
/-- A slot's bytes to its end. -/
def slotFull (t : Nat) (b : List UInt8) : List UInt8 := slotB t b ++ List.replicate (4080 - b.length) 0
theorem slotFull_length {t : Nat} {b : List UInt8} (h : b.length ≤ 4080) : (slotFull t b).length = 4096 := by
  unfold slotFull
  rw [List.length_append, slotB_length, List.length_replicate]
  omega
theorem slotFull_laid {b : List UInt8} (h : b.length ≤ 4080) : slotFull 1 b ++ List.replicate 4096 0 = laidB b := by
  unfold slotFull laidB
  rw [List.append_assoc, List.replicate_append_replicate, show 4080 - b.length + 4096 = 8192 - (16 + b.length) by omega]
set_option maxRecDepth 100000 in
set_option maxHeartbeats 4000000 in
theorem laid_any (t : Nat) (A : Option Addr) (n c : Nat) (b : List UInt8) (w : World) (hT : Turned w) (hR : Row w w.heap.size A n (bvs b)) (hnc : n ≤ c) (hc : c ≤ maxLen) (hn : n ≤ 4080) (ht : t < 18446744073709551616) :
    Calls Tryz.prog 47 #[.int .u64 (t : Int), .slice A n c] w fun e w' => ∃ v, e = .returned v ∧ Mk w w' v 4096 (slotFull t b) := by
  have P8 := Lib.hid (mk_new t 8 8 w rfl (by omega) ht)
  have P4 : Hid (∀ w1 v, Hid (Mk w w1 v 8 (be t 8)) → Calls Tryz.prog 43 #[.int .u64 (n : Int), .int .i64 4] w1 fun e w' => ∃ A c, e = .returned (.slice A 4 c) ∧ Hid (Mk w w' v 8 (be t 8)) ∧ Hid (Row w' w'.heap.size A 4 (bvs (be n 4)))) := fun w1 v h => mk_put h n 4 4 rfl (by omega) (by omega)
  have HR := Lib.hid hR
  have HT := Lib.hid hT
  have hl : b.length = n := hR.size
  have HL := Lib.hid hl
  have hwn : IntKind.u64.wrap (n : Int) = (n : Int) := by simp [IntKind.wrap, IntKind.bits, IntKind.signed]; omega
  have hcm : c ≤ 9223372036854775807 := by unfold maxLen at hc; exact hc
  clear hT hR hl hc
  go_enter Tryz.func47, Tryz.ntmps47
  go_upto_region 2 with (first
    | (go_at_call 43; with_reducible refine P8.out.mono ?_; rintro e w1 ⟨A1, c1, rfl, H1⟩)
    | (go_at_call 43; with_reducible refine (P4.out _ _ H1).mono ?_; rintro e w2 ⟨A2, c2, rfl, H2, R2⟩)
    | (at_builtin; refine mk_append H2.out rfl (.tmp 7) (.tmp 11) rfl rfl _ A2 4 c2 _ rfl R2.out 12 rfl (by decide) ?_; intro v3 w3 H3 _))
  clear P8 P4 H1 H2 R2
  have H3' : Hid (Mk w w3 v3 12 (slotHead t n)) := H3
  clear H3
  obtain ⟨A3, c3, rfl, hc3, hm3, hr3⟩ := H3'.out.form
  have CS := slotSum_any A3 A 12 c3 n c (slotHead t n) b w3 (turned_below HT.out H3'.out.below rfl) hr3 ((HR.out.below H3'.out.below).more H3'.out.below.size) (by decide) (by unfold maxLen; omega)
  obtain ⟨S, hS⟩ : ∃ S, S = (Crc.sum (slotHead t n ++ b)).toNat := ⟨_, rfl⟩
  have hlt : S < 4294967296 := by rw [hS]; exact (Crc.sum _).isLt
  rw [← hS] at CS
  have CS' := Lib.hid CS
  have HS := Lib.hid hS
  have PS := Lib.hid (mk_put H3' S 4 4 rfl (by omega) (by omega))
  clear CS hS hc3 hm3 hr3
  go_upto_region 3 with (first
    | (go_at_call 76; refine CS'.out.mono ?_; rintro e w' ⟨rfl, rfl⟩)
    | (go_at_call 43; refine PS.out.mono ?_; rintro e w4 ⟨A4, c4, rfl, H4, R4⟩)
    | (at_builtin; refine mk_append H4.out rfl (.tmp 13) (.tmp 17) rfl rfl _ A4 4 c4 _ rfl R4.out 16 rfl (by decide) ?_; intro v5 w5 H5 _))
  clear CS' PS H4 R4 H3'
  have R5 : Hid (Row w5 w.heap.size A n (bvs b)) := HR.out.below H5.out.below
  obtain ⟨N, hN⟩ : ∃ N, N = 16 + n := ⟨_, rfl⟩
  obtain ⟨M, hM⟩ : ∃ M, M = 4080 - n := ⟨_, rfl⟩
  go_upto_region 4 with (at_builtin; refine mk_append H5.out rfl (.tmp 19) (.tmp 20) rfl rfl _ A n c _ rfl R5.out N hN.symm (by omega) ?_; intro v6 w6 H6 _)
  obtain ⟨A6, c6, rfl, hc6, hm6, _⟩ := H6.out.form
  have hNM : (4096 : Int) - (N : Int) = (M : Int) := by omega
  have hN3 : N ≤ 4096 := by omega
  have hNM2 : N + M = 4096 := by omega
  have HM := Lib.hid hM
  clear H5 R5 hN hM
  go_wp2_with (at_builtin; refine mk_zeros H6.out rfl (.tmp 22) (.tmp 25) rfl rfl M rfl 4096 hNM2 (by decide) ?_; intro v7 w7 H7 _)
  go_ret
  have e : slotHead t n ++ be S 4 ++ b ++ List.replicate M 0 = slotFull t b := by
    unfold slotFull slotB
    rw [HM.out, HS.out, ← HL.out]
  rw [← e]
  exact ⟨v7, rfl, H7.out⟩
theorem nilText_any (w : World) : Calls Tryz.prog 35 #[.pointer none] w fun e w' => ∃ A c, e = .returned (.slice A 0 c) ∧ w' = w := by
  go_enter Tryz.func35, Tryz.ntmps35
  go_wp2
  go_ret
  exact ⟨_, _, rfl, rfl⟩
theorem nilSave_any (A : Option Addr) (n c : Nat) (w : World) : Calls Tryz.prog 27 #[.pointer none, .slice A n c] w fun e w' => e = .returned (.int .i64 10) ∧ w' = w := by
  go_enter Tryz.func27, Tryz.ntmps27
  go_wp2
  go_ret
  exact ⟨rfl, rfl⟩
set_option maxHeartbeats 1000000 in
theorem text_any {own : Own} {w : World} {v : Sf} (h : Lies own w v) : Calls Tryz.prog 35 #[.pointer (some ⟨v.sf, 0, none⟩)] w fun e w' => ∃ A c, e = .returned (.slice A v.txt.length c) ∧ Hid (Row w' w'.heap.size A v.txt.length (bvs v.txt)) ∧ Hid (Below w.heap.size w w') := by
  have c4 : w.cell? ⟨v.sf, 4, none⟩ = some (.string (str v.txt)) := Blk.cell h.blk 4
  obtain ⟨c, w', hc, hb, hr⟩ := conv_bytes w v.txt
  clear h
  go_enter Tryz.func35, Tryz.ntmps35
  go_wp2_with fail
  go_ret
  exact ⟨_, _, rfl, hr, hb⟩
end Go.Proofs.YtcmlchicpmnhdaaGreatDoor.Slot
