/-
  Texts one behind the other: SlotLeaf, DiskArm.
-/
import Derived.Test.YtbljdcdcnnidkaaDoorG04
import Derived.Test.YtbljdcdcnnidkaaDoorG23
import Derived.Test.YtbljdcdcnnidkaaDoorG24
/-
  Proved: what sumOf, laid, Text, Turn of package slots return.
  Conditions: the slices read as bytes, not too many; the table crc.turned holds its sixteen words.
-/
namespace Go.Proofs.YtbljdcdcnnidkaaDoor
open Go.RowKit
set_option linter.unusedVariables false
set_option linter.unusedSimpArgs false
section
variable {P : Program}
/-- append(s, make([]T, 0)...): nothing is done. -/
theorem run_append_none_zeros (w : World) (base : Nat) (t tn ty e : TypeId) (i : TypeInfo) (size : Nat) (k kn : IntKind) (ht : P.underlying t = some (.slice e)) (htn : P.underlying tn = some (.int kn)) (hi : P.info? e = some i)
    (v : Value) (n : Nat) (xs : List Value) (hown : w.ownsRow base e size v n xs) : (Builtin.append_ #[t, tn] ty #[v, .int k 0]).run P w = .ok v w := by
  obtain ⟨A, c, rfl, hk, _⟩ := own_form hown
  have h0 : IntKind.i64.wrap 0 = 0 := rfl
  rcases hown.2 with ⟨h0, rfl⟩ | ⟨g, cap, cur, h0, _⟩
  · injection h0 with h1 h2 h3
    subst h1 h3
    simp [Builtin.append_, run_underlying ht, run_underlying htn, sizeOf, typeInfo, hi, asInt, asIntOf, h0]
  · injection h0 with h1 h2 h3
    subst h1
    simp [Builtin.append_, run_underlying ht, run_underlying htn, sizeOf, typeInfo, hi, asInt, asIntOf, h0, hk, storeCells]
end
end Go.Proofs.YtbljdcdcnnidkaaDoor
namespace Go.Proofs.YtbljdcdcnnidkaaDoor.Slot
open Go.RowKit Go.Proofs.YtbljdcdcnnidkaaDoor.Rec Go.Proofs.YtbljdcdcnnidkaaDoor.Disk
open Go.Proofs.YtbljdcdcnnidkaaDoor.Crc (Turned)
set_option linter.unusedVariables false
set_option linter.unusedSimpArgs false

/-- Bytes under way in a row of the call's own. -/
structure Mk (w0 w : World) (v : Value) (n : Nat) (bs : List UInt8) : Prop where
  row : w.ownsRow w0.heap.size 5 1 v n (bvs bs)
  below : Below w0.heap.size w0 w
theorem own_keep {w w' : World} {base k n : Nat} {e : TypeId} {v : Value} {xs : List Value} (h : w.ownsRow base e k v n xs) (hb : Below w.heap.size w w') : w'.ownsRow base e k v n xs := by
  refine ⟨h.1, ?_⟩
  rcases h.2 with h0 | ⟨g, cap, cur, hv, h1, h2, h3⟩
  · exact .inl h0
  · exact .inr ⟨g, cap, cur, hv, h1, (hb.block g (h.lt g (by rw [hv]; rfl)).2).trans h2, h3⟩
theorem Mk.all {w0 w w' : World} {v : Value} {n : Nat} {bs : List UInt8} (h : Mk w0 w v n bs) (hb : Below w.heap.size w w') : Mk w0 w' v n bs :=
  ⟨own_keep h.row hb, h.below.trans (hb.mono h.below.size)⟩
theorem Mk.form {w0 w : World} {v : Value} {n : Nat} {bs : List UInt8} (h : Mk w0 w v n bs) : ∃ A c, v = .slice A n c ∧ n ≤ c ∧ c ≤ maxLen ∧ Row w w.heap.size A n (bvs bs) := by
  obtain ⟨A, c, rfl, h1, h2⟩ := own_form h.row
  exact ⟨A, c, rfl, h1, h2, Row.own h.row⟩
theorem Mk.nil (w : World) : Mk w w (.slice none 0 0) 0 [] := ⟨World.ownsRow_nil _ _ _ _, Below.refl _ _⟩
theorem bvs_zeros (m : Nat) : bvs (List.replicate m 0) = List.replicate m (.int .u8 0) := by simp [bvs, bv]
section
variable {w0 w : World} {v : Value} {n : Nat} {bs : List UInt8} {ops : Array Oper} {rest : List Oper} {o : Oper} {a : Act} {Q : Exit → Act → World → Prop}
theorem mk_append (h : Mk w0 w v n bs) (hgd : o.guard = none) (s y : Operand) (ho : o.op = .call { callee := .builtin .append, args := #[s, y], argTypes := #[33, 33] })
    (hs : a.eval s = v) (B : Nat) (A : Option Addr) (m c : Nat) (ps : List UInt8) (hy : a.eval y = .slice A m c) (hr : Row w B A m (bvs ps)) (n' : Nat) (hn : n + m = n') (hl : n' ≤ 1000000)
    (k : ∀ v' w', Hid (Mk w0 w' v' n' (bs ++ ps)) → Hid (w.grownBy w' v.ownBlock) → wpList Tryd.prog ops Q rest (a.put o.dst v') w') : wpList Tryd.prog ops Q (o :: rest) a w := by
  subst hn
  refine wpList_append_reads hgd s y 33 ho w0.heap.size 5 (.int .u8 0) 1 Tryd.underlying33 u8_info rfl v n (bvs bs) hs h.row B A m c _ hy hr (bvs_one _) (by unfold maxLen; omega) (by omega) h.below.size ?_
  intro v' w' h1 h2
  refine k v' w' ⟨?_, own_below h.row h.below (Nat.le_refl _) h.below.size h2⟩ h2
  rw [bvs_append] at h1
  exact h1
theorem mk_zeros (h : Mk w0 w v n bs) (hgd : o.guard = none) (s y : Operand) (ho : o.op = .call { callee := .builtin .append, args := #[s, y], argTypes := #[33, 3] })
    (hs : a.eval s = v) (m : Nat) (hy : a.eval y = .int .i64 (m : Int)) (n' : Nat) (hn : n + m = n') (hl : n' ≤ 1000000)
    (k : ∀ v' w', Hid (Mk w0 w' v' n' (bs ++ List.replicate m 0)) → Hid (w.grownBy w' v.ownBlock) → wpList Tryd.prog ops Q rest (a.put o.dst v') w') : wpList Tryd.prog ops Q (o :: rest) a w := by
  subst hn
  rcases Nat.eq_zero_or_pos m with h0 | h0
  · subst h0
    obtain ⟨i, hi, _⟩ := u8_info3
    refine Lib.wpList_append_run w hgd s y _ _ ho v _ hs hy v w (run_append_none_zeros w w0.heap.size _ _ _ _ i 1 .i64 .i64 Tryd.underlying33 Tryd.underlying3 hi v n _ h.row) (k v w ?_ (World.grownBy.refl _ _))
    show Mk _ _ _ _ _
    simpa using h
  · refine wpList_append_zeros hgd s y _ _ ho w0.heap.size 5 (.int .u8 0) 1 .i64 .i64 Tryd.underlying33 Tryd.underlying3 u8_info rfl rfl v n (bvs bs) hs h.row m hy h0 (by unfold maxLen; omega) (by omega) h.below.size ?_
    intro v' w' h1 h2
    refine k v' w' ⟨?_, own_below h.row h.below (Nat.le_refl _) h.below.size h2⟩ h2
    rw [← bvs_zeros, bvs_append] at h1
    exact h1
end
theorem mk_new (n k : Nat) (K : Int) (w : World) (hK : K = (k : Int)) (hk : 1 ≤ k ∧ k ≤ 8) (hn : n < 18446744073709551616) :
    Calls Tryd.prog 42 #[.int .u64 (n : Int), .int .i64 K] w fun e w' => ∃ A c, e = .returned (.slice A k c) ∧ Hid (Mk w w' (.slice A k c) k (be n k)) := by
  refine (put_any n k K w hK hk hn).mono ?_
  rintro e w' ⟨u, rfl, ho, hb⟩
  obtain ⟨A, c, rfl, _, _⟩ := own_form ho
  exact ⟨A, c, rfl, ho, hb⟩
theorem mk_put {w0 w : World} {v : Value} {m : Nat} {bs : List UInt8} (h : Hid (Mk w0 w v m bs)) (n k : Nat) (K : Int) (hK : K = (k : Int)) (hk : 1 ≤ k ∧ k ≤ 8) (hn : n < 18446744073709551616) :
    Calls Tryd.prog 42 #[.int .u64 (n : Int), .int .i64 K] w fun e w' => ∃ A c, e = .returned (.slice A k c) ∧ Hid (Mk w0 w' v m bs) ∧ Hid (Row w' w'.heap.size A k (bvs (be n k))) := by
  refine (put_any n k K w hK hk hn).mono ?_
  rintro e w' ⟨u, rfl, ho, hb⟩
  obtain ⟨A, c, rfl, _, _⟩ := own_form ho
  exact ⟨A, c, rfl, h.out.all hb, Row.own ho⟩
set_option maxRecDepth 100000 in
set_option maxHeartbeats 1000000 in
theorem slotSum_any (A1 A2 : Option Addr) (n1 c1 n2 c2 : Nat) (a b : List UInt8) (w : World) (hT : Turned w) (h1 : Row w w.heap.size A1 n1 (bvs a)) (h2 : Row w w.heap.size A2 n2 (bvs b)) (l1 : n1 ≤ maxLen) (l2 : n2 ≤ maxLen) :
    Calls Tryd.prog 43 #[.slice A1 n1 c1, .slice A2 n2 c2] w fun e w' => e = .returned (.int .u64 ((Crc.sum (a ++ b)).toNat : Int)) ∧ w' = w := by
  have C1 := Lib.hid (Crc.sum_any A1 n1 c1 a w hT h1 l1)
  have C2 := Crc.more_any (Crc.sum a) A2 n2 c2 b w hT h2 l2
  rw [Crc.more_sum] at C2
  obtain ⟨S, hS⟩ : ∃ S, S = (Crc.sum (a ++ b)).toNat := ⟨_, rfl⟩
  have hlt : S < 4294967296 := by rw [hS]; exact (Crc.sum _).isLt
  obtain ⟨S1, hS1⟩ : ∃ S1, S1 = Crc.sum a := ⟨_, rfl⟩
  rw [← hS] at C2 ⊢
  rw [← hS1] at C1 C2
  have C2' := Lib.hid C2
  have hw : IntKind.u64.wrap (S : Int) = (S : Int) := by simp [IntKind.wrap, IntKind.bits, IntKind.signed]; omega
  clear C2 hS hS1 hT h1 h2 l1 l2
  go_enter Tryd.func43, Tryd.ntmps43
  go_wp2_with (first
    | (go_at_call 56; refine C1.out.mono ?_; rintro e w' ⟨rfl, rfl⟩)
    | (go_at_call 55; refine C2'.out.mono ?_; rintro e w' ⟨rfl, rfl⟩))
  go_ret
  exact ⟨rfl, rfl⟩
/-- A slot's bytes to its end. -/
def slotFull (t : Nat) (b : List UInt8) : List UInt8 := slotB t b ++ List.replicate (4080 - b.length) 0
theorem slotFull_length {t : Nat} {b : List UInt8} (h : b.length ≤ 4080) : (slotFull t b).length = 4096 := by
  unfold slotFull
  rw [List.length_append, slotB_length, List.length_replicate]
  omega
theorem slotFull_laid {b : List UInt8} (h : b.length ≤ 4080) : slotFull 1 b ++ List.replicate 4096 0 = laidB b := by
  unfold slotFull laidB
  rw [List.append_assoc, List.replicate_append_replicate, show 4080 - b.length + 4096 = 8192 - (16 + b.length) by omega]
set_option maxRecDepth 100000 in
set_option maxHeartbeats 4000000 in
theorem laid_any (t : Nat) (A : Option Addr) (n c : Nat) (b : List UInt8) (w : World) (hT : Turned w) (hR : Row w w.heap.size A n (bvs b)) (hnc : n ≤ c) (hc : c ≤ maxLen) (hn : n ≤ 4080) (ht : t < 18446744073709551616) :
    Calls Tryd.prog 24 #[.int .u64 (t : Int), .slice A n c] w fun e w' => ∃ v, e = .returned v ∧ Mk w w' v 4096 (slotFull t b) := by
  have P8 := Lib.hid (mk_new t 8 8 w rfl (by omega) ht)
  have P4 : Hid (∀ w1 v, Hid (Mk w w1 v 8 (be t 8)) → Calls Tryd.prog 42 #[.int .u64 (n : Int), .int .i64 4] w1 fun e w' => ∃ A c, e = .returned (.slice A 4 c) ∧ Hid (Mk w w' v 8 (be t 8)) ∧ Hid (Row w' w'.heap.size A 4 (bvs (be n 4)))) := fun w1 v h => mk_put h n 4 4 rfl (by omega) (by omega)
  have HR := Lib.hid hR
  have HT := Lib.hid hT
  have hl : b.length = n := hR.size
  have HL := Lib.hid hl
  have hwn : IntKind.u64.wrap (n : Int) = (n : Int) := by simp [IntKind.wrap, IntKind.bits, IntKind.signed]; omega
  have hcm : c ≤ 9223372036854775807 := by unfold maxLen at hc; exact hc
  clear hT hR hl hc
  go_enter Tryd.func24, Tryd.ntmps24
  go_upto_region 2 with (first
    | (go_at_call 42; with_reducible refine P8.out.mono ?_; rintro e w1 ⟨A1, c1, rfl, H1⟩)
    | (go_at_call 42; with_reducible refine (P4.out _ _ H1).mono ?_; rintro e w2 ⟨A2, c2, rfl, H2, R2⟩)
    | (at_builtin; refine mk_append H2.out rfl (.tmp 7) (.tmp 11) rfl rfl _ A2 4 c2 _ rfl R2.out 12 rfl (by decide) ?_; intro v3 w3 H3 _))
  clear P8 P4 H1 H2 R2
  have H3' : Hid (Mk w w3 v3 12 (slotHead t n)) := H3
  clear H3
  obtain ⟨A3, c3, rfl, hc3, hm3, hr3⟩ := H3'.out.form
  have CS := slotSum_any A3 A 12 c3 n c (slotHead t n) b w3 (turned_below HT.out H3'.out.below rfl) hr3 ((HR.out.below H3'.out.below).more H3'.out.below.size) (by decide) (by unfold maxLen; omega)
  obtain ⟨S, hS⟩ : ∃ S, S = (Crc.sum (slotHead t n ++ b)).toNat := ⟨_, rfl⟩
  have hlt : S < 4294967296 := by rw [hS]; exact (Crc.sum _).isLt
  rw [← hS] at CS
  have CS' := Lib.hid CS
  have HS := Lib.hid hS
  have PS := Lib.hid (mk_put H3' S 4 4 rfl (by omega) (by omega))
  clear CS hS hc3 hm3 hr3
  go_upto_region 3 with (first
    | (go_at_call 43; refine CS'.out.mono ?_; rintro e w' ⟨rfl, rfl⟩)
    | (go_at_call 42; refine PS.out.mono ?_; rintro e w4 ⟨A4, c4, rfl, H4, R4⟩)
    | (at_builtin; refine mk_append H4.out rfl (.tmp 13) (.tmp 17) rfl rfl _ A4 4 c4 _ rfl R4.out 16 rfl (by decide) ?_; intro v5 w5 H5 _))
  clear CS' PS H4 R4 H3'
  have R5 : Hid (Row w5 w.heap.size A n (bvs b)) := HR.out.below H5.out.below
  obtain ⟨N, hN⟩ : ∃ N, N = 16 + n := ⟨_, rfl⟩
  obtain ⟨M, hM⟩ : ∃ M, M = 4080 - n := ⟨_, rfl⟩
  go_upto_region 4 with (at_builtin; refine mk_append H5.out rfl (.tmp 19) (.tmp 20) rfl rfl _ A n c _ rfl R5.out N hN.symm (by omega) ?_; intro v6 w6 H6 _)
  obtain ⟨A6, c6, rfl, hc6, hm6, _⟩ := H6.out.form
  have hNM : (4096 : Int) - (N : Int) = (M : Int) := by omega
  have hN3 : N ≤ 4096 := by omega
  have hNM2 : N + M = 4096 := by omega
  have HM := Lib.hid hM
  clear H5 R5 hN hM
  go_wp2_with (at_builtin; refine mk_zeros H6.out rfl (.tmp 22) (.tmp 25) rfl rfl M rfl 4096 hNM2 (by decide) ?_; intro v7 w7 H7 _)
  go_ret
  have e : slotHead t n ++ be S 4 ++ b ++ List.replicate M 0 = slotFull t b := by
    unfold slotFull slotB
    rw [HM.out, HS.out, ← HL.out]
  rw [← e]
  exact ⟨v7, rfl, H7.out⟩
theorem nilText_any (w : World) : Calls Tryd.prog 15 #[.pointer none] w fun e w' => ∃ A c, e = .returned (.slice A 0 c) ∧ w' = w := by
  go_enter Tryd.func15, Tryd.ntmps15
  go_wp2
  go_ret
  exact ⟨_, _, rfl, rfl⟩
theorem nilTurn_any (w : World) : Calls Tryd.prog 16 #[.pointer none] w fun e w' => e = .returned (.int .u64 0) ∧ w' = w := by
  go_enter Tryd.func16, Tryd.ntmps16
  go_wp2
  go_ret
  exact ⟨rfl, rfl⟩
theorem nilSave_any (A : Option Addr) (n c : Nat) (w : World) : Calls Tryd.prog 12 #[.pointer none, .slice A n c] w fun e w' => e = .returned (.int .i64 10) ∧ w' = w := by
  go_enter Tryd.func12, Tryd.ntmps12
  go_wp2
  go_ret
  exact ⟨rfl, rfl⟩
theorem turn_any {own : Own} {w : World} {v : Sf} (h : Lies own w v) : Calls Tryd.prog 16 #[.pointer (some ⟨v.sf, 0, none⟩)] w fun e w' => e = .returned (.int .u64 (v.turn : Int)) ∧ w' = w := by
  have c3 : w.cell? ⟨v.sf, 3, none⟩ = some (.int .u64 (v.turn : Int)) := Blk.cell h.blk 3
  clear h
  go_enter Tryd.func16, Tryd.ntmps16
  go_wp2
  go_ret
  exact ⟨rfl, rfl⟩
set_option maxHeartbeats 1000000 in
theorem text_any {own : Own} {w : World} {v : Sf} (h : Lies own w v) : Calls Tryd.prog 15 #[.pointer (some ⟨v.sf, 0, none⟩)] w fun e w' => ∃ A c, e = .returned (.slice A v.txt.length c) ∧ Hid (Row w' w'.heap.size A v.txt.length (bvs v.txt)) ∧ Hid (Below w.heap.size w w') := by
  have c4 : w.cell? ⟨v.sf, 4, none⟩ = some (.string (str v.txt)) := Blk.cell h.blk 4
  obtain ⟨c, w', hc, hb, hr⟩ := conv_bytes w v.txt
  clear h
  go_enter Tryd.func15, Tryd.ntmps15
  go_wp2_with fail
  go_ret
  exact ⟨_, _, rfl, hr, hb⟩
end Go.Proofs.YtbljdcdcnnidkaaDoor.Slot
/-
  A disk of which a call is to fail, as a number; what a crash leaves of a disk of one file.
-/
namespace Go.Proofs.YtbljdcdcnnidkaaDoor.Seg
open Go.RowKit Go.Proofs.YtbljdcdcnnidkaaDoor.Disk
set_option linter.unusedVariables false
set_option linter.unusedSimpArgs false

theorem failRaw_held {own : Own} {w0 w : World} {f K : Nat} {d : Dk} (n : Int) (h : Held own w0 w f d K) (hn : n ≤ 9223372036854775807) :
    Calls Tryd.prog 18 #[.pointer (some ⟨f, 0, none⟩), .int .i64 n] w fun e w' => e = .returned undef ∧ Held own w0 w' f { d with failing := decide (0 ≤ n), others := max n 0 } K ∧ Step own own f w w' := by
  obtain ⟨nb, sb, wv, hd⟩ := h.disk
  refine (fail_raw f nb sb wv d n w hd.blk).mono ?_
  rintro e w' ⟨he, hb, hg⟩
  obtain ⟨h1, h2, h3, h4, h5, h6, h7, h8⟩ := hd.ok
  have hd' : DiskIn own w' f { d with failing := decide (0 ≤ n), others := max n 0 } K nb sb wv := hd.put hg hb rfl rfl rfl rfl ⟨h1, h2, h3, h4, h5, h6, h7, by show 0 ≤ max n 0 ∧ max n 0 ≤ _; omega⟩
  have hst : Step own own f w w' := Step.of_grown hd.top hd.of hg
  exact ⟨he, h.next hst ⟨nb, sb, wv, hd'⟩, hst⟩
theorem crashed_one {d d' : Dk} {n : Int} {keep : List Bool} {torn : Int} {nm : Nm} {g : Nat} (h : d.Crashed d' n keep torn) (hw : d.wait = []) (hS : d.S = [(nm, g)]) :
    ∃ g', St d' d.room [(nm, g')] [(nm, g')] [] [(g', ⟨(d.fl g).crash (partsFor 0 (d.fl g).soiled.length keep torn), (d.fl g).crash (partsFor 0 (d.fl g).soiled.length keep torn), []⟩)] := by
  have hdir : d.crashDir n = [(nm, g)] := by rw [Dk.crashDir, hw, hS, List.take_nil]; rfl
  have hfl := h.files
  rw [hdir] at hfl
  have e : (crashFiles d.fl keep torn 0 [(nm, g)]).map (fun p => (p.1, (⟨p.2, p.2, []⟩ : Fl))) = [(nm, ⟨(d.fl g).crash (partsFor 0 (d.fl g).soiled.length keep torn), (d.fl g).crash (partsFor 0 (d.fl g).soiled.length keep torn), []⟩)] := rfl
  rw [e] at hfl
  unfold Dk.files at hfl
  match hN : d'.N with
  | [] => rw [hN] at hfl; have := congrArg List.length hfl; simp at this
  | [(n1, g1)] =>
    rw [hN] at hfl
    have hfl : [(n1, d'.fl g1)] = [(nm, (⟨(d.fl g).crash (partsFor 0 (d.fl g).soiled.length keep torn), (d.fl g).crash (partsFor 0 (d.fl g).soiled.length keep torn), []⟩ : Fl))] := hfl
    injection hfl with h1
    injection h1 with h1 h2
    subst h1
    exact ⟨g1, h.room, h.failing, hN, by rw [h.synced, hN], h.wait, fun p hp => by obtain rfl := List.mem_singleton.1 hp; exact h2⟩
  | p :: q :: r => rw [hN] at hfl; have := congrArg List.length hfl; simp at this
end Go.Proofs.YtbljdcdcnnidkaaDoor.Seg
namespace Go.Proofs.YtbljdcdcnnidkaaDoor.Disk
/-- How many changing calls there are ahead of the one that fails; none: no call fails. -/
def Dk.arm (d : Dk) : Option Nat := if d.failing = true then some d.others.toNat else none
theorem Dk.arm_none {d : Dk} (h : d.arm = none) : d.failing = false := by
  unfold Dk.arm at h
  split at h
  · cases h
  · rename_i hf
    simpa using hf
theorem Dk.arm_some {d : Dk} {k : Nat} (h : d.arm = some k) : d.failing = true ∧ d.others.toNat = k := by
  unfold Dk.arm at h
  split at h
  · rename_i hf
    injection h with h
    exact ⟨hf, h⟩
  · cases h
/-- .. behind a changing call. -/
def armed : Option Nat → Option Nat
  | none => none
  | some 0 => none
  | some (k + 1) => some k
theorem Dk.begin_arm (d : Dk) : d.begin.arm = armed d.arm := by
  by_cases hf : d.failing = true
  · by_cases h0 : 0 < d.others
    · have e : d.begin = { d with calls := d.calls + 1, others := d.others - 1 } := by
        unfold Dk.begin
        rw [if_neg (by rw [hf]; simp), if_pos h0]
      have e1 : d.arm = some ((d.others - 1).toNat + 1) := by
        unfold Dk.arm
        rw [if_pos hf]
        congr 1
        omega
      rw [e, e1]
      unfold Dk.arm
      rw [if_pos hf]
      rfl
    · have e : d.begin = { d with calls := d.calls + 1, failing := false } := by
        unfold Dk.begin
        rw [if_neg (by rw [hf]; simp), if_neg h0]
      have e1 : d.arm = some 0 := by
        unfold Dk.arm
        rw [if_pos hf]
        congr 1
        omega
      rw [e, e1]
      rfl
  · have hf' : d.failing = false := by simpa using hf
    have e : d.begin = { d with calls := d.calls + 1 } := by
      unfold Dk.begin
      rw [if_pos hf']
    have e1 : d.arm = none := by
      unfold Dk.arm
      rw [if_neg hf]
    rw [e, e1]
    unfold Dk.arm
    rw [if_neg hf]
    rfl
theorem Dk.err_arm {d : Dk} (h : d.arm ≠ some 0) : d.err = 0 := by
  unfold Dk.err
  split
  · rename_i hh
    refine absurd ?_ h
    unfold Dk.arm
    rw [if_pos hh.1]
    congr 1
    omega
  · rfl
theorem Dk.err_zero {d : Dk} (h : d.arm = some 0) : d.err = 3 := by
  obtain ⟨h1, h2⟩ := Dk.arm_some h
  unfold Dk.err
  rw [if_pos ⟨h1, by omega⟩]
theorem Dk.begin_room (d : Dk) : d.begin.room = d.room := by
  unfold Dk.begin
  split
  · rfl
  · split <;> rfl
theorem Dk.begin_S (d : Dk) : d.begin.S = d.S := by
  unfold Dk.begin
  split
  · rfl
  · split <;> rfl
theorem Dk.begin_dir (d : Dk) : d.begin.N = d.N := by
  unfold Dk.begin
  split
  · rfl
  · split <;> rfl
theorem Dk.begin_wait (d : Dk) : d.begin.wait = d.wait := by
  unfold Dk.begin
  split
  · rfl
  · split <;> rfl
theorem Dk.begin_fl (d : Dk) : d.begin.fl = d.fl := by
  unfold Dk.begin
  split
  · rfl
  · split <;> rfl
/-- A disk of one file, whose name lasts. -/
structure OneFile (d : Dk) (nm : Nm) (g : Nat) (x : Fl) : Prop where
  N : d.N = [(nm, g)]
  S : d.S = [(nm, g)]
  wait : d.wait = []
  fl : d.fl g = x
theorem OneFile.dget {d : Dk} {nm : Nm} {g : Nat} {x : Fl} (h : OneFile d nm g x) : dget nm d.N = some g := by
  rw [h.N]
  simp [Disk.dget]
theorem OneFile.look {d : Dk} {nm : Nm} {g : Nat} {x : Fl} (h : OneFile d nm g x) : d.look nm = some x := by
  unfold Dk.look
  rw [h.dget]
  exact congrArg some h.fl
theorem OneFile.begin {d : Dk} {nm : Nm} {g : Nat} {x : Fl} (h : OneFile d nm g x) : OneFile d.begin nm g x :=
  ⟨d.begin_dir.trans h.N, d.begin_S.trans h.S, d.begin_wait.trans h.wait, by rw [d.begin_fl]; exact h.fl⟩
theorem OneFile.put {d : Dk} {nm : Nm} {g : Nat} {x : Fl} (h : OneFile d nm g x) (y : Fl) : OneFile (d.withFile g y) nm g y := ⟨h.N, h.S, h.wait, if_pos rfl⟩
theorem OneFile.read {d : Dk} {nm : Nm} {g : Nat} {x : Fl} (h : OneFile d nm g x) (n : Nat) : OneFile (d.read n) nm g x := ⟨h.N, h.S, h.wait, h.fl⟩
/-- What a crash leaves of such a disk. -/
theorem OneFile.crashed {d d' : Dk} {nm : Nm} {g : Nat} {x : Fl} {n : Int} {keep : List Bool} {torn : Int} (o : OneFile d nm g x) (h : d.Crashed d' n keep torn) :
    ∃ g', OneFile d' nm g' ⟨x.crash (partsFor 0 x.soiled.length keep torn), x.crash (partsFor 0 x.soiled.length keep torn), []⟩ ∧ d'.arm = none := by
  obtain ⟨g', hs⟩ := Seg.crashed_one h o.wait o.S
  rw [o.fl] at hs
  exact ⟨g', ⟨hs.N, hs.S, hs.wait, hs.head⟩, by unfold Dk.arm; rw [hs.calm]; rfl⟩
end Go.Proofs.YtbljdcdcnnidkaaDoor.Disk
