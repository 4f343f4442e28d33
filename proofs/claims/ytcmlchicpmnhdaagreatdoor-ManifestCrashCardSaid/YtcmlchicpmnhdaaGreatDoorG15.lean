/-
  Texts one behind the other: RecRefEnc, RecRefDec, RecRefDec2.
-/
import Derived.Deep.RegionLaw
import Derived.LoopN
import Derived.Test.YtcmlchicpmnhdaaGreatDoorG06
import Derived.Test.YtcmlchicpmnhdaaGreatDoorG14
/-
  Proved: what the reference's Encode returns: a record's bytes in memory of its own; none where it may not be.
  Conditions: numbers and texts are those of values.
-/
namespace Go.Proofs.YtcmlchicpmnhdaaGreatDoor.Rec
open Go.RowKit
open Go.Proofs.YtcmlchicpmnhdaaGreatDoor.Crc (Turned)
set_option linter.unusedVariables false
set_option linter.unusedSimpArgs false

section
variable {ops : Array Oper} {o : Oper} {a : Act} {w : World} {K : Act → World → Prop} {Q : Exit → Act → World → Prop} {E : Prop}
theorem step_append_nil (hgd : o.guard = none) (y : Operand) (ho : o.op = .call { callee := .builtin .append, args := #[.const (.slice none 0 0), y], argTypes := #[51, 51] })
    (base B : Nat) (A : Option Addr) (m c : Nat) (ps : List UInt8) (hy : a.eval y = .slice A m c) (hr : Row w B A m (bvs ps)) (h0 : 0 < m) (hm : m ≤ 1000000) (hb : base ≤ w.heap.size)
    (hK : ∀ A' c' w', Hid (w'.ownsRow base 5 1 (.slice A' m c') m (bvs ps)) → Hid (w.grownBy w' none) → K (a.put o.dst (.slice A' m c')) w') :
    if Region.wanted o (yielded ops a.tmps) = true then Oper.wp Tryz.prog o a w K Q else E := by
  obtain ⟨b, f, rfl, _, hc⟩ := hr.2 h0
  refine step_append_where hgd (.const (.slice none 0 0)) y 51 ho base 5 (.int .u8 0) 1 1 Tryz.underlying51 u8_info rfl (by decide) (.slice none 0 0) 0 [] rfl (World.ownsRow_nil _ _ _ _) ⟨b, f, none⟩ m c (bvs ps) hy (by rw [hr.1, Nat.mul_one]) ?_ (bvs_one _) (by unfold maxLen; omega) (by omega) hb ?_
  · intro j u hu
    have := hc j u hu
    unfold Addr.add
    split
    · rename_i hj; subst hj; exact this
    · exact this
  · intro v' w' h1 h2 _
    have h3 := h1.out
    rw [Nat.zero_add, List.nil_append] at h3
    obtain ⟨A', c', rfl, _, _⟩ := own_form h3
    exact hK A' c' w' h3 h2
theorem step_append_text (hgd : o.guard = none) (s y : Operand) (ho : o.op = .call { callee := .builtin .append, args := #[s, y], argTypes := #[51, 9] })
    (base : Nat) (v : Value) (n : Nat) (bs : List UInt8) (hs : a.eval s = v) (hown : Hid (w.ownsRow base 5 1 v n (bvs bs))) (l : List UInt8) (hy : a.eval y = .string (str l)) (hl : n + l.length ≤ 1000000) (hb : base ≤ w.heap.size)
    (hK : ∀ A' c' w', Hid (w'.ownsRow base 5 1 (.slice A' (n + l.length) c') (n + l.length) (bvs (bs ++ l))) → Hid (w.grownBy w' v.ownBlock) → K (a.put o.dst (.slice A' (n + l.length) c')) w') :
    if Region.wanted o (yielded ops a.tmps) = true then Oper.wp Tryz.prog o a w K Q else E := by
  have hw : Region.wanted o (yielded ops a.tmps) = true := by simp [Region.wanted, hgd]
  rw [if_pos hw]
  obtain ⟨i, hi, hz0, hz1, hz2⟩ := u8_info3
  have e : Lib.strCells (str l) = bvs l := by simp [Lib.strCells, str, bvs, bv]
  obtain ⟨v', w', hr, h2, h3, _⟩ := Lib.run_append_own_string (P := Tryz.prog) w base 51 9 o.type 5 i Tryz.underlying51 Tryz.underlying9 hi hz0 hz1 hz2 v n (bvs bs) hown.out (str l) (by rw [str_size]; unfold maxLen; omega) (by rw [str_size]; omega) hb
  rw [e, bvs_append, str_size] at h2
  obtain ⟨A', c', rfl, _, _⟩ := own_form h2
  unfold Oper.wp execOp
  simp only [ho, resolve, invoke, builtin, Sem.run_bind, Sem.run_pure, Result.andThen_ok, List.map_toArray, List.map_cons, List.map_nil, hs, hy, hr]
  exact hK A' c' w' h2 h3
end
set_option maxRecDepth 100000 in
set_option maxHeartbeats 4000000 in
theorem refencode_any (x : Rc) (w : World) (hf : x.Fits) (hl : x.body.length ≤ maxLen) :
    Calls Tryz.prog 40 #[.agg x.vals] w fun e w' => ∃ u, e = .returned u ∧ w'.ownsRow w.heap.size 5 1 u (enc x).length (bvs (enc x)) ∧ Below w.heap.size w w' := by
  have HM := Lib.hid (fun w : World => refmay_any x w hl)
  have h0 : Hid (RecAt (w.alloc (.cells x.vals 91)) w.heap.size x) := RecAt.new w x
  clear hl
  by_cases hm : x.May
  case neg =>
    have em := may_false hm
    rw [enc_not hm]
    go_enter Tryz.func40, Tryz.ntmps40
    go_wp2_with (first
      | (refine load_rec h0.out rfl (.tmp 1) rfl rfl ?_)
      | (go_at_call 70; refine (HM.out _).mono ?_; rw [em]; rintro e w' ⟨rfl, hb⟩))
    have HB := Lib.hid hb
    clear hb
    go_wp2_with fail
    go_ret
    exact ⟨_, rfl, World.ownsRow_nil _ _ _ _, (below_alloc w _).trans (HB.out.mono (by simp))⟩
  have em := may_true hm
  have hb6 := hm.2.2.2.2.2
  have hk1 := hm.1
  have hk4 := hm.2.1
  have HF := Lib.hid hf
  have HMay := Lib.hid hm
  clear hf hm
  have hsz := str_size x.body
  obtain ⟨κ, hκ⟩ : ∃ κ : Nat, κ = x.kind.toNat := ⟨_, rfl⟩
  have hk : x.kind = ((κ : Nat) : Int) := by omega
  have hk9 : κ ≤ 4 := by omega
  have HKK := Lib.hid hk
  have HK := Lib.hid hκ
  clear hκ hk hk1 hk4
  have Q1 := Lib.hid HF.out.tenant
  have Q2 := Lib.hid HF.out.epoch
  have Q3 := Lib.hid HF.out.object
  have Q4 := Lib.hid HF.out.seq
  go_enter Tryz.func40, Tryz.ntmps40
  go_upto_region 3 with (first
      | (refine load_rec h0.out rfl (.tmp 1) rfl rfl ?_)
      | (go_at_call 70; refine (HM.out _).mono ?_; rw [em]; rintro e w1 ⟨rfl, hb⟩))
  have HB1 : Hid (Below w.heap.size w w1) := (below_alloc w _).trans (hb.mono (by simp))
  have HR1 : Hid (RecAt w1 w.heap.size x) := h0.out.below hb (by simp)
  have hlt1 : Hid (w.heap.size + 1 ≤ w1.heap.size) := HR1.out.lt
  have x0 : w1.cell? ⟨w.heap.size, 0, none⟩ = some (.int .i64 (κ : Int)) := by rw [← HKK.out]; exact HR1.out.cell 0
  clear hb h0 HM
  go_upto_region 4 with fail
  have hcs : bvs [83, 82, UInt8.ofNat κ] = [.int .u8 83, .int .u8 82, .int .u8 (κ : Int)] := by
    have : (UInt8.ofNat κ).toNat = κ := by rw [UInt8.toNat_ofNat']; omega
    simp [bvs, bv, this]
  obtain ⟨w3, hw3⟩ : ∃ w3, w3 = w1.alloc (.cells #[.int .u8 83, .int .u8 82, .int .u8 (κ : Int)] 5) := ⟨_, rfl⟩
  have HE3 : Hid (Enc w w.heap.size x w3 (.slice (some ⟨w1.heap.size, 0, none⟩) 3 3) [83, 82, UInt8.ofNat κ]) := by
    rw [hw3]
    refine ⟨HR1.out.below (below_alloc w1 _) HR1.out.lt, ?_, HB1.out.alloc HB1.out.size _, rfl⟩
    rw [hcs]
    exact World.ownsRow_lit w1 #[.int .u8 83, .int .u8 82, .int .u8 (κ : Int)] 3 hlt1.out (by decide) rfl
  rw [← hw3]
  clear hw3 x0 HR1 HB1 hlt1 hcs
  have y4 : w3.cell? ⟨w.heap.size, 1, none⟩ = some (.int .u32 (x.tenant : Int)) := HE3.out.at'.cell 1
  have hr4 : x.tenant < 4294967296 := Q1.out
  go_upto_region 5 with (first
    | (go_at_call 71; refine (enc_refput HE3 (x.tenant) 4 4 rfl (by omega) (by have := Q1.out; omega)).mono ?_; rintro e z4 ⟨A4, c4, rfl, HP4, HR4, _⟩)
    | (at_builtin; refine enc_append HP4.out rfl (.tmp 12) (.tmp 16) rfl rfl _ A4 4 c4 _ rfl HR4.out (by simp) ?_; intro v4 w4 HE4))
  clear y4 HP4 HR4 HE3 hr4
  have y5 : w4.cell? ⟨w.heap.size, 2, none⟩ = some (.int .u64 (x.epoch : Int)) := HE4.out.at'.cell 2
  go_upto_region 6 with (first
    | (go_at_call 71; refine (enc_refput HE4 (x.epoch) 8 8 rfl (by omega) (Q2.out)).mono ?_; rintro e z5 ⟨A5, c5, rfl, HP5, HR5, _⟩)
    | (at_builtin; refine enc_append HP5.out rfl (.tmp 18) (.tmp 21) rfl rfl _ A5 8 c5 _ rfl HR5.out (by simp) ?_; intro v5 w5 HE5))
  clear y5 HP5 HR5 HE4
  have y6 : w5.cell? ⟨w.heap.size, 3, none⟩ = some (.int .u64 (x.object : Int)) := HE5.out.at'.cell 3
  go_upto_region 7 with (first
    | (go_at_call 71; refine (enc_refput HE5 (x.object) 8 8 rfl (by omega) (Q3.out)).mono ?_; rintro e z6 ⟨A6, c6, rfl, HP6, HR6, _⟩)
    | (at_builtin; refine enc_append HP6.out rfl (.tmp 23) (.tmp 26) rfl rfl _ A6 8 c6 _ rfl HR6.out (by simp) ?_; intro v6 w6 HE6))
  clear y6 HP6 HR6 HE5
  have y7 : w6.cell? ⟨w.heap.size, 4, none⟩ = some (.int .u64 (x.seq : Int)) := HE6.out.at'.cell 4
  go_upto_region 8 with (first
    | (go_at_call 71; refine (enc_refput HE6 (x.seq) 8 8 rfl (by omega) (Q4.out)).mono ?_; rintro e z7 ⟨A7, c7, rfl, HP7, HR7, _⟩)
    | (at_builtin; refine enc_append HP7.out rfl (.tmp 28) (.tmp 31) rfl rfl _ A7 8 c7 _ rfl HR7.out (by simp) ?_; intro v7 w7 HE7))
  clear y7 HP7 HR7 HE6
  have y8 : w7.cell? ⟨w.heap.size, 5, none⟩ = some (.string (str x.body)) := HE7.out.at'.cell 5
  go_upto_region 9 with (first
    | (go_at_call 71; refine (enc_refput HE7 (x.body.length) 4 4 rfl (by omega) (by omega)).mono ?_; rintro e z8 ⟨A8, c8, rfl, HP8, HR8, _⟩)
    | (at_builtin; refine enc_append HP8.out rfl (.tmp 33) (.tmp 38) rfl rfl _ A8 4 c8 _ rfl HR8.out (by simp) ?_; intro v8 w8 HE8))
  clear y8 HP8 HR8 HE7
  have hh : [83, 82, UInt8.ofNat κ] ++ be x.tenant 4 ++ be x.epoch 8 ++ be x.object 8 ++ be x.seq 8 ++ be x.body.length 4 = x.head := by rw [HK.out]; simp [Rc.head, be_one]
  rw [hh] at HE8
  clear hh
  obtain ⟨A, c, rfl, _, _, hrow⟩ := enc_row HE8.out
  have hv8 : Value.slice A x.head.length c = .slice A 35 c := by rw [x.head_length]
  rw [hv8] at HE8
  rw [x.head_length] at hrow
  clear hv8
  have HROW : Hid (Row w8.drew w8.heap.size A 35 (bvs x.head)) := hrow
  have y9 : w8.cell? ⟨w.heap.size, 5, none⟩ = some (.string (str x.body)) := HE8.out.at'.cell 5
  have hg8 : w.heap.size < w8.heap.size := HE8.out.lt
  have L1 : Hid (35 ≤ 1000000) := by show _ ≤ _; omega
  have L2 : Hid (35 + x.body.length ≤ 1000000) := by show _ ≤ _; omega
  have L3 : Hid (35 + x.body.length ≤ maxLen) := by show _ ≤ _; unfold maxLen; omega
  have L0 : Hid (0 < 35) := by show 0 < 35; omega
  clear hrow
  go_cut [4] (fun v w' => v = .int .u32 (((Crc.sum (x.head ++ x.body)).toNat : Nat) : Int) ∧ Hid (Below w8.heap.size w8 w'))
  case first =>
    go_region_law (first
      | (refine step_append_nil rfl (.tmp 40) rfl w8.heap.size w8.heap.size A 35 c x.head rfl HROW.out L0.out L1.out (Nat.le_refl _) ?_; intro A1 c1 z1 G1 G2; have HBZ : Hid (Below w8.heap.size w8 z1) := ((Below.refl _ _).drew.grown G2.out (Nat.le_refl _) (fun k hk => by cases hk)); have y10 : z1.cell? ⟨w.heap.size, 5, none⟩ = some (.string (str x.body)) := (HBZ.out.cell hg8).trans y9)
      | (refine step_append_text rfl (.tmp 41) (.tmp 43) rfl w8.heap.size (.slice A1 35 c1) 35 x.head rfl G1 x.body rfl L2.out HBZ.out.size ?_; intro A2 c2 z2 G3 G4; have HRZ := Lib.hid (Row.own G3.out))
      | (go_simp; go_at_call 72; with_reducible refine (Crc.ref_sum _ _ _ (x.head ++ x.body) _ HRZ.out L3.out).mono ?_; rintro e w' ⟨rfl, rfl⟩))
    all_goals
      go_wp2_with fail
      go_meet
      case rel => exact ⟨rfl, HBZ.out.grown G4.out HBZ.out.size (fun k hk => (G1.out.lt k hk).1)⟩
  case rest =>
  obtain ⟨rfl, HBC⟩ := hcut
  have HEC := Lib.hid (HE8.out.all HBC.out)
  clear y9 HROW HE8 HBC L0 L1 L2 L3
  obtain ⟨σ, hσ⟩ : ∃ σ, σ = (Crc.sum (x.head ++ x.body)).toNat := ⟨_, rfl⟩
  have hlt : (Crc.sum (x.head ++ x.body)).toNat < 4294967296 := (Crc.sum (x.head ++ x.body)).isLt
  rw [← hσ] at hlt ⊢
  have HSG := Lib.hid hσ
  clear hσ
  go_upto_region 11 with (first
    | (go_at_call 71; refine (enc_refput HEC σ 4 4 rfl (by omega) (by omega)).mono ?_; rintro e z11 ⟨A11, c11, rfl, HP11, HR11, _⟩)
    | (at_builtin; refine enc_append HP11.out rfl (.tmp 46) (.tmp 49) rfl rfl _ A11 4 c11 _ rfl HR11.out (by simp) ?_; intro v11 w11 HE11))
  have y12 : w11.cell? ⟨w.heap.size, 5, none⟩ = some (.string (str x.body)) := HE11.out.at'.cell 5
  clear HP11 HR11 HEC
  go_wp2_with (at_builtin; refine enc_string HE11.out rfl (.tmp 51) (.tmp 53) rfl rfl x.body rfl (by simp; omega) ?_; intro v12 w12 HE12)
  go_ret
  rw [enc_may HMay.out]
  have hb : x.head ++ be σ 4 ++ x.body = x.bytes := by rw [HSG.out]; rfl
  rw [hb] at HE12
  exact ⟨v12, rfl, HE12.out.row.mono (by omega), HE12.out.below⟩
end Go.Proofs.YtcmlchicpmnhdaaGreatDoor.Rec
/-
  Proved: what the reference's Decode returns: what a list of bytes begins with.
  Conditions: the slice reads as bytes.
-/
namespace Go.Proofs.YtcmlchicpmnhdaaGreatDoor.Rec
open Go.RowKit
open Go.Proofs.YtcmlchicpmnhdaaGreatDoor.Crc (Turned)
set_option linter.unusedVariables false
set_option linter.unusedSimpArgs false


set_option maxRecDepth 100000 in
set_option maxHeartbeats 4000000 in
/-- The mark is wrong in its first byte. -/
theorem refdecode_b (b o n c : Nat) (bs : List UInt8) (w : World) (hR : Row w w.heap.size (some ⟨b, o, none⟩) n (bvs bs)) (hnc : n ≤ c) (hc : c ≤ maxLen) (h1 : 1 ≤ n) (h : bs.getD 0 0 ≠ 83) :
    Calls Tryz.prog 69 #[.slice (some ⟨b, o, none⟩) n c] w fun e w' => e = .returned (.tuple Out.bad.vals) ∧ Below w.heap.size w w' := by
  have hm : c ≤ 9223372036854775807 := by unfold maxLen at hc; exact hc
  have hz := zeroRec
  obtain ⟨w1, hw1⟩ : ∃ w1, w1 = w.alloc (.cells #[.int .i64 0, .int .u32 0, .int .u64 0, .int .u64 0, .int .u64 0, .string ⟨#[]⟩] 91) := ⟨_, rfl⟩
  have hB1 : Below w.heap.size w w1 := by rw [hw1]; exact below_alloc w _
  have HR1 : Hid (Row w1 w.heap.size (some ⟨b, o, none⟩) n (bvs bs)) := hR.below hB1
  have HZ : Hid (RecAt w1 w.heap.size zeroRc) := by rw [hw1]; exact zero_new w
  have HB1 := Lib.hid hB1
  have hl := hR.size
  have hnc' : n ≤ 9223372036854775807 := by omega
  obtain ⟨b', o', e', _, hcs⟩ := HR1.out.byte (by omega)
  injection e' with e'
  injection e' with e1 e2
  subst e1 e2
  have hcell : w1.cell? ⟨b, o, none⟩ = some (.int .u8 ((bs.getD 0 0).toNat : Int)) := hcs 0 (by omega)
  obtain ⟨q, hq⟩ : ∃ q, q = bs.getD 0 0 := ⟨_, rfl⟩
  rw [← hq] at hcell h
  have hs0 : ((((⟨#[83, 82]⟩ : ByteArray)[0]'(by decide)).toNat : Nat) : Int) = 83 := rfl
  have hd : ((q.toNat : Int) != ((((⟨#[83, 82]⟩ : ByteArray)[0]'(by decide)).toNat : Nat) : Int)) = true := bne_iff_ne.2 (fun e => h (UInt8.toNat.inj (by rw [hs0] at e; show q.toNat = 83; omega)))
  have hn1 : (0 : Int) < (n : Int) := by omega
  have hq8 := q.toNat_lt
  clear hcs hq h hl hR hB1
  go_enter Tryz.func69, Tryz.ntmps69
  go_upto_region 1 with fail
  rw [← hw1]
  clear hw1
  go_wp2_with fail
  refine wp_loop_rounds 3 ?_
  rw [rounds_succ]
  go_wp2_with fail
  go_quiet (fail)
  have HZ2 : Hid (RecAt (w1.drewN nq) w.heap.size zeroRc) := HZ.out
  have HB2 := Lib.hid (below_drewN HB1.out nq)
  go_wp2_with (refine store_recN HZ2.out rfl rfl (.tmp 2) (.tmp 27) rfl rfl zeroRc rfl rfl ?_; intro w2 G5 G6)
  refine bodyPost_ret (result_rec3 G5.out rfl _ rfl) rfl ?_
  exact ⟨rfl, below_only HB2.out (only_hid G6) (Nat.le_refl _) HB2.out.size⟩
set_option maxRecDepth 100000 in
set_option maxHeartbeats 4000000 in
/-- There is nothing. -/
theorem refdecode_a (A : Option Addr) (c : Nat) (w : World) (hc : c ≤ maxLen) :
    Calls Tryz.prog 69 #[.slice A 0 c] w fun e w' => e = .returned (.tuple Out.more.vals) ∧ Below w.heap.size w w' := by
  have hz := zeroRec
  obtain ⟨w1, hw1⟩ : ∃ w1, w1 = w.alloc (.cells #[.int .i64 0, .int .u32 0, .int .u64 0, .int .u64 0, .int .u64 0, .string ⟨#[]⟩] 91) := ⟨_, rfl⟩
  have HB1 : Hid (Below w.heap.size w w1) := by rw [hw1]; exact below_alloc w _
  have HZ : Hid (RecAt w1 w.heap.size zeroRc) := by rw [hw1]; exact zero_new w
  go_enter Tryz.func69, Tryz.ntmps69
  go_upto_region 1 with fail
  rw [← hw1]
  clear hw1
  go_wp2_with fail
  refine wp_loop_rounds 3 ?_
  rw [rounds_succ]
  go_wp2_with (refine store_recN HZ.out rfl rfl (.tmp 2) (.tmp 47) rfl rfl zeroRc rfl rfl ?_; intro w2 G5 G6)
  refine bodyPost_ret (result_rec3 G5.out rfl _ rfl) rfl ?_
  exact ⟨rfl, below_only HB1.out (only_hid G6) (Nat.le_refl _) HB1.out.size⟩
set_option maxRecDepth 100000 in
set_option maxHeartbeats 4000000 in
/-- One byte, the right one. -/
theorem refdecode_c (b o n c : Nat) (bs : List UInt8) (w : World) (hR : Row w w.heap.size (some ⟨b, o, none⟩) n (bvs bs)) (hnc : n ≤ c) (hc : c ≤ maxLen) (h1 : n = 1) (h0 : bs.getD 0 0 = 83) :
    Calls Tryz.prog 69 #[.slice (some ⟨b, o, none⟩) n c] w fun e w' => e = .returned (.tuple Out.more.vals) ∧ Below w.heap.size w w' := by
  have hm : c ≤ 9223372036854775807 := by unfold maxLen at hc; exact hc
  have hz := zeroRec
  obtain ⟨w1, hw1⟩ : ∃ w1, w1 = w.alloc (.cells #[.int .i64 0, .int .u32 0, .int .u64 0, .int .u64 0, .int .u64 0, .string ⟨#[]⟩] 91) := ⟨_, rfl⟩
  have hB1 : Below w.heap.size w w1 := by rw [hw1]; exact below_alloc w _
  have HR1 : Hid (Row w1 w.heap.size (some ⟨b, o, none⟩) n (bvs bs)) := hR.below hB1
  have HZ : Hid (RecAt w1 w.heap.size zeroRc) := by rw [hw1]; exact zero_new w
  have HB1 := Lib.hid hB1
  have hl := hR.size
  have hnc' : n ≤ 9223372036854775807 := by omega
  obtain ⟨b', o', e', _, hcs⟩ := HR1.out.byte (by omega)
  injection e' with e'
  injection e' with e1 e2
  subst e1 e2
  have hcell : w1.cell? ⟨b, o, none⟩ = some (.int .u8 ((bs.getD 0 0).toNat : Int)) := hcs 0 (by omega)
  rw [h0] at hcell
  have hs0 : ((((⟨#[83, 82]⟩ : ByteArray)[0]'(by decide)).toNat : Nat) : Int) = 83 := rfl
  have hd : ((83 : Int) != ((((⟨#[83, 82]⟩ : ByteArray)[0]'(by decide)).toNat : Nat) : Int)) = false := rfl
  have hcell' : w1.cell? ⟨b, o, none⟩ = some (.int .u8 83) := hcell
  subst h1
  clear hcs hl hR hB1 hcell h0
  go_enter Tryz.func69, Tryz.ntmps69
  go_upto_region 1 with fail
  rw [← hw1]
  clear hw1
  go_wp2_with fail
  refine wp_loop_rounds 3 ?_
  rw [rounds_succ]
  go_wp2_with fail
  go_quiet (fail)
  have HZ2 : Hid (RecAt (w1.drewN nq) w.heap.size zeroRc) := HZ.out
  have HB2 := Lib.hid (below_drewN HB1.out nq)
  go_wp2_with fail
  rw [rounds_succ]
  go_wp2_with (refine store_recN HZ2.out rfl rfl (.tmp 2) (.tmp 47) rfl rfl zeroRc rfl rfl ?_; intro w2 G5 G6)
  refine bodyPost_ret (result_rec3 G5.out rfl _ rfl) rfl ?_
  exact ⟨rfl, below_only HB2.out (only_hid G6) (Nat.le_refl _) HB2.out.size⟩
set_option maxRecDepth 100000 in
set_option maxHeartbeats 4000000 in
/-- The mark is wrong in its second byte. -/
theorem refdecode_d (b o n c : Nat) (bs : List UInt8) (w : World) (hR : Row w w.heap.size (some ⟨b, o, none⟩) n (bvs bs)) (hnc : n ≤ c) (hc : c ≤ maxLen) (h1 : 2 ≤ n) (h0 : bs.getD 0 0 = 83) (h : bs.getD 1 0 ≠ 82) :
    Calls Tryz.prog 69 #[.slice (some ⟨b, o, none⟩) n c] w fun e w' => e = .returned (.tuple Out.bad.vals) ∧ Below w.heap.size w w' := by
  have hm : c ≤ 9223372036854775807 := by unfold maxLen at hc; exact hc
  have hz := zeroRec
  obtain ⟨w1, hw1⟩ : ∃ w1, w1 = w.alloc (.cells #[.int .i64 0, .int .u32 0, .int .u64 0, .int .u64 0, .int .u64 0, .string ⟨#[]⟩] 91) := ⟨_, rfl⟩
  have hB1 : Below w.heap.size w w1 := by rw [hw1]; exact below_alloc w _
  have HR1 : Hid (Row w1 w.heap.size (some ⟨b, o, none⟩) n (bvs bs)) := hR.below hB1
  have HZ : Hid (RecAt w1 w.heap.size zeroRc) := by rw [hw1]; exact zero_new w
  have HB1 := Lib.hid hB1
  have hl := hR.size
  have hnc' : n ≤ 9223372036854775807 := by omega
  obtain ⟨b', o', e', _, hcs⟩ := HR1.out.byte (by omega)
  injection e' with e'
  injection e' with e1 e2
  subst e1 e2
  have hcell : w1.cell? ⟨b, o, none⟩ = some (.int .u8 ((bs.getD 0 0).toNat : Int)) := hcs 0 (by omega)
  rw [h0] at hcell
  have hs0 : ((((⟨#[83, 82]⟩ : ByteArray)[0]'(by decide)).toNat : Nat) : Int) = 83 := rfl
  have hd : ((83 : Int) != ((((⟨#[83, 82]⟩ : ByteArray)[0]'(by decide)).toNat : Nat) : Int)) = false := rfl
  have hcell' : w1.cell? ⟨b, o, none⟩ = some (.int .u8 83) := hcell
  have hs1 : ((((⟨#[83, 82]⟩ : ByteArray)[1]'(by decide)).toNat : Nat) : Int) = 82 := rfl
  obtain ⟨q, hq⟩ : ∃ q, q = bs.getD 1 0 := ⟨_, rfl⟩
  have hc1 : w1.cell? ⟨b, o + 1, none⟩ = some (.int .u8 ((bs.getD 1 0).toNat : Int)) := hcs 1 (by omega)
  rw [← hq] at hc1 h
  have hd2 : ((q.toNat : Int) != ((((⟨#[83, 82]⟩ : ByteArray)[1]'(by decide)).toNat : Nat) : Int)) = true := bne_iff_ne.2 (fun e => h (UInt8.toNat.inj (by rw [hs1] at e; show q.toNat = 82; omega)))
  have hn1 : (1 : Int) < (n : Int) := by omega
  have hn0 : (0 : Int) < (n : Int) := by omega
  have hq8 := q.toNat_lt
  have HC1 := Lib.hid hc1
  clear hcs hl hR hB1 hcell h0 hq h
  go_enter Tryz.func69, Tryz.ntmps69
  go_upto_region 1 with fail
  rw [← hw1]
  clear hw1
  go_wp2_with fail
  refine wp_loop_rounds 3 ?_
  rw [rounds_succ]
  go_wp2_with fail
  go_quiet (fail)
  obtain ⟨w2, hw2⟩ : ∃ w2, w2 = w1.drewN nq := ⟨_, rfl⟩
  have HZ2 : Hid (RecAt w2 w.heap.size zeroRc) := by rw [hw2]; exact HZ.out
  have HB2 : Hid (Below w.heap.size w w2) := by rw [hw2]; exact below_drewN HB1.out nq
  have hc2 : w2.cell? ⟨b, o + 1, none⟩ = some (.int .u8 (q.toNat : Int)) := by rw [hw2]; exact HC1.out
  rw [← hw2]
  clear hw2 HZ HB1 hc1 hcell'
  go_wp2_with fail
  rw [rounds_succ]
  go_wp2_with fail
  go_quiet (fail)
  have HZ3 : Hid (RecAt (w2.drewN nq) w.heap.size zeroRc) := HZ2.out
  have HB3 := Lib.hid (below_drewN HB2.out nq)
  go_wp2_with (refine store_recN HZ3.out rfl rfl (.tmp 2) (.tmp 27) rfl rfl zeroRc rfl rfl ?_; intro w4 G5 G6)
  refine bodyPost_ret (result_rec3 G5.out rfl _ rfl) rfl ?_
  exact ⟨rfl, below_only HB3.out (only_hid G6) (Nat.le_refl _) HB3.out.size⟩
end Go.Proofs.YtcmlchicpmnhdaaGreatDoor.Rec
/-
  Proved: what the reference's Decode returns where the mark is right.
  Conditions: the slice reads as bytes.
-/
namespace Go.Proofs.YtcmlchicpmnhdaaGreatDoor.Rec
open Go.RowKit
open Go.Proofs.YtcmlchicpmnhdaaGreatDoor.Crc (Turned)
set_option linter.unusedVariables false
set_option linter.unusedSimpArgs false

set_option maxRecDepth 100000 in
set_option maxHeartbeats 4000000 in
/-- The mark is right; the kind is not, or there are fewer bytes than a head. -/
theorem refdecode_e (b o n c : Nat) (bs : List UInt8) (w : World) (hR : Row w w.heap.size (some ⟨b, o, none⟩) n (bvs bs)) (hnc : n ≤ c) (hc : c ≤ maxLen) (h1 : 2 ≤ n) (h0 : bs.getD 0 0 = 83) (hg : bs.getD 1 0 = 82) (hx : ¬ (mayKind ((bs.getD 2 0).toNat : Int) ∧ 39 ≤ n)) :
    Calls Tryz.prog 69 #[.slice (some ⟨b, o, none⟩) n c] w fun e w' => e = .returned (.tuple (dec bs).vals) ∧ Below w.heap.size w w' := by
  have hFr : Front bs ↔ (2 < n → mayKind ((bs.getD 2 0).toNat : Int)) := by
    unfold Front
    rw [hR.size]
    exact ⟨fun h => h.2.2, fun h => ⟨fun _ => h0, fun _ => hg, h⟩⟩
  have hdec : dec bs = if 2 < n → mayKind ((bs.getD 2 0).toNat : Int) then .more else .bad := by
    unfold dec
    rw [hR.size]
    by_cases hf : Front bs
    · rw [if_neg (not_not_intro hf), if_pos (hFr.1 hf)]
      by_cases h39 : n < 39
      · rw [if_pos h39]
      · exact absurd ⟨hFr.1 hf (by omega), by omega⟩ hx
    · rw [if_pos hf, if_neg (fun h => hf (hFr.2 h))]
  have HDEC := Lib.hid hdec
  clear hdec hFr
  have hm : c ≤ 9223372036854775807 := by unfold maxLen at hc; exact hc
  have hz := zeroRec
  obtain ⟨w1, hw1⟩ : ∃ w1, w1 = w.alloc (.cells #[.int .i64 0, .int .u32 0, .int .u64 0, .int .u64 0, .int .u64 0, .string ⟨#[]⟩] 91) := ⟨_, rfl⟩
  have hB1 : Below w.heap.size w w1 := by rw [hw1]; exact below_alloc w _
  have HR1 : Hid (Row w1 w.heap.size (some ⟨b, o, none⟩) n (bvs bs)) := hR.below hB1
  have HZ : Hid (RecAt w1 w.heap.size zeroRc) := by rw [hw1]; exact zero_new w
  have HB1 := Lib.hid hB1
  have hl := hR.size
  have hnc' : n ≤ 9223372036854775807 := by omega
  obtain ⟨b', o', e', _, hcs⟩ := HR1.out.byte (by omega)
  injection e' with e'
  injection e' with e1 e2
  subst e1 e2
  have hcell : w1.cell? ⟨b, o, none⟩ = some (.int .u8 ((bs.getD 0 0).toNat : Int)) := hcs 0 (by omega)
  rw [h0] at hcell
  have hs0 : ((((⟨#[83, 82]⟩ : ByteArray)[0]'(by decide)).toNat : Nat) : Int) = 83 := rfl
  have hd : ((83 : Int) != ((((⟨#[83, 82]⟩ : ByteArray)[0]'(by decide)).toNat : Nat) : Int)) = false := rfl
  have hcell' : w1.cell? ⟨b, o, none⟩ = some (.int .u8 83) := hcell
  have hs1 : ((((⟨#[83, 82]⟩ : ByteArray)[1]'(by decide)).toNat : Nat) : Int) = 82 := rfl
  have hc1 : w1.cell? ⟨b, o + 1, none⟩ = some (.int .u8 ((bs.getD 1 0).toNat : Int)) := hcs 1 (by omega)
  rw [hg] at hc1
  have hc1' : w1.cell? ⟨b, o + 1, none⟩ = some (.int .u8 82) := hc1
  have hd2 : ((82 : Int) != ((((⟨#[83, 82]⟩ : ByteArray)[1]'(by decide)).toNat : Nat) : Int)) = false := rfl
  have hn1 : (1 : Int) < (n : Int) := by omega
  have hn0 : (0 : Int) < (n : Int) := by omega
  have HC1 := Lib.hid hc1'
  have HL := Lib.hid hl
  have HR := Lib.hid hR
  clear hcs hl hR hB1 hcell h0 hg hc1
  go_enter Tryz.func69, Tryz.ntmps69
  go_upto_region 1 with fail
  rw [← hw1]
  clear hw1
  go_wp2_with fail
  refine wp_loop_rounds 3 ?_
  rw [rounds_succ]
  go_wp2_with fail
  go_quiet (fail)
  obtain ⟨w2, hw2⟩ : ∃ w2, w2 = w1.drewN nq := ⟨_, rfl⟩
  have HZ2 : Hid (RecAt w2 w.heap.size zeroRc) := by rw [hw2]; exact HZ.out
  have HB2 : Hid (Below w.heap.size w w2) := by rw [hw2]; exact below_drewN HB1.out nq
  have hc2 : w2.cell? ⟨b, o + 1, none⟩ = some (.int .u8 82) := by rw [hw2]; exact HC1.out
  rw [← hw2]
  clear hw2 HZ HB1 hc1' hcell'
  go_wp2_with fail
  rw [rounds_succ]
  go_wp2_with fail
  go_quiet (fail)
  obtain ⟨w3, hw3⟩ : ∃ w3, w3 = w2.drewN nq := ⟨_, rfl⟩
  have HZ3 : Hid (RecAt w3 w.heap.size zeroRc) := by rw [hw3]; exact HZ2.out
  have HB3 : Hid (Below w.heap.size w w3) := by rw [hw3]; exact below_drewN HB2.out nq
  rw [← hw3]
  clear hw3 HZ2 HB2 hc2 hd hd2 hs0 hs1
  have HR3 := Lib.hid (HR.out.below HB3.out)
  obtain ⟨b3, o3, e3, _, hcs3⟩ := HR3.out.byte (by omega)
  injection e3 with e3
  injection e3 with f1 f2
  subst f1 f2
  by_cases hn2 : n = 2
  · subst hn2
    have e : dec bs = .more := by rw [HDEC.out, if_pos (fun h => absurd h (by omega))]
    have HE := Lib.hid e
    clear hcs3 e
    go_wp2_with fail
    rw [rounds_succ]
    go_wp2_with (refine store_recN HZ3.out rfl rfl (.tmp 2) (.tmp 47) rfl rfl zeroRc rfl rfl ?_; intro w4 G5 G6)
    refine bodyPost_ret (result_rec3 G5.out rfl _ rfl) rfl ?_
    exact ⟨by rw [HE.out]; rfl, below_only HB3.out (only_hid G6) (Nat.le_refl _) HB3.out.size⟩
  have hn2' : (2 : Int) < (n : Int) := by omega
  have hk : w3.cell? ⟨b, o + 2, none⟩ = some (.int .u8 ((bs.getD 2 0).toNat : Int)) := hcs3 2 (by omega)
  obtain ⟨q, hq⟩ : ∃ q, q = bs.getD 2 0 := ⟨_, rfl⟩
  rw [← hq] at hk HDEC hx
  have hq8 := q.toNat_lt
  clear hcs3 hq
  by_cases ha : q.toNat < 1
  · have ha' : (q.toNat : Int) < 1 := by omega
    have e : dec bs = .bad := by rw [HDEC.out, if_neg (fun h => by have := (h (by omega)).1; omega)]
    have HE := Lib.hid e
    clear e
    go_wp2_with fail
    rw [rounds_succ]
    go_wp2_with (refine store_recN HZ3.out rfl rfl (.tmp 2) (.tmp 43) rfl rfl zeroRc rfl rfl ?_; intro w4 G5 G6)
    refine bodyPost_ret (result_rec3 G5.out rfl _ rfl) rfl ?_
    exact ⟨by rw [HE.out]; rfl, below_only HB3.out (only_hid G6) (Nat.le_refl _) HB3.out.size⟩
  have ha' : ¬ (q.toNat : Int) < 1 := by omega
  by_cases hb4 : 4 < q.toNat
  · have hb4' : (4 : Int) < (q.toNat : Int) := by omega
    have e : dec bs = .bad := by rw [HDEC.out, if_neg (fun h => by have := (h (by omega)).2; omega)]
    have HE := Lib.hid e
    clear e
    go_wp2_with fail
    rw [rounds_succ]
    go_wp2_with (refine store_recN HZ3.out rfl rfl (.tmp 2) (.tmp 43) rfl rfl zeroRc rfl rfl ?_; intro w4 G5 G6)
    refine bodyPost_ret (result_rec3 G5.out rfl _ rfl) rfl ?_
    exact ⟨by rw [HE.out]; rfl, below_only HB3.out (only_hid G6) (Nat.le_refl _) HB3.out.size⟩
  have hb4' : ¬ (4 : Int) < (q.toNat : Int) := by omega
  have hmk : mayKind (q.toNat : Int) := ⟨by omega, by omega⟩
  have h39' : n < 39 := Nat.lt_of_not_le fun h => hx ⟨hmk, h⟩
  have h39 : (n : Int) < 39 := by omega
  have e : dec bs = .more := by rw [HDEC.out, if_pos (fun _ => hmk)]
  have HE := Lib.hid e
  clear e hmk
  go_wp2_with fail
  rw [rounds_succ]
  go_wp2_with (refine store_recN HZ3.out rfl rfl (.tmp 2) (.tmp 47) rfl rfl zeroRc rfl rfl ?_; intro w4 G5 G6)
  refine bodyPost_ret (result_rec3 G5.out rfl _ rfl) rfl ?_
  exact ⟨by rw [HE.out]; rfl, below_only HB3.out (only_hid G6) (Nat.le_refl _) HB3.out.size⟩
end Go.Proofs.YtcmlchicpmnhdaaGreatDoor.Rec
