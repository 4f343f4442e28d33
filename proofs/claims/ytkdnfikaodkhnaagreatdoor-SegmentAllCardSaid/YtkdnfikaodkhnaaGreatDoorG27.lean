/-
  Texts one behind the other: ScanEqAll, RecRefEnc.
-/
import Derived.Deep.RegionLaw
import Derived.Test.YtkdnfikaodkhnaaGreatDoorG06
import Derived.Test.YtkdnfikaodkhnaaGreatDoorG11
import Derived.Test.YtkdnfikaodkhnaaGreatDoorG26
/-
  Proved: EqAll says true of two rows that hold the same records.
  Conditions: the slices read as records found, not too many.
-/
namespace Go.Proofs.YtkdnfikaodkhnaaGreatDoor.Rec
open Go.RowKit
set_option linter.unusedVariables false
set_option linter.unusedSimpArgs false

set_option maxRecDepth 100000 in
set_option maxHeartbeats 8000000 in
theorem eqall_any (A A2 : Option Addr) (n c c2 : Nat) (l : List (Nat × Rc)) (w : World) (hR : Row w w.heap.size A (n * 7) (flat l)) (hR2 : Row w w.heap.size A2 (n * 7) (flat l)) (hl : l.length = n) (hn : n ≤ 8388608) :
    Calls Tryz.prog 18 #[.slice A n c, .slice A2 n c2] w fun e w' => e = .returned (.bool true) ∧ Below w.heap.size w w' := by
  have HR := Lib.hid hR
  have HR2 := Lib.hid hR2
  have HL := Lib.hid hl
  have HW := Lib.hid (Below.refl w.heap.size w)
  clear hR hR2 hl
  go_enter Tryz.func18, Tryz.ntmps18
  go_wp2_with fail
  go_loopw [5] (fun i wr => ∃ (p : Nat), i = .int .i64 (p : Int) ∧ p ≤ n ∧ Hid (Below w.heap.size w wr)) (fun i _ => n - (RowKit.intOf i).toNat)
  case atStart => exact ⟨0, rfl, Nat.zero_le _, HW⟩
  case round =>
    obtain ⟨p, rfl, hp, HB⟩ := hrel
    by_cases hlt : p < n
    · obtain ⟨b, o, rfl, hb, _⟩ := HR.out.2 (by omega)
      obtain ⟨b2, o2, rfl, hb2, _⟩ := HR2.out.2 (by omega)
      obtain ⟨q, hq⟩ : ∃ q, l[p]? = some q := ⟨l[p]'(by rw [HL.out]; exact hlt), List.getElem?_eq_getElem _⟩
      have HI1 : Hid (∀ W, Below w.heap.size w W → W.cell? ⟨b, o + p * 7, none⟩ = some (.int .i64 (q.1 : Int)) ∧ W.rangeAt b (o + p * 7 + 1) q.2.vals.toList) := fun W hW => found_rec (found_item (HR.out.below hW) p q hq)
      have HI2 : Hid (∀ W, Below w.heap.size w W → W.cell? ⟨b2, o2 + p * 7, none⟩ = some (.int .i64 (q.1 : Int)) ∧ W.rangeAt b2 (o2 + p * 7 + 1) q.2.vals.toList) := fun W hW => found_rec (found_item (HR2.out.below hW) p q hq)
      have CE : Hid (∀ W, Calls Tryz.prog 31 #[.agg q.2.vals, .agg q.2.vals] W fun e w' => e = .returned (.bool true) ∧ Below W.heap.size W w') := fun W => by
        have := eq_any q.2 q.2 W
        rwa [decide_eq_true rfl] at this
      clear hq
      have HBR : Hid (Below w.heap.size w wr.drew) := HB.out.drew
      go_upto_region 6 with fail
      refine wp_region_noPanic ?_
      refine wp_region_held_drew (S := fun W => Hid (Below w.heap.size w W)) (by kernel_rfl) HBR (fun h0 => ?_)
      refine held_take 0 (v := ?_) (d := (some 17)) rfl rfl (by kernel_rfl) (by kernel_rfl) (by kernel_rfl) (fun _ _ _ h => h) (Or.inl ⟨by rfl, ?_⟩) h0 ?_
      rotate_left
      · intro _ _; go_simp; (try with_reducible rfl)
      try simp only [Act.put, List.setIfInBounds_toArray, List.set_cons_zero, List.set_cons_succ]
      refine held_take 1 (v := ?_) (d := (some 18)) rfl rfl (by kernel_rfl) (by kernel_rfl) (by kernel_rfl) (fun _ _ _ h => h) (Or.inl ⟨by rfl, ?_⟩) h0 ?_
      rotate_left
      · intro _ _; go_simp; (try with_reducible rfl)
      try simp only [Act.put, List.setIfInBounds_toArray, List.set_cons_zero, List.set_cons_succ]
      refine held_take 2 (v := ?_) (d := (some 19)) rfl rfl (by kernel_rfl) (by kernel_rfl) (by kernel_rfl) (fun _ _ _ h => h) (Or.inl ⟨by rfl, ?_⟩) h0 ?_
      rotate_left
      · intro _ _; go_simp; (try with_reducible rfl)
      try simp only [Act.put, List.setIfInBounds_toArray, List.set_cons_zero, List.set_cons_succ]
      refine held_take 3 (v := ?_) (d := (some 20)) rfl rfl (by kernel_rfl) (by kernel_rfl) (by kernel_rfl) (fun _ _ _ h => h) (Or.inl ⟨by rfl, ?_⟩) h0 ?_
      rotate_left
      · intro _ _; go_simp; (try with_reducible rfl)
      try simp only [Act.put, List.setIfInBounds_toArray, List.set_cons_zero, List.set_cons_succ]
      refine held_take 4 (v := .int .i64 (q.1 : Int)) (d := (some 21)) rfl rfl (by kernel_rfl) (by kernel_rfl) (by kernel_rfl) (fun _ _ _ h => h) (Or.inl ⟨by rfl, ?_⟩) h0 ?_
      · intro W hW; have hc := (HI1.out W hW.out).1; go_simp
      try simp only [Act.put, List.setIfInBounds_toArray, List.set_cons_zero, List.set_cons_succ]
      refine held_take 5 (v := ?_) (d := (some 22)) rfl rfl (by kernel_rfl) (by kernel_rfl) (by kernel_rfl) (fun _ _ _ h => h) (Or.inl ⟨by rfl, ?_⟩) h0 ?_
      rotate_left
      · intro _ _; go_simp; (try with_reducible rfl)
      try simp only [Act.put, List.setIfInBounds_toArray, List.set_cons_zero, List.set_cons_succ]
      refine held_take 6 (v := ?_) (d := (some 23)) rfl rfl (by kernel_rfl) (by kernel_rfl) (by kernel_rfl) (fun _ _ _ h => h) (Or.inl ⟨by rfl, ?_⟩) h0 ?_
      rotate_left
      · intro _ _; go_simp; (try with_reducible rfl)
      try simp only [Act.put, List.setIfInBounds_toArray, List.set_cons_zero, List.set_cons_succ]
      refine held_take 7 (v := ?_) (d := (some 24)) rfl rfl (by kernel_rfl) (by kernel_rfl) (by kernel_rfl) (fun _ _ _ h => h) (Or.inl ⟨by rfl, ?_⟩) h0 ?_
      rotate_left
      · intro _ _; go_simp; (try with_reducible rfl)
      try simp only [Act.put, List.setIfInBounds_toArray, List.set_cons_zero, List.set_cons_succ]
      refine held_take 8 (v := ?_) (d := (some 25)) rfl rfl (by kernel_rfl) (by kernel_rfl) (by kernel_rfl) (fun _ _ _ h => h) (Or.inl ⟨by rfl, ?_⟩) h0 ?_
      rotate_left
      · intro _ _; go_simp; (try with_reducible rfl)
      try simp only [Act.put, List.setIfInBounds_toArray, List.set_cons_zero, List.set_cons_succ]
      refine held_take 9 (v := .int .i64 (q.1 : Int)) (d := (some 26)) rfl rfl (by kernel_rfl) (by kernel_rfl) (by kernel_rfl) (fun _ _ _ h => h) (Or.inl ⟨by rfl, ?_⟩) h0 ?_
      · intro W hW; have hc := (HI2.out W hW.out).1; go_simp
      try simp only [Act.put, List.setIfInBounds_toArray, List.set_cons_zero, List.set_cons_succ]
      refine held_take 10 (v := .bool false) (d := (some 27)) rfl rfl (by kernel_rfl) (by kernel_rfl) (by kernel_rfl) (fun _ _ _ h => h) (Or.inl ⟨by rfl, ?_⟩) h0 ?_
      · intro _ _; go_simp; (try with_reducible rfl)
      try simp only [Act.put, List.setIfInBounds_toArray, List.set_cons_zero, List.set_cons_succ]
      refine held_take 11 (v := ?_) (d := (some 28)) rfl rfl (by kernel_rfl) (by kernel_rfl) (by kernel_rfl) (fun _ _ _ h => h) (Or.inl ⟨by rfl, ?_⟩) h0 ?_
      rotate_left
      · intro _ _; go_simp; (try with_reducible rfl)
      try simp only [Act.put, List.setIfInBounds_toArray, List.set_cons_zero, List.set_cons_succ]
      refine held_take 12 (v := ?_) (d := (some 29)) rfl rfl (by kernel_rfl) (by kernel_rfl) (by kernel_rfl) (fun _ _ _ h => h) (Or.inl ⟨by rfl, ?_⟩) h0 ?_
      rotate_left
      · intro _ _; go_simp; (try with_reducible rfl)
      try simp only [Act.put, List.setIfInBounds_toArray, List.set_cons_zero, List.set_cons_succ]
      refine held_take 13 (v := ?_) (d := (some 30)) rfl rfl (by kernel_rfl) (by kernel_rfl) (by kernel_rfl) (fun _ _ _ h => h) (Or.inl ⟨by rfl, ?_⟩) h0 ?_
      rotate_left
      · intro _ _; go_simp; (try with_reducible rfl)
      try simp only [Act.put, List.setIfInBounds_toArray, List.set_cons_zero, List.set_cons_succ]
      refine held_take 14 (v := ?_) (d := (some 31)) rfl rfl (by kernel_rfl) (by kernel_rfl) (by kernel_rfl) (fun _ _ _ h => h) (Or.inl ⟨by rfl, ?_⟩) h0 ?_
      rotate_left
      · intro _ _; go_simp; (try with_reducible rfl)
      try simp only [Act.put, List.setIfInBounds_toArray, List.set_cons_zero, List.set_cons_succ]
      refine held_take 15 (v := ?_) (d := (some 32)) rfl rfl (by kernel_rfl) (by kernel_rfl) (by kernel_rfl) (fun _ _ _ h => h) (Or.inl ⟨by rfl, ?_⟩) h0 ?_
      rotate_left
      · intro _ _; go_simp; (try with_reducible rfl)
      try simp only [Act.put, List.setIfInBounds_toArray, List.set_cons_zero, List.set_cons_succ]
      refine held_take 16 (v := .agg q.2.vals) (d := (some 33)) rfl rfl (by kernel_rfl) (by kernel_rfl) (by kernel_rfl) (fun _ _ _ h => h) (yieldsIf_load_mid (by rfl) 40 (.tmp 32) rfl b (o + p * 7 + 1) rfl q.2.vals.toList _ (fun W h => (HI1.out W h.out).2) Tryz.underlying40 rfl rec_info) h0 ?_
      try simp only [Act.put, List.setIfInBounds_toArray, List.set_cons_zero, List.set_cons_succ]
      refine held_take 17 (v := ?_) (d := (some 34)) rfl rfl (by kernel_rfl) (by kernel_rfl) (by kernel_rfl) (fun _ _ _ h => h) (Or.inl ⟨by rfl, ?_⟩) h0 ?_
      rotate_left
      · intro _ _; go_simp; (try with_reducible rfl)
      try simp only [Act.put, List.setIfInBounds_toArray, List.set_cons_zero, List.set_cons_succ]
      refine held_take 18 (v := ?_) (d := (some 35)) rfl rfl (by kernel_rfl) (by kernel_rfl) (by kernel_rfl) (fun _ _ _ h => h) (Or.inl ⟨by rfl, ?_⟩) h0 ?_
      rotate_left
      · intro _ _; go_simp; (try with_reducible rfl)
      try simp only [Act.put, List.setIfInBounds_toArray, List.set_cons_zero, List.set_cons_succ]
      refine held_take 19 (v := ?_) (d := (some 36)) rfl rfl (by kernel_rfl) (by kernel_rfl) (by kernel_rfl) (fun _ _ _ h => h) (Or.inl ⟨by rfl, ?_⟩) h0 ?_
      rotate_left
      · intro _ _; go_simp; (try with_reducible rfl)
      try simp only [Act.put, List.setIfInBounds_toArray, List.set_cons_zero, List.set_cons_succ]
      refine held_take 20 (v := ?_) (d := (some 37)) rfl rfl (by kernel_rfl) (by kernel_rfl) (by kernel_rfl) (fun _ _ _ h => h) (Or.inl ⟨by rfl, ?_⟩) h0 ?_
      rotate_left
      · intro _ _; go_simp; (try with_reducible rfl)
      try simp only [Act.put, List.setIfInBounds_toArray, List.set_cons_zero, List.set_cons_succ]
      refine held_take 21 (v := .agg q.2.vals) (d := (some 38)) rfl rfl (by kernel_rfl) (by kernel_rfl) (by kernel_rfl) (fun _ _ _ h => h) (yieldsIf_load_mid (by rfl) 40 (.tmp 37) rfl b2 (o2 + p * 7 + 1) rfl q.2.vals.toList _ (fun W h => (HI2.out W h.out).2) Tryz.underlying40 rfl rec_info) h0 ?_
      try simp only [Act.put, List.setIfInBounds_toArray, List.set_cons_zero, List.set_cons_succ]
      refine wpAnyH_ready (rs := [22]) (by kernel_rfl) (by simp) (AllReadyH.cons rfl (fun K hK => ?_) AllReadyH.nil)
      go_simp
      with_reducible refine (CE.out _).mono ?_
      rintro e w6 ⟨rfl, hb6⟩
      have B6 := Lib.hid (HBR.out.trans (hb6.mono HBR.out.size))
      clear hb6
      refine hK.out _ _ (B6) (fun h1 => ?_)
      clear hK K
      try simp only [Act.put, List.setIfInBounds_toArray, List.set_cons_zero, List.set_cons_succ]
      refine held_take 23 (v := .bool false) (d := (some 40)) rfl rfl (by kernel_rfl) (by kernel_rfl) (by kernel_rfl) (fun _ _ _ h => h) (Or.inl ⟨by rfl, ?_⟩) h1 ?_
      · intro _ _; go_simp; (try with_reducible rfl)
      try simp only [Act.put, List.setIfInBounds_toArray, List.set_cons_zero, List.set_cons_succ]
      refine held_take 24 (v := .bool false) (d := (some 41)) rfl rfl (by kernel_rfl) (by kernel_rfl) (by kernel_rfl) (fun _ _ _ h => h) (Or.inl ⟨by rfl, ?_⟩) h1 ?_
      · intro _ _; go_simp; (try with_reducible rfl)
      try simp only [Act.put, List.setIfInBounds_toArray, List.set_cons_zero, List.set_cons_succ]
      refine wpAnyH_done (by kernel_rfl) ?_ _
      refine NoPanic.normal ?_
      go_wp2_with fail
      go_roundw
      case rel => exact ⟨p + 1, by go_num, by omega, B6⟩
      case measure => (simp [RowKit.intOf]; omega)
    · obtain rfl : p = n := by omega
      go_wp2_with fail
      go_ret
      exact ⟨rfl, HB.out⟩
end Go.Proofs.YtkdnfikaodkhnaaGreatDoor.Rec
/-
  Proved: what the reference's Encode returns: a record's bytes in memory of its own; none where it may not be.
  Conditions: numbers and texts are those of values.
-/
namespace Go.Proofs.YtkdnfikaodkhnaaGreatDoor.Rec
open Go.RowKit
open Go.Proofs.YtkdnfikaodkhnaaGreatDoor.Crc (Turned)
set_option linter.unusedVariables false
set_option linter.unusedSimpArgs false

section
variable {ops : Array Oper} {o : Oper} {a : Act} {w : World} {K : Act → World → Prop} {Q : Exit → Act → World → Prop} {E : Prop}
theorem step_append_nil (hgd : o.guard = none) (y : Operand) (ho : o.op = .call { callee := .builtin .append, args := #[.const (.slice none 0 0), y], argTypes := #[53, 53] })
    (base B : Nat) (A : Option Addr) (m c : Nat) (ps : List UInt8) (hy : a.eval y = .slice A m c) (hr : Row w B A m (bvs ps)) (h0 : 0 < m) (hm : m ≤ 1000000) (hb : base ≤ w.heap.size)
    (hK : ∀ A' c' w', Hid (w'.ownsRow base 5 1 (.slice A' m c') m (bvs ps)) → Hid (w.grownBy w' none) → K (a.put o.dst (.slice A' m c')) w') :
    if Region.wanted o (yielded ops a.tmps) = true then Oper.wp Tryz.prog o a w K Q else E := by
  obtain ⟨b, f, rfl, _, hc⟩ := hr.2 h0
  refine step_append_where hgd (.const (.slice none 0 0)) y 53 ho base 5 (.int .u8 0) 1 1 Tryz.underlying53 u8_info rfl (by decide) (.slice none 0 0) 0 [] rfl (World.ownsRow_nil _ _ _ _) ⟨b, f, none⟩ m c (bvs ps) hy (by rw [hr.1, Nat.mul_one]) ?_ (bvs_one _) (by unfold maxLen; omega) (by omega) hb ?_
  · intro j u hu
    have := hc j u hu
    unfold Addr.add
    split
    · rename_i hj; subst hj; exact this
    · exact this
  · intro v' w' h1 h2 _
    have h3 := h1.out
    rw [Nat.zero_add, List.nil_append] at h3
    obtain ⟨A', c', rfl, _, _⟩ := own_form h3
    exact hK A' c' w' h3 h2
theorem step_append_text (hgd : o.guard = none) (s y : Operand) (ho : o.op = .call { callee := .builtin .append, args := #[s, y], argTypes := #[53, 9] })
    (base : Nat) (v : Value) (n : Nat) (bs : List UInt8) (hs : a.eval s = v) (hown : Hid (w.ownsRow base 5 1 v n (bvs bs))) (l : List UInt8) (hy : a.eval y = .string (str l)) (hl : n + l.length ≤ 1000000) (hb : base ≤ w.heap.size)
    (hK : ∀ A' c' w', Hid (w'.ownsRow base 5 1 (.slice A' (n + l.length) c') (n + l.length) (bvs (bs ++ l))) → Hid (w.grownBy w' v.ownBlock) → K (a.put o.dst (.slice A' (n + l.length) c')) w') :
    if Region.wanted o (yielded ops a.tmps) = true then Oper.wp Tryz.prog o a w K Q else E := by
  have hw : Region.wanted o (yielded ops a.tmps) = true := by simp [Region.wanted, hgd]
  rw [if_pos hw]
  obtain ⟨i, hi, hz0, hz1, hz2⟩ := u8_info3
  have e : Lib.strCells (str l) = bvs l := by simp [Lib.strCells, str, bvs, bv]
  obtain ⟨v', w', hr, h2, h3, _⟩ := Lib.run_append_own_string (P := Tryz.prog) w base 53 9 o.type 5 i Tryz.underlying53 Tryz.underlying9 hi hz0 hz1 hz2 v n (bvs bs) hown.out (str l) (by rw [str_size]; unfold maxLen; omega) (by rw [str_size]; omega) hb
  rw [e, bvs_append, str_size] at h2
  obtain ⟨A', c', rfl, _, _⟩ := own_form h2
  unfold Oper.wp execOp
  simp only [ho, resolve, invoke, builtin, Sem.run_bind, Sem.run_pure, Result.andThen_ok, List.map_toArray, List.map_cons, List.map_nil, hs, hy, hr]
  exact hK A' c' w' h2 h3
end
set_option maxRecDepth 100000 in
set_option maxHeartbeats 4000000 in
theorem refencode_any (x : Rc) (w : World) (hf : x.Fits) (hl : x.body.length ≤ maxLen) :
    Calls Tryz.prog 41 #[.agg x.vals] w fun e w' => ∃ u, e = .returned u ∧ w'.ownsRow w.heap.size 5 1 u (enc x).length (bvs (enc x)) ∧ Below w.heap.size w w' := by
  have HM := Lib.hid (fun w : World => refmay_any x w hl)
  have h0 : Hid (RecAt (w.alloc (.cells x.vals 40)) w.heap.size x) := RecAt.new w x
  clear hl
  by_cases hm : x.May
  case neg =>
    have em := may_false hm
    rw [enc_not hm]
    go_enter Tryz.func41, Tryz.ntmps41
    go_wp2_with (first
      | (refine load_rec h0.out rfl (.tmp 1) rfl rfl ?_)
      | (go_at_call 52; refine (HM.out _).mono ?_; rw [em]; rintro e w' ⟨rfl, hb⟩))
    have HB := Lib.hid hb
    clear hb
    go_wp2_with fail
    go_ret
    exact ⟨_, rfl, World.ownsRow_nil _ _ _ _, (below_alloc w _).trans (HB.out.mono (by simp))⟩
  have em := may_true hm
  have hb6 := hm.2.2.2.2.2
  have hk1 := hm.1
  have hk4 := hm.2.1
  have HF := Lib.hid hf
  have HMay := Lib.hid hm
  clear hf hm
  have hsz := str_size x.body
  obtain ⟨κ, hκ⟩ : ∃ κ : Nat, κ = x.kind.toNat := ⟨_, rfl⟩
  have hk : x.kind = ((κ : Nat) : Int) := by omega
  have hk9 : κ ≤ 4 := by omega
  have HKK := Lib.hid hk
  have HK := Lib.hid hκ
  clear hκ hk hk1 hk4
  have Q1 := Lib.hid HF.out.tenant
  have Q2 := Lib.hid HF.out.epoch
  have Q3 := Lib.hid HF.out.object
  have Q4 := Lib.hid HF.out.seq
  go_enter Tryz.func41, Tryz.ntmps41
  go_upto_region 3 with (first
      | (refine load_rec h0.out rfl (.tmp 1) rfl rfl ?_)
      | (go_at_call 52; refine (HM.out _).mono ?_; rw [em]; rintro e w1 ⟨rfl, hb⟩))
  have HB1 : Hid (Below w.heap.size w w1) := (below_alloc w _).trans (hb.mono (by simp))
  have HR1 : Hid (RecAt w1 w.heap.size x) := h0.out.below hb (by simp)
  have hlt1 : Hid (w.heap.size + 1 ≤ w1.heap.size) := HR1.out.lt
  have x0 : w1.cell? ⟨w.heap.size, 0, none⟩ = some (.int .i64 (κ : Int)) := by rw [← HKK.out]; exact HR1.out.cell 0
  clear hb h0 HM
  go_upto_region 4 with fail
  have hcs : bvs [83, 82, UInt8.ofNat κ] = [.int .u8 83, .int .u8 82, .int .u8 (κ : Int)] := by
    have : (UInt8.ofNat κ).toNat = κ := by rw [UInt8.toNat_ofNat']; omega
    simp [bvs, bv, this]
  obtain ⟨w3, hw3⟩ : ∃ w3, w3 = w1.alloc (.cells #[.int .u8 83, .int .u8 82, .int .u8 (κ : Int)] 5) := ⟨_, rfl⟩
  have HE3 : Hid (Enc w w.heap.size x w3 (.slice (some ⟨w1.heap.size, 0, none⟩) 3 3) [83, 82, UInt8.ofNat κ]) := by
    rw [hw3]
    refine ⟨HR1.out.below (below_alloc w1 _) HR1.out.lt, ?_, HB1.out.alloc HB1.out.size _, rfl⟩
    rw [hcs]
    exact World.ownsRow_lit w1 #[.int .u8 83, .int .u8 82, .int .u8 (κ : Int)] 3 hlt1.out (by decide) rfl
  rw [← hw3]
  clear hw3 x0 HR1 HB1 hlt1 hcs
  have y4 : w3.cell? ⟨w.heap.size, 1, none⟩ = some (.int .u32 (x.tenant : Int)) := HE3.out.at'.cell 1
  have hr4 : x.tenant < 4294967296 := Q1.out
  go_upto_region 5 with (first
    | (go_at_call 68; refine (enc_refput HE3 (x.tenant) 4 4 rfl (by omega) (by have := Q1.out; omega)).mono ?_; rintro e z4 ⟨A4, c4, rfl, HP4, HR4, _⟩)
    | (at_builtin; refine enc_append HP4.out rfl (.tmp 12) (.tmp 16) rfl rfl _ A4 4 c4 _ rfl HR4.out (by simp) ?_; intro v4 w4 HE4))
  clear y4 HP4 HR4 HE3 hr4
  have y5 : w4.cell? ⟨w.heap.size, 2, none⟩ = some (.int .u64 (x.epoch : Int)) := HE4.out.at'.cell 2
  go_upto_region 6 with (first
    | (go_at_call 68; refine (enc_refput HE4 (x.epoch) 8 8 rfl (by omega) (Q2.out)).mono ?_; rintro e z5 ⟨A5, c5, rfl, HP5, HR5, _⟩)
    | (at_builtin; refine enc_append HP5.out rfl (.tmp 18) (.tmp 21) rfl rfl _ A5 8 c5 _ rfl HR5.out (by simp) ?_; intro v5 w5 HE5))
  clear y5 HP5 HR5 HE4
  have y6 : w5.cell? ⟨w.heap.size, 3, none⟩ = some (.int .u64 (x.object : Int)) := HE5.out.at'.cell 3
  go_upto_region 7 with (first
    | (go_at_call 68; refine (enc_refput HE5 (x.object) 8 8 rfl (by omega) (Q3.out)).mono ?_; rintro e z6 ⟨A6, c6, rfl, HP6, HR6, _⟩)
    | (at_builtin; refine enc_append HP6.out rfl (.tmp 23) (.tmp 26) rfl rfl _ A6 8 c6 _ rfl HR6.out (by simp) ?_; intro v6 w6 HE6))
  clear y6 HP6 HR6 HE5
  have y7 : w6.cell? ⟨w.heap.size, 4, none⟩ = some (.int .u64 (x.seq : Int)) := HE6.out.at'.cell 4
  go_upto_region 8 with (first
    | (go_at_call 68; refine (enc_refput HE6 (x.seq) 8 8 rfl (by omega) (Q4.out)).mono ?_; rintro e z7 ⟨A7, c7, rfl, HP7, HR7, _⟩)
    | (at_builtin; refine enc_append HP7.out rfl (.tmp 28) (.tmp 31) rfl rfl _ A7 8 c7 _ rfl HR7.out (by simp) ?_; intro v7 w7 HE7))
  clear y7 HP7 HR7 HE6
  have y8 : w7.cell? ⟨w.heap.size, 5, none⟩ = some (.string (str x.body)) := HE7.out.at'.cell 5
  go_upto_region 9 with (first
    | (go_at_call 68; refine (enc_refput HE7 (x.body.length) 4 4 rfl (by omega) (by omega)).mono ?_; rintro e z8 ⟨A8, c8, rfl, HP8, HR8, _⟩)
    | (at_builtin; refine enc_append HP8.out rfl (.tmp 33) (.tmp 38) rfl rfl _ A8 4 c8 _ rfl HR8.out (by simp) ?_; intro v8 w8 HE8))
  clear y8 HP8 HR8 HE7
  have hh : [83, 82, UInt8.ofNat κ] ++ be x.tenant 4 ++ be x.epoch 8 ++ be x.object 8 ++ be x.seq 8 ++ be x.body.length 4 = x.head := by rw [HK.out]; simp [Rc.head, be_one]
  rw [hh] at HE8
  clear hh
  obtain ⟨A, c, rfl, _, _, hrow⟩ := enc_row HE8.out
  have hv8 : Value.slice A x.head.length c = .slice A 35 c := by rw [x.head_length]
  rw [hv8] at HE8
  rw [x.head_length] at hrow
  clear hv8
  have HROW : Hid (Row w8.drew w8.heap.size A 35 (bvs x.head)) := hrow
  have y9 : w8.cell? ⟨w.heap.size, 5, none⟩ = some (.string (str x.body)) := HE8.out.at'.cell 5
  have hg8 : w.heap.size < w8.heap.size := HE8.out.lt
  have L1 : Hid (35 ≤ 1000000) := by show _ ≤ _; omega
  have L2 : Hid (35 + x.body.length ≤ 1000000) := by show _ ≤ _; omega
  have L3 : Hid (35 + x.body.length ≤ maxLen) := by show _ ≤ _; unfold maxLen; omega
  have L0 : Hid (0 < 35) := by show 0 < 35; omega
  clear hrow
  go_cut [4] (fun v w' => v = .int .u32 (((Crc.sum (x.head ++ x.body)).toNat : Nat) : Int) ∧ Hid (Below w8.heap.size w8 w'))
  case first =>
    go_region_law (first
      | (refine step_append_nil rfl (.tmp 40) rfl w8.heap.size w8.heap.size A 35 c x.head rfl HROW.out L0.out L1.out (Nat.le_refl _) ?_; intro A1 c1 z1 G1 G2; have HBZ : Hid (Below w8.heap.size w8 z1) := ((Below.refl _ _).drew.grown G2.out (Nat.le_refl _) (fun k hk => by cases hk)); have y10 : z1.cell? ⟨w.heap.size, 5, none⟩ = some (.string (str x.body)) := (HBZ.out.cell hg8).trans y9)
      | (refine step_append_text rfl (.tmp 41) (.tmp 43) rfl w8.heap.size (.slice A1 35 c1) 35 x.head rfl G1 x.body rfl L2.out HBZ.out.size ?_; intro A2 c2 z2 G3 G4; have HRZ := Lib.hid (Row.own G3.out))
      | (go_simp; go_at_call 69; with_reducible refine (Crc.ref_sum _ _ _ (x.head ++ x.body) _ HRZ.out L3.out).mono ?_; rintro e w' ⟨rfl, rfl⟩))
    all_goals
      go_wp2_with fail
      go_meet
      case rel => exact ⟨rfl, HBZ.out.grown G4.out HBZ.out.size (fun k hk => (G1.out.lt k hk).1)⟩
  case rest =>
  obtain ⟨rfl, HBC⟩ := hcut
  have HEC := Lib.hid (HE8.out.all HBC.out)
  clear y9 HROW HE8 HBC L0 L1 L2 L3
  obtain ⟨σ, hσ⟩ : ∃ σ, σ = (Crc.sum (x.head ++ x.body)).toNat := ⟨_, rfl⟩
  have hlt : (Crc.sum (x.head ++ x.body)).toNat < 4294967296 := (Crc.sum (x.head ++ x.body)).isLt
  rw [← hσ] at hlt ⊢
  have HSG := Lib.hid hσ
  clear hσ
  go_upto_region 11 with (first
    | (go_at_call 68; refine (enc_refput HEC σ 4 4 rfl (by omega) (by omega)).mono ?_; rintro e z11 ⟨A11, c11, rfl, HP11, HR11, _⟩)
    | (at_builtin; refine enc_append HP11.out rfl (.tmp 46) (.tmp 49) rfl rfl _ A11 4 c11 _ rfl HR11.out (by simp) ?_; intro v11 w11 HE11))
  have y12 : w11.cell? ⟨w.heap.size, 5, none⟩ = some (.string (str x.body)) := HE11.out.at'.cell 5
  clear HP11 HR11 HEC
  go_wp2_with (at_builtin; refine enc_string HE11.out rfl (.tmp 51) (.tmp 53) rfl rfl x.body rfl (by simp; omega) ?_; intro v12 w12 HE12)
  go_ret
  rw [enc_may HMay.out]
  have hb : x.head ++ be σ 4 ++ x.body = x.bytes := by rw [HSG.out]; rfl
  rw [hb] at HE12
  exact ⟨v12, rfl, HE12.out.row.mono (by omega), HE12.out.below⟩
end Go.Proofs.YtkdnfikaodkhnaaGreatDoor.Rec
