/-
  Proved: what Found of law 7 returns: the records found of package scan, as the reference's.
  Conditions: the slice reads as records found, not too many.
-/
import Derived.Test.YtjpgfdpgjfmnoaaDoorScanDraw
namespace Go.Proofs.YtjpgfdpgjfmnoaaDoor.Rec
open Go.RowKit
set_option linter.unusedVariables false
set_option linter.unusedSimpArgs false

theorem take_next {α : Type} {l : List α} {p : Nat} {q : α} (h : l[p]? = some q) : l.take p ++ [q] = l.take (p + 1) := by
  obtain ⟨hp, e⟩ := List.getElem?_eq_some_iff.1 h
  rw [List.take_add_one, h]
  rfl
set_option maxRecDepth 100000 in
set_option maxHeartbeats 8000000 in
theorem found_any (A : Option Addr) (n c : Nat) (l : List (Nat × Rc)) (w : World) (hR : Row w w.heap.size A (n * 7) (flat l)) (hl : l.length = n) (hnc : n ≤ c) (hc : c ≤ maxLen) (hn : n ≤ 100000) :
    Calls Tryd.prog 14 #[.slice A n c] w fun e w' => ∃ v, e = .returned v ∧ Fd w 60 w' v l := by
  have hcm : c ≤ 9223372036854775807 := by unfold maxLen at hc; exact hc
  have HR := Lib.hid hR
  have HL := Lib.hid hl
  clear hR hc hl
  go_enter Tryd.func14, Tryd.ntmps14
  go_wp2_with fail
  go_loopw [3, 4] (fun v i wr => ∃ (p : Nat), i = .int .i64 (p : Int) ∧ p ≤ n ∧ Hid (Fd w 60 wr v (l.take p))) (fun _ i _ => n - (intOf i).toNat)
  case atStart => exact ⟨0, rfl, Nat.zero_le _, Fd.nil w _⟩
  case round =>
    obtain ⟨p, rfl, hp, HF0⟩ := hrel
    by_cases hlt : p < n
    · obtain ⟨b, o, rfl, hb, _⟩ := HR.out.2 (by omega)
      obtain ⟨q, hq⟩ : ∃ q, l[p]? = some q := ⟨l[p]'(by rw [HL.out]; exact hlt), List.getElem?_eq_getElem _⟩
      have HIT : Hid (∀ W, Below w.heap.size w W → W.cell? ⟨b, o + p * 7, none⟩ = some (.int .i64 (q.1 : Int)) ∧ W.rangeAt b (o + p * 7 + 1) q.2.vals.toList) := fun W hW => found_rec (found_item (HR.out.below hW) p q hq)
      have HTN := Lib.hid (take_next hq)
      have hl6 : (l.take p).length ≤ 1000000 := by rw [List.length_take]; omega
      obtain ⟨m, hm⟩ : ∃ m, m = l.take p := ⟨_, rfl⟩
      rw [← hm] at HF0 HTN hl6
      clear hm hq
      have HF : Hid (Fd w 60 wr.drew u3 m) := HF0.out.all (Below.refl _ _).drew
      have HBR : Hid (Below w.heap.size w wr.drew) := HF.out.below
      have HONE := Lib.hid (one_cells wr.drew 60 (0, 0) q (fcells q).toArray rfl)
      have HBF := Lib.hid (built_ref q.1 q.2)
      have HBS := Lib.hid (slice_ref q.1 q.2)
      obtain ⟨fc, hfc⟩ : ∃ fc, fc = (fcells q).toArray := ⟨_, rfl⟩
      have hfc' : fc = (fcells (q.1, q.2)).toArray := hfc
      rw [← hfc] at HONE
      rw [← hfc'] at HBF HBS
      clear hfc hfc'
      go_upto_region 5 with fail
      refine wp_region_noPanic ?_
      refine wp_region_held_drew (S := fun W => Hid (Below w.heap.size w W)) (by kernel_rfl) HBR (fun h0 => ?_)
      refine held_take 0 (v := ?_) (d := (some 11)) rfl rfl (by kernel_rfl) (by kernel_rfl) (by kernel_rfl) (fun _ _ _ h => h) (Or.inl ⟨by rfl, ?_⟩) h0 ?_
      rotate_left
      · intro _ _; go_simp; (try with_reducible rfl)
      try simp only [Act.put, List.setIfInBounds_toArray, List.set_cons_zero, List.set_cons_succ]
      refine held_take 1 (v := ?_) (d := (some 12)) rfl rfl (by kernel_rfl) (by kernel_rfl) (by kernel_rfl) (fun _ _ _ h => h) (Or.inl ⟨by rfl, ?_⟩) h0 ?_
      rotate_left
      · intro _ _; go_simp; (try with_reducible rfl)
      try simp only [Act.put, List.setIfInBounds_toArray, List.set_cons_zero, List.set_cons_succ]
      refine held_take 2 (v := ?_) (d := (some 13)) rfl rfl (by kernel_rfl) (by kernel_rfl) (by kernel_rfl) (fun _ _ _ h => h) (Or.inl ⟨by rfl, ?_⟩) h0 ?_
      rotate_left
      · intro _ _; go_simp; (try with_reducible rfl)
      try simp only [Act.put, List.setIfInBounds_toArray, List.set_cons_zero, List.set_cons_succ]
      refine held_take 3 (v := ?_) (d := (some 14)) rfl rfl (by kernel_rfl) (by kernel_rfl) (by kernel_rfl) (fun _ _ _ h => h) (Or.inl ⟨by rfl, ?_⟩) h0 ?_
      rotate_left
      · intro _ _; go_simp; (try with_reducible rfl)
      try simp only [Act.put, List.setIfInBounds_toArray, List.set_cons_zero, List.set_cons_succ]
      refine held_take 4 (v := ?_) (d := (some 15)) rfl rfl (by kernel_rfl) (by kernel_rfl) (by kernel_rfl) (fun _ _ _ h => h) (Or.inl ⟨by rfl, ?_⟩) h0 ?_
      rotate_left
      · intro _ _; go_simp; (try with_reducible rfl)
      try simp only [Act.put, List.setIfInBounds_toArray, List.set_cons_zero, List.set_cons_succ]
      refine held_take 5 (v := .int .i64 (q.1 : Int)) (d := some 16) rfl rfl (by kernel_rfl) (by kernel_rfl) (by kernel_rfl) (fun _ _ _ h => h) (Or.inl ⟨by rfl, ?_⟩) h0 ?_
      · intro W hW; have hc := (HIT.out W hW.out).1; go_simp
      try simp only [Act.put, List.setIfInBounds_toArray, List.set_cons_zero, List.set_cons_succ]
      refine held_take 6 (v := ?_) (d := (some 17)) rfl rfl (by kernel_rfl) (by kernel_rfl) (by kernel_rfl) (fun _ _ _ h => h) (Or.inl ⟨by rfl, ?_⟩) h0 ?_
      rotate_left
      · intro _ _; go_simp; (try with_reducible rfl)
      try simp only [Act.put, List.setIfInBounds_toArray, List.set_cons_zero, List.set_cons_succ]
      refine held_take 7 (v := ?_) (d := (some 18)) rfl rfl (by kernel_rfl) (by kernel_rfl) (by kernel_rfl) (fun _ _ _ h => h) (Or.inl ⟨by rfl, ?_⟩) h0 ?_
      rotate_left
      · intro _ _; go_simp; (try with_reducible rfl)
      try simp only [Act.put, List.setIfInBounds_toArray, List.set_cons_zero, List.set_cons_succ]
      refine held_take 8 (v := ?_) (d := (some 19)) rfl rfl (by kernel_rfl) (by kernel_rfl) (by kernel_rfl) (fun _ _ _ h => h) (Or.inl ⟨by rfl, ?_⟩) h0 ?_
      rotate_left
      · intro _ _; go_simp; (try with_reducible rfl)
      try simp only [Act.put, List.setIfInBounds_toArray, List.set_cons_zero, List.set_cons_succ]
      refine held_take 9 (v := ?_) (d := (some 20)) rfl rfl (by kernel_rfl) (by kernel_rfl) (by kernel_rfl) (fun _ _ _ h => h) (Or.inl ⟨by rfl, ?_⟩) h0 ?_
      rotate_left
      · intro _ _; go_simp; (try with_reducible rfl)
      try simp only [Act.put, List.setIfInBounds_toArray, List.set_cons_zero, List.set_cons_succ]
      refine held_take 10 (v := .agg q.2.vals) (d := some 21) rfl rfl (by kernel_rfl) (by kernel_rfl) (by kernel_rfl) (fun _ _ _ h => h) (yieldsIf_load_mid (by rfl) 32 (.tmp 20) rfl b (o + p * 7 + 1) rfl q.2.vals.toList _ (fun W h => (HIT.out W h.out).2) Tryd.underlying32 rfl rec_info) h0 ?_
      try simp only [Act.put, List.setIfInBounds_toArray, List.set_cons_zero, List.set_cons_succ]
      refine held_take 11 (v := .agg fc) (d := some 22) rfl rfl (by kernel_rfl) (by kernel_rfl) (by kernel_rfl) (fun _ _ _ h => h) (Or.inl ⟨by rfl, fun W _ => run_build_found 60 (.tmp 16) (.tmp 21) rfl _ _ rfl rfl fc HBF.out⟩) h0 ?_
      try simp only [Act.put, List.setIfInBounds_toArray, List.set_cons_zero, List.set_cons_succ]
      refine wpAnyH_ready (rs := [12]) (by kernel_rfl) (by simp) (AllReadyH.cons rfl (fun K hK => ?_) AllReadyH.nil)
      rw [if_pos (by rfl)]
      refine wp_build_one 36 60 (.tmp 22) rfl (some 23) rfl Tryd.underlying36 (by decide) found_info (.agg fc) rfl fc HBS.out ?_
      have HF4 := Lib.hid (HF.out.all (below_alloc wr.drew (.cells fc 60)))
      have HB4 := Lib.hid (HBR.out.trans ((below_alloc wr.drew (.cells fc 60)).mono HBR.out.size))
      refine hK.out _ _ (HB4) (fun h1 => ?_)
      clear hK K
      try simp only [Act.put, List.setIfInBounds_toArray, List.set_cons_zero, List.set_cons_succ]
      refine wpAnyH_ready (rs := [13]) (by kernel_rfl) (by simp) (AllReadyH.cons rfl (fun K hK => ?_) AllReadyH.nil)
      rw [if_pos (by rfl)]
      refine wp_fd_append HF4.out 36 _ 64 Tryd.underlying36 found_info rfl (by omega) (some 24) rfl (.tmp 11) (.tmp 23) rfl rfl wr.drew.heap.size 1 q rfl HONE.out hl6 ?_
      intro v4 w4 HF5
      have HB5 := Lib.hid HF5.out.below
      refine hK.out _ _ (HB5) (fun h2 => ?_)
      clear hK K
      try simp only [Act.put, List.setIfInBounds_toArray, List.set_cons_zero, List.set_cons_succ]
      refine held_take 14 (v := ?_) (d := (some 3)) rfl rfl (by kernel_rfl) (by kernel_rfl) (by kernel_rfl) (fun _ _ _ h => h) (Or.inl ⟨by rfl, ?_⟩) h2 ?_
      rotate_left
      · intro _ _; go_simp; (try with_reducible rfl)
      try simp only [Act.put, List.setIfInBounds_toArray, List.set_cons_zero, List.set_cons_succ]
      refine wpAnyH_done (by kernel_rfl) ?_ _
      refine NoPanic.normal ?_
      go_wp2_with fail
      go_roundw
      case rel => exact ⟨p + 1, by go_num, by omega, by rw [← HTN.out]; exact HF5⟩
      case measure => (simp [intOf]; omega)
    · obtain rfl : p = n := by omega
      have HE : Hid (l.take p = l) := List.take_of_length_le (by rw [HL.out]; exact Nat.le_refl _)
      go_wp2_with fail
      go_ret
      refine ⟨_, rfl, ?_⟩
      have h := HF0.out
      rw [HE.out] at h
      exact h
end Go.Proofs.YtjpgfdpgjfmnoaaDoor.Rec
