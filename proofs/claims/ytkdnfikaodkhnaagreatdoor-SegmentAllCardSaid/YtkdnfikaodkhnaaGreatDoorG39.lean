/-
  Texts one behind the other: MixSlot, ScanRef, ScanRefFront.
-/
import Derived.Test.YtkdnfikaodkhnaaGreatDoorG07
import Derived.Test.YtkdnfikaodkhnaaGreatDoorG15
import Derived.Test.YtkdnfikaodkhnaaGreatDoorG29
/-
  Proved: what slot of law 8 returns: how many bytes of a slot's beginning fit their sum.
  Conditions: the slice reads as bytes, not too many.
-/
namespace Go.Proofs.YtkdnfikaodkhnaaGreatDoor.Rec
open Go.RowKit
set_option linter.unusedVariables false
set_option linter.unusedSimpArgs false

def slotN (bs : List UInt8) : Nat :=
  if bs.length < 16 then 0
  else if 4080 < beN (part bs 8 12) ∨ bs.length - 16 < beN (part bs 8 12) then 0
  else if beN (part bs 12 16) ≠ (Crc.sum (bs.take 12 ++ part bs 16 (16 + beN (part bs 8 12)))).toNat then 0
  else 16 + beN (part bs 8 12)
theorem below_app {a w w' : World} {B : Nat} (h : Below B a w) (hg : w.grownBy w' (Value.slice none 0 0).ownBlock) (hB : B ≤ w.heap.size) : Below B a w' := h.grown hg hB (fun k hk => by simp [Value.ownBlock] at hk)
set_option maxRecDepth 100000 in
set_option maxHeartbeats 8000000 in
theorem slot_any (A : Option Addr) (n c : Nat) (bs : List UInt8) (w : World) (hR : Row w w.heap.size A n (bvs bs)) (hnc : n ≤ c) (hc : c ≤ maxLen) (hn : n ≤ 8388608) :
    Calls Tryz.prog 42 #[.slice A n c] w fun e w' => e = .returned (.int .i64 ((slotN bs : Nat) : Int)) ∧ Below w.heap.size w w' := by
  have hcm : c ≤ 9223372036854775807 := by unfold maxLen at hc; exact hc
  have hl := hR.size
  have HW := Lib.hid (Below.refl w.heap.size w)
  by_cases h16 : n < 16
  · have e : slotN bs = 0 := by unfold slotN; rw [if_pos (by omega)]
    rw [e]
    have h16' : (n : Int) < 16 := by omega
    clear hR hc hl
    go_enter Tryz.func42, Tryz.ntmps42
    go_wp2_with fail
    go_ret
    exact ⟨rfl, HW.out⟩
  have h16' : ¬ (n : Int) < 16 := by omega
  obtain ⟨b, o, rfl, hbl, _⟩ := hR.2 (by omega)
  have HR := Lib.hid hR
  have HC := Lib.hid hc
  have G1 := refget_part hR hnc hc 8 12 4 (c - 8) (by omega) (by omega) rfl (by omega) rfl
  have G2 := refget_part hR hnc hc 12 16 4 (c - 12) (by omega) (by omega) rfl (by omega) rfl
  obtain ⟨L, hL⟩ : ∃ L, L = beN (part bs 8 12) := ⟨_, rfl⟩
  obtain ⟨T, hT⟩ : ∃ T, T = beN (part bs 12 16) := ⟨_, rfl⟩
  have hL4 : L < 4294967296 := by rw [hL]; exact beN_part_lt bs 8 12 4 (by omega) (by omega) rfl
  have hT4 : T < 4294967296 := by rw [hT]; exact beN_part_lt bs 12 16 4 (by omega) (by omega) rfl
  rw [← hL] at G1
  rw [← hT] at G2
  have hs : slotN bs = if 4080 < L ∨ n - 16 < L then 0 else if T ≠ (Crc.sum (bs.take 12 ++ part bs 16 (16 + L))).toNat then 0 else 16 + L := by
    rw [hL, hT, ← hl]
    conv => lhs; unfold slotN
    rw [if_neg (by omega)]
  have HSN := Lib.hid hs
  have HL := Lib.hid hl
  have i1 : ¬ c = 8 := by omega
  have i2 : ¬ c = 12 := by omega
  have i3 : (12 : Int) ≤ (c : Int) := by omega
  have i4 : (16 : Int) ≤ (c : Int) := by omega
  have hwn : IntKind.u64.wrap ((n : Int) - 16) = (n : Int) - 16 := by simp [IntKind.wrap, IntKind.bits, IntKind.signed]; omega
  clear hR hc hL hT hs hl
  by_cases hbig : 4080 < L
  · have e : slotN bs = 0 := by rw [HSN.out, if_pos (.inl hbig)]
    rw [e]
    have hbig' : (4080 : Int) < (L : Int) := by omega
    clear e hbig
    go_enter Tryz.func42, Tryz.ntmps42
    go_wp2_with (go_at_call 70; refine (G1.out _ HW.out).mono ?_; rintro e w' ⟨rfl, rfl⟩)
    go_ret
    exact ⟨rfl, HW.out⟩
  have hbig' : ¬ (4080 : Int) < (L : Int) := by omega
  by_cases hlen : n - 16 < L
  · have e : slotN bs = 0 := by rw [HSN.out, if_pos (.inr hlen)]
    rw [e]
    have hlen' : (n : Int) - 16 < (L : Int) := by omega
    clear e hlen
    go_enter Tryz.func42, Tryz.ntmps42
    go_wp2_with (go_at_call 70; refine (G1.out _ HW.out).mono ?_; rintro e w' ⟨rfl, rfl⟩)
    go_ret
    exact ⟨rfl, HW.out⟩
  have hlen' : ¬ (n : Int) - 16 < (L : Int) := by omega
  have hs : slotN bs = if T ≠ (Crc.sum (bs.take 12 ++ part bs 16 (16 + L))).toNat then 0 else 16 + L := by rw [HSN.out, if_neg (by omega)]
  have HS2 := Lib.hid hs
  have hLn : 16 + L ≤ n := by omega
  have E1 : Hid ((bvs (bs.take 12)).length = 12) := by show _ = _; rw [bvs_length, List.length_take, HL.out]; omega
  have E2 : Hid ((bvs (part bs 16 (16 + L))).length = L) := by show _ = _; rw [bvs_length, part_length bs 16 (16 + L) (by omega) (by rw [HL.out]; exact hLn)]; omega
  obtain ⟨o2, ho2⟩ : ∃ o2, (if c = 16 then (some ⟨b, o, none⟩ : Option Addr) else some ⟨b, o + 16, none⟩) = some ⟨b, o2, none⟩ := by
    split
    · exact ⟨o, rfl⟩
    · exact ⟨o + 16, rfl⟩
  have HN1 : Hid (∀ W, Below w.heap.size w W → ∀ j u, (bvs (bs.take 12))[j]? = some u → W.cell? ((⟨b, o, none⟩ : Addr).add j) = some u) := fun W hW => by
    have := ((HR.out.below hW).take (k := 12) (by omega))
    rw [bvs_take] at this
    exact row_news this
  have HN2 : Hid (∀ W, Below w.heap.size w W → ∀ j u, (bvs (part bs 16 (16 + L)))[j]? = some u → W.cell? ((⟨b, o2, none⟩ : Addr).add j) = some u) := fun W hW => by
    rcases Nat.eq_zero_or_pos L with h0 | h0
    · intro j u hu
      have := (List.getElem?_eq_some_iff.1 hu).1
      rw [E2.out] at this
      omega
    · have h1 := row_part (k := 16) (m := 16 + L) (HR.out.below hW) (by omega) hLn
      rw [if_neg (by omega)] at ho2
      injection ho2 with ho2
      injection ho2 with _ ho2
      subst ho2
      exact row_news h1
  have HBR : Hid (Below w.heap.size w w.drew) := HW.out.drew
  have j1 : (16 : Int) + (L : Int) ≤ (c : Int) := by omega
  have j2 : 16 + L - 16 = L := by omega
  have hwL : IntKind.i64.wrap (L : Int) = (L : Int) := by simp [IntKind.wrap, IntKind.bits, IntKind.signed]; omega
  have hwL2 : IntKind.i64.wrap (16 + (L : Int)) = 16 + (L : Int) := by simp [IntKind.wrap, IntKind.bits, IntKind.signed]; omega
  have k1 : (0 : Int) ≤ 16 + (L : Int) := by omega
  have k2 : (16 : Int) ≤ max (16 + (L : Int)) 0 := by omega
  have k3 : (16 + (L : Int)).toNat = 16 + L := by omega
  clear hs HSN hlen hbig
  go_enter Tryz.func42, Tryz.ntmps42
  go_upto_region 6 with (go_at_call 70; refine (G1.out _ HW.out).mono ?_; rintro e w' ⟨rfl, rfl⟩)
  clear hwn
  refine wp_region_noPanic ?_
  refine wp_region_held_drew (S := fun W => Hid (Below w.heap.size w W)) (by kernel_rfl) HBR (fun h0 => ?_)
  refine held_take 0 (v := ?_) (d := (some 21)) rfl rfl (by kernel_rfl) (by kernel_rfl) (by kernel_rfl) (fun _ _ _ h => h) (Or.inl ⟨by rfl, ?_⟩) h0 ?_
  rotate_left
  · intro _ _; go_simp; (try with_reducible rfl)
  try simp only [Act.put, List.setIfInBounds_toArray, List.set_cons_zero, List.set_cons_succ]
  refine held_take 1 (v := ?_) (d := (some 22)) rfl rfl (by kernel_rfl) (by kernel_rfl) (by kernel_rfl) (fun _ _ _ h => h) (Or.inl ⟨by rfl, ?_⟩) h0 ?_
  rotate_left
  · intro _ _; go_simp; (try with_reducible rfl)
  try simp only [Act.put, List.setIfInBounds_toArray, List.set_cons_zero, List.set_cons_succ]
  refine held_take 3 (v := ?_) (d := (some 24)) rfl rfl (by kernel_rfl) (by kernel_rfl) (by kernel_rfl) (fun _ _ _ h => h) (Or.inl ⟨by rfl, ?_⟩) h0 ?_
  rotate_left
  · intro _ _; go_simp; (try with_reducible rfl)
  try simp only [Act.put, List.setIfInBounds_toArray, List.set_cons_zero, List.set_cons_succ]
  refine held_take 4 (v := ?_) (d := (some 25)) rfl rfl (by kernel_rfl) (by kernel_rfl) (by kernel_rfl) (fun _ _ _ h => h) (Or.inl ⟨by rfl, ?_⟩) h0 ?_
  rotate_left
  · intro _ _; go_simp; (try with_reducible rfl)
  try simp only [Act.put, List.setIfInBounds_toArray, List.set_cons_zero, List.set_cons_succ]
  refine held_take 5 (v := .int .i64 (L : Int)) (d := (some 26)) rfl rfl (by kernel_rfl) (by kernel_rfl) (by kernel_rfl) (fun _ _ _ h => h) (Or.inl ⟨by rfl, ?_⟩) h0 ?_
  · intro _ _; go_simp; (try with_reducible rfl)
  try simp only [Act.put, List.setIfInBounds_toArray, List.set_cons_zero, List.set_cons_succ]
  refine held_take 6 (v := .int .i64 (16 + (L : Int))) (d := (some 27)) rfl rfl (by kernel_rfl) (by kernel_rfl) (by kernel_rfl) (fun _ _ _ h => h) (Or.inl ⟨by rfl, ?_⟩) h0 ?_
  · intro _ _; go_simp; (try with_reducible rfl)
  try simp only [Act.put, List.setIfInBounds_toArray, List.set_cons_zero, List.set_cons_succ]
  refine held_take 7 (v := .slice (some ⟨b, o2, none⟩) L (c - 16)) (d := (some 28)) rfl rfl (by kernel_rfl) (by kernel_rfl) (by kernel_rfl) (fun _ _ _ h => h) (Or.inl ⟨by rfl, ?_⟩) h0 ?_
  · intro _ _; go_simp; exact fun h => absurd h (by omega)
  try simp only [Act.put, List.setIfInBounds_toArray, List.set_cons_zero, List.set_cons_succ]
  refine wpAnyH_ready (rs := [2]) (by kernel_rfl) (by simp) (AllReadyH.cons rfl (fun K hK => ?_) AllReadyH.nil)
  refine want_append_own (by rfl) (.const (.slice none 0 0)) (.tmp 22) 53 rfl rfl w.drew.heap.size 5 (.int .u8 0) 1 Tryz.underlying53 u8_info rfl (.slice none 0 0) 0 [] rfl (World.ownsRow_nil _ _ _ _) ⟨b, o, none⟩ 12 c (bvs (bs.take 12)) rfl E1.out (HN1.out w.drew HBR.out) (bvs_one _) (by decide) (by decide) (Nat.le_refl _) ?_
  intro v3 w3 HO3 HG3
  have HB3 : Hid (Below w.heap.size w w3) := below_app HBR.out HG3.out (Nat.le_refl _)
  have HS3 : Hid (w.drew.heap.size ≤ w3.heap.size) := HB3.out.size
  refine hK.out _ _ (HB3) (fun h1 => ?_)
  clear hK K
  try simp only [Act.put, List.setIfInBounds_toArray, List.set_cons_zero, List.set_cons_succ]
  refine wpAnyH_ready (rs := [8]) (by kernel_rfl) (by simp) (AllReadyH.cons rfl (fun K hK => ?_) AllReadyH.nil)
  refine want_append_own (by rfl) (.tmp 23) (.tmp 28) 53 rfl rfl w.drew.heap.size 5 (.int .u8 0) 1 Tryz.underlying53 u8_info rfl v3 12 (bvs (bs.take 12)) rfl HO3.out ⟨b, o2, none⟩ L (c - 16) (bvs (part bs 16 (16 + L))) rfl E2.out (HN2.out w3 HB3.out) (bvs_one _) (by unfold maxLen; omega) (by omega) HS3.out ?_
  intro v4 w4 HO4 HG4
  have HB4 : Hid (Below w.heap.size w w4) := own_below HO3.out HB3.out (Nat.le_refl _) HS3.out HG4.out
  refine hK.out _ _ (HB4) (fun h2 => ?_)
  clear hK K
  try simp only [Act.put, List.setIfInBounds_toArray, List.set_cons_zero, List.set_cons_succ]
  refine held_take 9 (v := ?_) (d := (some 4)) rfl rfl (by kernel_rfl) (by kernel_rfl) (by kernel_rfl) (fun _ _ _ h => h) (Or.inl ⟨by rfl, ?_⟩) h2 ?_
  rotate_left
  · intro _ _; go_simp; (try with_reducible rfl)
  try simp only [Act.put, List.setIfInBounds_toArray, List.set_cons_zero, List.set_cons_succ]
  refine wpAnyH_done (by kernel_rfl) ?_ _
  refine NoPanic.normal ?_
  have HO5 : Hid (w4.ownsRow w.drew.heap.size 5 1 v4 (12 + L) (bvs (bs.take 12 ++ part bs 16 (16 + L)))) := by
    have h := HO4.out
    have e : bvs (bs.take 12) ++ bvs (part bs 16 (16 + L)) = bvs (bs.take 12 ++ part bs 16 (16 + L)) := by unfold bvs; rw [List.map_append]
    rw [e] at h
    exact h
  obtain ⟨A4, c4, rfl, _, hc4⟩ := own_form HO5.out
  obtain ⟨S, hS⟩ : ∃ S, S = (Crc.sum (bs.take 12 ++ part bs 16 (16 + L))).toNat := ⟨_, rfl⟩
  have hS4 : S < 4294967296 := by rw [hS]; exact (Crc.sum _).isLt
  have CS0 := Crc.ref_sum A4 (12 + L) c4 _ w4 (Row.own HO5.out) (by unfold maxLen; omega)
  rw [← hS] at CS0
  have CS := Lib.hid CS0
  rw [← hS] at HS2
  clear CS0 hS HO4 HO3 HG3 HG4 HN1 HN2 E1 E2 HS3 HB3
  by_cases hst : T = S
  · have e : slotN bs = 16 + L := by rw [HS2.out, if_neg (not_not_intro hst)]
    have d0 : ((T : Int) != (S : Int)) = false := by rw [hst]; simp
    have HEQ := Lib.hid e
    clear hst e
    go_wp2_with (first
      | (go_at_call 70; refine (G2.out _ HB4.out).mono ?_; rintro e w' ⟨rfl, rfl⟩)
      | (go_at_call 69; refine CS.out.mono ?_; rintro e w' ⟨rfl, rfl⟩))
    go_ret
    rw [HEQ.out]
    exact ⟨by go_num, HB4.out⟩
  · have e : slotN bs = 0 := by rw [HS2.out, if_pos hst]
    have d0 : ((T : Int) != (S : Int)) = true := bne_iff_ne.2 (by omega)
    have HEQ := Lib.hid e
    clear hst e
    go_wp2_with (first
      | (go_at_call 70; refine (G2.out _ HB4.out).mono ?_; rintro e w' ⟨rfl, rfl⟩)
      | (go_at_call 69; refine CS.out.mono ?_; rintro e w' ⟨rfl, rfl⟩))
    go_ret
    rw [HEQ.out]
    exact ⟨rfl, HB4.out⟩
end Go.Proofs.YtkdnfikaodkhnaaGreatDoor.Rec
/-
  Proved: what the reference's All and Front return: the records that stand in a list of bytes.
  Conditions: the slice reads as bytes, not too many.
-/
namespace Go.Proofs.YtkdnfikaodkhnaaGreatDoor.Rec
open Go.RowKit
set_option linter.unusedVariables false
set_option linter.unusedSimpArgs false

end Go.Proofs.YtkdnfikaodkhnaaGreatDoor.Rec
/-
  Proved: what the reference's Front returns: the records one behind the other at the front of a list of bytes, and how many bytes they take.
  Conditions: the slice reads as bytes, not too many.
-/
namespace Go.Proofs.YtkdnfikaodkhnaaGreatDoor.Rec
open Go.RowKit
set_option linter.unusedVariables false
set_option linter.unusedSimpArgs false

theorem endOf_snoc (l : List (Nat × Rc)) (p q : Nat) (x : Rc) : endOf p (l ++ [(q, x)]) = q + (39 + x.body.length) := by
  induction l generalizing p with
  | nil => rfl
  | cons z l ih => exact ih _
set_option maxRecDepth 100000 in
set_option maxHeartbeats 8000000 in
theorem reffront_some (b o n c : Nat) (bs : List UInt8) (w : World) (hR : Row w w.heap.size (some ⟨b, o, none⟩) n (bvs bs)) (hnc : n ≤ c) (hc : c ≤ maxLen) (hn : n ≤ 8388608) :
    Calls Tryz.prog 39 #[.slice (some ⟨b, o, none⟩) n c] w fun e w' => ∃ v, e = .returned (.tuple #[v, .int .i64 ((endOf 0 (frontFrom 0 bs) : Nat) : Int)]) ∧ Fd w 42 w' v (frontFrom 0 bs) := by
  have hcm : c ≤ 9223372036854775807 := by unfold maxLen at hc; exact hc
  have HL := Lib.hid hR.size
  have HR := Lib.hid hR
  have HNC := Lib.hid hnc
  have HC := Lib.hid hc
  have hz := zeroRec
  clear hR hc
  go_enter Tryz.func39, Tryz.ntmps39
  go_wp2_with fail
  go_loopw [4, 5] (fun v i wr => ∃ (p : Nat) (l : List (Nat × Rc)), i = .int .i64 (p : Int) ∧ p ≤ n ∧ l.length ≤ p ∧ Hid (Fd w 42 wr v l) ∧ Hid (l ++ frontFrom p bs = frontFrom 0 bs) ∧ Hid (endOf 0 l = p)) (fun _ i _ => n - (RowKit.intOf i).toNat)
  case atStart => exact ⟨0, [], rfl, Nat.zero_le _, Nat.le_refl _, Fd.nil w _, rfl, rfl⟩
  case round =>
    obtain ⟨p, l, rfl, hp, hlp, HF, HA, HE⟩ := hrel
    obtain ⟨P, hP⟩ : ∃ P, (if c = p then some (⟨b, o, none⟩ : Addr) else some ⟨b, o + p, none⟩) = P := ⟨_, rfl⟩
    have hpc : (p : Int) ≤ (c : Int) := by omega
    have hpn : (p : Int) ≤ (n : Int) := by omega
    have hrow := row_upto (HR.out.below HF.out.below) hp HNC.out hP
    have CD := Lib.hid (refdecode_any P (n - p) (c - p) (bs.drop p) wr (hrow.more HF.out.below.size) (by omega) (by have := HC.out; omega))
    clear hrow
    rcases out_ok (dec (bs.drop p)) with ⟨x, m, hd⟩ | ⟨e, he, hv, hno⟩
    · obtain ⟨hm, hml, _⟩ := dec_ok hd
      have hml' : p + m ≤ n := by rw [List.length_drop] at hml; have := HL.out; omega
      have HA2 : Hid ((l ++ [(p, x)]) ++ frontFrom (p + m) bs = frontFrom 0 bs) := by
        have h := HA.out
        rw [frontFrom_ok hd] at h
        show _ = _
        rw [List.append_assoc]
        exact h
      have HE2 : Hid (endOf 0 (l ++ [(p, x)]) = p + m) := by show _ = _; rw [endOf_snoc, hm]
      have CD2 : Hid (Calls Tryz.prog 67 #[.slice P (n - p) (c - p)] wr fun e w' => e = .returned (.tuple #[.agg x.vals, .int .i64 (m : Int), .int .i64 0]) ∧ Below wr.heap.size wr w') := by
        have h := CD.out
        rw [hd] at h
        exact h
      have HM39 : Hid (39 ≤ m) := by show 39 ≤ m; omega
      have HML := Lib.hid hml'
      have hm6 : m ≤ 8388608 := by omega
      clear CD hd HA hm hml hml'
      go_upto_region 4 with (first
        | (go_at_call 67; refine CD2.out.mono ?_; rintro e w2 ⟨rfl, hb2⟩; have HF2 := Lib.hid (HF.out.all hb2); clear hb2)
        | (refine store_recN (zero_new w2) rfl rfl (.tmp 6) (.tmp 14) rfl rfl x rfl rfl ?_; intro w3 X3 G3))
      have HF3 : Hid (Fd w 42 w3 u4 l) := fd_store HF2.out G3.out
      clear G3
      have hl6 : l.length ≤ 100000000 := by omega
      have hone := one_cells w3 42 (0, 0) (p, x) (fcells (p, x)).toArray rfl
      have HF4 := Lib.hid (HF3.out.all (below_alloc w3 (.cells (fcells (p, x)).toArray 42)))
      have HONE := Lib.hid hone
      have HBF := Lib.hid (built_ref p x)
      have HBS := Lib.hid (slice_ref p x)
      obtain ⟨fc, hfc⟩ : ∃ fc, fc = (fcells (p, x)).toArray := ⟨_, rfl⟩
      rw [← hfc] at HF4 HONE HBF HBS
      clear hone hfc
      go_wp2_with (first
        | (refine load_rec X3.out rfl (.tmp 6) rfl rfl ?_)
        | (refine build_found rfl 42 (.tmp 22) (.tmp 23) rfl (some 24) rfl (.int .i64 (p : Int)) (.agg x.vals) rfl rfl fc HBF.out ?_)
        | (refine build_one rfl 32 42 (.tmp 24) rfl (some 25) rfl Tryz.underlying32 (.agg fc) rfl fc HBS.out ?_)
        | (at_builtin; refine fd_append HF4.out 32 _ 64 Tryz.underlying32 found_info rfl (by omega) rfl (.tmp 21) (.tmp 25) rfl rfl w3.heap.size 1 (p, x) rfl HONE.out hl6 ?_; intro v4 w4 HF5))
      go_roundw
      case rel => exact ⟨p + m, l ++ [(p, x)], by go_num, HML.out, by rw [List.length_append]; show l.length + 1 ≤ p + m; have := HM39.out; omega, HF5, HA2, HE2⟩
      case measure => (have := HM39.out; have := HML.out; simp [RowKit.intOf]; omega)
    · have HLE : Hid (l = frontFrom 0 bs) := by
        have h := HA.out
        rw [frontFrom_no hno, List.append_nil] at h
        exact h
      have CD2 : Hid (Calls Tryz.prog 67 #[.slice P (n - p) (c - p)] wr fun E w' => E = .returned (.tuple #[.agg zeroRc.vals, .int .i64 0, .int .i64 e]) ∧ Below wr.heap.size wr w') := by
        have h := CD.out
        rw [hv] at h
        exact h
      have he' : (e == 0) = false := beq_eq_false_iff_ne.2 he
      have he2 : (e != 0) = true := bne_iff_ne.2 he
      clear CD hno hv HA
      go_upto_region 4 with (first
        | (go_at_call 67; refine CD2.out.mono ?_; rintro E w2 ⟨rfl, hb2⟩; have HF2 := Lib.hid (HF.out.all hb2); clear hb2)
        | (refine store_recN (zero_new w2) rfl rfl (.tmp 6) (.tmp 14) rfl rfl zeroRc rfl rfl ?_; intro w3 X3 G3))
      have HF3 : Hid (Fd w 42 w3 u4 l) := fd_store HF2.out G3.out
      clear G3
      go_wp2_with fail
      go_ret2
      exact ⟨u4, by rw [← HLE.out, HE.out]; rfl, by rw [← HLE.out]; exact HF3.out⟩
set_option maxRecDepth 100000 in
set_option maxHeartbeats 8000000 in
theorem reffront_none (c : Nat) (w : World) (hc : c ≤ maxLen) :
    Calls Tryz.prog 39 #[.slice none 0 c] w fun e w' => ∃ v, e = .returned (.tuple #[v, .int .i64 0]) ∧ Fd w 42 w' v [] := by
  have hcm : c ≤ 9223372036854775807 := by unfold maxLen at hc; exact hc
  have hz := zeroRec
  have CD : Hid (∀ P, Calls Tryz.prog 67 #[.slice P 0 c] w fun E w' => E = .returned (.tuple #[.agg zeroRc.vals, .int .i64 0, .int .i64 11]) ∧ Below w.heap.size w w') := by
    intro P
    have h := refdecode_any P 0 c [] w empty_row (Nat.zero_le _) hc
    rw [dec_nil] at h
    exact h
  have HF := Lib.hid (Fd.nil w 42)
  clear hc
  go_enter Tryz.func39, Tryz.ntmps39
  go_wp2_with fail
  go_loopw [4, 5] (fun v i wr => v = .slice none 0 0 ∧ i = .int .i64 0 ∧ wr = w) (fun _ i _ => 0)
  case atStart => exact ⟨rfl, rfl, rfl⟩
  case round =>
    obtain ⟨rfl, rfl, rfl⟩ := hrel
    go_upto_region 4 with (first
        | (go_at_call 67; refine (CD.out _).mono ?_; rintro E w2 ⟨rfl, hb2⟩; have HF2 := Lib.hid (HF.out.all hb2); clear hb2)
        | (refine store_recN (zero_new w2) rfl rfl (.tmp 6) (.tmp 14) rfl rfl zeroRc rfl rfl ?_; intro w3 X3 G3))
    have HF3 : Hid (Fd wr 42 w3 (.slice none 0 0) []) := fd_store HF2.out G3.out
    clear G3
    go_wp2_with fail
    go_ret2
    exact ⟨_, rfl, HF3.out⟩
set_option maxRecDepth 100000 in
set_option maxHeartbeats 8000000 in
theorem reffront_zero (ad : Addr) (c : Nat) (w : World) (hc : c ≤ maxLen) :
    Calls Tryz.prog 39 #[.slice (some ad) 0 c] w fun e w' => ∃ v, e = .returned (.tuple #[v, .int .i64 0]) ∧ Fd w 42 w' v [] := by
  have hcm : c ≤ 9223372036854775807 := by unfold maxLen at hc; exact hc
  have hz := zeroRec
  have CD : Hid (∀ P, Calls Tryz.prog 67 #[.slice P 0 c] w fun E w' => E = .returned (.tuple #[.agg zeroRc.vals, .int .i64 0, .int .i64 11]) ∧ Below w.heap.size w w') := by
    intro P
    have h := refdecode_any P 0 c [] w empty_row (Nat.zero_le _) hc
    rw [dec_nil] at h
    exact h
  have HF := Lib.hid (Fd.nil w 42)
  clear hc
  go_enter Tryz.func39, Tryz.ntmps39
  go_wp2_with fail
  go_loopw [4, 5] (fun v i wr => v = .slice none 0 0 ∧ i = .int .i64 0 ∧ wr = w) (fun _ i _ => 0)
  case atStart => exact ⟨rfl, rfl, rfl⟩
  case round =>
    obtain ⟨rfl, rfl, rfl⟩ := hrel
    go_upto_region 4 with (first
        | (go_at_call 67; refine (CD.out _).mono ?_; rintro E w2 ⟨rfl, hb2⟩; have HF2 := Lib.hid (HF.out.all hb2); clear hb2)
        | (refine store_recN (zero_new w2) rfl rfl (.tmp 6) (.tmp 14) rfl rfl zeroRc rfl rfl ?_; intro w3 X3 G3))
    have HF3 : Hid (Fd wr 42 w3 (.slice none 0 0) []) := fd_store HF2.out G3.out
    clear G3
    go_wp2_with fail
    go_ret2
    exact ⟨_, rfl, HF3.out⟩
/-- .. whatever the slice. -/
theorem reffront_any (A : Option Addr) (n c : Nat) (bs : List UInt8) (w : World) (hR : Row w w.heap.size A n (bvs bs)) (hnc : n ≤ c) (hc : c ≤ maxLen) (hn : n ≤ 8388608) :
    Calls Tryz.prog 39 #[.slice A n c] w fun e w' => ∃ v, e = .returned (.tuple #[v, .int .i64 ((endOf 0 (frontFrom 0 bs) : Nat) : Int)]) ∧ Fd w 42 w' v (frontFrom 0 bs) := by
  rcases Nat.eq_zero_or_pos n with h0 | h0
  · subst h0
    obtain rfl : bs = [] := List.eq_nil_of_length_eq_zero hR.size
    rw [front_nil]
    cases A with
    | none => exact reffront_none c w hc
    | some ad => exact reffront_zero ad c w hc
  · obtain ⟨b, o, rfl, _, _⟩ := hR.2 h0
    exact reffront_some b o n c bs w hR hnc hc hn
end Go.Proofs.YtkdnfikaodkhnaaGreatDoor.Rec
