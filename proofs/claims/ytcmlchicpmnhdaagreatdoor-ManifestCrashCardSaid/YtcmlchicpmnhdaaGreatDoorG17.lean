/-
  Texts one behind the other: MixSlot, SlotMath.
-/
import Derived.Test.YtcmlchicpmnhdaaGreatDoorG02
import Derived.Test.YtcmlchicpmnhdaaGreatDoorG06
import Derived.Test.YtcmlchicpmnhdaaGreatDoorG09
import Derived.Test.YtcmlchicpmnhdaaGreatDoorG16
/-
  Proved: what slot of law 8 returns: how many bytes of a slot's beginning fit their sum.
  Conditions: the slice reads as bytes, not too many.
-/
namespace Go.Proofs.YtcmlchicpmnhdaaGreatDoor.Rec
open Go.RowKit
set_option linter.unusedVariables false
set_option linter.unusedSimpArgs false

def slotN (bs : List UInt8) : Nat :=
  if bs.length < 16 then 0
  else if 4080 < beN (part bs 8 12) ∨ bs.length - 16 < beN (part bs 8 12) then 0
  else if beN (part bs 12 16) ≠ (Crc.sum (bs.take 12 ++ part bs 16 (16 + beN (part bs 8 12)))).toNat then 0
  else 16 + beN (part bs 8 12)
theorem below_app {a w w' : World} {B : Nat} (h : Below B a w) (hg : w.grownBy w' (Value.slice none 0 0).ownBlock) (hB : B ≤ w.heap.size) : Below B a w' := h.grown hg hB (fun k hk => by simp [Value.ownBlock] at hk)
set_option maxRecDepth 100000 in
set_option maxHeartbeats 8000000 in
theorem slot_any (A : Option Addr) (n c : Nat) (bs : List UInt8) (w : World) (hR : Row w w.heap.size A n (bvs bs)) (hnc : n ≤ c) (hc : c ≤ maxLen) (hn : n ≤ 8388608) :
    Calls Tryz.prog 41 #[.slice A n c] w fun e w' => e = .returned (.int .i64 ((slotN bs : Nat) : Int)) ∧ Below w.heap.size w w' := by
  have hcm : c ≤ 9223372036854775807 := by unfold maxLen at hc; exact hc
  have hl := hR.size
  have HW := Lib.hid (Below.refl w.heap.size w)
  by_cases h16 : n < 16
  · have e : slotN bs = 0 := by unfold slotN; rw [if_pos (by omega)]
    rw [e]
    have h16' : (n : Int) < 16 := by omega
    clear hR hc hl
    go_enter Tryz.func41, Tryz.ntmps41
    go_wp2_with fail
    go_ret
    exact ⟨rfl, HW.out⟩
  have h16' : ¬ (n : Int) < 16 := by omega
  obtain ⟨b, o, rfl, hbl, _⟩ := hR.2 (by omega)
  have HR := Lib.hid hR
  have HC := Lib.hid hc
  have G1 := refget_part hR hnc hc 8 12 4 (c - 8) (by omega) (by omega) rfl (by omega) rfl
  have G2 := refget_part hR hnc hc 12 16 4 (c - 12) (by omega) (by omega) rfl (by omega) rfl
  obtain ⟨L, hL⟩ : ∃ L, L = beN (part bs 8 12) := ⟨_, rfl⟩
  obtain ⟨T, hT⟩ : ∃ T, T = beN (part bs 12 16) := ⟨_, rfl⟩
  have hL4 : L < 4294967296 := by rw [hL]; exact beN_part_lt bs 8 12 4 (by omega) (by omega) rfl
  have hT4 : T < 4294967296 := by rw [hT]; exact beN_part_lt bs 12 16 4 (by omega) (by omega) rfl
  rw [← hL] at G1
  rw [← hT] at G2
  have hs : slotN bs = if 4080 < L ∨ n - 16 < L then 0 else if T ≠ (Crc.sum (bs.take 12 ++ part bs 16 (16 + L))).toNat then 0 else 16 + L := by
    rw [hL, hT, ← hl]
    conv => lhs; unfold slotN
    rw [if_neg (by omega)]
  have HSN := Lib.hid hs
  have HL := Lib.hid hl
  have i1 : ¬ c = 8 := by omega
  have i2 : ¬ c = 12 := by omega
  have i3 : (12 : Int) ≤ (c : Int) := by omega
  have i4 : (16 : Int) ≤ (c : Int) := by omega
  have hwn : IntKind.u64.wrap ((n : Int) - 16) = (n : Int) - 16 := by simp [IntKind.wrap, IntKind.bits, IntKind.signed]; omega
  clear hR hc hL hT hs hl
  by_cases hbig : 4080 < L
  · have e : slotN bs = 0 := by rw [HSN.out, if_pos (.inl hbig)]
    rw [e]
    have hbig' : (4080 : Int) < (L : Int) := by omega
    clear e hbig
    go_enter Tryz.func41, Tryz.ntmps41
    go_wp2_with (go_at_call 73; refine (G1.out _ HW.out).mono ?_; rintro e w' ⟨rfl, rfl⟩)
    go_ret
    exact ⟨rfl, HW.out⟩
  have hbig' : ¬ (4080 : Int) < (L : Int) := by omega
  by_cases hlen : n - 16 < L
  · have e : slotN bs = 0 := by rw [HSN.out, if_pos (.inr hlen)]
    rw [e]
    have hlen' : (n : Int) - 16 < (L : Int) := by omega
    clear e hlen
    go_enter Tryz.func41, Tryz.ntmps41
    go_wp2_with (go_at_call 73; refine (G1.out _ HW.out).mono ?_; rintro e w' ⟨rfl, rfl⟩)
    go_ret
    exact ⟨rfl, HW.out⟩
  have hlen' : ¬ (n : Int) - 16 < (L : Int) := by omega
  have hs : slotN bs = if T ≠ (Crc.sum (bs.take 12 ++ part bs 16 (16 + L))).toNat then 0 else 16 + L := by rw [HSN.out, if_neg (by omega)]
  have HS2 := Lib.hid hs
  have hLn : 16 + L ≤ n := by omega
  have E1 : Hid ((bvs (bs.take 12)).length = 12) := by show _ = _; rw [bvs_length, List.length_take, HL.out]; omega
  have E2 : Hid ((bvs (part bs 16 (16 + L))).length = L) := by show _ = _; rw [bvs_length, part_length bs 16 (16 + L) (by omega) (by rw [HL.out]; exact hLn)]; omega
  obtain ⟨o2, ho2⟩ : ∃ o2, (if c = 16 then (some ⟨b, o, none⟩ : Option Addr) else some ⟨b, o + 16, none⟩) = some ⟨b, o2, none⟩ := by
    split
    · exact ⟨o, rfl⟩
    · exact ⟨o + 16, rfl⟩
  have HN1 : Hid (∀ W, Below w.heap.size w W → ∀ j u, (bvs (bs.take 12))[j]? = some u → W.cell? ((⟨b, o, none⟩ : Addr).add j) = some u) := fun W hW => by
    have := ((HR.out.below hW).take (k := 12) (by omega))
    rw [bvs_take] at this
    exact row_news this
  have HN2 : Hid (∀ W, Below w.heap.size w W → ∀ j u, (bvs (part bs 16 (16 + L)))[j]? = some u → W.cell? ((⟨b, o2, none⟩ : Addr).add j) = some u) := fun W hW => by
    rcases Nat.eq_zero_or_pos L with h0 | h0
    · intro j u hu
      have := (List.getElem?_eq_some_iff.1 hu).1
      rw [E2.out] at this
      omega
    · have h1 := row_part (k := 16) (m := 16 + L) (HR.out.below hW) (by omega) hLn
      rw [if_neg (by omega)] at ho2
      injection ho2 with ho2
      injection ho2 with _ ho2
      subst ho2
      exact row_news h1
  have HBR : Hid (Below w.heap.size w w.drew) := HW.out.drew
  have j1 : (16 : Int) + (L : Int) ≤ (c : Int) := by omega
  have j2 : 16 + L - 16 = L := by omega
  have hwL : IntKind.i64.wrap (L : Int) = (L : Int) := by simp [IntKind.wrap, IntKind.bits, IntKind.signed]; omega
  have hwL2 : IntKind.i64.wrap (16 + (L : Int)) = 16 + (L : Int) := by simp [IntKind.wrap, IntKind.bits, IntKind.signed]; omega
  have k1 : (0 : Int) ≤ 16 + (L : Int) := by omega
  have k2 : (16 : Int) ≤ max (16 + (L : Int)) 0 := by omega
  have k3 : (16 + (L : Int)).toNat = 16 + L := by omega
  clear hs HSN hlen hbig
  go_enter Tryz.func41, Tryz.ntmps41
  go_upto_region 6 with (go_at_call 73; refine (G1.out _ HW.out).mono ?_; rintro e w' ⟨rfl, rfl⟩)
  clear hwn
  refine wp_region_noPanic ?_
  refine wp_region_held_drew (S := fun W => Hid (Below w.heap.size w W)) (by kernel_rfl) HBR (fun h0 => ?_)
  refine held_take 0 (v := ?_) (d := (some 21)) rfl rfl (by kernel_rfl) (by kernel_rfl) (by kernel_rfl) (fun _ _ _ h => h) (Or.inl ⟨by rfl, ?_⟩) h0 ?_
  rotate_left
  · intro _ _; go_simp; (try with_reducible rfl)
  try simp only [Act.put, List.setIfInBounds_toArray, List.set_cons_zero, List.set_cons_succ]
  refine held_take 1 (v := ?_) (d := (some 22)) rfl rfl (by kernel_rfl) (by kernel_rfl) (by kernel_rfl) (fun _ _ _ h => h) (Or.inl ⟨by rfl, ?_⟩) h0 ?_
  rotate_left
  · intro _ _; go_simp; (try with_reducible rfl)
  try simp only [Act.put, List.setIfInBounds_toArray, List.set_cons_zero, List.set_cons_succ]
  refine held_take 3 (v := ?_) (d := (some 24)) rfl rfl (by kernel_rfl) (by kernel_rfl) (by kernel_rfl) (fun _ _ _ h => h) (Or.inl ⟨by rfl, ?_⟩) h0 ?_
  rotate_left
  · intro _ _; go_simp; (try with_reducible rfl)
  try simp only [Act.put, List.setIfInBounds_toArray, List.set_cons_zero, List.set_cons_succ]
  refine held_take 4 (v := ?_) (d := (some 25)) rfl rfl (by kernel_rfl) (by kernel_rfl) (by kernel_rfl) (fun _ _ _ h => h) (Or.inl ⟨by rfl, ?_⟩) h0 ?_
  rotate_left
  · intro _ _; go_simp; (try with_reducible rfl)
  try simp only [Act.put, List.setIfInBounds_toArray, List.set_cons_zero, List.set_cons_succ]
  refine held_take 5 (v := .int .i64 (L : Int)) (d := (some 26)) rfl rfl (by kernel_rfl) (by kernel_rfl) (by kernel_rfl) (fun _ _ _ h => h) (Or.inl ⟨by rfl, ?_⟩) h0 ?_
  · intro _ _; go_simp; (try with_reducible rfl)
  try simp only [Act.put, List.setIfInBounds_toArray, List.set_cons_zero, List.set_cons_succ]
  refine held_take 6 (v := .int .i64 (16 + (L : Int))) (d := (some 27)) rfl rfl (by kernel_rfl) (by kernel_rfl) (by kernel_rfl) (fun _ _ _ h => h) (Or.inl ⟨by rfl, ?_⟩) h0 ?_
  · intro _ _; go_simp; (try with_reducible rfl)
  try simp only [Act.put, List.setIfInBounds_toArray, List.set_cons_zero, List.set_cons_succ]
  refine held_take 7 (v := .slice (some ⟨b, o2, none⟩) L (c - 16)) (d := (some 28)) rfl rfl (by kernel_rfl) (by kernel_rfl) (by kernel_rfl) (fun _ _ _ h => h) (Or.inl ⟨by rfl, ?_⟩) h0 ?_
  · intro _ _; go_simp; exact fun h => absurd h (by omega)
  try simp only [Act.put, List.setIfInBounds_toArray, List.set_cons_zero, List.set_cons_succ]
  refine wpAnyH_ready (rs := [2]) (by kernel_rfl) (by simp) (AllReadyH.cons rfl (fun K hK => ?_) AllReadyH.nil)
  refine want_append_own (by rfl) (.const (.slice none 0 0)) (.tmp 22) 51 rfl rfl w.drew.heap.size 5 (.int .u8 0) 1 Tryz.underlying51 u8_info rfl (.slice none 0 0) 0 [] rfl (World.ownsRow_nil _ _ _ _) ⟨b, o, none⟩ 12 c (bvs (bs.take 12)) rfl E1.out (HN1.out w.drew HBR.out) (bvs_one _) (by decide) (by decide) (Nat.le_refl _) ?_
  intro v3 w3 HO3 HG3
  have HB3 : Hid (Below w.heap.size w w3) := below_app HBR.out HG3.out (Nat.le_refl _)
  have HS3 : Hid (w.drew.heap.size ≤ w3.heap.size) := HB3.out.size
  refine hK.out _ _ (HB3) (fun h1 => ?_)
  clear hK K
  try simp only [Act.put, List.setIfInBounds_toArray, List.set_cons_zero, List.set_cons_succ]
  refine wpAnyH_ready (rs := [8]) (by kernel_rfl) (by simp) (AllReadyH.cons rfl (fun K hK => ?_) AllReadyH.nil)
  refine want_append_own (by rfl) (.tmp 23) (.tmp 28) 51 rfl rfl w.drew.heap.size 5 (.int .u8 0) 1 Tryz.underlying51 u8_info rfl v3 12 (bvs (bs.take 12)) rfl HO3.out ⟨b, o2, none⟩ L (c - 16) (bvs (part bs 16 (16 + L))) rfl E2.out (HN2.out w3 HB3.out) (bvs_one _) (by unfold maxLen; omega) (by omega) HS3.out ?_
  intro v4 w4 HO4 HG4
  have HB4 : Hid (Below w.heap.size w w4) := own_below HO3.out HB3.out (Nat.le_refl _) HS3.out HG4.out
  refine hK.out _ _ (HB4) (fun h2 => ?_)
  clear hK K
  try simp only [Act.put, List.setIfInBounds_toArray, List.set_cons_zero, List.set_cons_succ]
  refine held_take 9 (v := ?_) (d := (some 4)) rfl rfl (by kernel_rfl) (by kernel_rfl) (by kernel_rfl) (fun _ _ _ h => h) (Or.inl ⟨by rfl, ?_⟩) h2 ?_
  rotate_left
  · intro _ _; go_simp; (try with_reducible rfl)
  try simp only [Act.put, List.setIfInBounds_toArray, List.set_cons_zero, List.set_cons_succ]
  refine wpAnyH_done (by kernel_rfl) ?_ _
  refine NoPanic.normal ?_
  have HO5 : Hid (w4.ownsRow w.drew.heap.size 5 1 v4 (12 + L) (bvs (bs.take 12 ++ part bs 16 (16 + L)))) := by
    have h := HO4.out
    have e : bvs (bs.take 12) ++ bvs (part bs 16 (16 + L)) = bvs (bs.take 12 ++ part bs 16 (16 + L)) := by unfold bvs; rw [List.map_append]
    rw [e] at h
    exact h
  obtain ⟨A4, c4, rfl, _, hc4⟩ := own_form HO5.out
  obtain ⟨S, hS⟩ : ∃ S, S = (Crc.sum (bs.take 12 ++ part bs 16 (16 + L))).toNat := ⟨_, rfl⟩
  have hS4 : S < 4294967296 := by rw [hS]; exact (Crc.sum _).isLt
  have CS0 := Crc.ref_sum A4 (12 + L) c4 _ w4 (Row.own HO5.out) (by unfold maxLen; omega)
  rw [← hS] at CS0
  have CS := Lib.hid CS0
  rw [← hS] at HS2
  clear CS0 hS HO4 HO3 HG3 HG4 HN1 HN2 E1 E2 HS3 HB3
  by_cases hst : T = S
  · have e : slotN bs = 16 + L := by rw [HS2.out, if_neg (not_not_intro hst)]
    have d0 : ((T : Int) != (S : Int)) = false := by rw [hst]; simp
    have HEQ := Lib.hid e
    clear hst e
    go_wp2_with (first
      | (go_at_call 73; refine (G2.out _ HB4.out).mono ?_; rintro e w' ⟨rfl, rfl⟩)
      | (go_at_call 72; refine CS.out.mono ?_; rintro e w' ⟨rfl, rfl⟩))
    go_ret
    rw [HEQ.out]
    exact ⟨by go_num, HB4.out⟩
  · have e : slotN bs = 0 := by rw [HS2.out, if_pos hst]
    have d0 : ((T : Int) != (S : Int)) = true := bne_iff_ne.2 (by omega)
    have HEQ := Lib.hid e
    clear hst e
    go_wp2_with (first
      | (go_at_call 73; refine (G2.out _ HB4.out).mono ?_; rintro e w' ⟨rfl, rfl⟩)
      | (go_at_call 72; refine CS.out.mono ?_; rintro e w' ⟨rfl, rfl⟩))
    go_ret
    rw [HEQ.out]
    exact ⟨rfl, HB4.out⟩
end Go.Proofs.YtcmlchicpmnhdaaGreatDoor.Rec
/-
  Plain facts: a slot as bytes; what fits its sum; what a changed byte, and what a crash, leave of it.
-/
namespace Go.Proofs.YtcmlchicpmnhdaaGreatDoor.Slot
open Go.RowKit Go.Proofs.YtcmlchicpmnhdaaGreatDoor.Rec
set_option linter.unusedVariables false
set_option linter.unusedSimpArgs false

/-- The turn and the length. -/
def slotHead (t n : Nat) : List UInt8 := be t 8 ++ be n 4
@[simp] theorem slotHead_length (t n : Nat) : (slotHead t n).length = 12 := by simp [slotHead]
/-- A slot's bytes. -/
def slotB (t : Nat) (b : List UInt8) : List UInt8 := slotHead t b.length ++ be (Crc.sum (slotHead t b.length ++ b)).toNat 4 ++ b
theorem slotB_length (t : Nat) (b : List UInt8) : (slotB t b).length = 16 + b.length := by simp [slotB]; omega
theorem sum_small (l : List UInt8) : (Crc.sum l).toNat < 256 ^ 4 := (Crc.sum l).isLt
theorem slot_turn (t : Nat) (b r : List UInt8) : Rec.part (slotB t b ++ r) 0 8 = be t 8 := by
  have e : slotB t b ++ r = [] ++ be t 8 ++ (be b.length 4 ++ be (Crc.sum (slotHead t b.length ++ b)).toNat 4 ++ b ++ r) := by simp [slotB, slotHead]
  rw [e]
  exact part_mid _ _ _ 0 8 rfl (by simp)
theorem slot_len (t : Nat) (b r : List UInt8) : Rec.part (slotB t b ++ r) 8 12 = be b.length 4 := by
  have e : slotB t b ++ r = be t 8 ++ be b.length 4 ++ (be (Crc.sum (slotHead t b.length ++ b)).toNat 4 ++ b ++ r) := by simp [slotB, slotHead]
  rw [e]
  exact part_mid _ _ _ 8 12 (by simp) (by simp)
theorem slot_sum (t : Nat) (b r : List UInt8) : Rec.part (slotB t b ++ r) 12 16 = be (Crc.sum (slotHead t b.length ++ b)).toNat 4 := by
  have e : slotB t b ++ r = slotHead t b.length ++ be (Crc.sum (slotHead t b.length ++ b)).toNat 4 ++ (b ++ r) := by simp [slotB]
  rw [e]
  exact part_mid _ _ _ 12 16 (by simp) (by simp)
theorem slot_text (t : Nat) (b r : List UInt8) : Rec.part (slotB t b ++ r) 16 (16 + b.length) = b := by
  have e : slotB t b ++ r = (slotHead t b.length ++ be (Crc.sum (slotHead t b.length ++ b)).toNat 4) ++ b ++ r := by simp [slotB]
  rw [e]
  exact part_mid _ _ _ _ _ (by simp) (by simp)
theorem slot_head (t : Nat) (b r : List UInt8) : (slotB t b ++ r).take 12 = slotHead t b.length := by
  have e : slotB t b ++ r = slotHead t b.length ++ (be (Crc.sum (slotHead t b.length ++ b)).toNat 4 ++ b ++ r) := by simp [slotB]
  rw [e]
  exact List.take_left' (by simp)
theorem slotN_of (t : Nat) (b r : List UInt8) (hb : b.length ≤ 4080) : slotN (slotB t b ++ r) = 16 + b.length := by
  have hl := slotB_length t b
  unfold slotN
  rw [slot_len, beN_be _ _ (by omega), slot_sum, slot_text, slot_head, beN_be _ _ (sum_small _)]
  rw [if_neg (by rw [List.length_append]; omega), if_neg (by rw [List.length_append]; omega), if_neg (by simp)]
/-- What a slot tells: its turn and its text. -/
def slotOf (bs : List UInt8) : Option (Nat × List UInt8) := if slotN bs = 0 then none else some (beN (Rec.part bs 0 8), Rec.part bs 16 (slotN bs))
theorem slotOf_of (t : Nat) (b r : List UInt8) (ht : t < 18446744073709551616) (hb : b.length ≤ 4080) : slotOf (slotB t b ++ r) = some (t, b) := by
  unfold slotOf
  rw [slotN_of t b r hb, if_neg (by omega), slot_turn, slot_text, beN_be _ _ (by omega)]
theorem slotN_bound (bs : List UInt8) : slotN bs = 0 ∨ (16 ≤ slotN bs ∧ slotN bs ≤ 4096 ∧ slotN bs ≤ bs.length ∧ slotN bs = 16 + beN (Rec.part bs 8 12) ∧ beN (Rec.part bs 12 16) = (Crc.sum (bs.take 12 ++ Rec.part bs 16 (slotN bs))).toNat) := by
  by_cases h1 : bs.length < 16
  · exact .inl (by unfold slotN; rw [if_pos h1])
  by_cases h2 : 4080 < beN (Rec.part bs 8 12) ∨ bs.length - 16 < beN (Rec.part bs 8 12)
  · exact .inl (by unfold slotN; rw [if_neg h1, if_pos h2])
  by_cases h3 : beN (Rec.part bs 12 16) ≠ (Crc.sum (bs.take 12 ++ Rec.part bs 16 (16 + beN (Rec.part bs 8 12)))).toNat
  · exact .inl (by unfold slotN; rw [if_neg h1, if_neg h2, if_pos h3])
  · have e : slotN bs = 16 + beN (Rec.part bs 8 12) := by unfold slotN; rw [if_neg h1, if_neg h2, if_neg h3]
    refine .inr ⟨by omega, by omega, by omega, e, ?_⟩
    rw [e]
    exact Classical.byContradiction h3
theorem part_same {a b : List UInt8} {k i j : Nat} (h : b.take k = a.take k) (hij : i ≤ j) (hj : j ≤ k) : Rec.part b i j = Rec.part a i j := by
  have e : ∀ l : List UInt8, Rec.part l i j = Rec.part (l.take k) i j := fun l => by
    unfold Rec.part
    rw [List.drop_take, List.take_take, Nat.min_eq_left (by omega)]
  rw [e b, e a, h]
/-- Where the bytes of a slot stand again, it tells the same. -/
theorem slot_same {a b : List UInt8} (h0 : 0 < slotN a) (hl : slotN a ≤ b.length) (h : b.take (slotN a) = a.take (slotN a)) : slotN b = slotN a ∧ slotOf b = slotOf a := by
  rcases slotN_bound a with h1 | ⟨h1, h2, h3, h4, h5⟩
  · omega
  have p1 := part_same h (show 0 ≤ 8 by omega) (by omega)
  have p2 := part_same h (show 8 ≤ 12 by omega) (by omega)
  have p3 := part_same h (show 12 ≤ 16 by omega) (by omega)
  have p4 := part_same h h1 (Nat.le_refl _)
  have p5 : b.take 12 = a.take 12 := by
    have := congrArg (List.take 12) h
    rwa [List.take_take, List.take_take, Nat.min_eq_left (by omega)] at this
  have h5' := h5
  rw [h4] at h5'
  have p4' : Rec.part b 16 (16 + beN (Rec.part a 8 12)) = Rec.part a 16 (16 + beN (Rec.part a 8 12)) := by rw [← h4]; exact p4
  have e : slotN b = slotN a := by
    refine Eq.trans ?_ h4.symm
    conv => lhs; unfold slotN
    rw [p2, p3, p5, p4', if_neg (by omega), if_neg (by omega), if_neg (by rw [h5']; simp)]
  refine ⟨e, ?_⟩
  unfold slotOf
  rw [e, p1, p4]
/-- A slot of which one byte was changed, but for its length, fits no more. -/
theorem slot_spoilt (t : Nat) (b r : List UInt8) (k : Nat) (c : UInt8) (hb : b.length ≤ 4080) (hk : k < 16 + b.length) (hc : c ≠ (slotB t b).getD k 0) (hn : ¬ (8 ≤ k ∧ k < 12)) : slotN ((slotB t b ++ r).set k c) = 0 := by
  have hL := slotB_length t b
  have hl : (slotB t b ++ r).length = 16 + b.length + r.length := by rw [List.length_append, hL]
  have g1 := slot_len t b r
  have g2 := slot_sum t b r
  have g3 := slot_text t b r
  have g4 := slot_head t b r
  have e0 : Rec.part ((slotB t b ++ r).set k c) 8 12 = be b.length 4 := by
    by_cases h8 : k < 8
    · rw [part_set, if_pos h8, g1]
    · rw [part_set_beyond _ _ _ _ _ (by omega) (by omega), g1]
  have eN : beN (be b.length 4) = b.length := beN_be _ _ (by omega)
  unfold slotN
  rw [e0, eN, if_neg (by rw [List.length_set, hl]; omega), if_neg (by rw [List.length_set, hl]; omega)]
  have h3 : beN (Rec.part ((slotB t b ++ r).set k c) 12 16) ≠ (Crc.sum (((slotB t b ++ r).set k c).take 12 ++ Rec.part ((slotB t b ++ r).set k c) 16 (16 + b.length))).toNat := by
    intro hr
    rw [List.take_set, g4] at hr
    by_cases k1 : k < 12
    · rw [part_set, if_pos (by omega), g2, part_set, if_pos (by omega), g3, beN_be _ _ (sum_small _), ← List.set_append_left _ _ (by simpa using k1)] at hr
      have := sum_set (l := slotHead t b.length ++ b) (k := k) (c := c) (by simp; omega) (BitVec.eq_of_toNat_eq hr.symm)
      refine hc (this.trans ?_)
      rw [getD_front _ _ _ (by simpa using k1), slotB, List.append_assoc, getD_front _ _ _ (by simpa using k1)]
    · have e12 : (slotHead t b.length).set k c = slotHead t b.length := List.set_eq_of_length_le (by simp; omega)
      rw [e12] at hr
      by_cases k2 : k < 16
      · rw [part_set, if_neg (by omega), g2, part_set, if_pos k2, g3] at hr
        have hb2 : be (Crc.sum (slotHead t b.length ++ b)).toNat 4 = (be (Crc.sum (slotHead t b.length ++ b)).toNat 4).set (k - 12) c := by
          refine beN_inj 4 _ _ (be_length _ _) (by simp) ?_
          rw [hr, beN_be _ _ (sum_small _)]
        refine hc ?_
        have e1 : (slotB t b).getD k 0 = (be (Crc.sum (slotHead t b.length ++ b)).toNat 4).getD (k - 12) 0 := by
          rw [slotB, List.append_assoc, List.getD_eq_getElem?_getD, List.getD_eq_getElem?_getD, List.getElem?_append_right (by simp; omega), slotHead_length, List.getElem?_append_left (by simp; omega)]
        rw [e1, hb2, List.getD_eq_getElem?_getD, List.getElem?_set_self (by simp; omega)]
        rfl
      · rw [part_set_beyond _ _ _ _ _ (by omega) (by omega), g2, part_set, if_neg (by omega), g3, beN_be _ _ (sum_small _)] at hr
        have e2 : slotHead t b.length ++ b.set (k - 16) c = (slotHead t b.length ++ b).set (k - 4) c := by
          rw [List.set_append_right _ _ (by simp; omega)]
          simp only [slotHead_length]
          rw [show k - 4 - 12 = k - 16 by omega]
        rw [e2] at hr
        have := sum_set (l := slotHead t b.length ++ b) (k := k - 4) (c := c) (by simp; omega) (BitVec.eq_of_toNat_eq hr.symm)
        refine hc (this.trans ?_)
        rw [slotB, List.append_assoc, List.getD_eq_getElem?_getD, List.getD_eq_getElem?_getD, List.getElem?_append_right (by simp; omega), List.getElem?_append_right (by simp; omega), List.getElem?_append_right (by simp; omega)]
        simp only [slotHead_length, be_length]
        rw [show k - 4 - 12 = k - 12 - 4 by omega]
  rw [if_pos h3]
end Go.Proofs.YtcmlchicpmnhdaaGreatDoor.Slot
