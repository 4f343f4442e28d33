/-
  Texts one behind the other: SlotFrom.
-/
import Derived.BigQuiet
import Derived.Test.YtcmlchicpmnhdaaGreatDoorG06
import Derived.Test.YtcmlchicpmnhdaaGreatDoorG40
/-
  Proved: what fromSlot of package slots returns: a file as one of its slots has it, or none.
  Conditions: the file is there; the table crc.turned holds its sixteen words.
-/
namespace Go.Proofs.YtcmlchicpmnhdaaGreatDoor.Slot
open Go.RowKit Go.Proofs.YtcmlchicpmnhdaaGreatDoor.Rec Go.Proofs.YtcmlchicpmnhdaaGreatDoor.Disk
open Go.Proofs.YtcmlchicpmnhdaaGreatDoor.Crc (Turned)
open Go.Proofs.YtcmlchicpmnhdaaGreatDoor.Seg (Fr ptr mark_old mark_top free_fr)
set_option linter.unusedVariables false
set_option linter.unusedSimpArgs false

set_option maxHeartbeats 1000000 in
theorem fromSlot_out {own : Own} {w0 w : World} {f K : Nat} {d : Dk} {x : Fl} (nm : ByteArray) (s : Nat) (h : Held own w0 w f d K) (hs : nm.size ≤ maxLen) (hx : d.look nm.data.toList = some x) (hout : x.now.length < 4096 * s + 4096) (hs2 : s < 2) :
    Calls Tryz.prog 65 #[.pointer (some ⟨f, 0, none⟩), .string nm, .int .i64 (s : Int)] w fun e w' => e = .returned (.pointer none) ∧ w = w' := by
  obtain ⟨g, hg, rfl⟩ := look_inv hx
  obtain ⟨a1, ha1⟩ : ∃ a1, a1 = 4096 * s := ⟨_, rfl⟩
  have CR : Hid (Calls Tryz.prog 68 #[.pointer (some ⟨f, 0, none⟩), .string nm, .int .i64 (a1 : Int), .int .i64 4096] w fun e w' => e = .returned (.tuple #[.slice none 0 0, .int .i64 6]) ∧ w = w') :=
    (read_range nm (a1 : Int) 4096 h.disk hs hg (by omega)).mono fun e w' ⟨h1, h2⟩ => ⟨h1, h2.symm⟩
  have q1 : (s : Int) * 4096 = (a1 : Int) := by omega
  have hs' : (s : Int) < 2 := by omega
  clear h hs hx hout hg ha1 hs2
  go_enter Tryz.func65, Tryz.ntmps65
  go_wp2_with (go_at_call 68; refine CR.out.mono ?_; rintro e w' ⟨rfl, rfl⟩)
  go_ret
  exact ⟨rfl, rfl⟩
/-- What fromSlot answers. -/
structure Got (own : Own) (w0 w : World) (f : Nat) (nm : ByteArray) (s K : Nat) (d : Dk) (v : Option (Nat × List UInt8)) (p : Value) (w' : World) : Prop where
  none : v = none → p = .pointer none ∧ Held own w0 w' f (d.read 4096) (K + 1) ∧ Step own own f w w'
  some : ∀ t b, v = some (t, b) → ∃ own' sf lb, p = .pointer (some ⟨sf, 0, .none⟩) ∧ w.heap.size ≤ sf ∧ Lies own' w' ⟨f, sf, nm, s, t, b, t, lb⟩ ∧ (lb = decide (total (fun g => (d.fl g).soiled.length) d.N = 0)) ∧ Held own' w0 w' f (d.read 4096) (K + 1) ∧ Stp own own' f w w'
set_option maxRecDepth 100000 in
set_option maxHeartbeats 8000000 in
theorem fromSlot_in {own : Own} {w0 w : World} {f K : Nat} {d : Dk} {x : Fl} (nm : ByteArray) (s : Nat) (hT : Turned w0) (h : Held own w0 w f d K) (hs : nm.size ≤ maxLen) (hx : d.look nm.data.toList = some x) (hin : 4096 * s + 4096 ≤ x.now.length) (hs2 : s < 2) (hK : K + 1 ≤ 1073741824) :
    Calls Tryz.prog 65 #[.pointer (some ⟨f, 0, none⟩), .string nm, .int .i64 (s : Int)] w fun e w' => ∃ p, e = .returned p ∧ Got own w0 w f nm s K d (slotOf (slotAt x.now s)) p w' := by
  obtain ⟨a1, ha1⟩ : ∃ a1, a1 = 4096 * s := ⟨_, rfl⟩
  have CR0 := read_look nm a1 4096 h hs hx (by omega) hK
  obtain ⟨bs, hbs⟩ : ∃ bs, bs = (x.now.drop a1).take 4096 := ⟨_, rfl⟩
  have hl : bs.length = 4096 := by rw [hbs, List.length_take, List.length_drop]; omega
  have hso : slotOf (slotAt x.now s) = slotOf bs := by rw [hbs, ha1]; exact (slotOf_clip _).symm
  rw [← hbs] at CR0
  rw [hso]
  have CR := Lib.hid CR0
  have q1 : (s : Int) * 4096 = (a1 : Int) := by omega
  have hs' : (s : Int) < 2 := by omega
  have HH := Lib.hid h
  have HT := Lib.hid hT
  have HNM := Lib.hid hs
  have HL := Lib.hid hl
  have HK := Lib.hid hK
  clear CR0 h hs hx hin hbs ha1 hs2 hso hT hl hK
  go_enter Tryz.func65, Tryz.ntmps65
  go_upto_region 4 with (go_at_call 68; refine CR.out.mono ?_; rintro e w1 ⟨v1, rfl, hr1, hd1, hst1⟩; obtain ⟨A, c, rfl, hnc, hc⟩ := own_form hr1; have R1 := Lib.hid (Row.own hr1); have HD1 := Lib.hid hd1; have HS1 := Lib.hid hst1; clear hr1 hd1 hst1)
  obtain ⟨b, o, rfl, hb, _⟩ := R1.out.2 (by decide)
  have HNC := Lib.hid hnc
  have HC := Lib.hid hc
  have hcm : c ≤ 9223372036854775807 := by unfold maxLen at hc; exact hc
  have hT1 : Turned w1 := turned_below HT.out HD1.out.below rfl
  have HT1 := Lib.hid hT1
  have CG := get_part R1.out hnc hc 8 12 4 (c - 8) (by omega) (by omega) rfl (by omega) rfl
  obtain ⟨L, hL⟩ : ∃ L, L = beN (Rec.part bs 8 12) := ⟨_, rfl⟩
  obtain ⟨T, hT'⟩ : ∃ T, T = beN (Rec.part bs 12 16) := ⟨_, rfl⟩
  have hL4 : L < 4294967296 := by rw [hL]; have := beN_lt 4 (Rec.part bs 8 12) (by rw [part_length bs 8 12 (by omega) (by rw [HL.out]; omega)]); omega
  rw [← hL] at CG
  have hsn : slotN bs = if 4080 < L then 0 else if T ≠ (Crc.sum (bs.take 12 ++ Rec.part bs 16 (16 + L))).toNat then 0 else 16 + L := by
    rw [hL, hT']
    conv => lhs; unfold slotN
    rw [if_neg (by rw [HL.out]; omega)]
    by_cases h1 : 4080 < beN (Rec.part bs 8 12)
    · rw [if_pos (.inl h1), if_pos h1]
    · rw [if_neg (by rw [HL.out]; omega), if_neg h1]
  have HSN := Lib.hid hsn
  have i8 : ¬ c = 8 := by omega
  have i12 : ¬ c = 12 := by omega
  have i16 : ¬ c = 16 := by omega
  have j12 : (12 : Int) ≤ (c : Int) := by omega
  have j16 : (16 : Int) ≤ (c : Int) := by omega
  have j8 : (8 : Int) ≤ (c : Int) := by omega
  have fin0 : Hid (slotN bs = 0 → Got own w0 w f nm s K d (slotOf bs) (.pointer none) w1) := fun e => by
    have e2 : slotOf bs = none := by unfold slotOf; rw [if_pos e]
    refine ⟨fun _ => ⟨rfl, HD1.out, HS1.out⟩, fun t b' e3 => ?_⟩
    rw [e2] at e3
    cases e3
  have HLL := Lib.hid hL
  have HTT := Lib.hid hT'
  clear hsn hnc hc hb hT1 hL hT'
  by_cases hbig : 4080 < L
  · have hbig' : (4080 : Int) < (L : Int) := by omega
    have e : slotN bs = 0 := by rw [HSN.out, if_pos hbig]
    have F0 := Lib.hid (fin0.out e)
    clear hbig e
    go_wp2_with (go_at_call 91; refine (CG.out _ rfl).mono ?_; rintro e w' ⟨rfl, hw'⟩; obtain rfl : w1 = w' := hw'.symm)
    go_ret
    exact ⟨_, rfl, F0.out⟩
  have hbig' : ¬ (4080 : Int) < (L : Int) := by omega
  have hsn : slotN bs = if T ≠ (Crc.sum (bs.take 12 ++ Rec.part bs 16 (16 + L))).toNat then 0 else 16 + L := by rw [HSN.out, if_neg hbig]
  have HSN2 := Lib.hid hsn
  have hLc : 16 + (L : Int) ≤ (c : Int) := by have := HNC.out; omega
  have hLs : 16 + L - 16 = L := by omega
  have hL80 : L ≤ 4080 := by omega
  have HL80 := Lib.hid hL80
  clear hsn hbig hL80
  go_upto_region 8 with (go_at_call 91; refine (CG.out _ rfl).mono ?_; rintro e w' ⟨rfl, hw'⟩; obtain rfl : w1 = w' := hw'.symm)
  have HRP : Hid (Row w1 w1.heap.size (some ⟨b, o + 16, none⟩) L (bvs (Rec.part bs 16 (16 + L)))) := by
    rcases Nat.eq_zero_or_pos L with h0 | h0
    · subst h0
      exact ⟨by simp [Rec.part, bvs], fun h => absurd h (by omega)⟩
    · have := row_part (k := 16) (m := 16 + L) R1.out (by omega) (by have := HL80.out; omega)
      rwa [hLs] at this
  have HRA : Hid (Row w1 w1.heap.size (some ⟨b, o, none⟩) 12 (bvs (bs.take 12))) := by
    have := R1.out.take (k := 12) (by omega)
    rw [bvs_take] at this
    exact this
  obtain ⟨S, hS⟩ : ∃ S, S = (Crc.sum (bs.take 12 ++ Rec.part bs 16 (16 + L))).toNat := ⟨_, rfl⟩
  have hS4 : S < 4294967296 := by rw [hS]; exact (Crc.sum _).isLt
  have C1 : Hid (∀ q, Calls Tryz.prog 76 #[.slice (some ⟨b, o, none⟩) 12 c, .slice (some ⟨b, o + 16, none⟩) L (c - 16)] (w1.drewN q) fun e w' => e = .returned (.int .u64 (S : Int)) ∧ ∃ m, w' = w1.drewN m) := by
    intro q
    refine (slotSum_any _ _ _ _ _ _ (bs.take 12) (Rec.part bs 16 (16 + L)) (w1.drewN q) HT1.out HRA.out HRP.out (by decide) (by have := HL80.out; unfold maxLen; omega)).mono ?_
    rintro e w' ⟨h1, h2⟩
    rw [← hS] at h1
    exact ⟨h1, q, h2⟩
  have C2 : Hid (∀ q, Calls Tryz.prog 91 #[.slice (some ⟨b, o + 12, none⟩) 4 (c - 12)] (w1.drewN q) fun e w' => e = .returned (.int .u64 (T : Int)) ∧ ∃ m, w' = w1.drewN m) := by
    intro q
    have := get_part R1.out HNC.out HC.out 12 16 4 (c - 12) (by omega) (by omega) rfl (by omega) rfl
    refine (this.out (w1.drewN q) rfl).mono ?_
    rintro e w' ⟨h1, h2⟩
    rw [← HTT.out] at h1
    exact ⟨h1, q, h2⟩
  have hsn : slotN bs = if T ≠ S then 0 else 16 + L := by rw [HSN2.out, hS]
  have HSN3 := Lib.hid hsn
  clear hS hsn CG fin0
  by_cases hst : T = S
  case neg =>
    have e : slotN bs = 0 := by rw [HSN3.out, if_pos hst]
    have e2 : slotOf bs = none := by unfold slotOf; rw [if_pos e]
    have HE := Lib.hid e2
    clear e e2
    have hd : ((T : Int) != (S : Int)) = true := bne_iff_ne.2 (by omega)
    go_quiet ((first | (go_at_call 76; with_reducible exact C1.out _) | (go_at_call 91; with_reducible exact C2.out _)))
    go_wp2_with fail
    go_ret
    have hb : Below w1.heap.size w1 (w1.drewN nq) := ⟨rfl, rfl, rfl, Nat.le_refl _, fun _ _ => rfl⟩
    rw [HE.out]
    exact ⟨_, rfl, ⟨fun _ => ⟨rfl, HD1.out.all hb, HS1.out.trans (Step.of_below HD1.out.top hb)⟩, fun t b' e3 => by cases e3⟩⟩
  have e : slotN bs = 16 + L := by rw [HSN3.out, if_neg (not_not_intro hst)]
  have e2 : slotOf bs = some (beN (Rec.part bs 0 8), Rec.part bs 16 (16 + L)) := by unfold slotOf; rw [if_neg (by rw [e]; omega), e]
  have HE := Lib.hid e2
  clear e e2
  have hd : ((T : Int) != (S : Int)) = false := by rw [hst]; simp
  go_quiet ((first | (go_at_call 76; with_reducible exact C1.out _) | (go_at_call 91; with_reducible exact C2.out _)))
  clear C1 C2 hd hst
  obtain ⟨w2, hw2⟩ : ∃ w2, w2 = w1.drewN nq := ⟨_, rfl⟩
  have hb12 : Below w1.heap.size w1 w2 := by rw [hw2]; exact ⟨rfl, rfl, rfl, Nat.le_refl _, fun _ _ => rfl⟩
  have HB12 := Lib.hid hb12
  rw [← hw2]
  obtain ⟨T0, hT0⟩ : ∃ T0, T0 = beN (Rec.part bs 0 8) := ⟨_, rfl⟩
  obtain ⟨tx, htx⟩ : ∃ tx, tx = Rec.part bs 16 (16 + L) := ⟨_, rfl⟩
  have CT : Hid (Calls Tryz.prog 91 #[.slice (some ⟨b, o, none⟩) 8 c] w2 fun e w' => e = .returned (.int .u64 (T0 : Int)) ∧ w2 = w') := by
    have := R1.out.below hb12
    have h8 := (this.take (k := 8) (by omega))
    rw [bvs_take] at h8
    refine (get_any _ _ _ _ _ w2 h8 (by omega) (by have := HNC.out; omega) HC.out).mono ?_
    rintro e w' ⟨h1, h2⟩
    have ep : bs.take 8 = Rec.part bs 0 8 := by unfold Rec.part; simp
    rw [ep, ← hT0] at h1
    exact ⟨h1, h2⟩
  rw [← htx] at HRP
  have HCV : Hid (∀ W, Below w2.heap.size w2 W → (convert 51 9 (.slice (some ⟨b, o + 16, none⟩) L (c - 16))).run Tryz.prog W = .ok (.string (str tx)) W) := fun W hb =>
    Disk.bytes_string (P := Tryz.prog) (c := c - 16) (dst := 9) Tryz.underlying51 Tryz.underlying5 Tryz.underlying9 ((HRP.out.below HB12.out).below (hb.mono HB12.out.size))
  have HD2 := Lib.hid (HD1.out.all hb12)
  have HS2 := Lib.hid (HS1.out.trans (Step.of_below HD1.out.top hb12))
  obtain ⟨M, hM⟩ : ∃ M, M = total (fun g => (d.fl g).soiled.length) d.N := ⟨_, rfl⟩
  obtain ⟨lb, hlb⟩ : ∃ lb, ((M : Int) == 0) = lb := ⟨_, rfl⟩
  have HLB : Hid (lb = decide (M = 0)) := by
    show _ = _
    rw [← hlb]
    by_cases h0 : M = 0
    · subst h0; rfl
    · rw [decide_eq_false h0]
      exact beq_eq_false_iff_ne.2 (by omega)
  have CD : Hid (∀ W, Below w2.heap.size w2 W → Calls Tryz.prog 92 #[.pointer (some ⟨f, 0, none⟩)] W fun e w' => e = .returned (.int .i64 (M : Int)) ∧ Below w2.heap.size w2 w') := fun W hb => by
    refine (dirty_held (HD2.out.all hb)).mono ?_
    rintro e w' ⟨he, _, hb2⟩
    rw [hM]
    exact ⟨he, hb.trans (hb2.mono hb.size)⟩
  have HMM := Lib.hid hM
  have HT00 := Lib.hid hT0
  have HTX := Lib.hid htx
  clear hw2 hb12 hT0 htx hM HRA HD1 HS1
  go_upto_region 11 with (go_at_call 91; refine CT.out.mono ?_; rintro e w' ⟨rfl, rfl⟩)
  have M0 := HCV.out w2.drew (Below.refl _ _).drew
  go_region_held (fun W => (convert 51 9 (.slice (some ⟨b, o + 16, none⟩) L (c - 16))).run Tryz.prog W = .ok (.string (str tx)) W) (with_reducible (first | exact M0 | exact M3 | exact HCV.out _ (HB3.out.alloc HB3.out.size _)))
    (first | (go_at_call 92; refine (CD.out _ (Below.refl _ _).drew).mono ?_; rintro e w3 ⟨rfl, hb3⟩; have HB3 := Lib.hid hb3; have M3 := HCV.out w3 hb3; clear hb3))
  go_wp2_with fail
  go_ret
  have HD3 := HD2.out.all HB3.out
  have hl := lies_new (own := own) (w := w3) ⟨f, w3.heap.size, nm, s, T0, tx, T0, lb⟩ HD3.disk.lt rfl _ rfl
  have HS3 := HS2.out.trans (Step.of_below HD2.out.top HB3.out)
  refine ⟨_, rfl, ⟨fun e3 => ?_, fun t b' e3 => ?_⟩⟩
  · rw [HE.out] at e3
    cases e3
  · rw [HE.out, ← HT00.out, ← HTX.out] at e3
    injection e3 with e3
    injection e3 with e4 e5
    subst e4 e5
    exact ⟨Seg.mark own w3.heap.size, w3.heap.size, lb, rfl, HS3.size, hl, by rw [← HMM.out]; exact HLB.out, held_made HD3 _, (Stp.of HS3).trans (Stp.made _)⟩
end Go.Proofs.YtcmlchicpmnhdaaGreatDoor.Slot
