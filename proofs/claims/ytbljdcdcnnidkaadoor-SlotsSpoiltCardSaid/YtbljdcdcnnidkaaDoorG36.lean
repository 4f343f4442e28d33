/-
  Texts one behind the other: SlotSpoilt.
-/
import Derived.Deep.RegionHeld
import Derived.Test.YtbljdcdcnnidkaaDoorG05
import Derived.Test.YtbljdcdcnnidkaaDoorG33
import Derived.Test.YtbljdcdcnnidkaaDoorG35
/-
  Proved: SlotsSpoilt returns true, whatever it is handed: a byte of a slot that was changed.
-/
namespace Go.Proofs.YtbljdcdcnnidkaaDoor.Slot
open Go.RowKit Go.Proofs.YtbljdcdcnnidkaaDoor.Rec Go.Proofs.YtbljdcdcnnidkaaDoor.Disk
open Go.Proofs.YtbljdcdcnnidkaaDoor.Crc (Turned)
open Go.Proofs.YtbljdcdcnnidkaaDoor.Seg (Fr ptr mark_old mark_top free_fr)
set_option linter.unusedVariables false
set_option linter.unusedSimpArgs false

theorem Up.nothing {own : Own} {w0 w : World} {v : Sf} {x : Fl} {K : Nat} (h : Up own w0 w v x K) : ∀ b, b < w0.heap.size → own b = none := by
  obtain ⟨g, d, hs⟩ := h.ex
  exact hs.disk.free
theorem sg_read {own : Own} {w0 w : World} {v : Sf} {g : Nat} {x : Fl} {a : Option Nat} {K : Nat} {d : Dk} (at' : Nat) (h : SG own w0 w v g x a K d) (hin : at' < x.now.length) (hK : K + 1 ≤ 1073741824) :
    Calls Tryd.prog 20 #[.pointer (some ⟨v.f, 0, none⟩), .string v.nm, .int .i64 (at' : Int), .int .i64 1] w fun e w' => ∃ b o c, e = .returned (.tuple #[.slice (some ⟨b, o, none⟩) 1 c, .int .i64 0]) ∧ w'.cell? ⟨b, o, none⟩ = some (.int .u8 ((x.now.getD at' 0).toNat : Int)) ∧ (∃ d', SG own w0 w' v g x a (K + 1) d') ∧ Fr own own w w' := by
  refine (read_look v.nm at' 1 h.disk h.nm h.one.look (by omega) hK).mono ?_
  rintro e w' ⟨u, he, hr, hd, hst⟩
  obtain ⟨A, c, rfl, _, _⟩ := own_form hr
  obtain ⟨b, o, rfl, _, hc⟩ := (Row.own hr).2 (by decide)
  have e1 : (x.now.drop at').take 1 = [x.now.getD at' 0] := by
    rw [List.getD_eq_getElem?_getD, List.getElem?_eq_getElem hin, List.drop_eq_getElem_cons hin]
    rfl
  rw [e1] at hc
  exact ⟨b, o, c, he, hc 0 _ rfl, ⟨_, hd, h.one.read 1, h.arm, h.lies.stp (Stp.of hst) h.lies.ne, h.nm⟩, Fr.of_step hst⟩
theorem sg_write {own : Own} {w0 w : World} {v : Sf} {g : Nat} {x : Fl} {K : Nat} {d : Dk} (at' : Nat) (h : SG own w0 w v g x none K d) (c' : UInt8) (hin : at' < x.now.length) (hK : K + 1 ≤ 1073741824)
    {A : Option Addr} {c : Nat} (hR : Free own w A 1 (bvs [c'])) (hc : 1 ≤ c) (hcm : c ≤ maxLen) :
    Calls Tryd.prog 21 #[.pointer (some ⟨v.f, 0, none⟩), .string v.nm, .int .i64 (at' : Int), .slice A 1 c] w fun e w' => e = .returned (.int .i64 0) ∧ ∃ own' L d', SG own' w0 w' v g ⟨putAt x.now at' [c'], x.was, L⟩ none (K + 1) d' ∧ Fr own own' w w' := by
  have herr : d.err = 0 := Dk.err_arm (by rw [h.arm]; simp)
  refine (write_one v.nm at' h.disk h.one h.nm hK hR hc hcm (by omega)).mono ?_
  rintro e w' ⟨own', d', x', he, hd, hst, ho, ha, _, k2⟩
  obtain ⟨L, _, rfl⟩ := k2 herr
  rw [herr] at he
  exact ⟨he, own', L, d', ⟨hd, ho, by rw [ha, h.arm]; rfl, h.lies.stp (Stp.of hst) h.lies.ne, h.nm⟩, Fr.of_step hst⟩
/-- Save, and what it leaves. -/
theorem up_save_at {own : Own} {w0 w : World} {v : Sf} {x : Fl} {K : Nat} (hT : Turned w0) (h : Up own w0 w v x K) (hu : v.turn < 1099511627776) (hK : K + 2 ≤ 1073741824)
    {A : Option Addr} {n c : Nat} {b : List UInt8} (hR : Free own w A n (bvs b)) (hnc : n ≤ c) (hc : c ≤ maxLen) (hn : n ≤ 4080) :
    Calls Tryd.prog 12 #[.pointer (some ⟨v.sf, 0, none⟩), .slice A n c] w fun e w' => e = .returned (.int .i64 0) ∧ ∃ own' g d', SG own' w0 w' { v with slot := 1 - v.slot, turn := v.turn + 1, txt := b, used := v.turn + 1 } g ⟨putAt x.now (4096 * (1 - v.slot)) (slotFull (v.turn + 1) b), putAt x.now (4096 * (1 - v.slot)) (slotFull (v.turn + 1) b), []⟩ none (K + 2) d' ∧ Fr own own' w w' := by
  obtain ⟨g, d, hs⟩ := h.ex
  refine (save_any hT hs h.lasts (by rw [h.used]; exact hu) h.sides.two h.sides.len hR hnc hc hn hK).mono ?_
  rintro e w' ⟨er, he, own', d', v', x', a', hsv, hsg, hfr⟩
  cases hsv with
  | ok _ h0 h1 =>
    rw [h.used] at hsg
    exact ⟨he, own', g, d', hsg, hfr⟩
/-- The file behind two texts, of which bytes are changed. -/
def laid2 (a b : List UInt8) : List UInt8 := putAt (laidB a) 4096 (slotFull 2 b)
theorem laid2_length {a b : List UInt8} (ha : a.length ≤ 4080) (hb : b.length ≤ 4080) : (laid2 a b).length = 8192 := put_length (laidB_length ha) (s := 1) (by decide) (Nat.le_of_eq (slotFull_length hb))
theorem laid2_one {a b : List UInt8} (ha : a.length ≤ 4080) (hb : b.length ≤ 4080) : Begins (laid2 a b) 1 2 b := put_begins (laidB_length ha) (s := 1) (by decide)
theorem laid2_zero {a b : List UInt8} (ha : a.length ≤ 4080) (hb : b.length ≤ 4080) : Begins (laid2 a b) 0 1 a := put_keeps (laidB_length ha) ha (Nat.le_refl _) (by rw [slotFull_length hb]; decide) laid_begins
theorem at_slot (l : List UInt8) (s k : Nat) : (slotAt l s).getD k 0 = l.getD (4096 * s + k) 0 := by
  unfold slotAt
  rw [List.getD_eq_getElem?_getD, List.getD_eq_getElem?_getD, List.getElem?_drop]
theorem spoilt_one {a b : List UInt8} (ha : a.length ≤ 4080) (hb : b.length ≤ 4080) {k : Nat} (hk : k < 16 + b.length) (hn : ¬ (8 ≤ k ∧ k < 12)) {y : UInt8} (hy : y ≠ 0) :
    best (putAt (laid2 a b) (4096 + k) [(laid2 a b).getD (4096 + k) 0 ^^^ y]) = some (0, 1, a) := by
  have h1 := put_spoils (l := laid2 a b) (s := 1) (t := 2) (b := b) (k := k) (c := (laid2 a b).getD (4096 + k) 0 ^^^ y) (laid2_length ha hb) (by decide) hb hk (laid2_one ha hb) (by rw [at_slot]; exact xor_ne _ _ hy) hn
  have h0 := put_one_there (l := laid2 a b) (s := 1) (s' := 0) (k := k) (c := (laid2 a b).getD (4096 + k) 0 ^^^ y) (laid2_length ha hb) (by decide) (by decide) (by decide) (by omega)
  rw [(laid2_zero ha hb).tell ha (by decide)] at h0
  unfold best
  rw [show (4096 : Nat) + k = 4096 * 1 + k by omega, h0, h1]
theorem putOne_length {l : List UInt8} (hl : l.length = 8192) {k : Nat} (hk : k < 8192) (c : UInt8) : (putAt l k [c]).length = 8192 := by
  rw [putAt_length _ _ _ (by omega), hl]
  simp
  omega
theorem spoilt_both {a b : List UInt8} (ha : a.length ≤ 4080) (hb : b.length ≤ 4080) {k j : Nat} (hk : k < 16 + b.length) (hn : ¬ (8 ≤ k ∧ k < 12)) (hj : j < 16 + a.length) (hm : ¬ (8 ≤ j ∧ j < 12)) {y : UInt8} (hy : y ≠ 0) (c : UInt8) (l : List UInt8) (hl : l = putAt (laid2 a b) (4096 + k) [(laid2 a b).getD (4096 + k) 0 ^^^ y]) :
    best (putAt l j [l.getD j 0 ^^^ y]) = none := by
  have hll : l.length = 8192 := by rw [hl]; exact putOne_length (laid2_length ha hb) (by omega) _
  have h1 := put_spoils (l := laid2 a b) (s := 1) (t := 2) (b := b) (k := k) (c := (laid2 a b).getD (4096 + k) 0 ^^^ y) (laid2_length ha hb) (by decide) hb hk (laid2_one ha hb) (by rw [at_slot]; exact xor_ne _ _ hy) hn
  rw [show (4096 : Nat) * 1 + k = 4096 + k by omega, ← hl] at h1
  have hb0 : Begins l 0 1 a := by
    rw [hl]
    exact put_keeps (laid2_length ha hb) ha (by omega) (by simp; omega) (laid2_zero ha hb)
  have h2 := put_spoils (l := l) (s := 0) (t := 1) (b := a) (k := j) (c := l.getD j 0 ^^^ y) hll (by decide) ha hj hb0 (by rw [at_slot, Nat.mul_zero, Nat.zero_add]; exact xor_ne _ _ hy) hm
  have h3 := put_one_there (l := l) (s := 0) (s' := 1) (k := j) (c := l.getD j 0 ^^^ y) hll (by decide) (by decide) (by decide) (by omega)
  rw [Nat.mul_zero, Nat.zero_add] at h2 h3
  unfold best
  rw [h2, h3, h1]
set_option maxRecDepth 100000 in
set_option maxHeartbeats 8000000 in
theorem slotsSpoilt_walk (A0 : Option Addr) (l0 c0 : Nat) (a0 : List UInt8) (A1 : Option Addr) (l1 c1 : Nat) (b0 : List UInt8) (z X : Int) (bth : Bool) (w : World) (hT : Turned w) (h0 : Row w w.heap.size A0 l0 (bvs a0)) (hc0 : l0 ≤ c0) (hm0 : c0 ≤ maxLen) (h1 : Row w w.heap.size A1 l1 (bvs b0)) (hc1 : l1 ≤ c1) (hm1 : c1 ≤ maxLen)
    (hz : -9223372036854775808 ≤ z ∧ z ≤ 9223372036854775807) (hX : (Lit.int .u8 X).wf = true) :
    Calls Tryd.prog 6 #[.slice A0 l0 c0, .slice A1 l1 c1, .int .i64 z, .int .u8 X, .bool bth] w fun e w' => e = .returned (.bool true) ∧ Below w.heap.size w w' := by
  have HT := Lib.hid hT
  have HBEG := Lib.hid (slotbegun_any w hT)
  have hXb := bounds_u8 hX
  obtain ⟨y, hy⟩ : ∃ y : UInt8, (y.toNat : Int) = X := ⟨UInt8.ofNat X.toNat, by rw [UInt8.toNat_ofNat', Nat.mod_eq_of_lt (by omega)]; omega⟩
  have CS0 : Hid (∀ W, Calls Tryd.prog 11 #[.slice A0 l0 c0, .int .i64 100] W fun e w' => e = .returned (.slice A0 (min l0 100) c0) ∧ W = w') := fun W => Com.short_any A0 l0 c0 100 W hc0 hm0
  have CS1 : Hid (∀ W, Calls Tryd.prog 11 #[.slice A1 l1 c1, .int .i64 100] W fun e w' => e = .returned (.slice A1 (min l1 100) c1) ∧ W = w') := fun W => Com.short_any A1 l1 c1 100 W hc1 hm1
  obtain ⟨a, ha⟩ : ∃ a, a = a0.take 100 := ⟨_, rfl⟩
  obtain ⟨b, hb⟩ : ∃ b, b = b0.take 100 := ⟨_, rfl⟩
  have hra : Row w w.heap.size A0 (min l0 100) (bvs a) := by rw [ha]; exact Com.short_row (Below.refl _ _) h0
  have hrb : Row w w.heap.size A1 (min l1 100) (bvs b) := by rw [hb]; exact Com.short_row (Below.refl _ _) h1
  obtain ⟨na, hna⟩ : ∃ na, na = min l0 100 := ⟨_, rfl⟩
  obtain ⟨nb, hnb⟩ : ∃ nb, nb = min l1 100 := ⟨_, rfl⟩
  rw [← hna] at hra CS0
  rw [← hnb] at hrb CS1
  have HN : Hid (na ≤ 100 ∧ nb ≤ 100 ∧ a.length = na ∧ b.length = nb ∧ na ≤ c0 ∧ nb ≤ c1) := ⟨by omega, by omega, hra.size, hrb.size, by omega, by omega⟩
  have HM : Hid (c0 ≤ maxLen ∧ c1 ≤ maxLen) := ⟨hm0, hm1⟩
  have HRA := Lib.hid hra
  have HRB := Lib.hid hrb
  subst hy
  clear hT h0 hc0 hm0 h1 hc1 hm1 hX hXb ha hb hra hrb hna hnb
  go_enter Tryd.func6, Tryd.ntmps6
  go_upto_region 5 with (first
    | (go_at_call 8; refine HBEG.out.mono ?_; rintro e w1 ⟨rfl, hb1⟩; have HB1 := Lib.hid hb1; clear hb1)
    | (go_at_call 11; with_reducible refine (CS0.out w1).mono ?_; rintro e w' ⟨rfl, rfl⟩)
    | (go_at_call 11; with_reducible refine (CS1.out w1).mono ?_; rintro e w' ⟨rfl, rfl⟩))
  by_cases hneg : z < 0
  · go_wp2_with fail
    go_ret
    exact ⟨rfl, HB1.out⟩
  by_cases hy0 : y = 0
  · subst hy0
    have hz' : 0 ≤ z := by omega
    go_wp2_with fail
    go_ret
    exact ⟨rfl, HB1.out⟩
  have hy1 : ((y.toNat : Int) == 0) = false := beq_eq_false_iff_ne.2 (fun e => hy0 (UInt8.toNat_inj.1 (by have h9 : y.toNat = 0 := (by omega); exact h9.trans rfl)))
  obtain ⟨Z, rfl⟩ : ∃ Z : Nat, z = Z := ⟨z.toNat, by omega⟩
  have HY0 := Lib.hid hy0
  have CN := Lib.hid (new_held 100000 w1)
  rw [show room 100000 = 100000 by decide] at CN
  have HT1 := Lib.hid (turned_below HT.out HB1.out rfl)
  have hy8 := y.toNat_lt
  have hzn : ¬ (Z : Int) < 0 := by omega
  have HY8 := Lib.hid hy8
  clear hneg hy0 CS0 CS1 hy8
  go_upto_region 8 with (go_at_call 9; refine CN.out.mono ?_; rintro e w2 ⟨own2, f, rfl, hd2⟩)
  have CC : Hid (Calls Tryd.prog 10 #[.pointer (some ⟨f, 0, none⟩), .string ⟨#[65]⟩, .slice A0 na c0] w2 fun e w' => ∃ sf, e = .returned (.tuple #[.pointer (some ⟨sf, 0, none⟩), .int .i64 0]) ∧ ∃ own', Up own' w1 w' ⟨f, sf, sA, 0, 1, a, 1, true⟩ ⟨laidB a, laidB a, []⟩ 5 ∧ Stp own2 own' f w2 w') :=
    up_create sA HT1.out hd2 (new_bare _) (new_arm _) (by decide) (by decide) (by decide) (by decide) (by decide) (free_of hd2.top hd2.below HB1.out ⟨fun q hq => hd2.free q (Nat.lt_of_lt_of_le hq HB1.out.size), HRA.out⟩) HN.out.2.2.2.2.1 HM.out.1 (Nat.le_trans HN.out.1 (by decide))
  clear hd2 CN
  go_upto_region 9 with (go_at_call 10; refine CC.out.mono ?_; rintro e w3 ⟨sf, rfl, own3, hu3, _⟩)
  have hla : a.length ≤ 4080 := by have := HN.out.2.2.1; have := HN.out.1; omega
  have hlb : b.length ≤ 4080 := by have := HN.out.2.2.2.1; have := HN.out.2.1; omega
  have HLA := Lib.hid hla
  have HLB := Lib.hid hlb
  have HL2 : Hid ((laid2 a b).length = 8192) := laid2_length hla hlb
  have CS : Hid (Calls Tryd.prog 12 #[.pointer (some ⟨sf, 0, none⟩), .slice A1 nb c1] w3 fun e w' => e = .returned (.int .i64 0) ∧ ∃ own' g d', SG own' w1 w' ⟨f, sf, sA, 1, 2, b, 2, true⟩ g ⟨laid2 a b, laid2 a b, []⟩ none 7 d') := by
    have h := up_save_at HT1.out hu3 (by show (1 : Nat) < 1099511627776; decide) (by decide) (free_of hu3.top hu3.below HB1.out ⟨fun q hq => hu3.nothing q (Nat.lt_of_lt_of_le hq HB1.out.size), HRB.out⟩) HN.out.2.2.2.2.2 HM.out.2 (Nat.le_trans HN.out.2.1 (by decide))
    exact h.mono fun e w' ⟨h1, o, g, d, h2, _⟩ => ⟨h1, o, g, d, h2⟩
  clear hu3 CC hla hlb
  go_upto_region 11 with (go_at_call 12; refine CS.out.mono ?_; rintro e w4 ⟨rfl, own4, g4, d4, hs4⟩; have HS4 := Lib.hid hs4; clear hs4)
  obtain ⟨k, hk⟩ : ∃ k, k = Z % (16 + nb) := ⟨_, rfl⟩
  obtain ⟨j, hj⟩ : ∃ j, j = Z % (16 + na) := ⟨_, rfl⟩
  have hkl : k < 16 + nb := by rw [hk]; exact Nat.mod_lt _ (by omega)
  have hjl : j < 16 + na := by rw [hj]; exact Nat.mod_lt _ (by omega)
  have hr1 : (Z : Int) % (16 + (nb : Int)) = (k : Int) := by rw [hk, Int.natCast_emod]; rfl
  have hr2 : (Z : Int).tmod (16 + (nb : Int)) = (k : Int) := by rw [hk, Int.tmod_eq_emod_of_nonneg (by omega), Int.natCast_emod]; rfl
  have hr3 : (Z : Int) % (16 + (na : Int)) = (j : Int) := by rw [hj, Int.natCast_emod]; rfl
  have hr4 : (Z : Int).tmod (16 + (na : Int)) = (j : Int) := by rw [hj, Int.tmod_eq_emod_of_nonneg (by omega), Int.natCast_emod]; rfl
  have hl1 : ((16 + (nb : Int)) == 0) = false := beq_eq_false_iff_ne.2 (by omega)
  have hl2 : ((16 + (na : Int)) == 0) = false := beq_eq_false_iff_ne.2 (by omega)
  have HKL : Hid (k < 16 + b.length) := by have := HN.out.2.2.2.1; show k < 16 + b.length; omega
  have HJL : Hid (j < 16 + a.length) := by have := HN.out.2.2.1; show j < 16 + a.length; omega
  have HKK : Hid (k < 116 ∧ j < 116) := by have := HN.out.1; have := HN.out.2.1; constructor <;> omega
  have hna : na ≤ 100 := HN.out.1
  have hnb : nb ≤ 100 := HN.out.2.1
  clear hk hj hkl hjl CS
  go_upto_region 13 with fail
  clear hr1 hr2 hr3 hr4 hl1 hl2 hna hnb
  obtain ⟨t, ht⟩ : ∃ t, t = decide ((8 ≤ k ∧ k < 12) ∨ (bth = true ∧ 8 ≤ j ∧ j < 12)) := ⟨_, rfl⟩
  have HTT := Lib.hid ht
  clear ht
  go_cut [73] (fun v w' => v = .bool t ∧ w4 = w')
  case first =>
    by_cases hin : 8 ≤ k ∧ k < 12
    · have e1 : (8 : Int) ≤ (k : Int) := by omega
      have e2 : (k : Int) < 12 := by omega
      have HT0 : Hid (t = true) := by rw [HTT.out]; exact decide_eq_true (.inl hin)
      clear hin
      cases bth
      · go_wp2_with fail
        go_meet
        case rel => exact ⟨by rw [HT0.out], rfl⟩
      · go_wp2_with fail
        go_meet
        case rel => exact ⟨by rw [HT0.out], rfl⟩
    have HIN := Lib.hid hin
    by_cases hb : bth = true ∧ 8 ≤ j ∧ j < 12
    · obtain ⟨rfl, j1, j2⟩ := hb
      have e1 : (8 : Int) ≤ (j : Int) := by omega
      have e2 : (j : Int) < 12 := by omega
      have HT0 : Hid (t = true) := by rw [HTT.out]; exact decide_eq_true (.inr ⟨rfl, j1, j2⟩)
      clear j1 j2
      by_cases e3 : (8 : Int) ≤ (k : Int)
      · have e4 : ¬ (k : Int) < 12 := by omega
        clear hin
        go_wp2_with fail
        go_meet
        case rel => exact ⟨by rw [HT0.out], rfl⟩
      · clear hin
        go_wp2_with fail
        go_meet
        case rel => exact ⟨by rw [HT0.out], rfl⟩
    have HT0 : Hid (t = false) := by rw [HTT.out]; exact decide_eq_false (fun h => by rcases h with h | h; exact HIN.out h; exact hb h)
    cases bth with
    | false =>
      clear hb
      by_cases e3 : (8 : Int) ≤ (k : Int)
      · have e4 : ¬ (k : Int) < 12 := by omega
        clear hin
        go_wp2_with fail
        go_meet
        case rel => exact ⟨by rw [HT0.out], rfl⟩
      · clear hin
        go_wp2_with fail
        go_meet
        case rel => exact ⟨by rw [HT0.out], rfl⟩
    | true =>
      have hb' : ¬ (8 ≤ j ∧ j < 12) := fun h => hb ⟨rfl, h⟩
      clear hb
      by_cases e3 : (8 : Int) ≤ (k : Int)
      · have e4 : ¬ (k : Int) < 12 := by omega
        clear hin
        by_cases e5 : (8 : Int) ≤ (j : Int)
        · have e6 : ¬ (j : Int) < 12 := by omega
          clear hb'
          go_wp2_with fail
          go_meet
          case rel => exact ⟨by rw [HT0.out], rfl⟩
        · clear hb'
          go_wp2_with fail
          go_meet
          case rel => exact ⟨by rw [HT0.out], rfl⟩
      · clear hin
        by_cases e5 : (8 : Int) ≤ (j : Int)
        · have e6 : ¬ (j : Int) < 12 := by omega
          clear hb'
          go_wp2_with fail
          go_meet
          case rel => exact ⟨by rw [HT0.out], rfl⟩
        · clear hb'
          go_wp2_with fail
          go_meet
          case rel => exact ⟨by rw [HT0.out], rfl⟩
  case rest =>
  obtain ⟨rfl, rfl⟩ := hcut
  cases t with
  | true =>
    have HB4 : Hid (Below w.heap.size w w4) := HB1.out.trans (HS4.out.disk.below.mono HB1.out.size)
    go_wp2_with fail
    go_ret
    exact ⟨rfl, HB4.out⟩
  | false =>
  have hno := of_decide_eq_false HTT.out.symm
  have HKN : Hid (¬ (8 ≤ k ∧ k < 12)) := fun h => hno (.inl h)
  have HJN : Hid (bth = true → ¬ (8 ≤ j ∧ j < 12)) := fun hb h => hno (.inr ⟨hb, h⟩)
  clear hno HTT
  obtain ⟨q, hq⟩ : ∃ q, q = (laid2 a b).getD (4096 + k) 0 := ⟨_, rfl⟩
  have ek : (4096 : Int) + (k : Int) = ((4096 + k : Nat) : Int) := by omega
  have CRD : Hid (Calls Tryd.prog 20 #[.pointer (some ⟨f, 0, none⟩), .string ⟨#[65]⟩, .int .i64 (4096 + (k : Int)), .int .i64 1] w4 fun e w' => ∃ bb o c, e = .returned (.tuple #[.slice (some ⟨bb, o, none⟩) 1 c, .int .i64 0]) ∧ w'.cell? ⟨bb, o, none⟩ = some (.int .u8 (q.toNat : Int)) ∧ (∃ d', SG own4 w1 w' ⟨f, sf, sA, 1, 2, b, 2, true⟩ g4 ⟨laid2 a b, laid2 a b, []⟩ none 8 d') ∧ Fr own4 own4 w4 w') := by
    rw [ek, hq]
    exact sg_read (4096 + k) HS4.out (by show 4096 + k < (laid2 a b).length; rw [HL2.out]; have := HKK.out.1; omega) (by decide)
  have hk116 : (k : Int) < 116 := by have := HKK.out.1; omega
  have hj116 : (j : Int) < 116 := by have := HKK.out.2; omega
  have hqy := xor_u8 q y
  obtain ⟨q2, hq2⟩ : ∃ q2, q2 = q ^^^ y := ⟨_, rfl⟩
  rw [← hq2] at hqy
  have HQ : Hid (q2 = (laid2 a b).getD (4096 + k) 0 ^^^ y) := by rw [hq2, hq]; rfl
  clear hq hq2 ek
  go_upto_region 18 with (go_at_call 20; refine CRD.out.mono ?_; rintro e w5 ⟨bb, o, cc, rfl, yc, ⟨d5, hs5⟩, _⟩)
  have CW : Hid (Calls Tryd.prog 21 #[.pointer (some ⟨f, 0, none⟩), .string ⟨#[65]⟩, .int .i64 (4096 + (k : Int)), .slice (some ⟨w5.heap.size, 0, none⟩) 1 1] (w5.alloc (.cells #[.int .u8 (q2.toNat : Int)] 5)) fun e w' => e = .returned (.int .i64 0) ∧ ∃ own' L d', SG own' w1 w' ⟨f, sf, sA, 1, 2, b, 2, true⟩ g4 ⟨putAt (laid2 a b) (4096 + k) [q2], laid2 a b, L⟩ none 9 d') := by
    rw [show (4096 : Int) + (k : Int) = ((4096 + k : Nat) : Int) by omega]
    have h := sg_write (c := 1) (4096 + k) (hs5.all (below_alloc w5 _)) q2 (by show 4096 + k < (laid2 a b).length; rw [HL2.out]; have := HKK.out.1; omega) (by decide) (lit_free hs5.top [q2] 1 rfl _ rfl (0, 0)) (by decide) (by decide)
    exact h.mono fun e w' ⟨h1, o, L, d, h2, _⟩ => ⟨h1, o, L, d, h2⟩
  clear hs5 CRD
  obtain ⟨l1, hl1⟩ : ∃ l1, l1 = putAt (laid2 a b) (4096 + k) [q2] := ⟨_, rfl⟩
  rw [← hl1] at CW
  have HL1 : Hid (l1.length = 8192) := by rw [hl1]; exact putOne_length HL2.out (by have := HKK.out.1; omega) _
  have HLE := Lib.hid hl1
  clear hl1
  go_upto_region 19 with (go_at_call 21; refine CW.out.mono ?_; rintro e w6 ⟨rfl, own6, L6, d6, hs6⟩; have HS6 := Lib.hid hs6; clear hs6)
  clear CW yc hqy
  cases bth with
  | false =>
    have hbest : best l1 = some (0, 1, a) := by rw [HLE.out, HQ.out]; exact spoilt_one HLA.out HLB.out HKL.out HKN.out HY0.out
    have CO : Hid (Calls Tryd.prog 14 #[.pointer (some ⟨f, 0, none⟩), .string ⟨#[65]⟩] w6 fun e w' => ∃ sf own', e = .returned (.tuple #[.pointer (some ⟨sf, 0, none⟩), .int .i64 0]) ∧ w6.heap.size ≤ sf ∧ Lies own' w' ⟨f, sf, sA, 0, 1, a, 1, Dk.clean d6⟩ ∧ (∃ d', Like d6 d' ∧ Held own' w1 w' f d' (9 + 2)) ∧ Stp own6 own' f w6 w') := open_tells sA HT1.out HS6.out.disk (by decide) HS6.out.one.look HL1.out (by decide) hbest
    clear hbest
    go_upto_region 25 with (go_at_call 14; refine CO.out.mono ?_; rintro e w7 ⟨sf7, own7, rfl, _, hl7, hh7, hs7⟩)
    have HL7 := Lib.hid hl7
    have HB7 : Hid (Below w.heap.size w w7) := by
      obtain ⟨d', _, hd'⟩ := hh7
      exact HB1.out.trans (hd'.below.mono HB1.out.size)
    clear hl7 hh7 hs7 CO
    have CT : Hid (∀ W, Below w7.heap.size w7 W → Calls Tryd.prog 15 #[.pointer (some ⟨sf7, 0, none⟩)] W fun e w' => ∃ A c, e = .returned (.slice A a.length c) ∧ Hid (Row w' w'.heap.size A a.length (bvs a)) ∧ Hid (Below w7.heap.size w7 w')) := fun W hb => (text_any (HL7.out.all hb)).mono fun e w' ⟨A, c, he, hr, hb2⟩ => ⟨A, c, he, hr, hb.trans (hb2.out.mono hb.size)⟩
    have CTU : Hid (∀ W, Below w7.heap.size w7 W → Calls Tryd.prog 16 #[.pointer (some ⟨sf7, 0, none⟩)] W fun e w' => e = .returned (.int .u64 1) ∧ W = w') := fun W hb => (turn_any (HL7.out.all hb)).mono fun e w' ⟨h1, h2⟩ => ⟨h1, h2.symm⟩
    obtain ⟨NN, hNN⟩ : ∃ NN, NN = a.length := ⟨_, rfl⟩
    rw [← hNN] at CT
    clear hNN
    have HCV : Hid (∀ W, Below w7.heap.size w7 W → (convert 33 9 (.slice A0 na c0)).run Tryd.prog W = .ok (.string (str a)) W) := fun W hb => Disk.bytes_string (P := Tryd.prog) (c := c0) (dst := 9) Tryd.underlying33 Tryd.underlying5 Tryd.underlying9 ((HRA.out.below HB7.out).below (hb.mono HB7.out.size))
    have M0 := HCV.out w7.drew (Below.refl _ _).drew
    go_region_held (fun W => (convert 33 9 (.slice A0 na c0)).run Tryd.prog W = .ok (.string (str a)) W) (with_reducible (first | exact M0 | exact M8))
      (first
       | (go_at_call 15; refine (CT.out _ (Below.refl _ _).drew).mono ?_; rintro e w8 ⟨A8, c8, rfl, R8, B8⟩
          have M8 := HCV.out w8 B8.out
          have cs8 : ∀ c, (convert 33 9 (.slice A8 NN c)).run Tryd.prog w8 = .ok (.string (str a)) w8 := fun c => Disk.bytes_string (P := Tryd.prog) (c := c) (dst := 9) Tryd.underlying33 Tryd.underlying5 Tryd.underlying9 R8.out)
       | (go_at_call 16; refine (CTU.out _ B8.out).mono ?_; rintro e w' ⟨rfl, rfl⟩))
    all_goals
      go_wp2_with fail
      go_ret
      exact ⟨rfl, HB7.out.trans (B8.out.mono HB7.out.size)⟩
  | true =>
    obtain ⟨q, hq⟩ : ∃ q, q = l1.getD j 0 := ⟨_, rfl⟩
    have CRD : Hid (Calls Tryd.prog 20 #[.pointer (some ⟨f, 0, none⟩), .string ⟨#[65]⟩, .int .i64 (j : Int), .int .i64 1] w6 fun e w' => ∃ bb o c, e = .returned (.tuple #[.slice (some ⟨bb, o, none⟩) 1 c, .int .i64 0]) ∧ w'.cell? ⟨bb, o, none⟩ = some (.int .u8 (q.toNat : Int)) ∧ (∃ d', SG own6 w1 w' ⟨f, sf, sA, 1, 2, b, 2, true⟩ g4 ⟨l1, laid2 a b, L6⟩ none 10 d') ∧ Fr own6 own6 w6 w') := by
      rw [hq]
      exact sg_read j HS6.out (by show j < l1.length; rw [HL1.out]; have := HKK.out.2; omega) (by decide)
    have hqy := xor_u8 q y
    obtain ⟨q3, hq3⟩ : ∃ q3, q3 = q ^^^ y := ⟨_, rfl⟩
    rw [← hq3] at hqy
    have HQ3 : Hid (q3 = l1.getD j 0 ^^^ y) := by rw [hq3, hq]; rfl
    clear hq hq3
    go_upto_region 21 with (go_at_call 20; refine CRD.out.mono ?_; rintro e w7 ⟨bb, o, cc, rfl, yc, ⟨d7, hs7⟩, _⟩)
    have CW : Hid (Calls Tryd.prog 21 #[.pointer (some ⟨f, 0, none⟩), .string ⟨#[65]⟩, .int .i64 (j : Int), .slice (some ⟨w7.heap.size, 0, none⟩) 1 1] (w7.alloc (.cells #[.int .u8 (q3.toNat : Int)] 5)) fun e w' => e = .returned (.int .i64 0) ∧ ∃ own' L d', SG own' w1 w' ⟨f, sf, sA, 1, 2, b, 2, true⟩ g4 ⟨putAt l1 j [q3], laid2 a b, L⟩ none 11 d') := by
      have h := sg_write (c := 1) j (hs7.all (below_alloc w7 _)) q3 (by show j < l1.length; rw [HL1.out]; have := HKK.out.2; omega) (by decide) (lit_free hs7.top [q3] 1 rfl _ rfl (0, 0)) (by decide) (by decide)
      exact h.mono fun e w' ⟨h1, o, L, d, h2, _⟩ => ⟨h1, o, L, d, h2⟩
    clear hs7 CRD
    have hbest : best (putAt l1 j [q3]) = none := by rw [HQ3.out]; exact spoilt_both HLA.out HLB.out HKL.out HKN.out HJL.out (HJN.out (by first | rfl | trivial)) HY0.out 0 l1 (by rw [HLE.out, HQ.out])
    have hlen : (putAt l1 j [q3]).length = 8192 := putOne_length HL1.out (by have := HKK.out.2; omega) _
    have HBE := Lib.hid hbest
    have HLN := Lib.hid hlen
    clear hbest hlen
    go_upto_region 22 with (go_at_call 21; refine CW.out.mono ?_; rintro e w8 ⟨rfl, own8, L8, d8, hs8⟩; have HS8 := Lib.hid hs8; clear hs8)
    clear CW yc hqy
    have CO : Hid (Calls Tryd.prog 14 #[.pointer (some ⟨f, 0, none⟩), .string ⟨#[65]⟩] w8 fun e w' => ∃ own', e = .returned (.tuple #[.pointer none, .int .i64 4]) ∧ (∃ d', Like d8 d' ∧ Held own' w1 w' f d' (11 + 2)) ∧ Stp own8 own' f w8 w') := open_corrupt sA HT1.out HS8.out.disk (by decide) HS8.out.one.look HLN.out (by decide) HBE.out
    go_wp2_with (go_at_call 14; refine CO.out.mono ?_; rintro e w9 ⟨own9, rfl, hh9, _⟩
                 have HB9 : Hid (Below w.heap.size w w9) := by
                   obtain ⟨d', _, hd'⟩ := hh9
                   exact HB1.out.trans (hd'.below.mono HB1.out.size)
                 clear hh9)
    go_ret
    exact ⟨rfl, HB9.out⟩
end Go.Proofs.YtbljdcdcnnidkaaDoor.Slot
