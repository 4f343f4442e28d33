/-
  Texts one behind the other: ManMay.
-/
import Derived.Deep.QuietTactic
import Derived.BigQuiet
import Derived.StillTailTactics
import Derived.Test.YtcmlchicpmnhdaaGreatDoorG08
/-
  Proved: what maySegs, mayTenant and May of package manifest say.
-/
namespace Go.Proofs.YtcmlchicpmnhdaaGreatDoor.Man
open Go.RowKit Go.Proofs.YtcmlchicpmnhdaaGreatDoor.Rec Go.Proofs.YtcmlchicpmnhdaaGreatDoor.Ten
set_option linter.unusedVariables false
set_option linter.unusedSimpArgs false

/-- The segment ahead. -/
def lastOf (t : Te) (i : Nat) : Int := if i = 0 then 0 else t.segs.getD (i - 1) 0
theorem rises_next {t : Te} {i : Nat} (h : t.rises i) (h1 : lastOf t i < t.segs.getD i 0) (h2 : t.segs.getD i 0 < t.nextSeg) : t.rises (i + 1) := by
  refine t.rises_succ h ?_ h2 ?_
  · unfold lastOf at h1
    split at h1
    · omega
    · rename_i h0
      have := (h (i - 1) (by omega)).1
      omega
  · intro h0
    unfold lastOf at h1
    rw [if_neg (by omega)] at h1
    exact h1
theorem rises_last {t : Te} {n i : Nat} (h : t.rises n) (hi : i < n) : lastOf t i < t.segs.getD i 0 ∧ t.segs.getD i 0 < t.nextSeg := by
  obtain ⟨h1, h2, h3⟩ := h i hi
  refine ⟨?_, h2⟩
  unfold lastOf
  split
  · omega
  · exact h3 (by omega)
theorem last_next (t : Te) (i : Nat) : lastOf t (i + 1) = t.segs.getD i 0 := by
  unfold lastOf
  rw [if_neg (by omega), Nat.add_sub_cancel]
def maySegsB (t : Te) : Bool := decide (t.segs.length ≤ 60 ∧ ∀ k, k < t.segs.length → 1 ≤ t.segs.getD k 0 ∧ t.segs.getD k 0 < t.nextSeg ∧ (0 < k → t.segs.getD (k - 1) 0 < t.segs.getD k 0))
theorem maySegsB_true {t : Te} (h : t.segs.length ≤ 60) (hr : t.rises t.segs.length) : maySegsB t = true := decide_eq_true ⟨h, hr⟩
theorem maySegsB_false {t : Te} (h : ¬ (t.segs.length ≤ 60 ∧ t.rises t.segs.length)) : maySegsB t = false := decide_eq_false h
set_option maxRecDepth 100000 in
set_option maxHeartbeats 4000000 in
theorem maySegs_any (t : Te) (A : Option Addr) (c B : Nat) (w : World) (hR : Row w B A t.segs.length (ivs t.segs)) (hnc : t.segs.length ≤ c) (hc : c ≤ maxLen) :
    Calls Tryz.prog 74 #[.slice A t.segs.length c, .int .i64 t.nextSeg] w fun e w' => e = .returned (.bool (maySegsB t)) ∧ w = w' := by
  have hcm : c ≤ 9223372036854775807 := by unfold maxLen at hc; exact hc
  obtain ⟨n, hn⟩ : ∃ n, n = t.segs.length := ⟨_, rfl⟩
  have HB := Lib.hid hR.int
  rw [← hn] at HB hnc ⊢
  have HN := Lib.hid hn
  clear hR hc hn
  by_cases h60 : n ≤ 60
  · have h60' : ¬ (60 : Int) < (n : Int) := by omega
    go_enter Tryz.func74, Tryz.ntmps74
    go_wp2_with fail
    go_loopw [5, 13] (fun lv iv wr => ∃ (i : Nat) (z : Int), lv = .int .i64 z ∧ iv = .int .i64 (i : Int) ∧ i ≤ n ∧ w = wr ∧ Hid (z = lastOf t i) ∧ Hid (t.rises i)) (fun _ iv _ => n - (RowKit.intOf iv).toNat)
    case atStart => exact ⟨0, 0, rfl, rfl, Nat.zero_le _, rfl, Lib.hid rfl, Lib.hid (Te.rises_zero t)⟩
    case round =>
      obtain ⟨i, z, rfl, rfl, hi, rfl, HZ, HT⟩ := hrel
      by_cases hlt : i < n
      · have hlt' : (i : Int) < (n : Int) := by omega
        obtain ⟨b, o, rfl, _, hcs⟩ := HB.out (by omega)
        have hcell := hcs i hlt
        obtain ⟨s, hs⟩ : ∃ s, s = t.segs.getD i 0 := ⟨_, rfl⟩
        rw [← hs] at hcell
        have HS := Lib.hid hs
        clear hcs hs
        by_cases h1 : s ≤ z
        · have HF : Hid (maySegsB t = false) := Lib.hid (maySegsB_false fun h => by
            have := (rises_last h.2 (by rw [← HN.out]; exact hlt)).1
            rw [← HZ.out, ← HS.out] at this
            omega)
          go_wp2_with fail
          go_ret
          exact ⟨by rw [HF.out]; first | done | rfl, rfl⟩
        · by_cases h2 : t.nextSeg ≤ s
          · have HF : Hid (maySegsB t = false) := Lib.hid (maySegsB_false fun h => by
              have := (rises_last h.2 (by rw [← HN.out]; exact hlt)).2
              rw [← HS.out] at this
              omega)
            go_wp2_with fail
            go_ret
            exact ⟨by rw [HF.out]; first | done | rfl, rfl⟩
          · have HT2 : Hid (t.rises (i + 1)) := Lib.hid (rises_next HT.out (by rw [← HZ.out, ← HS.out]; omega) (by rw [← HS.out]; omega))
            have HZ2 : Hid (s = lastOf t (i + 1)) := Lib.hid (by rw [last_next]; exact HS.out)
            go_wp2_with fail
            go_roundw
            case rel => exact ⟨i + 1, s, rfl, by go_num, by omega, by first | rfl | trivial, HZ2, HT2⟩
            case measure => (simp [RowKit.intOf]; omega)
      · obtain rfl : i = n := by omega
        have HF : Hid (maySegsB t = true) := Lib.hid (maySegsB_true (by rw [← HN.out]; exact h60) (by rw [← HN.out]; exact HT.out))
        go_wp2_with fail
        go_ret
        exact ⟨by rw [HF.out]; first | done | rfl, rfl⟩
  · have h60' : (60 : Int) < (n : Int) := by omega
    have HF : Hid (maySegsB t = false) := Lib.hid (maySegsB_false fun h => by rw [← HN.out] at h; exact h60 h.1)
    go_enter Tryz.func74, Tryz.ntmps74
    go_wp2_with fail
    go_ret
    exact ⟨by rw [HF.out]; first | done | rfl, rfl⟩
def mayB (t : Te) : Bool := decide t.May
theorem mayB_iff (t : Te) : mayB t = true ↔ (1 ≤ t.epoch ∧ t.epoch ≤ 1099511627776 ∧ 1 ≤ t.next ∧ t.next ≤ 1099511627776 ∧ 1000 ≤ t.quota ∧ t.quota ≤ 65536 ∧ 1 ≤ t.nextSeg ∧ t.nextSeg ≤ 1099511627776 ∧ maySegsB t = true) := by
  unfold mayB maySegsB
  rw [decide_eq_true_iff, decide_eq_true_iff]
  unfold Te.May Te.nums Te.rises
  constructor
  · rintro ⟨⟨a, b, c, d, e, f, g, h, i⟩, j⟩
    exact ⟨a, b, c, d, e, f, g, h, i, j⟩
  · rintro ⟨a, b, c, d, e, f, g, h, i, j⟩
    exact ⟨⟨a, b, c, d, e, f, g, h, i⟩, j⟩
set_option maxRecDepth 100000 in
set_option maxHeartbeats 8000000 in
theorem mayTenant_any (x : Tv) (w : World) (B : Nat) (hok : x.te.Ok) (hin : x.In w B) (hB : B ≤ w.heap.size) :
    Calls Tryz.prog 42 #[.agg x.vals] w fun e w' => e = .returned (.bool (mayB x.te)) ∧ Below w.heap.size w w' := by
  obtain ⟨w0, hw0⟩ : ∃ w0, w0 = w.alloc (.cells x.vals 35) := ⟨_, rfl⟩
  have HB0 : Hid (Below w.heap.size w w0) := by rw [hw0]; exact below_alloc w _
  have X0 : TenAt w0 w.heap.size x := by rw [hw0]; exact ten_new w x
  obtain ⟨tb, htb⟩ : ∃ tb, tb = w.heap.size := ⟨_, rfl⟩
  rw [← htb] at X0
  obtain ⟨y0, y1, y2, y3, y4, y5⟩ := X0.cells
  have CS := Lib.hid (maySegs_any x.te x.A x.c B w0 ((hin.more (Nat.le_refl _)).row.keep fun b o hb => HB0.out.cell (p := ⟨b, o, none⟩) (by show b < _; omega)) hin.cap hin.most)
  obtain ⟨n, hn⟩ : ∃ n, n = x.te.segs.length := ⟨_, rfl⟩
  obtain ⟨ep, hep⟩ : ∃ z, z = x.te.epoch := ⟨_, rfl⟩
  obtain ⟨nx, hnx⟩ : ∃ z, z = x.te.next := ⟨_, rfl⟩
  obtain ⟨qu, hqu⟩ : ∃ z, z = x.te.quota := ⟨_, rfl⟩
  obtain ⟨ns, hns⟩ : ∃ z, z = x.te.nextSeg := ⟨_, rfl⟩
  have HI := Lib.hid (mayB_iff x.te)
  rw [← hep, ← hnx, ← hqu, ← hns] at HI
  rw [← hn] at y5 CS
  rw [← hep] at y1
  rw [← hqu] at y2
  rw [← hnx] at y3
  rw [← hns] at y4 CS
  obtain ⟨ms, hms⟩ : ∃ z, z = maySegsB x.te := ⟨_, rfl⟩
  rw [← hms] at CS HI
  obtain ⟨R, hR⟩ : ∃ z, z = mayB x.te := ⟨_, rfl⟩
  rw [← hR] at HI ⊢
  have HTB := Lib.hid htb
  clear hn hep hnx hqu hns X0 hok hin hB hR hms
  by_cases h0 : 1 ≤ ep
  · have i0 : (1 : Int) ≤ (ep : Int) := by omega
    skip
    by_cases h1 : ep ≤ 1099511627776
    · have i1 : (ep : Int) ≤ 1099511627776 := by omega
      skip
      by_cases h2 : 1 ≤ nx
      · have i2 : (1 : Int) ≤ (nx : Int) := by omega
        skip
        by_cases h3 : nx ≤ 1099511627776
        · have i3 : (nx : Int) ≤ 1099511627776 := by omega
          skip
          by_cases h4 : 1000 ≤ qu
          · skip
            by_cases h5 : qu ≤ 65536
            · skip
              by_cases h6 : 1 ≤ ns
              · skip
                by_cases h7 : ns ≤ 1099511627776
                · skip
                  cases ms with
                  | true =>
                    have HF : Hid (R = true) := Lib.hid (HI.out.2 ⟨h0, h1, h2, h3, h4, h5, h6, h7, rfl⟩)
                    clear h0 h1 h2 h3
                    go_enter Tryz.func42, Tryz.ntmps42
                    go_upto_region 1 with fail
                    rw [← hw0, ← HTB.out]
                    clear hw0 htb
                    go_wp2_with (go_at_call 74; (with_reducible refine CS.out.mono ?_); rintro e w' ⟨rfl, rfl⟩)
                    go_ret
                    exact ⟨by rw [HF.out]; first | done | rfl, by have := HTB.out; subst this; exact HB0.out⟩
                  | false =>
                    have HF : Hid (R = false) := by
                      have : R = false := by
                        cases hr : R with
                        | false => rfl
                        | true => exact absurd (HI.out.1 hr).2.2.2.2.2.2.2.2 (by simp)
                      exact Lib.hid this
                    clear h0 h1 h2 h3
                    go_enter Tryz.func42, Tryz.ntmps42
                    go_upto_region 1 with fail
                    rw [← hw0, ← HTB.out]
                    clear hw0 htb
                    go_wp2_with (go_at_call 74; (with_reducible refine CS.out.mono ?_); rintro e w' ⟨rfl, rfl⟩)
                    go_ret
                    exact ⟨by rw [HF.out]; first | done | rfl, by have := HTB.out; subst this; exact HB0.out⟩
                · have HF : Hid (R = false) := by
                    have : R = false := by
                      cases hr : R with
                      | false => rfl
                      | true => exact absurd (HI.out.1 hr).2.2.2.2.2.2.2.1 h7
                    exact Lib.hid this
                  clear h0 h1 h2 h3
                  go_enter Tryz.func42, Tryz.ntmps42
                  go_upto_region 1 with fail
                  rw [← hw0, ← HTB.out]
                  clear hw0 htb
                  go_wp2_with (go_at_call 74; (with_reducible refine CS.out.mono ?_); rintro e w' ⟨rfl, rfl⟩)
                  go_ret
                  exact ⟨by rw [HF.out]; first | done | rfl, by have := HTB.out; subst this; exact HB0.out⟩
              · have HF : Hid (R = false) := by
                  have : R = false := by
                    cases hr : R with
                    | false => rfl
                    | true => exact absurd (HI.out.1 hr).2.2.2.2.2.2.1 h6
                  exact Lib.hid this
                clear h0 h1 h2 h3
                go_enter Tryz.func42, Tryz.ntmps42
                go_upto_region 1 with fail
                rw [← hw0, ← HTB.out]
                clear hw0 htb
                go_wp2_with (go_at_call 74; (with_reducible refine CS.out.mono ?_); rintro e w' ⟨rfl, rfl⟩)
                go_ret
                exact ⟨by rw [HF.out]; first | done | rfl, by have := HTB.out; subst this; exact HB0.out⟩
            · have HF : Hid (R = false) := by
                have : R = false := by
                  cases hr : R with
                  | false => rfl
                  | true => exact absurd (HI.out.1 hr).2.2.2.2.2.1 h5
                exact Lib.hid this
              clear h0 h1 h2 h3
              go_enter Tryz.func42, Tryz.ntmps42
              go_upto_region 1 with fail
              rw [← hw0, ← HTB.out]
              clear hw0 htb
              go_wp2_with (go_at_call 74; (with_reducible refine CS.out.mono ?_); rintro e w' ⟨rfl, rfl⟩)
              go_ret
              exact ⟨by rw [HF.out]; first | done | rfl, by have := HTB.out; subst this; exact HB0.out⟩
          · have HF : Hid (R = false) := by
              have : R = false := by
                cases hr : R with
                | false => rfl
                | true => exact absurd (HI.out.1 hr).2.2.2.2.1 h4
              exact Lib.hid this
            clear h0 h1 h2 h3
            go_enter Tryz.func42, Tryz.ntmps42
            go_upto_region 1 with fail
            rw [← hw0, ← HTB.out]
            clear hw0 htb
            go_wp2_with (go_at_call 74; (with_reducible refine CS.out.mono ?_); rintro e w' ⟨rfl, rfl⟩)
            go_ret
            exact ⟨by rw [HF.out]; first | done | rfl, by have := HTB.out; subst this; exact HB0.out⟩
        · have HF : Hid (R = false) := by
            have : R = false := by
              cases hr : R with
              | false => rfl
              | true => exact absurd (HI.out.1 hr).2.2.2.1 h3
            exact Lib.hid this
          have i3 : ¬ (nx : Int) ≤ 1099511627776 := by omega
          clear h0 h1 h2 h3
          go_enter Tryz.func42, Tryz.ntmps42
          go_upto_region 1 with fail
          rw [← hw0, ← HTB.out]
          clear hw0 htb
          go_wp2_with (go_at_call 74; (with_reducible refine CS.out.mono ?_); rintro e w' ⟨rfl, rfl⟩)
          go_ret
          exact ⟨by rw [HF.out]; first | done | rfl, by have := HTB.out; subst this; exact HB0.out⟩
      · have HF : Hid (R = false) := by
          have : R = false := by
            cases hr : R with
            | false => rfl
            | true => exact absurd (HI.out.1 hr).2.2.1 h2
          exact Lib.hid this
        have i2 : ¬ (1 : Int) ≤ (nx : Int) := by omega
        clear h0 h1 h2
        go_enter Tryz.func42, Tryz.ntmps42
        go_upto_region 1 with fail
        rw [← hw0, ← HTB.out]
        clear hw0 htb
        go_wp2_with (go_at_call 74; (with_reducible refine CS.out.mono ?_); rintro e w' ⟨rfl, rfl⟩)
        go_ret
        exact ⟨by rw [HF.out]; first | done | rfl, by have := HTB.out; subst this; exact HB0.out⟩
    · have HF : Hid (R = false) := by
        have : R = false := by
          cases hr : R with
          | false => rfl
          | true => exact absurd (HI.out.1 hr).2.1 h1
        exact Lib.hid this
      have i1 : ¬ (ep : Int) ≤ 1099511627776 := by omega
      clear h0 h1
      go_enter Tryz.func42, Tryz.ntmps42
      go_upto_region 1 with fail
      rw [← hw0, ← HTB.out]
      clear hw0 htb
      go_wp2_with (go_at_call 74; (with_reducible refine CS.out.mono ?_); rintro e w' ⟨rfl, rfl⟩)
      go_ret
      exact ⟨by rw [HF.out]; first | done | rfl, by have := HTB.out; subst this; exact HB0.out⟩
  · have HF : Hid (R = false) := by
      have : R = false := by
        cases hr : R with
        | false => rfl
        | true => exact absurd (HI.out.1 hr).1 h0
      exact Lib.hid this
    have i0 : ¬ (1 : Int) ≤ (ep : Int) := by omega
    clear h0
    go_enter Tryz.func42, Tryz.ntmps42
    go_upto_region 1 with fail
    rw [← hw0, ← HTB.out]
    clear hw0 htb
    go_wp2_with (go_at_call 74; (with_reducible refine CS.out.mono ?_); rintro e w' ⟨rfl, rfl⟩)
    go_ret
    exact ⟨by rw [HF.out]; first | done | rfl, by have := HTB.out; subst this; exact HB0.out⟩
end Go.Proofs.YtcmlchicpmnhdaaGreatDoor.Man
