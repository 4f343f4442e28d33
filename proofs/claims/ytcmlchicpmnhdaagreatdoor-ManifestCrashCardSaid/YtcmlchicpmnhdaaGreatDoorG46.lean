/-
  Texts one behind the other: ManRefMay.
-/
import Derived.Test.YtcmlchicpmnhdaaGreatDoorG10
import Derived.Test.YtcmlchicpmnhdaaGreatDoorG13
/-
  Proved: what MayTenants of the reference says: just what May of the document asks.
-/
namespace Go.Proofs.YtcmlchicpmnhdaaGreatDoor.Man
open Go.RowKit Go.Proofs.YtcmlchicpmnhdaaGreatDoor.Rec Go.Proofs.YtcmlchicpmnhdaaGreatDoor.Ten
set_option linter.unusedVariables false
set_option linter.unusedSimpArgs false

set_option maxRecDepth 100000 in
set_option maxHeartbeats 16000000 in
theorem maytens_any (A : Option Addr) (n c : Nat) (l : List Tv) (w : World) (hR : Tens w w.heap.size A n l) (hnc : n ≤ c) (hc : c ≤ maxLen) :
    Calls Tryz.prog 10 #[.slice A n c] w fun e w' => e = .returned (.bool (mayAllB (l.map Tv.te))) ∧ Below w.heap.size w w' := by
  have hcm : c ≤ 9223372036854775807 := by unfold maxLen at hc; exact hc
  have HR := Lib.hid hR
  have HL : Hid ((l.map Tv.te).length = n) := Lib.hid (by rw [List.length_map]; exact hR.len)
  obtain ⟨R, hRR⟩ : ∃ R, R = mayAllB (l.map Tv.te) := ⟨_, rfl⟩
  have HRR := Lib.hid hRR
  rw [← hRR]
  have HNO : Hid (¬ May (l.map Tv.te) → R = false) := Lib.hid fun h => by rw [hRR]; exact decide_eq_false h
  clear hR hc hRR
  by_cases h6 : n ≤ 6
  case neg =>
    have h6' : (6 : Int) < (n : Int) := by omega
    have HF : Hid (R = false) := Lib.hid (HNO.out fun h => h6 (by have := h.1; rw [HL.out] at this; exact this))
    go_enter Tryz.func10, Tryz.ntmps10
    go_wp2_with fail
    go_ret
    exact ⟨by rw [HF.out]; first | done | rfl, Below.refl _ _⟩
  have h6' : ¬ (6 : Int) < (n : Int) := by omega
  go_enter Tryz.func10, Tryz.ntmps10
  go_wp2_with fail
  go_loopw [3] (fun iv wr => ∃ (i : Nat), iv = .int .i64 (i : Int) ∧ i ≤ n ∧ Hid (Below w.heap.size w wr) ∧ Hid (mayUpto (l.map Tv.te) i)) (fun iv _ => n - (RowKit.intOf iv).toNat)
  case atStart => exact ⟨0, rfl, Nat.zero_le _, Below.refl _ _, mayUpto_zero _⟩
  case round =>
    obtain ⟨i, rfl, hi, HBR, HU⟩ := hrel
    by_cases hlt : i < n
    case neg =>
      obtain rfl : i = n := by omega
      have HT : Hid (R = true) := Lib.hid (by rw [HRR.out]; exact decide_eq_true ⟨by rw [HL.out]; exact h6, by rw [HL.out]; exact HU.out⟩)
      go_wp2_with fail
      go_ret
      exact ⟨by rw [HT.out]; first | done | rfl, HBR.out⟩
    have hlt' : (i : Int) < (n : Int) := by omega
    obtain ⟨b, o, rfl, hb, _⟩ := HR.out.row.2 (by omega)
    obtain ⟨x, hx, hmem, _⟩ := HR.out.at hlt
    have HIT : Hid (wr.rangeAt b (o + i * 6) x.vals.toList) := ten_item (HR.out.row.below HBR.out) i x hx
    have HXT := Lib.hid (getD_te hx)
    have HXI := Lib.hid (HR.out.ins x hmem)
    obtain ⟨x2, hx2⟩ : ∃ x2, Hid (0 < i → l[i - 1]? = some x2) := by
      by_cases h0 : 0 < i
      · obtain ⟨x2, h2, _⟩ := HR.out.at (show i - 1 < n by omega)
        exact ⟨x2, Lib.hid fun _ => h2⟩
      · exact ⟨x, Lib.hid fun h => absurd h h0⟩
    have HMX : Hid (May (l.map Tv.te) → x.te.May ∧ (0 < i → x2.te.id < x.te.id)) := Lib.hid fun h => by
      have := may_upto h (i := i) (by rw [HL.out]; exact hlt)
      rw [HXT.out] at this
      exact ⟨this.2, fun h0 => by have := this.1 h0; rwa [getD_te (hx2.out h0)] at this⟩
    have HMI : Hid (x.te.May → (0 < i → x2.te.id < x.te.id) → mayUpto (l.map Tv.te) (i + 1)) := Lib.hid fun h1 h2 => mayUpto_succ HU.out (fun h0 => by rw [HXT.out, getD_te (hx2.out h0)]; exact h2 h0) (by rw [HXT.out]; exact h1)
    clear hx hmem
    go_upto_region 7 with (first
      | (refine load_tenM HIT.out rfl (.tmp 17) rfl rfl ?_)
      | (refine store_ten (ten_zero wr) rfl rfl (.tmp 4) (.tmp 18) rfl rfl x rfl rfl ?_; intro w3 X3 G3))
    have HB3 := Lib.hid (HBR.out.trans ((below_only (below_alloc wr _) G3.out (Nat.le_refl _) (by simp)).mono HBR.out.size))
    obtain ⟨tb, htb⟩ : ∃ tb, tb = wr.heap.size := ⟨_, rfl⟩
    rw [← htb] at X3 ⊢
    have hw3 : w.heap.size ≤ w3.heap.size := HB3.out.size
    obtain ⟨y0, y1, y2, y3, y4, y5⟩ := X3.out.cells
    have HTA := Lib.hid X3.out
    obtain ⟨id, hid⟩ : ∃ z, z = x.te.id := ⟨_, rfl⟩
    obtain ⟨ep, hep⟩ : ∃ z, z = x.te.epoch := ⟨_, rfl⟩
    obtain ⟨nx, hnx⟩ : ∃ z, z = x.te.next := ⟨_, rfl⟩
    obtain ⟨qu, hqu⟩ : ∃ z, z = x.te.quota := ⟨_, rfl⟩
    obtain ⟨ns, hns⟩ : ∃ z, z = x.te.nextSeg := ⟨_, rfl⟩
    obtain ⟨m, hm⟩ : ∃ z, z = x.te.segs.length := ⟨_, rfl⟩
    obtain ⟨id2, hid2⟩ : ∃ z, z = x2.te.id := ⟨_, rfl⟩
    rw [← hid] at y0
    rw [← hep] at y1
    rw [← hqu] at y2
    rw [← hnx] at y3
    rw [← hns] at y4
    rw [← hm] at y5
    have HNUM : Hid (x.te.nums ↔ (1 ≤ ep ∧ ep ≤ 1099511627776 ∧ 1 ≤ nx ∧ nx ≤ 1099511627776 ∧ 1000 ≤ qu ∧ qu ≤ 65536 ∧ 1 ≤ ns ∧ ns ≤ 1099511627776 ∧ m ≤ 60)) := Lib.hid (by rw [hep, hnx, hqu, hns, hm]; exact Iff.rfl)
    have HBAD : Hid (¬ (1 ≤ ep ∧ ep ≤ 1099511627776 ∧ 1 ≤ nx ∧ nx ≤ 1099511627776 ∧ 1000 ≤ qu ∧ qu ≤ 65536 ∧ 1 ≤ ns ∧ ns ≤ 1099511627776 ∧ m ≤ 60) → R = false) := Lib.hid fun h => HNO.out fun hh => h (HNUM.out.1 (HMX.out hh).1.1)
    have HBADI : Hid (0 < i → id ≤ id2 → R = false) := Lib.hid fun h0 h => HNO.out fun hh => by have := (HMX.out hh).2 h0; omega
    have HGI : Hid ((0 < i → id2 < id) → (0 < i → x2.te.id < x.te.id)) := Lib.hid (by rw [hid, hid2]; exact fun h => h)
    obtain ⟨j, hj⟩ : ∃ j, Hid (j = i - 1) := ⟨_, Lib.hid rfl⟩
    have y6 : 0 < i → w3.cell? ⟨b, o + j * 6, none⟩ = some (.int .u32 (id2 : Int)) := fun h0 => by
      have := (range_ten (ten_item (HR.out.row.below HB3.out) (i - 1) x2 (hx2.out h0))).1
      rw [← hj.out, ← hid2] at this
      exact this
    have Y6 := Lib.hid y6
    have HNS := Lib.hid hns
    have HMM := Lib.hid hm
    clear htb G3 hid hep hnx hqu hns hm hid2 y6
    obtain ⟨t, ht⟩ : ∃ t : Bool, t = !decide ((0 < i → id2 < id) ∧ (1 ≤ ep ∧ ep ≤ 1099511627776 ∧ 1 ≤ nx ∧ nx ≤ 1099511627776 ∧ 1000 ≤ qu ∧ qu ≤ 65536 ∧ 1 ≤ ns ∧ ns ≤ 1099511627776 ∧ m ≤ 60)) := ⟨_, rfl⟩
    have HTG : Hid ((0 < i → id2 < id) → (1 ≤ ep ∧ ep ≤ 1099511627776 ∧ 1 ≤ nx ∧ nx ≤ 1099511627776 ∧ 1000 ≤ qu ∧ qu ≤ 65536 ∧ 1 ≤ ns ∧ ns ≤ 1099511627776 ∧ m ≤ 60) → t = false) := Lib.hid fun h1 h2 => by rw [ht, decide_eq_true ⟨h1, h2⟩]; rfl
    have HTB : Hid (¬ (0 < i → id2 < id) ∨ ¬ (1 ≤ ep ∧ ep ≤ 1099511627776 ∧ 1 ≤ nx ∧ nx ≤ 1099511627776 ∧ 1000 ≤ qu ∧ qu ≤ 65536 ∧ 1 ≤ ns ∧ ns ≤ 1099511627776 ∧ m ≤ 60) → t = true) := Lib.hid fun h => by rw [ht, decide_eq_false (fun hh => by rcases h with h | h; exact h hh.1; exact h hh.2)]; rfl
    have HTI : Hid (t = false → (0 < i → id2 < id) ∧ (1 ≤ ep ∧ ep ≤ 1099511627776 ∧ 1 ≤ nx ∧ nx ≤ 1099511627776 ∧ 1000 ≤ qu ∧ qu ≤ 65536 ∧ 1 ≤ ns ∧ ns ≤ 1099511627776 ∧ m ≤ 60)) := Lib.hid fun h => by
      rw [ht] at h
      cases hd : decide ((0 < i → id2 < id) ∧ (1 ≤ ep ∧ ep ≤ 1099511627776 ∧ 1 ≤ nx ∧ nx ≤ 1099511627776 ∧ 1000 ≤ qu ∧ qu ≤ 65536 ∧ 1 ≤ ns ∧ ns ≤ 1099511627776 ∧ m ≤ 60)) with
      | true => exact of_decide_eq_true hd
      | false => rw [hd] at h; cases h
    have HTF : Hid (t = true → R = false) := Lib.hid fun h => by
      rw [ht] at h
      have h' : ¬ ((0 < i → id2 < id) ∧ (1 ≤ ep ∧ ep ≤ 1099511627776 ∧ 1 ≤ nx ∧ nx ≤ 1099511627776 ∧ 1000 ≤ qu ∧ qu ≤ 65536 ∧ 1 ≤ ns ∧ ns ≤ 1099511627776 ∧ m ≤ 60)) := fun hp => by rw [decide_eq_true hp] at h; cases h
      by_cases hg : (1 ≤ ep ∧ ep ≤ 1099511627776 ∧ 1 ≤ nx ∧ nx ≤ 1099511627776 ∧ 1000 ≤ qu ∧ qu ≤ 65536 ∧ 1 ≤ ns ∧ ns ≤ 1099511627776 ∧ m ≤ 60)
      · have h2 : ¬ (0 < i → id2 < id) := fun hh => h' ⟨hh, hg⟩
        by_cases h0 : 0 < i
        · exact HBADI.out h0 (by have : ¬ id2 < id := fun hh => h2 (fun _ => hh); omega)
        · exact absurd (fun h => absurd h h0) h2
      · exact HBAD.out hg
    clear ht
    go_upto_region 8 with fail
    go_cut [77] (fun v wz => v = .bool t ∧ Hid (Below w3.heap.size w3 wz))
    case first =>
      go_upto_region 7 with fail
      by_cases h0i : 0 < i
      case neg =>
        have i0 : ¬ (0 : Int) < (i : Int) := by omega
        have HIDS : Hid (0 < i → id2 < id) := Lib.hid fun h => absurd h h0i
        refine wp_region_quiet_lit (by kernel_rfl) (by kernel_rfl) ?_
        iterate 16 (go_big_quiet_step (fail))
        by_cases h0 : 1 ≤ ep
        case neg =>
          have j0 : (ep : Int) < 1 := by omega
          have HF : Hid (t = true) := Lib.hid (HTB.out (.inr fun h => h0 h.1))
          clear h0
          repeat (go_big_quiet_step (fail))
          refine wpQuiet_nil ?_
          intro _ hw'
          obtain ⟨nq, hw''⟩ := hw'
          subst hw''
          go_wp2_with fail
          go_meet
          case rel => exact ⟨by rw [HF.out]; first | done | rfl, Lib.hid (below_drewN (Below.refl _ _) _)⟩
        have j0 : ¬ (ep : Int) < 1 := by omega
        iterate 5 (go_big_quiet_step (fail))
        by_cases h1 : ep ≤ 1099511627776
        case neg =>
          have j1 : 1099511627776 < (ep : Int) := by omega
          have HF : Hid (t = true) := Lib.hid (HTB.out (.inr fun h => h1 h.2.1))
          clear h0 h1
          repeat (go_big_quiet_step (fail))
          refine wpQuiet_nil ?_
          intro _ hw'
          obtain ⟨nq, hw''⟩ := hw'
          subst hw''
          go_wp2_with fail
          go_meet
          case rel => exact ⟨by rw [HF.out]; first | done | rfl, Lib.hid (below_drewN (Below.refl _ _) _)⟩
        have j1 : ¬ 1099511627776 < (ep : Int) := by omega
        iterate 5 (go_big_quiet_step (fail))
        by_cases h2 : 1 ≤ nx
        case neg =>
          have j2 : (nx : Int) < 1 := by omega
          have HF : Hid (t = true) := Lib.hid (HTB.out (.inr fun h => h2 h.2.2.1))
          clear h0 h1 h2
          repeat (go_big_quiet_step (fail))
          refine wpQuiet_nil ?_
          intro _ hw'
          obtain ⟨nq, hw''⟩ := hw'
          subst hw''
          go_wp2_with fail
          go_meet
          case rel => exact ⟨by rw [HF.out]; first | done | rfl, Lib.hid (below_drewN (Below.refl _ _) _)⟩
        have j2 : ¬ (nx : Int) < 1 := by omega
        iterate 5 (go_big_quiet_step (fail))
        by_cases h3 : nx ≤ 1099511627776
        case neg =>
          have j3 : 1099511627776 < (nx : Int) := by omega
          have HF : Hid (t = true) := Lib.hid (HTB.out (.inr fun h => h3 h.2.2.2.1))
          clear h0 h1 h2 h3
          repeat (go_big_quiet_step (fail))
          refine wpQuiet_nil ?_
          intro _ hw'
          obtain ⟨nq, hw''⟩ := hw'
          subst hw''
          go_wp2_with fail
          go_meet
          case rel => exact ⟨by rw [HF.out]; first | done | rfl, Lib.hid (below_drewN (Below.refl _ _) _)⟩
        have j3 : ¬ 1099511627776 < (nx : Int) := by omega
        iterate 5 (go_big_quiet_step (fail))
        by_cases h4 : 1000 ≤ qu
        case neg =>
          have j4 : qu < 1000 := by omega
          have HF : Hid (t = true) := Lib.hid (HTB.out (.inr fun h => h4 h.2.2.2.2.1))
          clear h0 h1 h2 h3
          repeat (go_big_quiet_step (fail))
          refine wpQuiet_nil ?_
          intro _ hw'
          obtain ⟨nq, hw''⟩ := hw'
          subst hw''
          go_wp2_with fail
          go_meet
          case rel => exact ⟨by rw [HF.out]; first | done | rfl, Lib.hid (below_drewN (Below.refl _ _) _)⟩
        have j4 : ¬ qu < 1000 := by omega
        iterate 5 (go_big_quiet_step (fail))
        by_cases h5 : qu ≤ 65536
        case neg =>
          have j5 : 65536 < qu := by omega
          have HF : Hid (t = true) := Lib.hid (HTB.out (.inr fun h => h5 h.2.2.2.2.2.1))
          clear h0 h1 h2 h3
          repeat (go_big_quiet_step (fail))
          refine wpQuiet_nil ?_
          intro _ hw'
          obtain ⟨nq, hw''⟩ := hw'
          subst hw''
          go_wp2_with fail
          go_meet
          case rel => exact ⟨by rw [HF.out]; first | done | rfl, Lib.hid (below_drewN (Below.refl _ _) _)⟩
        have j5 : ¬ 65536 < qu := by omega
        iterate 5 (go_big_quiet_step (fail))
        by_cases h6 : 1 ≤ ns
        case neg =>
          have j6 : ns < 1 := by omega
          have jb : ns ≤ 0 := by omega
          have HF : Hid (t = true) := Lib.hid (HTB.out (.inr fun h => h6 h.2.2.2.2.2.2.1))
          clear h0 h1 h2 h3
          repeat (go_big_quiet_step (fail))
          refine wpQuiet_nil ?_
          intro _ hw'
          obtain ⟨nq, hw''⟩ := hw'
          subst hw''
          go_wp2_with fail
          go_meet
          case rel => exact ⟨by rw [HF.out]; first | done | rfl, Lib.hid (below_drewN (Below.refl _ _) _)⟩
        have j6 : ¬ ns < 1 := by omega
        have jb : ¬ ns ≤ 0 := by omega
        iterate 5 (go_big_quiet_step (fail))
        by_cases h7 : ns ≤ 1099511627776
        case neg =>
          have j7 : 1099511627776 < ns := by omega
          have HF : Hid (t = true) := Lib.hid (HTB.out (.inr fun h => h7 h.2.2.2.2.2.2.2.1))
          clear h0 h1 h2 h3
          repeat (go_big_quiet_step (fail))
          refine wpQuiet_nil ?_
          intro _ hw'
          obtain ⟨nq, hw''⟩ := hw'
          subst hw''
          go_wp2_with fail
          go_meet
          case rel => exact ⟨by rw [HF.out]; first | done | rfl, Lib.hid (below_drewN (Below.refl _ _) _)⟩
        have j7 : ¬ 1099511627776 < ns := by omega
        iterate 6 (go_big_quiet_step (fail))
        by_cases h8 : m ≤ 60
        case neg =>
          have j8 : 60 < (m : Int) := by omega
          have HF : Hid (t = true) := Lib.hid (HTB.out (.inr fun h => h8 h.2.2.2.2.2.2.2.2))
          clear h0 h1 h2 h3 h8
          repeat (go_big_quiet_step (fail))
          refine wpQuiet_nil ?_
          intro _ hw'
          obtain ⟨nq, hw''⟩ := hw'
          subst hw''
          go_wp2_with fail
          go_meet
          case rel => exact ⟨by rw [HF.out]; first | done | rfl, Lib.hid (below_drewN (Below.refl _ _) _)⟩
        have j8 : ¬ 60 < (m : Int) := by omega
        have HG : Hid (t = false) := Lib.hid (HTG.out HIDS.out ⟨h0, h1, h2, h3, h4, h5, h6, h7, h8⟩)
        clear h0 h1 h2 h3 h8
        repeat (go_big_quiet_step (fail))
        refine wpQuiet_nil ?_
        intro _ hw'
        obtain ⟨nq, hw''⟩ := hw'
        subst hw''
        go_wp2_with fail
        go_meet
        case rel => exact ⟨by rw [HG.out]; first | done | rfl, Lib.hid (below_drewN (Below.refl _ _) _)⟩
      have i0 : (0 : Int) < (i : Int) := by omega
      have hw1 : IntKind.i64.wrap ((i : Int) - 1) = (j : Int) := by have := hj.out; rw [IntKind.wrap_i64]; omega
      have hjn : j < n := by have := hj.out; omega
      have hjn' : (j : Int) < (n : Int) := by omega
      have y6 := Y6.out h0i
      refine wp_region_quiet_lit (by kernel_rfl) (by kernel_rfl) ?_
      iterate 11 (go_big_quiet_step (fail))
      by_cases hle : id ≤ id2
      · have hle' : (id : Int) ≤ (id2 : Int) := by omega
        have HF : Hid (t = true) := Lib.hid (HTB.out (.inl fun h => by have := h h0i; omega))
        clear hle
        repeat (go_big_quiet_step (fail))
        refine wpQuiet_nil ?_
        intro _ hw'
        obtain ⟨nq, hw''⟩ := hw'
        subst hw''
        go_wp2_with fail
        go_meet
        case rel => exact ⟨by rw [HF.out]; first | done | rfl, Lib.hid (below_drewN (Below.refl _ _) _)⟩
      have hle' : ¬ (id : Int) ≤ (id2 : Int) := by omega
      have HIDS : Hid (0 < i → id2 < id) := Lib.hid fun h => by omega
      clear hle
      iterate 5 (go_big_quiet_step (fail))
      by_cases h0 : 1 ≤ ep
      case neg =>
        have j0 : (ep : Int) < 1 := by omega
        have HF : Hid (t = true) := Lib.hid (HTB.out (.inr fun h => h0 h.1))
        clear h0
        repeat (go_big_quiet_step (fail))
        refine wpQuiet_nil ?_
        intro _ hw'
        obtain ⟨nq, hw''⟩ := hw'
        subst hw''
        go_wp2_with fail
        go_meet
        case rel => exact ⟨by rw [HF.out]; first | done | rfl, Lib.hid (below_drewN (Below.refl _ _) _)⟩
      have j0 : ¬ (ep : Int) < 1 := by omega
      iterate 5 (go_big_quiet_step (fail))
      by_cases h1 : ep ≤ 1099511627776
      case neg =>
        have j1 : 1099511627776 < (ep : Int) := by omega
        have HF : Hid (t = true) := Lib.hid (HTB.out (.inr fun h => h1 h.2.1))
        clear h0 h1
        repeat (go_big_quiet_step (fail))
        refine wpQuiet_nil ?_
        intro _ hw'
        obtain ⟨nq, hw''⟩ := hw'
        subst hw''
        go_wp2_with fail
        go_meet
        case rel => exact ⟨by rw [HF.out]; first | done | rfl, Lib.hid (below_drewN (Below.refl _ _) _)⟩
      have j1 : ¬ 1099511627776 < (ep : Int) := by omega
      iterate 5 (go_big_quiet_step (fail))
      by_cases h2 : 1 ≤ nx
      case neg =>
        have j2 : (nx : Int) < 1 := by omega
        have HF : Hid (t = true) := Lib.hid (HTB.out (.inr fun h => h2 h.2.2.1))
        clear h0 h1 h2
        repeat (go_big_quiet_step (fail))
        refine wpQuiet_nil ?_
        intro _ hw'
        obtain ⟨nq, hw''⟩ := hw'
        subst hw''
        go_wp2_with fail
        go_meet
        case rel => exact ⟨by rw [HF.out]; first | done | rfl, Lib.hid (below_drewN (Below.refl _ _) _)⟩
      have j2 : ¬ (nx : Int) < 1 := by omega
      iterate 5 (go_big_quiet_step (fail))
      by_cases h3 : nx ≤ 1099511627776
      case neg =>
        have j3 : 1099511627776 < (nx : Int) := by omega
        have HF : Hid (t = true) := Lib.hid (HTB.out (.inr fun h => h3 h.2.2.2.1))
        clear h0 h1 h2 h3
        repeat (go_big_quiet_step (fail))
        refine wpQuiet_nil ?_
        intro _ hw'
        obtain ⟨nq, hw''⟩ := hw'
        subst hw''
        go_wp2_with fail
        go_meet
        case rel => exact ⟨by rw [HF.out]; first | done | rfl, Lib.hid (below_drewN (Below.refl _ _) _)⟩
      have j3 : ¬ 1099511627776 < (nx : Int) := by omega
      iterate 5 (go_big_quiet_step (fail))
      by_cases h4 : 1000 ≤ qu
      case neg =>
        have j4 : qu < 1000 := by omega
        have HF : Hid (t = true) := Lib.hid (HTB.out (.inr fun h => h4 h.2.2.2.2.1))
        clear h0 h1 h2 h3
        repeat (go_big_quiet_step (fail))
        refine wpQuiet_nil ?_
        intro _ hw'
        obtain ⟨nq, hw''⟩ := hw'
        subst hw''
        go_wp2_with fail
        go_meet
        case rel => exact ⟨by rw [HF.out]; first | done | rfl, Lib.hid (below_drewN (Below.refl _ _) _)⟩
      have j4 : ¬ qu < 1000 := by omega
      iterate 5 (go_big_quiet_step (fail))
      by_cases h5 : qu ≤ 65536
      case neg =>
        have j5 : 65536 < qu := by omega
        have HF : Hid (t = true) := Lib.hid (HTB.out (.inr fun h => h5 h.2.2.2.2.2.1))
        clear h0 h1 h2 h3
        repeat (go_big_quiet_step (fail))
        refine wpQuiet_nil ?_
        intro _ hw'
        obtain ⟨nq, hw''⟩ := hw'
        subst hw''
        go_wp2_with fail
        go_meet
        case rel => exact ⟨by rw [HF.out]; first | done | rfl, Lib.hid (below_drewN (Below.refl _ _) _)⟩
      have j5 : ¬ 65536 < qu := by omega
      iterate 5 (go_big_quiet_step (fail))
      by_cases h6 : 1 ≤ ns
      case neg =>
        have j6 : ns < 1 := by omega
        have jb : ns ≤ 0 := by omega
        have HF : Hid (t = true) := Lib.hid (HTB.out (.inr fun h => h6 h.2.2.2.2.2.2.1))
        clear h0 h1 h2 h3
        repeat (go_big_quiet_step (fail))
        refine wpQuiet_nil ?_
        intro _ hw'
        obtain ⟨nq, hw''⟩ := hw'
        subst hw''
        go_wp2_with fail
        go_meet
        case rel => exact ⟨by rw [HF.out]; first | done | rfl, Lib.hid (below_drewN (Below.refl _ _) _)⟩
      have j6 : ¬ ns < 1 := by omega
      have jb : ¬ ns ≤ 0 := by omega
      iterate 5 (go_big_quiet_step (fail))
      by_cases h7 : ns ≤ 1099511627776
      case neg =>
        have j7 : 1099511627776 < ns := by omega
        have HF : Hid (t = true) := Lib.hid (HTB.out (.inr fun h => h7 h.2.2.2.2.2.2.2.1))
        clear h0 h1 h2 h3
        repeat (go_big_quiet_step (fail))
        refine wpQuiet_nil ?_
        intro _ hw'
        obtain ⟨nq, hw''⟩ := hw'
        subst hw''
        go_wp2_with fail
        go_meet
        case rel => exact ⟨by rw [HF.out]; first | done | rfl, Lib.hid (below_drewN (Below.refl _ _) _)⟩
      have j7 : ¬ 1099511627776 < ns := by omega
      iterate 6 (go_big_quiet_step (fail))
      by_cases h8 : m ≤ 60
      case neg =>
        have j8 : 60 < (m : Int) := by omega
        have HF : Hid (t = true) := Lib.hid (HTB.out (.inr fun h => h8 h.2.2.2.2.2.2.2.2))
        clear h0 h1 h2 h3 h8
        repeat (go_big_quiet_step (fail))
        refine wpQuiet_nil ?_
        intro _ hw'
        obtain ⟨nq, hw''⟩ := hw'
        subst hw''
        go_wp2_with fail
        go_meet
        case rel => exact ⟨by rw [HF.out]; first | done | rfl, Lib.hid (below_drewN (Below.refl _ _) _)⟩
      have j8 : ¬ 60 < (m : Int) := by omega
      have HG : Hid (t = false) := Lib.hid (HTG.out HIDS.out ⟨h0, h1, h2, h3, h4, h5, h6, h7, h8⟩)
      clear h0 h1 h2 h3 h8
      repeat (go_big_quiet_step (fail))
      refine wpQuiet_nil ?_
      intro _ hw'
      obtain ⟨nq, hw''⟩ := hw'
      subst hw''
      go_wp2_with fail
      go_meet
      case rel => exact ⟨by rw [HG.out]; first | done | rfl, Lib.hid (below_drewN (Below.refl _ _) _)⟩
    case rest =>
    obtain ⟨rfl, HQ3⟩ := hcut
    obtain ⟨wq, hwq⟩ : ∃ wq, wq = wc := ⟨_, rfl⟩
    rw [← hwq] at HQ3 ⊢
    clear hwq
    cases t with
    | true =>
      have HF : Hid (R = false) := Lib.hid (HTF.out rfl)
      go_wp2_with fail
      go_ret
      exact ⟨by rw [HF.out]; first | done | rfl, HB3.out.trans (HQ3.out.mono hw3)⟩
    | false =>
      have HIDS := Lib.hid (HTI.out rfl).1
      have HALL := Lib.hid (HTI.out rfl).2
      have HBQ : Hid (Below w.heap.size w wq) := Lib.hid (HB3.out.trans (HQ3.out.mono hw3))
      have z4 : Hid (∀ W, Hid (Below w3.heap.size w3 W) → W.cell? ⟨tb, 4, none⟩ = some (.int .i64 ns) ∧ W.cell? ⟨tb, 5, none⟩ = some (.slice x.A m x.c)) := Lib.hid fun W hW => by
        have := (HTA.out.below hW.out HTA.out.lt).cells.2.2.2.2
        rw [← HNS.out, ← HMM.out] at this
        exact this
      have HSG : Hid (∀ W, Hid (Below w3.heap.size w3 W) → 0 < m → ∃ b o, x.A = some ⟨b, o, none⟩ ∧ ∀ k, k < m → W.cell? ⟨b, o + k, none⟩ = some (.int .i64 (x.te.segs.getD k 0))) := Lib.hid fun W hW h0 => by
        have hr := ((HXI.out.below (HB3.out.trans (hW.out.mono hw3))).row).int (by rw [← HMM.out]; exact h0)
        obtain ⟨b, o, e, _, hc⟩ := hr
        exact ⟨b, o, e, fun k hk => hc k (by rw [← HMM.out]; exact hk)⟩
      have hm60 : m ≤ 60 := HALL.out.2.2.2.2.2.2.2.2
      have hxc : x.c ≤ 9223372036854775807 := by have := HXI.out.most; unfold maxLen at this; exact this
      clear y0 y1 y2 y3 y4 y5
      go_wp2_with fail
      go_loopw [5] (fun kv wk => ∃ (k : Nat), kv = .int .i64 (k : Int) ∧ k ≤ m ∧ Hid (Below w3.heap.size w3 wk) ∧ Hid (x.te.rises k)) (fun kv _ => m - (RowKit.intOf kv).toNat)
      case atStart => exact ⟨0, rfl, Nat.zero_le _, HQ3, Te.rises_zero _⟩
      case round =>
        obtain ⟨k, rfl, hk, HBK, HRK⟩ := hrel
        obtain ⟨z4', z5'⟩ := z4.out _ HBK
        by_cases hkm : k < m
        case neg =>
          obtain rfl : k = m := by omega
          have HU2 : Hid (mayUpto (l.map Tv.te) (i + 1)) := Lib.hid (HMI.out ⟨HNUM.out.2 HALL.out, by rw [← HMM.out]; exact HRK.out⟩ (HGI.out HIDS.out))
          have HBN := Lib.hid (HB3.out.trans (HBK.out.mono hw3))
          go_wp2_with fail
          go_roundw
          case rel => exact ⟨i + 1, by go_num, by omega, HBN, HU2⟩
          case measure => (simp [RowKit.intOf]; omega)
        have hkm' : (k : Int) < (m : Int) := by omega
        obtain ⟨bs, os, hA, hcs⟩ := HSG.out _ HBK (by omega)
        have hck := hcs k hkm
        have HCS := Lib.hid hcs
        clear hcs
        rw [hA] at z5'
        obtain ⟨s, hs⟩ : ∃ s, s = x.te.segs.getD k 0 := ⟨_, rfl⟩
        rw [← hs] at hck
        have HS := Lib.hid hs
        have HBAD2 : Hid (¬ (x.te.rises (k + 1)) → R = false) := Lib.hid fun h => HNO.out fun hh => h fun q hq => (HMX.out hh).1.2 q (by rw [← HMM.out]; omega)
        have HKK : Hid (x.te.rises (k + 1) → 1 ≤ s ∧ s < ns ∧ (0 < k → x.te.segs.getD (k - 1) 0 < s)) := Lib.hid fun h => by
          have := h k (Nat.lt_succ_self _)
          rw [← HS.out, ← HNS.out] at this
          exact this
        have HBN := Lib.hid (HB3.out.trans (HBK.out.mono hw3))
        have HSZ := Lib.hid (HBN.out.size)
        clear hs
        go_upto_region 12 with fail
        refine wp_region_quiet_lit (by kernel_rfl) (by kernel_rfl) ?_
        iterate 5 (go_big_quiet_step (fail))
        by_cases h1 : 1 ≤ s
        case neg =>
          have h1' : s < 1 := by omega
          have h1b : s ≤ 0 := by omega
          have HF : Hid (R = false) := Lib.hid (HBAD2.out fun h => h1 (HKK.out h).1)
          clear h1
          repeat (go_big_quiet_step (fail))
          refine wpQuiet_nil ?_
          intro _ hw'
          obtain ⟨nq, hw''⟩ := hw'
          subst hw''
          go_wp2_with fail
          go_ret
          exact ⟨by rw [HF.out]; first | done | rfl, HBN.out.trans (below_drewN (Below.refl _ _) _ |>.mono HSZ.out)⟩
        have h1' : ¬ s < 1 := by omega
        have h1b : ¬ s ≤ 0 := by omega
        iterate 9 (go_big_quiet_step (fail))
        by_cases h2 : ns ≤ s
        · have HF : Hid (R = false) := Lib.hid (HBAD2.out fun h => by have := (HKK.out h).2.1; omega)
          clear h1
          repeat (go_big_quiet_step (fail))
          refine wpQuiet_nil ?_
          intro _ hw'
          obtain ⟨nq, hw''⟩ := hw'
          subst hw''
          go_wp2_with fail
          go_ret
          exact ⟨by rw [HF.out]; first | done | rfl, HBN.out.trans (below_drewN (Below.refl _ _) _ |>.mono HSZ.out)⟩
        iterate 4 (go_big_quiet_step (fail))
        by_cases h3 : 0 < k
        case neg =>
          have h3' : ¬ (0 : Int) < (k : Int) := by omega
          have HR2 : Hid (x.te.rises (k + 1)) := Lib.hid (x.te.rises_succ HRK.out (by rw [← HS.out]; exact h1) (by rw [← HS.out, ← HNS.out]; omega) (fun h => absurd h h3))
          clear h1
          repeat (go_big_quiet_step (fail))
          refine wpQuiet_nil ?_
          intro _ hw'
          obtain ⟨nq, hw''⟩ := hw'
          subst hw''
          go_wp2_with fail
          go_roundw
          case rel => exact ⟨k + 1, by go_num, by omega, Lib.hid (HBK.out.trans (below_drewN (Below.refl _ _) _ |>.mono HBK.out.size)), HR2⟩
          case measure => (simp [RowKit.intOf]; omega)
        have h3' : (0 : Int) < (k : Int) := by omega
        obtain ⟨p, hp⟩ : ∃ p, p = k - 1 := ⟨_, rfl⟩
        have hcp := HCS.out p (by omega)
        have hwp : IntKind.i64.wrap ((k : Int) - 1) = (p : Int) := by rw [IntKind.wrap_i64]; omega
        have hpm : p < m := by omega
        have hpm' : (p : Int) < (m : Int) := by omega
        have HPP : Hid (∀ z, z = x.te.segs.getD p 0 → x.te.segs.getD (k - 1) 0 = z) := Lib.hid fun z hz => by rw [hz, hp]
        obtain ⟨s2, hs2⟩ : ∃ s, s = x.te.segs.getD p 0 := ⟨_, rfl⟩
        rw [← hs2] at hcp
        have HS2 := Lib.hid (HPP.out s2 hs2)
        clear hs2 hp
        iterate 13 (go_big_quiet_step (fail))
        by_cases h4 : s ≤ s2
        · have HF : Hid (R = false) := Lib.hid (HBAD2.out fun h => by have := (HKK.out h).2.2 h3; rw [HS2.out] at this; omega)
          clear h1
          repeat (go_big_quiet_step (fail))
          refine wpQuiet_nil ?_
          intro _ hw'
          obtain ⟨nq, hw''⟩ := hw'
          subst hw''
          go_wp2_with fail
          go_ret
          exact ⟨by rw [HF.out]; first | done | rfl, HBN.out.trans (below_drewN (Below.refl _ _) _ |>.mono HSZ.out)⟩
        · have HR2 : Hid (x.te.rises (k + 1)) := Lib.hid (x.te.rises_succ HRK.out (by rw [← HS.out]; exact h1) (by rw [← HS.out, ← HNS.out]; omega) (fun h => by rw [← HS.out, HS2.out]; omega))
          clear h1
          repeat (go_big_quiet_step (fail))
          refine wpQuiet_nil ?_
          intro _ hw'
          obtain ⟨nq, hw''⟩ := hw'
          subst hw''
          go_wp2_with fail
          go_roundw
          case rel => exact ⟨k + 1, by go_num, by omega, Lib.hid (HBK.out.trans (below_drewN (Below.refl _ _) _ |>.mono HBK.out.size)), HR2⟩
          case measure => (simp [RowKit.intOf]; omega)
end Go.Proofs.YtcmlchicpmnhdaaGreatDoor.Man
