/-
  Proved: what 'stillroom/stillroomlaw5.DiskTwice' returns.
-/
import Derived.Test.YtebjapinhkeafaaDiskAny
import Derived.Test.YtebjapinhkeafaaDiskCutOp
import Derived.BigQuiet
import Derived.Deep.DeepCutAuto
import Derived.Deep.RegionLaw
namespace Go.Proofs.Ytebjapinhkeafaa.Disk
open Go.RowKit Go.Maps
set_option linter.unusedVariables false
set_option linter.unusedSimpArgs false

theorem cut_cells {w : World} {g : Nat} {res : Array Value} {x : OpV} (h : Hid (Blk w g 50 res)) (hr : res = x.cut) :
    w.cell? ⟨g, 0, none⟩ = some (.int .i64 x.k) ∧ w.cell? ⟨g, 1, none⟩ = some (.int .i64 x.n) ∧ w.cell? ⟨g, 3, none⟩ = some (.string (cutText x.name 40)) ∧ w.cell? ⟨g, 5, none⟩ = some (.slice x.A (min x.l 300) x.c) := by
  subst hr
  exact ⟨h.out.cell 0, h.out.cell 1, h.out.cell 3, h.out.cell 5⟩
set_option maxRecDepth 100000 in
set_option maxHeartbeats 8000000 in
theorem diskTwice_walk (A : Option Addr) (n c : Nat) (nn : Int) (P : Option Addr) (mk ck : Nat) (keep : List Bool) (torn : Int) (w : World) (hA : OpsAt w A n) (hn : n ≤ c) (hc : c ≤ maxLen) (hnn : -9223372036854775808 ≤ nn ∧ nn ≤ 9223372036854775807)
    (hP : Row w w.heap.size P mk (lvs keep)) (hmk : mk ≤ ck) (hck : ck ≤ maxLen) (ht : -9223372036854775808 ≤ torn ∧ torn ≤ 9223372036854775807) :
    Calls Try.prog 9 #[.slice A n c, .int .i64 nn, .slice P mk ck, .int .i64 torn] w fun e w' => e = .returned (.bool true) ∧ Below w.heap.size w w' := by
  obtain ⟨ht1, ht2⟩ := ht
  obtain ⟨hn1, hn2⟩ := hnn
  have hmkl : mk ≤ 9223372036854775807 := by unfold maxLen at hck; omega
  have hckl : ck ≤ 9223372036854775807 := by unfold maxLen at hck; omega
  have hnl : n ≤ 9223372036854775807 := by unfold maxLen at hc; omega
  have HA := Lib.hid hA
  have HP := Lib.hid hP
  have hz := zeroOp
  have hsz : (Try.prog.info? 50).map (·.size) = some 7 := by kernel_rfl
  have HSZ := Lib.hid hsz
  clear hsz
  clear hA hP hc hck
  go_enter Try.func9, Try.ntmps9
  go_wp2_with fail
  refine (begun_any w).mono ?_
  rintro e w1 ⟨rfl, hb1⟩
  have HB1 := Lib.hid hb1
  clear hb1
  go_wp2_with fail
  have CN := new_held 4000 w1
  rw [show room 4000 = 4000 by decide] at CN
  refine CN.mono ?_
  rintro e w2 ⟨own2, f, rfl, h2⟩
  have H2 := Lib.hid h2
  clear h2 CN
  go_wp2_with fail
  go_loopw [11] (fun z wr => ∃ (i : Nat) (own : Own) (d : Dk), z = .int .i64 (i : Int) ∧ i ≤ n ∧ i ≤ 20 ∧ Hid (Held own w1 wr f d i)) (fun z _ => n - (RowKit.intOf z).toNat)
  case atStart => exact ⟨0, own2, _, rfl, Nat.zero_le _, by omega, H2⟩
  case round =>
    obtain ⟨i, own, d, rfl, hi, hi20, HD⟩ := hrel
    by_cases hlt : i < n ∧ i < 20
    · obtain ⟨hl1, hl2⟩ := hlt
      obtain ⟨b, o, rfl, hb, hops⟩ := HA.out (by omega)
      obtain ⟨x, hx, hcell⟩ := hops i hl1
      have HX := Lib.hid hx
      have hcell1 : ∀ j v, x.vals[j]? = some v → wr.cell? ⟨b, o + i * 7 + j, none⟩ = some v := fun j v hv => (HD.out.below.cell (p := ⟨b, o + i * 7 + j, none⟩) (Nat.lt_of_lt_of_le hb HB1.out.size)).trans ((HB1.out.cell (p := ⟨b, o + i * 7 + j, none⟩) hb).trans (hcell j v hv))
      have c0 : wr.cell? ⟨b, o + i * 7, none⟩ = some (.int .i64 x.k) := hcell1 0 _ rfl
      have c1 : wr.cell? ⟨b, o + i * 7 + 1, none⟩ = some (.int .i64 x.n) := hcell1 1 _ rfl
      have c2 : wr.cell? ⟨b, o + i * 7 + 2, none⟩ = some (.int .i64 x.m) := hcell1 2 _ rfl
      have c3 : wr.cell? ⟨b, o + i * 7 + 3, none⟩ = some (.string x.name) := hcell1 3 _ rfl
      have c4 : wr.cell? ⟨b, o + i * 7 + 4, none⟩ = some (.string x.to) := hcell1 4 _ rfl
      have c5 : wr.cell? ⟨b, o + i * 7 + 5, none⟩ = some (.slice x.A x.l x.c) := hcell1 5 _ rfl
      have c6 : wr.cell? ⟨b, o + i * 7 + 6, none⟩ = some (.slice x.P x.pl x.pc) := hcell1 6 _ rfl
      have CUT : Hid (∀ w, Calls Try.prog 29 #[.agg #[.int .i64 x.k, .int .i64 x.n, .int .i64 x.m, .string x.name, .string x.to, .slice x.A x.l x.c, .slice x.P x.pl x.pc]] w fun e w' => e = .returned (.agg x.cut) ∧ Below w.heap.size w w') := fun w' => cutOp_any x w' w HX.out
      obtain ⟨res, hres⟩ : ∃ res, res = x.cut := ⟨_, rfl⟩
      have h1 : res.all (·.oneCell') = true := by rw [hres]; simp [OpV.cut, Value.oneCell']
      have h7 : res.size = 7 := by rw [hres]; rfl
      have H1 := Lib.hid h1
      have H7 := Lib.hid h7
      have HRES := Lib.hid hres
      rw [← hres] at CUT
      clear h1 h7 hres hcell hcell1 hops hx
      have hl20 : (i : Int) < 20 := by omega
      go_wp2_with fail
      refine (CUT.out _).mono ?_
      rintro e w3 ⟨rfl, hb3⟩
      have HB3 := Lib.hid hb3
      clear hb3 c0 c1 c2 c3 c4 c5 c6 CUT
      have CR := Lib.hid (fun w' (h : Below wr.heap.size wr w') => create_went (cutText x.name 40) (HD.out.all h) (cutText_size _ _ HX.out.name) (by omega))
      have CS := Lib.hid (fun w' (h : Below wr.heap.size wr w') => sync_went (cutText x.name 40) (HD.out.all h) (cutText_size _ _ HX.out.name) (by omega))
      have CD := Lib.hid (fun w' (h : Below wr.heap.size wr w') => syncDir_went (HD.out.all h) (by omega))
      have CW : Hid (∀ w', Below wr.heap.size wr w' → Calls Try.prog 14 #[.pointer (some ⟨f, 0, none⟩), .string (cutText x.name 40), .int .i64 x.n, .slice x.A (min x.l 300) x.c] w' (Went w1 f (i + 1))) := fun w' h =>
        write_went (cutText x.name 40) x.n (HD.out.all h) (cutText_size _ _ HX.out.name) (by omega) HX.out.n ((Com.short_row HB1.out HX.out.row).more HB1.out.size) (by have := HX.out.lc; omega) HX.out.cm (by omega)
      go_wp2_with (first
        | (refine wpList_store_blk rfl 50 (.tmp 12) (.tmp 40) rfl w3.heap.size res rfl rfl 50 _ (Blk.new _ _ _) (by rw [H7.out]; exact HSZ.out) (by rw [H7.out]; rfl) H1.out ?_
           intro w4 G7 G8
           obtain ⟨q0, q1, q3, q5⟩ := cut_cells G7 HRES.out))
      all_goals
        have B4 : Hid (Below wr.heap.size wr w4) := below_only (HB3.out.alloc HB3.out.size _) (only_hid G8) HB3.out.size (by simp; have := HB3.out.size; omega)
        have C4 : Hid (Held own w1 w4 f d (i + 1)) := (HD.out.all B4.out).mono (by omega) (by omega)
        clear G7 G8 HB3 q0 q1 q3 q5
      · refine (CR.out _ B4.out).mono ?_
        rintro e w5 ⟨own5, n5, d5, rfl, h5⟩
        have H5 := Lib.hid h5
        clear h5
        go_wp2_with fail
        exact ⟨⟨i + 1, own5, d5, by go_num, by omega, by omega, H5⟩, by simp [RowKit.intOf]; omega⟩
      · refine (CW.out _ B4.out).mono ?_
        rintro e w5 ⟨own5, n5, d5, rfl, h5⟩
        have H5 := Lib.hid h5
        clear h5
        go_wp2_with fail
        exact ⟨⟨i + 1, own5, d5, by go_num, by omega, by omega, H5⟩, by simp [RowKit.intOf]; omega⟩
      · refine (CS.out _ B4.out).mono ?_
        rintro e w5 ⟨own5, n5, d5, rfl, h5⟩
        have H5 := Lib.hid h5
        clear h5
        go_wp2_with fail
        exact ⟨⟨i + 1, own5, d5, by go_num, by omega, by omega, H5⟩, by simp [RowKit.intOf]; omega⟩
      · refine (CD.out _ B4.out).mono ?_
        rintro e w5 ⟨own5, n5, d5, rfl, h5⟩
        have H5 := Lib.hid h5
        clear h5
        go_wp2_with fail
        exact ⟨⟨i + 1, own5, d5, by go_num, by omega, by omega, H5⟩, by simp [RowKit.intOf]; omega⟩
      · exact ⟨⟨i + 1, own, d, by go_num, by omega, by omega, C4⟩, by simp [RowKit.intOf]; omega⟩
    · have hE : i = n ∨ (i < n ∧ i = 20) := by omega
      have hcut0 : ∃ P' mk' keep', Hid (Row w1 w1.heap.size P' mk' (lvs keep')) ∧ mk' ≤ 60 ∧ ((60 < mk ∧ (∃ b o, P = some ⟨b, o, none⟩) ∧ P' = P ∧ mk' = 60) ∨ (mk ≤ 60 ∧ P' = P ∧ mk' = mk)) := by
        have hrow0 : Row w1 w1.heap.size P mk (lvs keep) := (HP.out.below HB1.out).more HB1.out.size
        by_cases h60 : 60 < mk
        · obtain ⟨b, o, e, _, _⟩ := hrow0.2 (by omega)
          have hrow := hrow0.take (k := 60) (by omega)
          rw [lvs_take] at hrow
          exact ⟨P, 60, keep.take 60, hrow, Nat.le_refl _, .inl ⟨h60, ⟨b, o, e⟩, rfl, rfl⟩⟩
        · exact ⟨P, mk, keep, hrow0, by omega, .inr ⟨by omega, rfl, rfl⟩⟩
      have hend : (¬ (i : Int) < (n : Int)) ∨ ((i : Int) < (n : Int) ∧ ¬ (i : Int) < 20) := by omega
      clear hlt hE HA HP
      rcases hend with hend | ⟨hend1, hend2⟩
      all_goals
        go_upto_if 71 with fail
        go_cut [2] (fun v w' => w' = wr ∧ ∃ P' mk' keep', v = .slice P' mk' ck ∧ mk' ≤ 60 ∧ Hid (Row w1 w1.heap.size P' mk' (lvs keep')))
        case first =>
          obtain ⟨P', mk', keep', HP', hmk', hcut1⟩ := hcut0
          rcases hcut1 with ⟨h60, ⟨b0, o0, rfl⟩, rfl, rfl⟩ | ⟨h60, rfl, rfl⟩
          · have h60' : (60 : Int) < (mk : Int) := by omega
            go_wp2_with fail
            go_meet
            case rel => exact ⟨rfl, _, 60, keep', rfl, hmk', HP'⟩
          · have h60' : ¬ (60 : Int) < (mk' : Int) := by omega
            go_wp2_with fail
            go_meet
            case rel => exact ⟨rfl, _, _, keep', rfl, hmk', HP'⟩
        case rest =>
          obtain ⟨hww, P', mk', keep', rfl, hmk', HP'⟩ := hcut
          obtain rfl := hww
          clear hcut0 hz
          go_wp2_with fail
          refine (crash_go (c := ck) nn torn HD.out (HD.out.elder HP'.out).row (Nat.le_refl _) (by omega)).mono ?_
          rintro e wa ⟨owna, fa, da, rfl, _, ha, ca, _, _, _⟩
          have HDA := Lib.hid ha
          have CA := Lib.hid ca
          clear ha ca HP' HD
          go_wp2_with fail
          refine (crash_go (c := 0) (keep := []) 0 (-1) HDA.out (Row.nil _ _) (Nat.zero_le _) (by omega)).mono ?_
          rintro e wb ⟨ownb, fb, db, rfl, ha, hb, cb, hne, _, _⟩
          have HDA2 := Lib.hid ha
          have HDB := Lib.hid hb
          have CB := Lib.hid cb
          have HNE := Lib.hid hne
          clear ha hb cb hne HDA
          go_wp2_with fail
          refine (names_held HDA2.out).mono ?_
          rintro e wc1 ⟨v1, rfl, hr1, hb1⟩
          obtain ⟨A1, c1, rfl, hc1, hc1m⟩ := own_form hr1
          have HR1 := Lib.hid hr1
          have HDA3 := Lib.hid (HDA2.out.all hb1)
          have HDB3 := Lib.hid (HDB.out.all hb1)
          have F1 : Hid (Free ownb wc1 A1 da.N.length ((da.N.map (·.1)).map encStr)) := HDA2.out.laid hr1
          clear hr1 hb1 HR1 HDA2 HDB
          go_wp2_with fail
          refine (names_held HDB3.out).mono ?_
          rintro e wc2 ⟨v2, rfl, hr2, hb2⟩
          obtain ⟨A2, c2, rfl, hc2, hc2m⟩ := own_form hr2
          have F2 := Lib.hid (HDB3.out.laid hr2)
          have F1' := Lib.hid (F1.out.keep (fun _ _ => rfl) hb2)
          have HDA4 := Lib.hid (HDA3.out.all hb2)
          have HDB4 := Lib.hid (HDB3.out.all hb2)
          have TW := Lib.hid (twice CA.out CB.out)
          have hTl : db.N.length = da.N.length := by
            have := congrArg List.length TW.out.1
            rwa [List.length_map, List.length_map] at this
          have CDT := dirty_held HDA4.out
          rw [CA.out.total] at CDT
          have HCD := Lib.hid CDT
          have HNA : Hid (∀ p ∈ da.N, p.1.length ≤ maxLen) := by
            obtain ⟨nb, sb, wv, hdi⟩ := HDA4.out.disk
            exact dir_names hdi.mapN
          obtain ⟨nms, hnms⟩ : ∃ nms, nms = da.N.map (·.1) := ⟨_, rfl⟩
          have hLn : nms.length = da.N.length := by rw [hnms, List.length_map]
          have hLK : da.N.length ≤ i := by
            obtain ⟨nb, sb, wv, hdi⟩ := HDA4.out.disk
            exact hdi.ok.N
          have HNM : Hid (∀ nm ∈ nms, nm.length ≤ maxLen ∧ ∃ y, da.look nm = some ⟨y, y, []⟩ ∧ db.look nm = some ⟨y, y, []⟩ ∧ y.length ≤ 4194304) := by
            intro nm hnm
            rw [hnms] at hnm
            obtain ⟨p, hp, rfl⟩ := List.mem_map.1 hnm
            obtain ⟨y, h1, h2⟩ := TW.out.2 _ hnm
            exact ⟨HNA.out p hp, y, h1, h2, (HDA4.out.ok h1).max⟩
          have T0 : Hid (Two ownb w1 wc2 fa fb da db i A1 A2 da.N.length (nms.map encStr)) := by
            have e2 := TW.out.1
            have f2 := F2.out
            rw [e2, hTl, ← hnms] at f2
            have f1 := F1'.out
            rw [← hnms] at f1
            exact ⟨⟨da, HDA4.out, fun _ => rfl⟩, ⟨db, HDB4.out, fun _ => rfl⟩, HNE.out, f1, f2⟩
          rw [hTl] at hc2 ⊢
          generalize da.N.length = LL at *
          clear hr2 hb2 F2 F1 F1' HDA3 HDB3 HDA4 HDB4 TW CDT hnms HNA CA CB hTl
          have HCD0 : Hid (Calls Try.prog 28 #[.pointer (some ⟨fa, 0, none⟩)] wc2 fun e w' => e = .returned (.int .i64 0) ∧ Below wc2.heap.size wc2 w') := by
            refine HCD.out.mono ?_
            rintro e w' ⟨he, _, hb⟩
            exact ⟨he, hb⟩
          clear HCD
          have hc1l : c1 ≤ 9223372036854775807 := by unfold maxLen at hc1m; omega
          have hc2l : c2 ≤ 9223372036854775807 := by unfold maxLen at hc2m; omega
          clear hc1m hc2m
          go_wp2_with fail
          refine HCD0.out.mono ?_
          rintro e wd ⟨rfl, hbd⟩
          have T1 := Lib.hid (T0.out.all hbd)
          clear hbd T0 HCD0
          go_wp2_with fail
          go_loopw [17] (fun z wr => ∃ (j : Nat), z = .int .i64 (j : Int) ∧ j ≤ LL ∧ Hid (Two ownb w1 wr fa fb da db (i + 2 * j) A1 A2 LL (nms.map encStr))) (fun z _ => LL - (RowKit.intOf z).toNat)
          case atStart => exact ⟨0, rfl, Nat.zero_le _, T1⟩
          case round =>
            obtain ⟨j, rfl, hj, TJ⟩ := hrel
            by_cases hlt : j < LL
            · have hjL : (j : Int) < (LL : Int) := by omega
              obtain ⟨nm, hnm⟩ : ∃ nm, nms[j]? = some nm := ⟨nms[j], List.getElem?_eq_getElem (by omega)⟩
              obtain ⟨hnml, y, hya, hyb, hym⟩ := HNM.out nm (List.mem_of_getElem? hnm)
              obtain ⟨b1, o1, rfl, _, _, hl1⟩ := TJ.out.l.2 (by omega)
              obtain ⟨b2, o2, rfl, _, _, hm1⟩ := TJ.out.m.2 (by omega)
              have hv : (nms.map encStr)[j]? = some (.string ⟨nm.toArray⟩) := by rw [List.getElem?_map, hnm]; rfl
              have p1 := hl1 j _ hv
              have HV := Lib.hid hv
              have HYA := Lib.hid hya
              have HYB := Lib.hid hyb
              clear hl1 hm1 hv hya hyb hnm
              have SA := Lib.hid (fun w' (hb : Below wr.heap.size wr w') => (TJ.out.all hb).size_a nm y hnml HYA.out 0)
              go_upto_region 28 with fail
              go_cut [18] (fun v w' => ∃ A3 c3, v = .slice A3 y.length c3 ∧ Hid (Two ownb w1 w' fa fb da db (i + 2 * j + 1) (some ⟨b1, o1, none⟩) (some ⟨b2, o2, none⟩) LL (nms.map encStr)) ∧ Hid (Free ownb w' A3 y.length (bvs y)))
              case first =>
                have RA := Lib.hid (fun w' (hb : Below wr.heap.size wr w') => (TJ.out.all hb).read_a nm y hnml HYA.out (by omega))
                go_region_law (first
                  | (go_simp; go_at_call 18; refine (SA.out _ (Below.refl _ wr).drew).mono ?_; rintro e w' ⟨rfl, rfl⟩)
                  | (go_simp; go_at_call 17; refine (RA.out _ (Below.refl _ wr).drew).mono ?_; rintro e w' ⟨A3, c3, rfl, t3, f3⟩; have T3 := Lib.hid t3; have F3 := Lib.hid f3; clear t3 f3))
                all_goals
                  go_wp2_with fail
                  go_meet
                  case rel => exact ⟨A3, c3, rfl, T3, F3⟩
              case rest =>
                obtain ⟨A3, c3, rfl, T3, F3⟩ := hcut
                clear SA p1
                obtain ⟨wf, hwf⟩ : ∃ wf, wf = wc := ⟨_, rfl⟩
                subst hwf
                have p1 : wf.cell? ⟨b1, o1 + j, none⟩ = some (.string ⟨nm.toArray⟩) := by
                  obtain ⟨bx, ox, e, _, _, hq⟩ := T3.out.l.2 (by omega)
                  injection e with e
                  injection e with e1 e2
                  subst e1 e2
                  exact hq j _ HV.out
                have p2 : wf.cell? ⟨b2, o2 + j, none⟩ = some (.string ⟨nm.toArray⟩) := by
                  obtain ⟨bx, ox, e, _, _, hq⟩ := T3.out.m.2 (by omega)
                  injection e with e
                  injection e with e1 e2
                  subst e1 e2
                  exact hq j _ HV.out
                have SB := Lib.hid (fun w' (hb : Below wf.heap.size wf w') => (T3.out.all hb).size_b nm y hnml HYB.out 0)
                go_upto_region 29 with fail
                go_cut [20] (fun v w' => ∃ A4 c4, v = .slice A4 y.length c4 ∧ Hid (Two ownb w1 w' fa fb da db (i + 2 * j + 1 + 1) (some ⟨b1, o1, none⟩) (some ⟨b2, o2, none⟩) LL (nms.map encStr)) ∧ Hid (Free ownb w' A4 y.length (bvs y)) ∧ Hid (Free ownb w' A3 y.length (bvs y)))
                case first =>
                  have RB := Lib.hid (fun w' (hb : Below wf.heap.size wf w') => (T3.out.all hb).read_b nm y hnml HYB.out (by omega) (F3.out.keep (fun _ _ => rfl) hb))
                  go_region_law (first
                    | (go_simp; go_at_call 18; refine (SB.out _ (Below.refl _ wf).drew).mono ?_; rintro e w' ⟨rfl, rfl⟩)
                    | (go_simp; go_at_call 17; refine (RB.out _ (Below.refl _ wf).drew).mono ?_; rintro e w' ⟨A4, c4, rfl, t4, f4, f3⟩; have T4 := Lib.hid t4; have F4 := Lib.hid f4; have F5 := Lib.hid f3; clear t4 f4 f3))
                  all_goals
                    go_wp2_with fail
                    go_meet
                    case rel => exact ⟨A4, c4, rfl, T4, F4, F5⟩
                case rest =>
                  obtain ⟨A4, c4, rfl, T4, F4, F5⟩ := hcut
                  clear SB p1 p2
                  obtain ⟨wg, hwg⟩ : ∃ wg, wg = wc := ⟨_, rfl⟩
                  subst hwg
                  have p1 : wg.cell? ⟨b1, o1 + j, none⟩ = some (.string ⟨nm.toArray⟩) := by
                    obtain ⟨bx, ox, e, _, _, hq⟩ := T4.out.l.2 (by omega)
                    injection e with e
                    injection e with e1 e2
                    subst e1 e2
                    exact hq j _ HV.out
                  have p2 : wg.cell? ⟨b2, o2 + j, none⟩ = some (.string ⟨nm.toArray⟩) := by
                    obtain ⟨bx, ox, e, _, _, hq⟩ := T4.out.m.2 (by omega)
                    injection e with e
                    injection e with e1 e2
                    subst e1 e2
                    exact hq j _ HV.out
                  have ca := fun q c => bytes_string (P := Try.prog) (c := c) (dst := 9) Try.underlying22 Try.underlying5 Try.underlying9 (F4.out.keep (own' := ownb) (fun _ _ => rfl) (below_drewN (Below.refl _ wg) q)).row
                  have cb := fun q c => bytes_string (P := Try.prog) (c := c) (dst := 9) Try.underlying22 Try.underlying5 Try.underlying9 (F5.out.keep (own' := ownb) (fun _ _ => rfl) (below_drewN (Below.refl _ wg) q)).row
                  go_upto_region 30 with fail
                  go_quiet (fail)
                  have T6 : Hid (∀ q, Two ownb w1 (wg.drewN q) fa fb da db (i + 2 * (j + 1)) (some ⟨b1, o1, none⟩) (some ⟨b2, o2, none⟩) LL (nms.map encStr)) := fun q => T4.out.all (below_drewN (Below.refl _ wg) q)
                  go_wp2_with fail
                  exact ⟨⟨j + 1, by go_num, by omega, T6.out _⟩, by simp [RowKit.intOf]; omega⟩
            · obtain rfl : j = LL := by omega
              go_wp2_with fail
              go_ret
              obtain ⟨a', hfin, _⟩ := TJ.out.a
              exact ⟨rfl, HB1.out.trans (hfin.below.mono HB1.out.size)⟩
end Go.Proofs.Ytebjapinhkeafaa.Disk
