/-
  Texts one behind the other: SegManyWalk.
-/
import Derived.Test.YtkdnfikaodkhnaaGreatDoorG15
import Derived.Test.YtkdnfikaodkhnaaGreatDoorG26
import Derived.Test.YtkdnfikaodkhnaaGreatDoorG37
import Derived.Test.YtkdnfikaodkhnaaGreatDoorG41
/-
  Proved: SegmentMany returns true, whatever it is handed, where a segment keeps its face, and a crash of its disk.
-/
namespace Go.Proofs.YtkdnfikaodkhnaaGreatDoor.Seg
open Go.RowKit Go.Proofs.YtkdnfikaodkhnaaGreatDoor.Disk Go.Proofs.YtkdnfikaodkhnaaGreatDoor.Rec
set_option linter.unusedVariables false
set_option linter.unusedSimpArgs false

theorem grow_rs {own : Own} {w w' : World} {v : Value} {l : List Rc} (ht : ∀ b q, own b = some q → b < w.heap.size) (h : Rs w w' v l) : ∃ A c, v = .slice A l.length c ∧ l.length ≤ c ∧ c ≤ maxLen ∧ Free own w' A (l.length * 6) (rflat l) :=
  Grow.form (own := own) (base := w.heap.size) ⟨h.row, fun g hg => by
    cases ho : own g with
    | none => rfl
    | some q => have := ht g q ho; have := (h.row.lt g hg).1; omega⟩
theorem ints_one {l : List Int} : ∀ u ∈ ivs l, u.oneCell' = true := by
  intro u hu
  unfold ivs at hu
  obtain ⟨z, _, rfl⟩ := List.mem_map.1 hu
  rfl
set_option maxRecDepth 100000 in
set_option maxHeartbeats 16000000 in
theorem segmentMany_walk {SG : Own → World → World → Sv → Prop} (F : Face SG) (CR : Crashes SG) (n0 p0 : Int) (w : World) (hT : Tabs w) :
    Calls Tryz.prog 4 #[.int .i64 n0, .int .i64 p0] w fun e w' => e = .returned (.bool true) ∧ Below w.heap.size w w' := by
  have HT := Lib.hid hT
  have HF := Lib.hid F
  have HCR := Lib.hid CR
  have HBEG := Lib.hid (segbegun_any F w hT)
  clear F CR hT
  by_cases hbad : n0 < 1 ∨ 60 < n0 ∨ p0 < 1 ∨ 10 < p0
  · go_enter Tryz.func4, Tryz.ntmps4
    go_upto_region 4 with (go_at_call 5; refine HBEG.out.mono ?_; rintro e w1 ⟨rfl, hb1⟩; have HB1 := Lib.hid hb1; clear hb1)
    by_cases h1 : n0 < 1
    · go_wp2_with fail
      go_ret
      exact ⟨rfl, HB1.out⟩
    by_cases h2 : 60 < n0
    · go_wp2_with fail
      go_ret
      exact ⟨rfl, HB1.out⟩
    by_cases h3 : p0 < 1
    · go_wp2_with fail
      go_ret
      exact ⟨rfl, HB1.out⟩
    have h4 : 10 < p0 := by omega
    go_wp2_with fail
    go_ret
    exact ⟨rfl, HB1.out⟩
  obtain ⟨n, rfl⟩ : ∃ n : Nat, n0 = n := ⟨n0.toNat, by omega⟩
  obtain ⟨per, rfl⟩ : ∃ per : Nat, p0 = per := ⟨p0.toNat, by omega⟩
  have hn1 : 1 ≤ n := by omega
  have hn60 : n ≤ 60 := by omega
  have hp1 : 1 ≤ per := by omega
  have hp10 : per ≤ 10 := by omega
  have q1 : ¬ (n : Int) < 1 := by omega
  have q2 : ¬ 60 < (n : Int) := by omega
  have q3 : ¬ (per : Int) < 1 := by omega
  have q4 : ¬ 10 < (per : Int) := by omega
  clear hbad
  have hz := zeroRec
  go_enter Tryz.func4, Tryz.ntmps4
  go_upto_region 6 with (go_at_call 5; refine HBEG.out.mono ?_; rintro e w1 ⟨rfl, hb1⟩; have HB1 := Lib.hid hb1; clear hb1)
  have CN := Lib.hid (new_held 1048576 w1)
  rw [show room 1048576 = 1048576 by decide] at CN
  have HT1 := Lib.hid (Tabs.below HT.out HB1.out rfl)
  go_upto_region 7 with (go_at_call 6; refine CN.out.mono ?_; rintro e w2 ⟨own2, f, rfl, hd2⟩)
  have CC := Lib.hid (HF.out.create (id := 4) (num := 1) HT1.out hd2 (St.new 1048576) (by decide) (by decide) (by decide))
  clear CN hd2
  go_upto_region 10 with (go_at_call 7; refine CC.out.mono ?_; rintro e w3 ⟨own3, sg, g, K3, rfl, hK3, hs3, hf3⟩)
  have ep : ptr sg = .pointer (some ⟨sg, 0, none⟩) := rfl
  rw [ep]
  have HS3 := Lib.hid hs3
  have hb13 : w1.heap.size ≤ w3.heap.size := (HF.out.below hs3).size
  clear CC hs3 hf3 q1 q2 q3 q4 ep
  obtain ⟨V, hV⟩ : ∃ V : Fl → Nat → Sv, V = fun x K => ⟨f, sg, 4, 1, 1048576, [(segName 4 1, g)], [(segName 4 1, g)], [], g, x, K⟩ := ⟨_, rfl⟩
  have HV := Lib.hid hV
  have HS3' : Hid (SG own3 w1 w3 (V ⟨cat (mrecs 0), [], []⟩ K3)) := by rw [hV]; exact HS3.out
  have HG3 : Hid (Grow own3 w3 w1.heap.size 3 1 (.slice none 0 0) 0 (ivs (pl 0))) := Grow.nil _ _ _ _ _
  clear HS3 hV
  go_wp2_with fail
  go_loopw [9, 10] (fun va vi wr => ∃ (i p K : Nat) (own : Own) (L : Secs), vi = .int .i64 (i : Int) ∧ i ≤ n + 10 ∧ p ≤ n ∧ K ≤ 8 + 8 * i ∧ Hid (p = min i n) ∧ Hid (SG own w1 wr (V ⟨cat (mrecs p), [], L⟩ K)) ∧ Hid (Grow own wr w1.heap.size 3 1 va p (ivs (pl p)))) (fun _ vi _ => n + 20 - (RowKit.intOf vi).toNat)
  case atStart => exact ⟨0, 0, K3, own3, [], rfl, by omega, Nat.zero_le _, by omega, by show 0 = _; omega, HS3', HG3⟩
  case round =>
    obtain ⟨i, p, K, own, L, rfl, hi, hp, hK, HP, HS, HG⟩ := hrel
    by_cases hlt : i < n
    · obtain rfl : p = i := by rw [HP.out]; omega
      have hlt' : (p : Int) < (n : Int) := by omega
      obtain ⟨A9, c9, rfl, h91, h92, hf9⟩ := HG.out.form
      obtain ⟨wi, hwi⟩ : ∃ wi, wi = wr := ⟨_, rfl⟩
      subst hwi
      have HR0 : Hid (Rs wi wi (.slice none 0 0) (msub p 0)) := Rs.nil wi
      have hwr : w1.heap.size ≤ wi.heap.size := by have h := HS.out; rw [HV.out] at h; exact (HF.out.below h).size
      clear h91 h92 hf9 HP
      go_wp2_with fail
      go_loopw [11, 12] (fun vl vk wx => ∃ (q : Nat), vk = .int .i64 ((p + q : Nat) : Int) ∧ p + q ≤ n ∧ q ≤ per ∧ Hid (Rs wi wx vl (msub p q))) (fun _ vk _ => n - (RowKit.intOf vk).toNat)
      case atStart => exact ⟨0, rfl, by omega, Nat.zero_le _, HR0⟩
      case round =>
        obtain ⟨q, rfl, hq, hqp, HR⟩ := hrel
        obtain ⟨k, hk⟩ : ∃ k, k = p + q := ⟨_, rfl⟩
        rw [← hk]
        by_cases hin : k < n ∧ q < per
        · obtain ⟨hin1, hin2⟩ := hin
          have e1 : (k : Int) < (p : Int) + (per : Int) := by omega
          have e0 : (k : Int) < (n : Int) := by omega
          have ew : IntKind.u64.wrap (k : Int) = (k : Int) := by simp [IntKind.wrap, IntKind.bits, IntKind.signed]; omega
          have hk60 : k ≤ 60 := by omega
          have hmk : (Instr.makeSlice 53 (.int .i64 (k : Int)) (.int .i64 (k : Int))).run Tryz.prog wr = .ok (.slice (some ⟨wr.heap.size, 0, none⟩) k k) (wr.alloc (.cells (bvs (noughts k)).toArray 5)) := by
            rw [← noughts_made k]
            exact Go.run_make_row' (P := Tryz.prog) 53 5 (.int .u8 0) 1 Tryz.underlying53 (by kernel_rfl) rfl .i64 .i64 k (by omega) (by omega) wr
          obtain ⟨s, hs⟩ : ∃ s, s = str (noughts k) := ⟨_, rfl⟩
          have hcv : (convert 53 9 (.slice (some ⟨wr.heap.size, 0, none⟩) k k)).run Tryz.prog (wr.alloc (.cells (bvs (noughts k)).toArray 5)) = .ok (.string s) (wr.alloc (.cells (bvs (noughts k)).toArray 5)) := by
            have hsz : (bvs (noughts k)).toArray.size = k := by rw [List.size_toArray, bvs_length, noughts, List.length_replicate]
            have := Row.fresh wr 5 (0, 0) (bvs (noughts k)).toArray
            rw [hsz] at this
            exact conv_row this (Lib.hid hs)
          have HSS := Lib.hid hs
          have HKK := Lib.hid hk
          obtain ⟨wy, hwy⟩ : ∃ wy, wy = wr.alloc (.cells (bvs (noughts k)).toArray 5) := ⟨_, rfl⟩
          have HRY : Hid (Rs wi wy u11 (msub p q)) := by rw [hwy]; exact HR.out.all (below_alloc wr _)
          rw [← hwy] at hmk hcv
          have HB4 := Lib.hid (built_mrec k s)
          obtain ⟨mc, hmc⟩ : ∃ mc, mc = (mrec k).vals := ⟨_, rfl⟩
          have hmc' : (#[.int .i64 2, .int .u32 4, .int .u64 0, .int .u64 0, .int .u64 (k : Int), .string s] : Array Value) = mc := by rw [hmc, hs]; rfl
          rw [hmc'] at HB4
          have HMC := Lib.hid hmc
          have HRZ : Hid (Rs wi (wy.alloc (.cells (mrec k).vals 40)) u11 (msub p q)) := HRY.out.all (below_alloc wy _)
          have HONE := Lib.hid (rec_cells1 wy 40 (0, 0) (mrec k))
          have hl6 : (msub p q).length ≤ 1000000 := by rw [msub_length]; omega
          clear hs hk hwy hmc hmc' HR
          go_wp2_with (first
            | (refine build_four rfl 40 (.const (.int .i64 2)) (.const (.int .u32 4)) (.tmp 67) (.tmp 70) rfl (some 71) rfl _ _ _ _ rfl rfl rfl rfl mc HB4.out ?_; rw [HMC.out])
            | (refine build_oneRec rfl (.tmp 71) rfl (some 72) rfl (mrec k) rfl ?_)
            | (at_builtin; refine rs_append HRZ.out rfl (.tmp 65) (.tmp 72) rfl rfl wy.heap.size 1 (mrec k) rfl HONE.out hl6 ?_; intro v6 w6 HS6))
          go_roundw
          case rel => exact ⟨q + 1, by have := HKK.out; rw [this]; go_num, by have := HKK.out; omega, by omega, by have h := HS6.out; rw [HKK.out, msub_snoc] at h; exact h⟩
          case measure => (simp [RowKit.intOf]; omega)
        · have hq0 : 0 < q := by omega
          by_cases hkn : k < n
          · have e0 : (k : Int) < (n : Int) := by omega
            have e1 : ¬ (k : Int) < (p : Int) + (per : Int) := by omega
            have HMIN : Hid (p + q = min (p + per) n) := by show _ = _; omega
            clear hk
            have hqq : q ≤ n := by omega
            have hS0 := HS.out
            rw [HV.out] at hS0
            have hSG := HF.out.all hS0 HR.out.below
            obtain ⟨A11, c11, rfl, hc11, hm11, hf11⟩ := grow_rs (HF.out.top hS0) HR.out
            rw [msub_length] at hc11 hf11
            have CA := Lib.hid (HF.out.append_ok (g0 := mrecs p) (l := msub p q) (n := q) (c := c11) HT1.out hSG rfl (mrecs_fit (by omega)) (msub_fit (by omega)) (msub_length p q) hq0 (by omega) hc11 hm11 hf11 (by
              rw [mrecs_append]
              have := mrecs_size (i := p + q) (by omega)
              show ((cat (mrecs (p + q))).length : Int) ≤ 1048576
              omega) (show K + 8 ≤ 1073741824 by omega))
            have HGX := Lib.hid (HG.out.all HR.out.below)
            rw [msub_length]
            have hcm11 : c11 ≤ 9223372036854775807 := by unfold maxLen at hm11; exact hm11
            clear hS0 hSG hf11 hm11
            go_upto_region 22 with (go_at_call 9; refine CA.out.mono ?_; rintro e w6 ⟨own6, P, cp, L6, K6, rfl, hcp, hcp2, hfp, hK6, hs6, hf6⟩)
            have HG6 := Lib.hid (HGX.out.fr hf6.fr)
            have HT6 := Lib.hid (HF.out.top hs6)
            have hb16 : w1.heap.size ≤ w6.heap.size := (HF.out.below hs6).size
            obtain ⟨pb, po, rfl, _, _, _⟩ := hfp.2 hq0
            have HNW := Lib.hid (row_news hfp.row)
            have HS6 : Hid (SG own6 w1 w6 (V ⟨cat (mrecs (p + q)), [], L6⟩ K6)) := by
              show SG own6 w1 w6 (V ⟨cat (mrecs (p + q)), [], L6⟩ K6)
              rw [HV.out, ← mrecs_append]
              exact hs6
            have hK6' : K6 ≤ K + 8 := hK6
            have hcp' : cp ≤ 9223372036854775807 := by unfold maxLen at hcp2; exact hcp2
            clear CA hs6 hf6 hfp hK6 hcp2 HGX
            go_wp2_with (at_builtin; refine grow_append HT6.out HG6.out hb16 rfl (.tmp 82) (.tmp 83) 35 rfl (.int .i64 0) 8 Tryz.underlying35 (by kernel_rfl) rfl (by decide) (by decide) rfl ⟨pb, po, none⟩ q cp _ rfl (by simp [ivs]) HNW.out ints_one (by omega) ?_; intro v9 w9 HG9 hgw)
            have HS9 : Hid (SG own6 w1 w9 (V ⟨cat (mrecs (p + q)), [], L6⟩ K6)) := HCR.out.grow HS6.out hgw.out fun g' hg' => ⟨HG6.out.free g' hg', (HG6.out.row.lt g' hg').1⟩
            have HG9' : Hid (Grow own6 w9 w1.heap.size 3 1 v9 (p + q) (ivs (pl (p + q)))) := by
              have h := HG9.out
              rw [ivs_append, pl_append] at h
              exact h
            clear HG9 hgw HG6 HS6 HNW
            go_wp2_with fail
            go_roundw
            case rel => exact ⟨p + per, p + q, K6, own6, L6, by go_num, by omega, by omega, by omega, HMIN, HS9, HG9'⟩
            case measure => (simp [RowKit.intOf]; omega)
          · have e0 : ¬ (k : Int) < (n : Int) := by omega
            have HMIN : Hid (p + q = min (p + per) n) := by show _ = _; omega
            clear hk
            have hqq : q ≤ n := by omega
            have hS0 := HS.out
            rw [HV.out] at hS0
            have hSG := HF.out.all hS0 HR.out.below
            obtain ⟨A11, c11, rfl, hc11, hm11, hf11⟩ := grow_rs (HF.out.top hS0) HR.out
            rw [msub_length] at hc11 hf11
            have CA := Lib.hid (HF.out.append_ok (g0 := mrecs p) (l := msub p q) (n := q) (c := c11) HT1.out hSG rfl (mrecs_fit (by omega)) (msub_fit (by omega)) (msub_length p q) hq0 (by omega) hc11 hm11 hf11 (by
              rw [mrecs_append]
              have := mrecs_size (i := p + q) (by omega)
              show ((cat (mrecs (p + q))).length : Int) ≤ 1048576
              omega) (show K + 8 ≤ 1073741824 by omega))
            have HGX := Lib.hid (HG.out.all HR.out.below)
            rw [msub_length]
            have hcm11 : c11 ≤ 9223372036854775807 := by unfold maxLen at hm11; exact hm11
            clear hS0 hSG hf11 hm11
            go_upto_region 22 with (go_at_call 9; refine CA.out.mono ?_; rintro e w6 ⟨own6, P, cp, L6, K6, rfl, hcp, hcp2, hfp, hK6, hs6, hf6⟩)
            have HG6 := Lib.hid (HGX.out.fr hf6.fr)
            have HT6 := Lib.hid (HF.out.top hs6)
            have hb16 : w1.heap.size ≤ w6.heap.size := (HF.out.below hs6).size
            obtain ⟨pb, po, rfl, _, _, _⟩ := hfp.2 hq0
            have HNW := Lib.hid (row_news hfp.row)
            have HS6 : Hid (SG own6 w1 w6 (V ⟨cat (mrecs (p + q)), [], L6⟩ K6)) := by
              show SG own6 w1 w6 (V ⟨cat (mrecs (p + q)), [], L6⟩ K6)
              rw [HV.out, ← mrecs_append]
              exact hs6
            have hK6' : K6 ≤ K + 8 := hK6
            have hcp' : cp ≤ 9223372036854775807 := by unfold maxLen at hcp2; exact hcp2
            clear CA hs6 hf6 hfp hK6 hcp2 HGX
            go_wp2_with (at_builtin; refine grow_append HT6.out HG6.out hb16 rfl (.tmp 82) (.tmp 83) 35 rfl (.int .i64 0) 8 Tryz.underlying35 (by kernel_rfl) rfl (by decide) (by decide) rfl ⟨pb, po, none⟩ q cp _ rfl (by simp [ivs]) HNW.out ints_one (by omega) ?_; intro v9 w9 HG9 hgw)
            have HS9 : Hid (SG own6 w1 w9 (V ⟨cat (mrecs (p + q)), [], L6⟩ K6)) := HCR.out.grow HS6.out hgw.out fun g' hg' => ⟨HG6.out.free g' hg', (HG6.out.row.lt g' hg').1⟩
            have HG9' : Hid (Grow own6 w9 w1.heap.size 3 1 v9 (p + q) (ivs (pl (p + q)))) := by
              have h := HG9.out
              rw [ivs_append, pl_append] at h
              exact h
            clear HG9 hgw HG6 HS6 HNW
            go_wp2_with fail
            go_roundw
            case rel => exact ⟨p + per, p + q, K6, own6, L6, by go_num, by omega, by omega, by omega, HMIN, HS9, HG9'⟩
            case measure => (simp [RowKit.intOf]; omega)
    · obtain rfl : p = n := by rw [HP.out]; omega
      have hS0 := HS.out
      rw [HV.out] at hS0
      have CY := Lib.hid (HF.out.sync HT1.out hS0 (show K + 8 ≤ 1073741824 by omega))
      obtain ⟨A9, c9, rfl, h91, h92, hf9⟩ := HG.out.form
      rw [Nat.mul_one] at hf9
      have HF9 := Lib.hid hf9
      have hcm9 : c9 ≤ 9223372036854775807 := by unfold maxLen at h92; exact h92
      clear hS0 h92 hf9 HG HP HS
      go_upto_region 25 with (go_at_call 10; refine CY.out.mono ?_; rintro e w4 ⟨own4, K4, rfl, hK4, hs4, hf4⟩)
      have hK4' : K4 ≤ K + 8 := hK4
      have HF4 := Lib.hid (free_fr HF9.out hf4.fr)
      have HS4 := Lib.hid hs4
      have CX := Lib.hid (HCR.out.crash (B := w4.heap.size) (A := none) (m := 0) (c := 0) (keep := []) 0 (-1) hs4 ⟨rfl, fun h => absurd h (by omega)⟩ (Nat.le_refl _) (by decide))
      clear CY hK4 hs4 hf4 HF9
      have ef : ptr (⟨f, sg, 4, 1, 1048576, [(segName 4 1, g)], [(segName 4 1, g)], [], g, ⟨cat (mrecs p), cat (mrecs p), []⟩, K4⟩ : Sv).f = .pointer (some ⟨f, 0, none⟩) := rfl
      have CX2 : Hid (Calls Tryz.prog 13 #[.pointer (some ⟨f, 0, none⟩), .int .i64 0, .slice none 0 0, .int .i64 (-1)] w4 fun e w' => ∃ own5 f5 d5 g5, e = .returned (ptr f5) ∧ SG own5 w1 w' ⟨f, sg, 4, 1, 1048576, [(segName 4 1, g)], [(segName 4 1, g)], [], g, ⟨cat (mrecs p), cat (mrecs p), []⟩, K4⟩ ∧ Held own5 w1 w' f5 d5 K4 ∧
          St d5 1048576 [(segName 4 1, g5)] [(segName 4 1, g5)] [] [(g5, ⟨cat (mrecs p), cat (mrecs p), []⟩)] ∧ w4.heap.size ≤ f5 ∧ Fr own4 own5 w4 w') := by
        refine CX.out.mono ?_
        rintro e w' ⟨own5, f5, d, d5, he, k1, k2, k3, k4, k5, k6, k7, _⟩
        have hx : d.fl g = ⟨cat (mrecs p), cat (mrecs p), []⟩ := k2.head
        have hok := k3.ok (n := segName 4 1) (x := ⟨cat (mrecs p), cat (mrecs p), []⟩) (k2.look (by simp [Disk.dget]))
        obtain ⟨g5, hst⟩ := crashed_one k5 k2.wait k2.S
        have hy : (d.fl g).crash (partsFor 0 (d.fl g).soiled.length [] (-1)) = cat (mrecs p) := by
          rw [hx]
          exact crash_nothing hok (List.take_length) (parts_none _)
        rw [hy, k2.room] at hst
        exact ⟨own5, f5, d5, g5, he, k1, k4, hst, k6, k7⟩
      have hlt4 := HCR.out.lt HS4.out
      obtain ⟨hsg4, hf4⟩ : sg < w4.heap.size ∧ f < w4.heap.size := hlt4
      clear CX ef HS4
      go_upto_region 26 with (first
        | (go_at_call 13; refine CX2.out.mono ?_; rintro e w5 ⟨own5, f5, d5, g5, rfl, hs5, hh5, hst5, hge5, hfr5⟩; have HS5 := Lib.hid hs5; have HF5 := Lib.hid (free_fr HF4.out hfr5); have CO := Lib.hid (HCR.out.opens (id := 4) (num := 1) HT1.out hh5 hst5 rfl (by decide) (by decide)); have hsz5 := hfr5.size; clear hs5 hh5 hst5 hfr5)
        | (go_at_call 15; refine CO.out.mono ?_; rintro e w6 ⟨own6, sg6, rfl, hge6, hs6, hf6⟩; have HS6 := Lib.hid hs6; have HFR6 := Lib.hid hf6; clear hs6 hf6))
      have HSA := Lib.hid (HFR6.out.other w1 _ (show f ≠ f5 by omega) (show sg ≠ sg6 by omega) (show f ≠ sg6 by omega) (show sg ≠ f5 by omega) HS5.out)
      have HF6 := Lib.hid (free_fr HF5.out HFR6.out.fr)
      have n1 : f5 ≠ f := by omega
      have n2 : sg6 ≠ sg := by omega
      have n3 : f5 ≠ sg := by omega
      have n4 : sg6 ≠ f := by omega
      have ep6 : ptr sg6 = .pointer (some ⟨sg6, 0, none⟩) := rfl
      rw [ep6]
      obtain ⟨V1, hV1⟩ : ∃ V1 : Nat → Sv, V1 = fun K => ⟨f, sg, 4, 1, 1048576, [(segName 4 1, g)], [(segName 4 1, g)], [], g, ⟨cat (mrecs p), cat (mrecs p), []⟩, K⟩ := ⟨_, rfl⟩
      obtain ⟨V2, hV2⟩ : ∃ V2 : Nat → Sv, V2 = fun K => ⟨f5, sg6, 4, 1, 1048576, [(segName 4 1, g5)], [(segName 4 1, g5)], [], g5, ⟨cat (mrecs p), cat (mrecs p), []⟩, K⟩ := ⟨_, rfl⟩
      have HV1 := Lib.hid hV1
      have HV2 := Lib.hid hV2
      have HS1' : Hid (SG own6 w1 w6 (V1 K4)) := by rw [hV1]; exact HSA.out
      have HS2' : Hid (SG own6 w1 w6 (V2 K4)) := by rw [hV2]; exact HS6.out
      have hrec := HF.out.records HT1.out HS6.out (show K4 + 8 ≤ 1073741824 by omega)
      have hown := mrecs_own hn60
      have HFRA : Hid (FrS SG f5 sg6 own6 own6 w6 w6) := ⟨Fr.refl _ _, fun _ _ _ _ _ _ h => h⟩
      have CR : Hid (Calls Tryz.prog 17 #[.pointer (some ⟨sg6, 0, none⟩)] w6 fun e w' => ∃ own7 K7 A c, e = .returned (.slice A p c) ∧ p ≤ c ∧ c ≤ maxLen ∧ K7 ≤ K4 + 8 ∧ SG own7 w1 w' (V2 K7) ∧ SG own7 w1 w' (V1 K4) ∧ Free own7 w' A9 p (ivs (pl p))) := by
        refine hrec.mono ?_
        rintro e w' ⟨own7, A, c, K7, he, h1, h2, _, h4, h5, h6⟩
        have hown' : (ownOf (⟨f5, sg6, 4, 1, 1048576, [(segName 4 1, g5)], [(segName 4 1, g5)], [], g5, ⟨cat (mrecs p), cat (mrecs p), []⟩, K4⟩ : Sv).id (frontFrom 0 (⟨f5, sg6, 4, 1, 1048576, [(segName 4 1, g5)], [(segName 4 1, g5)], [], g5, ⟨cat (mrecs p), cat (mrecs p), []⟩, K4⟩ : Sv).x.now)).length = p := hown
        rw [hown'] at he h1
        exact ⟨own7, K7, A, c, he, h1, h2, h4, by rw [hV2]; exact h5, by rw [hV1]; exact h6.other w1 _ n1.symm n2.symm n4.symm n3.symm HSA.out, free_fr HF6.out h6.fr⟩
      have CZ1 : Hid (∀ own7 K7 W, SG own7 w1 W (V1 K7) → Calls Tryz.prog 11 #[.pointer (some ⟨sg, 0, none⟩)] W fun e w' => e = .returned (.int .i64 ((cat (mrecs p)).length : Int)) ∧ Below W.heap.size W w') := fun own7 K7 W h => by
        rw [hV1] at h
        exact HF.out.size h
      have CZ2 : Hid (∀ own7 K7 W, SG own7 w1 W (V2 K7) → Calls Tryz.prog 11 #[.pointer (some ⟨sg6, 0, none⟩)] W fun e w' => e = .returned (.int .i64 ((cat (mrecs p)).length : Int)) ∧ Below W.heap.size W w') := fun own7 K7 W h => by
        rw [hV2] at h
        exact HF.out.size h
      have hcs := mrecs_size hn60
      clear hrec hown hV1 hV2 CX2 CO HFRA HFR6 HSA HS6 HS5 HF5 HF4
      go_upto_region 28 with (first
        | (go_at_call 17; refine CR.out.mono ?_; rintro e w7 ⟨own7, K7, A7, c7, rfl, hc7, hc72, hK7, hs72, hs71, hf7⟩; have hcm7 : c7 ≤ 9223372036854775807 := (by unfold maxLen at hc72; exact hc72); have HS71 := Lib.hid hs71; have HS72 := Lib.hid hs72; have HF7 := Lib.hid hf7; clear hs71 hs72 hf7 hc72)
        | (go_at_call 11; with_reducible refine (CZ2.out _ _ _ HS72.out).mono ?_; rintro e w8 ⟨rfl, hb8⟩; have HS81 := Lib.hid (HF.out.all HS71.out hb8); have HS82 := Lib.hid (HF.out.all HS72.out hb8); have HF8 := Lib.hid (free_fr HF7.out (Fr.of_below (own := own7) hb8)); clear hb8)
        | (go_at_call 11; with_reducible refine (CZ1.out _ _ _ HS81.out).mono ?_; rintro e w9 ⟨rfl, hb9⟩; have HS91 := Lib.hid (HF.out.all HS81.out hb9); have HS92 := Lib.hid (HF.out.all HS82.out hb9); have HF99 := Lib.hid (free_fr HF8.out (Fr.of_below (own := own7) hb9)); clear hb9))
      have hK4b : K4 ≤ 700 := by omega
      have hK7b : K7 ≤ 710 := by omega
      have HO1 : Hid (∀ own own' W W' K, FrS SG f sg own own' W W' → SG own w1 W (V2 K) → SG own' w1 W' (V2 K)) := fun own own' W W' K hf h => by
        rw [HV2.out] at h ⊢
        exact hf.other w1 _ n1 n2 n3 n4 h
      have HO2 : Hid (∀ own own' W W' K, FrS SG f5 sg6 own own' W W' → SG own w1 W (V1 K) → SG own' w1 W' (V1 K)) := fun own own' W W' K hf h => by
        rw [HV1.out] at h ⊢
        exact hf.other w1 _ n1.symm n2.symm n4.symm n3.symm h
      have HT71 := HT1
      clear CR CZ1 CZ2 HS71 HS72 HF7 HS81 HS82 HF8 HF6 HS1' HS2' hsg4 hf4 hge5 hsz5 hge6
      go_wp2_with fail
      go_loopw [16] (fun vi wr => ∃ (i KA KB : Nat) (own : Own), vi = .int .i64 (i : Int) ∧ i ≤ p ∧ KA ≤ 1000 + 16 * i ∧ KB ≤ 1000 + 8 * i ∧ Hid (SG own w1 wr (V1 KA)) ∧ Hid (SG own w1 wr (V2 KB)) ∧ Hid (Free own wr A9 p (ivs (pl p)))) (fun vi _ => p - (RowKit.intOf vi).toNat)
      case atStart => exact ⟨0, K4, K7, own7, rfl, Nat.zero_le _, by omega, by omega, HS91, HS92, HF99⟩
      case round =>
        obtain ⟨i, KA, KB, own, rfl, hi, hKA, hKB, HA, HB, HFA⟩ := hrel
        by_cases hlt : i < p
        · have hlti : (i : Int) < (p : Int) := by omega
          obtain ⟨ab, ao, rfl, _, _, _⟩ := HFA.out.2 (by omega)
          have hx0 : ∀ own' W, Free own' W (some ⟨ab, ao, none⟩) p (ivs (pl p)) → W.cell? ⟨ab, ao + i, none⟩ = some (.int .i64 ((cat (mrecs i)).length : Int)) := fun own' W h => free_at h i _ (pl_get hlt)
          have hpl := pl_lt hlt hn60
          obtain ⟨a, ha⟩ : ∃ a, a = (cat (mrecs i)).length := ⟨_, rfl⟩
          obtain ⟨N, hN⟩ : ∃ N, N = (cat (mrecs p)).length := ⟨_, rfl⟩
          have hd1 := mrec_at hlt hn60
          have hd2 := mrec_not hlt hn60
          rw [← ha, ← hN] at hpl
          rw [← ha] at hx0 hd1 hd2
          rw [← hN] at hcs
          have HX0 := Lib.hid hx0
          have C1 : Hid (∀ own K W, SG own w1 W (V1 K) → K + 8 ≤ 1073741824 → Calls Tryz.prog 19 #[.pointer (some ⟨sg, 0, none⟩), .int .i64 (a : Int)] W fun e w' => ∃ own' K', e = .returned (.tuple #[.agg (mrec i).vals, .int .i64 0]) ∧ K' ≤ K + 8 ∧ SG own' w1 w' (V1 K') ∧ FrS SG f sg own own' W w') := fun own K W h hK => by
            rw [HV1.out] at h ⊢
            exact HF.out.read_ok HT1.out h (by show a < (cat (mrecs p)).length; omega) hd1 rfl hK
          have C2 : Hid (∀ own K W, SG own w1 W (V2 K) → K + 8 ≤ 1073741824 → Calls Tryz.prog 19 #[.pointer (some ⟨sg6, 0, none⟩), .int .i64 (a : Int)] W fun e w' => ∃ own' K', e = .returned (.tuple #[.agg (mrec i).vals, .int .i64 0]) ∧ K' ≤ K + 8 ∧ SG own' w1 w' (V2 K') ∧ FrS SG f5 sg6 own own' W w') := fun own K W h hK => by
            rw [HV2.out] at h ⊢
            exact HF.out.read_ok HT1.out h (by show a < (cat (mrecs p)).length; omega) hd1 rfl hK
          have C3 : Hid (∀ own K W, SG own w1 W (V1 K) → K + 8 ≤ 1073741824 → Calls Tryz.prog 19 #[.pointer (some ⟨sg, 0, none⟩), .int .i64 ((a : Int) + 1)] W fun e w' => ∃ own' K' z, e = .returned (.tuple #[.agg (Rc.vals z), .int .i64 4]) ∧ K' ≤ K + 8 ∧ SG own' w1 w' (V1 K') ∧ FrS SG f sg own own' W w') := fun own K W h hK => by
            rw [HV1.out] at h ⊢
            have e : ((a + 1 : Nat) : Int) = (a : Int) + 1 := by omega
            rw [← e]
            exact HF.out.read_bad HT1.out h (by show a + 1 < (cat (mrecs p)).length; omega) (fun x m hx => absurd hx (hd2 x m)) hK
          have ew : IntKind.u64.wrap (i : Int) = (i : Int) := by simp [IntKind.wrap, IntKind.bits, IntKind.signed]; omega
          have x0 := HX0.out _ _ HFA.out
          have CR1 := Lib.hid (C1.out own KA wr HA.out (by omega))
          have ha3 : a ≤ 62340 := by omega
          clear hx0 ha hN hd1 hd2
          go_upto_region 32 with (first
            | (go_at_call 19; refine CR1.out.mono ?_; rintro e w12 ⟨own2, K2, rfl, hK2, hs2, hf2⟩; have HA2 := Lib.hid hs2; have HB2 := Lib.hid (HO1.out _ _ _ _ _ hf2 HB.out); have HFA2 := Lib.hid (free_fr HFA.out hf2.fr); clear hs2 hf2)
            | (refine store_recN (zero_new w12) rfl rfl (.tmp 17) (.tmp 128) rfl rfl (mrec i) rfl rfl ?_; intro w13 X3 G3))
          have hb3 : Below w12.heap.size w12 w13 := below_only (below_alloc w12 _) G3.out (Nat.le_refl _) (by simp)
          have HA3 : Hid (SG own2 w1 w13 (V1 K2)) := HF.out.all HA2.out hb3
          have HB3 : Hid (SG own2 w1 w13 (V2 KB)) := HF.out.all HB2.out hb3
          have HFA3 := Lib.hid (free_fr HFA2.out (Fr.of_below (own := own2) hb3))
          have HN3 : Hid (own2 w12.heap.size = none) := by
            show _ = _
            cases ho : own2 w12.heap.size with
            | none => rfl
            | some q => have := HF.out.top HA2.out _ _ ho; omega
          have x0 := HX0.out _ _ HFA3.out
          have CR2 := Lib.hid (C2.out own2 KB w13 HB3.out (by omega))
          obtain ⟨b17, hb17⟩ : ∃ b17, b17 = w12.heap.size := ⟨_, rfl⟩
          rw [← hb17] at X3 HN3 ⊢
          have hl17 := X3.out.lt
          clear G3 hb3 HA2 HB2 HFA2 hb17 CR1
          go_upto_region 33 with (first
            | (go_at_call 19; refine CR2.out.mono ?_; rintro e w14 ⟨own4', K4', rfl, hK4', hs4', hf4'⟩; have HB4 := Lib.hid hs4'; have HA4 := Lib.hid (HO2.out _ _ _ _ _ hf4' HA3.out); have HFA4 := Lib.hid (free_fr HFA3.out hf4'.fr); have X4 : Hid (RecAt w14 b17 (mrec i)) := (hf4'.fr.block _ hl17 HN3.out).trans X3.out; clear hs4' hf4')
            | (refine store_recN (zero_new w14) rfl rfl (.tmp 19) (.tmp 137) rfl rfl (mrec i) rfl rfl ?_; intro w15 X5 G5))
          have hb5 : Below w14.heap.size w14 w15 := below_only (below_alloc w14 _) G5.out (Nat.le_refl _) (by simp)
          have HA5 : Hid (SG own4' w1 w15 (V1 K2)) := HF.out.all HA4.out hb5
          have HB5 : Hid (SG own4' w1 w15 (V2 K4')) := HF.out.all HB4.out hb5
          have HFA5 := Lib.hid (free_fr HFA4.out (Fr.of_below (own := own4') hb5))
          have X45 : RecAt w15 b17 (mrec i) := X4.out.below hb5 X4.out.lt
          have xa : w15.cell? ⟨b17, 4, none⟩ = some (.int .u64 (i : Int)) := X45.cell 4
          have xb : w15.cell? ⟨w14.heap.size, 4, none⟩ = some (.int .u64 (i : Int)) := X5.out.cell 4
          obtain ⟨s, hs⟩ : ∃ s, s = str (noughts i) := ⟨_, rfl⟩
          have xc : w15.cell? ⟨w14.heap.size, 5, none⟩ = some (.string s) := by rw [hs]; exact X5.out.cell 5
          have hsz : (s.size : Int) = (i : Int) := by rw [hs, str_size, noughts, List.length_replicate]
          have x0 := HX0.out _ _ HFA5.out
          have CR3 := Lib.hid (C3.out own4' K2 w15 HA5.out (by omega))
          clear G5 hb5 HA4 HB4 HFA4 X4 X45 X5 X3 CR2 hs
          go_wp2_with (go_at_call 19; refine CR3.out.mono ?_; rintro e w16 ⟨own6', K6', z6, rfl, hK6', hs6', hf6'⟩; have HA6 := Lib.hid hs6'; have HB6 := Lib.hid (HO1.out _ _ _ _ _ hf6' HB5.out); have HFA6 := Lib.hid (free_fr HFA5.out hf6'.fr); clear hs6' hf6')
          go_roundw
          case rel => exact ⟨i + 1, K6', K4', own6', by go_num, by omega, by omega, by omega, HA6, HB6, HFA6⟩
          case measure => (simp [RowKit.intOf]; omega)
        · obtain rfl : i = p := by omega
          have HFIN : Hid (Below w1.heap.size w1 wr) := by have h := HA.out; rw [HV1.out] at h; exact HF.out.below h
          go_wp2_with fail
          go_ret
          exact ⟨rfl, HB1.out.trans (HFIN.out.mono HB1.out.size)⟩
end Go.Proofs.YtkdnfikaodkhnaaGreatDoor.Seg
