/-
  Texts one behind the other: ManEnc.
-/
import Derived.Test.YtcmlchicpmnhdaaGreatDoorG14
import Derived.Test.YtcmlchicpmnhdaaGreatDoorG35
/-
  Proved: what encodeTenant and Encode of package manifest return: a tenant's bytes; those of all; nil of what may not be.
-/
namespace Go.Proofs.YtcmlchicpmnhdaaGreatDoor.Man
open Go.RowKit Go.Proofs.YtcmlchicpmnhdaaGreatDoor.Rec Go.Proofs.YtcmlchicpmnhdaaGreatDoor.Ten
open Go.Proofs.YtcmlchicpmnhdaaGreatDoor.Slot (Mk mk_new mk_put mk_append)
set_option linter.unusedVariables false
set_option linter.unusedSimpArgs false

theorem encSegs_take {l : List Int} {i : Nat} (hi : i < l.length) : encSegs (l.take (i + 1)) = encSegs (l.take i) ++ be (l.getD i 0).toNat 6 := by
  rw [List.take_succ_eq_append_getElem hi, encSegs_snoc, List.getD_eq_getElem?_getD, List.getElem?_eq_getElem hi]
  rfl
theorem encTes_take {l : List Te} {i : Nat} {t : Te} (hi : l[i]? = some t) : encTes (l.take (i + 1)) = encTes (l.take i) ++ encTe t := by
  obtain ⟨h1, h2⟩ := List.getElem?_eq_some_iff.1 hi
  rw [List.take_succ_eq_append_getElem h1, encTes_snoc, h2]
/-- Put behind bytes of the call's own, for whatever number. -/
theorem mk_puts {w0 w : World} {v : Value} {m : Nat} {bs : List UInt8} (h : Hid (Mk w0 w v m bs)) (n k : Nat) (K : Int) (hK : K = (k : Int)) (hk : 1 ≤ k ∧ k ≤ 8) (hn : n < 18446744073709551616) :
    Calls Tryz.prog 43 #[.int .u64 (n : Int), .int .i64 K] w fun e w' => ∃ A c, e = .returned (.slice A k c) ∧ Hid (Mk w0 w' v m bs) ∧ Hid (Row w' w'.heap.size A k (bvs (be n k))) := mk_put h n k K hK hk hn
set_option maxRecDepth 100000 in
set_option maxHeartbeats 8000000 in
theorem encTenant_any (x : Tv) (w : World) (B : Nat) (hid : x.te.id < 4294967296) (hm : x.te.May) (hin : x.In w B) (hB : B ≤ w.heap.size) :
    Calls Tryz.prog 44 #[.agg x.vals] w fun e w' => ∃ A c, e = .returned (.slice A (26 + 6 * x.te.segs.length) c) ∧ Hid (Row w' w'.heap.size A (26 + 6 * x.te.segs.length) (bvs (encTe x.te))) ∧ Below w.heap.size w w' := by
  obtain ⟨m1, m2, m3, m4, m5, m6, m7, m8, m9⟩ := hm.1
  have hsegs := may_segs hm
  have HSG : Hid (∀ i, i < x.te.segs.length → 0 ≤ x.te.segs.getD i 0 ∧ x.te.segs.getD i 0 < 281474976710656) := Lib.hid fun i hi => by
    rw [List.getD_eq_getElem?_getD, List.getElem?_eq_getElem hi]
    exact hsegs _ (List.getElem_mem hi)
  obtain ⟨w0, hw0⟩ : ∃ w0, w0 = w.alloc (.cells x.vals 35) := ⟨_, rfl⟩
  have HB0 : Hid (Below w.heap.size w w0) := by rw [hw0]; exact below_alloc w _
  have X0 : TenAt w0 w.heap.size x := by rw [hw0]; exact ten_new w x
  obtain ⟨tb, htb⟩ : ∃ tb, tb = w.heap.size := ⟨_, rfl⟩
  rw [← htb] at X0
  have hlt0 := X0.lt
  have HSR := Lib.hid (hin.row.keep (w' := w0) fun b o hb => HB0.out.cell (p := ⟨b, o, none⟩) (by show b < _; omega))
  have HW0B : Hid (B ≤ w0.heap.size) := Lib.hid (Nat.le_trans hB HB0.out.size)
  have hcap := hin.cap
  have hmost := hin.most
  have hcm : x.c ≤ 9223372036854775807 := by unfold maxLen at hmost; exact hmost
  obtain ⟨A0, hA0⟩ : ∃ A, A = x.A := ⟨_, rfl⟩
  obtain ⟨c0, hc0⟩ : ∃ c, c = x.c := ⟨_, rfl⟩
  obtain ⟨n, hn⟩ : ∃ n, n = x.te.segs.length := ⟨_, rfl⟩
  obtain ⟨id, hid2⟩ : ∃ z, z = x.te.id := ⟨_, rfl⟩
  obtain ⟨ep, hep⟩ : ∃ z, z = x.te.epoch := ⟨_, rfl⟩
  obtain ⟨nx, hnx⟩ : ∃ z, z = x.te.next := ⟨_, rfl⟩
  obtain ⟨qu, hqu⟩ : ∃ z, z = x.te.quota.toNat := ⟨_, rfl⟩
  obtain ⟨ns, hns⟩ : ∃ z, z = x.te.nextSeg.toNat := ⟨_, rfl⟩
  obtain ⟨sg, hsg⟩ : ∃ z, z = x.te.segs := ⟨_, rfl⟩
  have hqI : x.te.quota = (qu : Int) := by omega
  have hnI : x.te.nextSeg = (ns : Int) := by omega
  have HC : Hid (∀ W, Below w0.heap.size w0 W → W.cell? ⟨tb, 0, none⟩ = some (.int .u32 (id : Int)) ∧ W.cell? ⟨tb, 1, none⟩ = some (.int .u64 (ep : Int)) ∧ W.cell? ⟨tb, 2, none⟩ = some (.int .i64 (qu : Int)) ∧ W.cell? ⟨tb, 3, none⟩ = some (.int .u64 (nx : Int)) ∧ W.cell? ⟨tb, 4, none⟩ = some (.int .i64 (ns : Int)) ∧ W.cell? ⟨tb, 5, none⟩ = some (.slice A0 n c0)) := Lib.hid fun W hW => by
    have h := (X0.below hW hlt0).cells
    rw [← hid2, ← hep, hqI, ← hnx, hnI, ← hA0, ← hn, ← hc0] at h
    exact h
  have HEND : Hid (encTe x.te = be id 4 ++ be ep 6 ++ be qu 3 ++ be nx 6 ++ be ns 6 ++ be n 1 ++ encSegs sg) := Lib.hid (by unfold encTe; rw [← hid2, ← hep, ← hqu, ← hnx, ← hns, ← hn, ← hsg]; simp only [List.append_assoc])
  rw [hA0.symm, ← hn] at HSR
  rw [← hn] at HSG
  rw [← hsg] at HSG HSR
  have b1 : id < 4294967296 := by omega
  have b2 : ep < 18446744073709551616 := by omega
  have b3 : qu < 65537 := by omega
  have b4 : nx < 18446744073709551616 := by omega
  have b5 : ns < 18446744073709551616 := by omega
  have b6 : n ≤ 60 := by omega
  have hnc : n ≤ c0 := by omega
  have hcm0 : c0 ≤ 9223372036854775807 := by omega
  have HSL : Hid (sg.length = n) := Lib.hid (by rw [hsg, hn])
  have HNL : Hid (x.te.segs.length = n) := Lib.hid hn.symm
  have hw1 : IntKind.u64.wrap (id : Int) = (id : Int) := by rw [IntKind.wrap_u64]; omega
  have hw2 : IntKind.u64.wrap (qu : Int) = (qu : Int) := by rw [IntKind.wrap_u64]; omega
  have hw3 : IntKind.u64.wrap (ns : Int) = (ns : Int) := by rw [IntKind.wrap_u64]; omega
  have hw4 : IntKind.u64.wrap (n : Int) = (n : Int) := by rw [IntKind.wrap_u64]; omega
  have P1 := Lib.hid (mk_new id 4 4 w0 rfl ⟨by decide, by decide⟩ (by omega))
  rw [← hn]
  have y0 := (HC.out w0 (Below.refl _ _)).1
  have HTB := Lib.hid htb
  have HB0R : Hid (Row w0 B A0 n (ivs sg)) := HSR
  clear hm m1 m2 m3 m4 m5 m6 m7 m8 m9 hsegs X0 hlt0 HSR hcap hmost hcm hA0 hc0 hn hid2 hep hnx hqu hns hsg hqI hnI hin hid hB htb
  go_enter Tryz.func44, Tryz.ntmps44
  go_upto_region 1 with fail
  rw [← hw0, ← HTB.out]
  clear hw0
  go_upto_region 2 with (go_at_call 43; (with_reducible refine P1.out.mono ?_); rintro e w1 ⟨A1, c1, rfl, M1⟩)
  have y1 := (HC.out w1 M1.out.below).2.1
  have P2 := Lib.hid (mk_put M1 ep 6 6 rfl ⟨by decide, by decide⟩ b2)
  clear y0 P1
  go_upto_region 3 with (first
    | (go_at_call 43; (with_reducible refine P2.out.mono ?_); rintro e w2 ⟨A2, c2, rfl, M2, R2⟩)
    | (at_builtin; refine mk_append M2.out rfl (.tmp 10) (.tmp 13) rfl rfl _ A2 6 c2 _ rfl R2.out 10 rfl (by decide) ?_; intro v3 w3 M3 _))
  have y2 := (HC.out w3 M3.out.below).2.2.1
  have P3 := Lib.hid (mk_put M3 qu 3 3 rfl ⟨by decide, by decide⟩ (by omega))
  clear y1 P2 M1 M2 R2
  go_upto_region 4 with (first
    | (go_at_call 43; (with_reducible refine P3.out.mono ?_); rintro e w4 ⟨A4, c4, rfl, M4, R4⟩)
    | (at_builtin; refine mk_append M4.out rfl (.tmp 15) (.tmp 19) rfl rfl _ A4 3 c4 _ rfl R4.out 13 rfl (by decide) ?_; intro v5 w5 M5 _))
  have y3 := (HC.out w5 M5.out.below).2.2.2.1
  have P4 := Lib.hid (mk_put M5 nx 6 6 rfl ⟨by decide, by decide⟩ b4)
  clear y2 P3 M3 M4 R4
  go_upto_region 5 with (first
    | (go_at_call 43; (with_reducible refine P4.out.mono ?_); rintro e w6 ⟨A6, c6, rfl, M6, R6⟩)
    | (at_builtin; refine mk_append M6.out rfl (.tmp 21) (.tmp 24) rfl rfl _ A6 6 c6 _ rfl R6.out 19 rfl (by decide) ?_; intro v7 w7 M7 _))
  have y4 := (HC.out w7 M7.out.below).2.2.2.2.1
  have P5 := Lib.hid (mk_put M7 ns 6 6 rfl ⟨by decide, by decide⟩ b5)
  clear y3 P4 M5 M6 R6
  go_upto_region 6 with (first
    | (go_at_call 43; (with_reducible refine P5.out.mono ?_); rintro e w8 ⟨A8, c8, rfl, M8, R8⟩)
    | (at_builtin; refine mk_append M8.out rfl (.tmp 26) (.tmp 30) rfl rfl _ A8 6 c8 _ rfl R8.out 25 rfl (by decide) ?_; intro v9 w9 M9 _))
  have y5 := (HC.out w9 M9.out.below).2.2.2.2.2
  have P6 := Lib.hid (mk_put M9 n 1 1 rfl ⟨by decide, by decide⟩ (by omega))
  clear y4 P5 M7 M8 R8
  go_upto_region 7 with (first
    | (go_at_call 43; (with_reducible refine P6.out.mono ?_); rintro e w10 ⟨A10, c10, rfl, M10, R10⟩)
    | (at_builtin; refine mk_append M10.out rfl (.tmp 32) (.tmp 37) rfl rfl _ A10 1 c10 _ rfl R10.out 26 rfl (by decide) ?_; intro v11 w11 M11 _))
  have y6 := (HC.out w11 M11.out.below).2.2.2.2.2
  clear y5 P6 M9 M10 R10
  obtain ⟨hd, hhd⟩ : ∃ hd, hd = be id 4 ++ be ep 6 ++ be qu 3 ++ be nx 6 ++ be ns 6 ++ be n 1 := ⟨_, rfl⟩
  rw [← hhd] at M11 HEND
  clear hhd
  go_wp2_with fail
  go_loopw [3, 42] (fun bv iv wr => ∃ (i m : Nat) (Ab : Option Addr) (cb : Nat), bv = .slice Ab m cb ∧ iv = .int .i64 (i : Int) ∧ i ≤ n ∧ m = 26 + 6 * i ∧ Hid (Mk w0 wr (.slice Ab m cb) m (hd ++ encSegs (sg.take i)))) (fun _ iv _ => n - (RowKit.intOf iv).toNat)
  case atStart =>
    obtain ⟨Ab, cb, rfl, _, _, _⟩ := M11.out.form
    exact ⟨0, 26, Ab, cb, rfl, rfl, Nat.zero_le _, rfl, by simpa [encSegs] using M11⟩
  case round =>
    obtain ⟨i, m, Ab, cb, rfl, rfl, hi, hmi, HM⟩ := hrel
    by_cases hlt : i < n
    · have hlt' : (i : Int) < (n : Int) := by omega
      have HRR := HB0R.out.keep (w' := wr) fun b o hb => HM.out.below.cell (p := ⟨b, o, none⟩) (by have := HW0B.out; show b < _; omega)
      obtain ⟨b, o, rfl, _, hcs⟩ := HRR.int (by omega)
      clear HRR
      have hcell := hcs i hlt
      obtain ⟨sv, hsv⟩ : ∃ sv, sv = (sg.getD i 0).toNat := ⟨_, rfl⟩
      have hsI : sg.getD i 0 = (sv : Int) := by have := HSG.out i hlt; omega
      rw [hsI] at hcell
      have bs : sv < 281474976710656 := by have := HSG.out i hlt; omega
      have hws : IntKind.u64.wrap (sv : Int) = (sv : Int) := by rw [IntKind.wrap_u64]; omega
      have PS := Lib.hid (mk_put HM sv 6 6 rfl ⟨by decide, by decide⟩ (by omega))
      obtain ⟨m2, hm2⟩ : ∃ m2, m + 6 = m2 := ⟨_, rfl⟩
      have hm2l : m2 ≤ 1000 := by omega
      have hmi2 : m2 = 26 + 6 * (i + 1) := by omega
      have HE : Hid (hd ++ encSegs (sg.take (i + 1)) = hd ++ encSegs (sg.take i) ++ be sv 6) := Lib.hid (by rw [encSegs_take (by rw [HSL.out]; exact hlt), ← hsv, List.append_assoc])
      have HM2 := Lib.hid hm2
      have HMI2 := Lib.hid hmi2
      have hm2l' : m2 ≤ 1000000 := by omega
      clear hcs hsv hsI hm2 hmi2 hmi
      go_wp2_with (first
        | (go_at_call 43; (with_reducible refine PS.out.mono ?_); rintro e w2 ⟨A2, c2, rfl, M2, R2⟩)
        | (at_builtin; refine mk_append M2.out rfl (.tmp 46) (.tmp 49) rfl rfl _ A2 6 c2 _ rfl R2.out m2 HM2.out hm2l' ?_; intro v3 w3 M3 _; obtain ⟨A3, c3, rfl, _, _, _⟩ := M3.out.form))
      go_roundw
      case rel => exact ⟨i + 1, m2, A3, c3, by first | rfl | trivial, by go_num, by omega, HMI2.out, by rw [HE.out]; exact M3⟩
      case measure => (simp [RowKit.intOf]; omega)
    · obtain rfl : i = n := by omega
      have hmI : 26 + 6 * i = m := hmi.symm
      have HMI := Lib.hid hmI
      have HE2 : Hid (hd ++ encSegs (sg.take i) = hd ++ encSegs sg) := Lib.hid (by rw [List.take_of_length_le (by rw [HSL.out]; exact Nat.le_refl _)])
      clear hmi hmI
      go_wp2_with fail
      go_ret
      obtain ⟨_, _, _, _, _, hrow⟩ := HM.out.form
      refine ⟨Ab, cb, by rw [HMI.out]; first | done | rfl, ?_, ?_⟩
      · rw [HMI.out, HEND.out, ← HE2.out]
        exact Lib.hid (Row.own HM.out.row)
      · have := HTB.out
        subst this
        exact HB0.out.trans (HM.out.below.mono HB0.out.size)
theorem mayAllB_true {l : List Te} (h : May l) : mayAllB l = true := decide_eq_true h
theorem mayAllB_false {l : List Te} (h : ¬ May l) : mayAllB l = false := decide_eq_false h
set_option maxRecDepth 100000 in
set_option maxHeartbeats 4000000 in
theorem encode_bad (A : Option Addr) (n c : Nat) (l : List Tv) (w : World) (hR : Tens w w.heap.size A n l) (hnc : n ≤ c) (hc : c ≤ maxLen) (hm : ¬ May (l.map Tv.te)) :
    Calls Tryz.prog 22 #[.slice A n c] w fun e w' => e = .returned (.slice none 0 0) ∧ Below w.heap.size w w' := by
  have CM := mayAll_any A n c l w hR hnc hc
  rw [mayAllB_false hm] at CM
  have CM' := Lib.hid CM
  have hcm : c ≤ 9223372036854775807 := by unfold maxLen at hc; exact hc
  clear CM hm hR hc
  go_enter Tryz.func22, Tryz.ntmps22
  go_wp2_with (go_at_call 21; (with_reducible refine CM'.out.mono ?_); rintro e w1 ⟨rfl, hb1⟩)
  go_ret
  exact ⟨rfl, hb1⟩
set_option maxRecDepth 100000 in
set_option maxHeartbeats 8000000 in
theorem encode_ok (A : Option Addr) (n c : Nat) (l : List Tv) (w : World) (hR : Tens w w.heap.size A n l) (hnc : n ≤ c) (hc : c ≤ maxLen) (hm : May (l.map Tv.te)) :
    Calls Tryz.prog 22 #[.slice A n c] w fun e w' => ∃ A' c', e = .returned (.slice A' (encAll (l.map Tv.te)).length c') ∧ Hid (w'.ownsRow w.heap.size 5 1 (.slice A' (encAll (l.map Tv.te)).length c') (encAll (l.map Tv.te)).length (bvs (encAll (l.map Tv.te)))) ∧ (encAll (l.map Tv.te)).length ≤ c' ∧ c' ≤ maxLen ∧ Below w.heap.size w w' := by
  have CM := mayAll_any A n c l w hR hnc hc
  rw [mayAllB_true hm] at CM
  have CM' := Lib.hid CM
  have HR := Lib.hid hR
  have h6 : n ≤ 6 := by have := hm.1; rw [List.length_map, hR.len] at this; exact this
  have HEL : Hid (be n 1 ++ encTes (l.map Tv.te) = encAll (l.map Tv.te)) := Lib.hid (by unfold encAll; rw [List.length_map, hR.len])
  have HML : Hid (∀ x ∈ l, x.te.May) := Lib.hid fun x hx => may_mem hm _ (List.mem_map_of_mem hx)
  have hcm : c ≤ 9223372036854775807 := by unfold maxLen at hc; exact hc
  have hwn : IntKind.u64.wrap (n : Int) = (n : Int) := by rw [IntKind.wrap_u64]; omega
  have HLN : Hid ((l.map Tv.te).length = n) := Lib.hid (by rw [List.length_map, hR.len])
  clear CM hm hR hc
  go_enter Tryz.func22, Tryz.ntmps22
  go_upto_region 3 with (go_at_call 21; (with_reducible refine CM'.out.mono ?_); rintro e w1 ⟨rfl, hb1⟩)
  have HB1 := Lib.hid hb1
  have P1 := Lib.hid (mk_new n 1 1 w1 rfl ⟨by decide, by decide⟩ (by omega))
  clear hb1 CM'
  go_upto_region 4 with (go_at_call 43; (with_reducible refine P1.out.mono ?_); rintro e w2 ⟨A2, c2, rfl, M2⟩)
  clear P1
  go_wp2_with fail
  go_loopw [3, 15] (fun bv iv wr => ∃ (i m : Nat) (Ab : Option Addr) (cb : Nat), bv = .slice Ab m cb ∧ iv = .int .i64 (i : Int) ∧ i ≤ n ∧ m ≤ 1 + 386 * i ∧ Hid (Mk w1 wr (.slice Ab m cb) m (be n 1 ++ encTes ((l.map Tv.te).take i)))) (fun _ iv _ => n - (RowKit.intOf iv).toNat)
  case atStart =>
    exact ⟨0, 1, A2, c2, rfl, rfl, Nat.zero_le _, by decide, by simpa [encTes] using M2⟩
  case round =>
    obtain ⟨i, m, Ab, cb, rfl, rfl, hi, hmi, HM⟩ := hrel
    by_cases hlt : i < n
    · have hlt' : (i : Int) < (n : Int) := by omega
      obtain ⟨b, o, rfl, hb, _⟩ := HR.out.row.2 (by omega)
      obtain ⟨x, hx, hmem, _⟩ := HR.out.at hlt
      have HBR : Hid (Below w.heap.size w wr) := Lib.hid (HB1.out.trans (HM.out.below.mono HB1.out.size))
      have HIT : Hid (wr.rangeAt b (o + i * 6) x.vals.toList) := ten_item (HR.out.row.below HBR.out) i x hx
      have HXO := Lib.hid (HR.out.ok x hmem)
      have HXI := Lib.hid (HR.out.ins x hmem)
      have HXM := Lib.hid (HML.out x hmem)
      have HE : Hid (be n 1 ++ encTes ((l.map Tv.te).take (i + 1)) = be n 1 ++ encTes ((l.map Tv.te).take i) ++ encTe x.te) := Lib.hid (by rw [encTes_take (t := x.te) (by rw [List.getElem?_map, hx]; rfl), List.append_assoc])
      clear hx hmem
      go_upto_region 7 with (first
        | (refine load_tenM HIT.out rfl (.tmp 17) rfl rfl ?_)
        | (refine store_ten (ten_zero wr) rfl rfl (.tmp 5) (.tmp 18) rfl rfl x rfl rfl ?_; intro w3 X3 G3))
      have HBW := Lib.hid (below_only (below_alloc wr (.cells #[.int .u32 0, .int .u64 0, .int .i64 0, .int .u64 0, .int .i64 0, .slice none 0 0] 35)) G3.out (Nat.le_refl _) (by simp))
      have HM3 := Lib.hid (HM.out.all HBW.out)
      have HB3 := Lib.hid (HBR.out.trans (HBW.out.mono HBR.out.size))
      have h62 := HXM.out.1.2.2.2.2.2.2.2.2
      have CE := Lib.hid (encTenant_any x w3 w.heap.size HXO.out.id HXM.out (HXI.out.below HB3.out) HB3.out.size)
      obtain ⟨k, hk⟩ : ∃ k, k = 26 + 6 * x.te.segs.length := ⟨_, rfl⟩
      rw [← hk] at CE
      obtain ⟨m2, hm2⟩ : ∃ m2, m + k = m2 := ⟨_, rfl⟩
      have HM2 := Lib.hid hm2
      have hm2l : m2 ≤ 1 + 386 * (i + 1) := by omega
      have hm2l' : m2 ≤ 1000000 := by omega
      clear hm2 hk h62 HBW G3 hmi
      go_wp2_with (first
        | (refine load_ten X3.out rfl (.tmp 5) rfl rfl ?_)
        | (go_at_call 44; (with_reducible refine CE.out.mono ?_); rintro e w4 ⟨A4, c4, rfl, R4, hb4⟩; have M4 := Lib.hid (HM3.out.all hb4); clear hb4)
        | (at_builtin; refine mk_append M4.out rfl (.tmp 19) (.tmp 21) rfl rfl _ A4 k c4 _ rfl R4.out m2 HM2.out hm2l' ?_; intro v5 w5 M5 _; obtain ⟨A5, c5, rfl, _, _, _⟩ := M5.out.form))
      go_roundw
      case rel => exact ⟨i + 1, m2, A5, c5, by first | rfl | trivial, by go_num, by omega, hm2l, by rw [HE.out]; exact M5⟩
      case measure => (simp [RowKit.intOf]; omega)
    · obtain rfl : i = n := by omega
      have HE2 : Hid (be i 1 ++ encTes ((l.map Tv.te).take i) = encAll (l.map Tv.te)) := Lib.hid (by rw [List.take_of_length_le (by rw [HLN.out]; exact Nat.le_refl _)]; exact HEL.out)
      go_wp2_with fail
      go_ret
      have hM := HM.out
      rw [HE2.out] at hM
      have hlen : (encAll (l.map Tv.te)).length = m := by have := hM.row.1; rwa [bvs_length, Nat.mul_one] at this
      obtain ⟨_, _, e9, q1, q2, hrow⟩ := hM.form
      injection e9 with e1 e2 e3
      subst e1 e3
      rw [hlen]
      exact ⟨_, _, rfl, Lib.hid (own_base hM.row HB1.out.size), q1, q2, HB1.out.trans (hM.below.mono HB1.out.size)⟩
end Go.Proofs.YtcmlchicpmnhdaaGreatDoor.Man
