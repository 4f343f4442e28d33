/-
  Texts one behind the other: MixMixed, SlotMixed, SlotCrashLaw.
-/
import Derived.Test.YtcmlchicpmnhdaaGreatDoorG17
import Derived.Test.YtcmlchicpmnhdaaGreatDoorG39
import Derived.Test.YtcmlchicpmnhdaaGreatDoorG48
import Derived.Test.YtcmlchicpmnhdaaGreatDoorG50
/-
  Proved: what Mixed of law 8 says: where it says no, each record and each slot that stands in a file behind a crash stands at that place of a file of the disk as it is, or as a crash leaves it that keeps nothing.
  Conditions: so many files at most; their names are no longer than any value may be.
-/
namespace Go.Proofs.YtcmlchicpmnhdaaGreatDoor.Mix
open Go.RowKit Go.Maps Go.Proofs.YtcmlchicpmnhdaaGreatDoor.Disk
open Go.Proofs.YtcmlchicpmnhdaaGreatDoor.Rec
set_option linter.unusedVariables false
set_option linter.unusedSimpArgs false

theorem front_39 (bs : List UInt8) : ∀ (f p : Nat), bs.length ≤ p + f → p ≤ bs.length → 39 * (frontFrom p bs).length + p ≤ bs.length := by
  intro f
  induction f with
  | zero =>
    intro p h1 h2
    rcases out_ok (dec (bs.drop p)) with ⟨x, m, hd⟩ | ⟨e, _, _, hno⟩
    · have k1 := (dec_ok hd).1
      have k2 := (dec_ok hd).2.1
      rw [List.length_drop] at k2
      omega
    · rw [frontFrom_no hno]; simpa using h2
  | succ f ih =>
    intro p h1 h2
    rcases out_ok (dec (bs.drop p)) with ⟨x, m, hd⟩ | ⟨e, _, _, hno⟩
    · have k1 := (dec_ok hd).1
      have k2 := (dec_ok hd).2.1
      rw [List.length_drop] at k2
      rw [frontFrom_ok hd, List.length_cons]
      have := ih (p + m) (by omega) (by omega)
      omega
    · rw [frontFrom_no hno]; simpa using h2
/-- What is known of one file behind a crash. -/
structure One (pa pf : Ent) (b : List UInt8) : Prop where
  recs : ∀ q ∈ frontFrom 0 b, Stands pa q.1 (enc q.2) ∨ Stands pf q.1 (enc q.2)
  slots : ∀ s, s < 2 → 4096 * s < b.length → 0 < slotN (b.drop (4096 * s)) → Stands pa (4096 * s) ((b.drop (4096 * s)).take (slotN (b.drop (4096 * s)))) ∨ Stands pf (4096 * s) ((b.drop (4096 * s)).take (slotN (b.drop (4096 * s))))
theorem crash_more {own : Own} {w0 w : World} {f K : Nat} {d : Dk} (n torn : Int) (h : Held own w0 w f d K) {B : Nat} {A : Option Addr} {m c : Nat} {keep : List Bool} (hR : Row w B A m (lvs keep)) (hB : B ≤ w.heap.size) (hm : m ≤ 1099511627776) :
    Calls Tryz.prog 13 #[.pointer (some ⟨f, 0, none⟩), .int .i64 n, .slice A m c, .int .i64 torn] w fun e w' => ∃ own' f' d', e = .returned (.pointer (some ⟨f', 0, none⟩)) ∧ Held own' w0 w' f d K ∧ Held own' w0 w' f' d' K ∧ d.Crashed d' n keep torn ∧ w.heap.size ≤ f' ∧ (∀ b, b < w.heap.size → own' b = own b) ∧ Below w.heap.size w w' := by
  refine (crash_any (c := c) n torn h.disk hR hB hm).mono ?_
  rintro e w' ⟨own', f', d', he, hge, hd, hc, hb, hs, _⟩
  have hk := h.beside hb hs hd.top
  exact ⟨own', f', d', he, hk, ⟨hd, hk.below, hk.free⟩, hc, hge, hs, hb⟩
/-- A row of structs that the call made is no disk's. -/
theorem row_free {own : Own} {w w' : World} {K : Nat} {L : List Ent} (h : Dks own w K L) {p : Ent} (hp : p ∈ L) {t : TypeId} {sz n : Nat} {v : Value} {xs : List Value} (hr : w'.ownsRow w.heap.size t sz v n xs) : ∃ A c, v = .slice A n c ∧ n ≤ c ∧ c ≤ maxLen ∧ Free own w' A (n * sz) xs := by
  rcases hr.2 with ⟨h0, h1⟩ | ⟨g, cap, cur, hv, hg0, hg, hnc, hm, hcs, hx⟩
  · subst h1
    exact ⟨none, 0, h0, Nat.le_refl _, by decide, by rw [hr.1], fun hn => by omega⟩
  · refine ⟨_, cap, hv, hnc, hm, hr.1, fun hn => ?_⟩
    obtain ⟨A, c, e, _, _, hrow⟩ := own_row hr
    rw [hv] at e
    injection e with e1 e2 e3
    obtain ⟨b, o, e4, hlt, hcell⟩ := hrow.2 hn
    rw [← e1] at e4
    injection e4 with e4
    injection e4 with e5 e6
    subst e5 e6
    refine ⟨g, 0, rfl, ?_, hlt, hcell⟩
    cases ho : own g with
    | none => rfl
    | some x => have := h.top hp g x ho; omega
theorem free_item {own : Own} {w : World} {b o m : Nat} {l : List (Nat × Rc)} (h : Free own w (some ⟨b, o, none⟩) m (flat l)) (i : Nat) (q : Nat × Rc) (hi : l[i]? = some q) : w.rangeAt b (o + i * 7) (fcells q) := found_item (free_row h) i q hi
theorem front_good (bs : List UInt8) : ∀ (f p : Nat), bs.length ≤ p + f → ∀ q ∈ frontFrom p bs, q.2.May ∧ q.2.Fits ∧ q.1 + (39 + q.2.body.length) ≤ bs.length := by
  intro f
  induction f with
  | zero =>
    intro p h1 q hq
    rcases out_ok (dec (bs.drop p)) with ⟨x, m, hd⟩ | ⟨e, _, _, hno⟩
    · have k1 := (dec_ok hd).1
      have k2 := (dec_ok hd).2.1
      rw [List.length_drop] at k2
      omega
    · rw [frontFrom_no hno] at hq; simp at hq
  | succ f ih =>
    intro p h1 q hq
    rcases out_ok (dec (bs.drop p)) with ⟨x, m, hd⟩ | ⟨e, _, _, hno⟩
    · obtain ⟨k1, k2, k3, k4, _⟩ := dec_ok hd
      rw [List.length_drop] at k2
      rw [frontFrom_ok hd] at hq
      rcases List.mem_cons.1 hq with rfl | hq
      · exact ⟨k3, k4, by show p + (39 + x.body.length) ≤ _; omega⟩
      · exact ih (p + m) (by omega) q hq
    · rw [frontFrom_no hno] at hq; simp at hq
theorem slotN_le (bs : List UInt8) : slotN bs ≤ bs.length := by
  unfold slotN
  split
  · exact Nat.zero_le _
  · split
    · exact Nat.zero_le _
    · split
      · exact Nat.zero_le _
      · omega
theorem free_part {own : Own} {w : World} {b o n p q : Nat} {bs : List UInt8} (h : Free own w (some ⟨b, o, none⟩) n (bvs bs)) (hpq : p + q ≤ n) : Free own w (some ⟨b, o + p, none⟩) q (bvs ((bs.drop p).take q)) := by
  have hl : bs.length = n := by have := h.1; rwa [bvs_length] at this
  refine ⟨by rw [bvs_length, List.length_take, List.length_drop]; omega, fun hq => ?_⟩
  obtain ⟨b', o', e, ho, hb, hc⟩ := h.2 (by omega)
  injection e with e
  injection e with e1 e2
  subst e1 e2
  refine ⟨b, o + p, rfl, ho, hb, fun i v hv => ?_⟩
  have hi : i < q := by
    have := (List.getElem?_eq_some_iff.1 hv).1
    rw [bvs_length, List.length_take] at this
    omega
  rw [Nat.add_assoc]
  refine hc (p + i) v ?_
  rw [bvs, List.getElem?_map, List.getElem?_take, if_pos hi, List.getElem?_drop] at hv
  rw [bvs, List.getElem?_map]
  exact hv
/-- What Mixed says. -/
structure Says (own : Own) (wa wb w : World) (fa fc KT : Nat) (da dc : Dk) (t : Bool) (w' : World) : Prop where
  ex : ∃ own' pa pc pf d2, da.Crashed d2 0 [] (-1) ∧ (∀ b, b < w.heap.size → own' b = own b) ∧ Dks own' w' KT [pa, pc, pf] ∧ Rd own' w w' ∧
      pa = ⟨fa, wa, da.N.map (·.1), text da⟩ ∧ pc = ⟨fc, wb, dc.N.map (·.1), text dc⟩ ∧ pf.w0 = wa ∧ pf.ns = d2.N.map (·.1) ∧ pf.T = text d2 ∧ (t = false → ∀ n ∈ pc.ns, One pa pf (pc.T n))
set_option maxRecDepth 100000 in
set_option maxHeartbeats 8000000 in
theorem mixed_any {own : Own} {wa wb w : World} {fa fc K KT M : Nat} {da dc : Dk} (ha : Held own wa w fa da K) (hc : Held own wb w fc dc K) (hne : fa ≠ fc) (hma : da.N.length ≤ M) (hms : (da.crashDir 0).length ≤ M)
    (hna : ∀ n ∈ da.N.map (·.1), n.length ≤ maxLen) (hns : ∀ n ∈ (da.crashDir 0).map (·.1), n.length ≤ maxLen) (hnc : ∀ n ∈ dc.N.map (·.1), n.length ≤ maxLen) (hfits : ∀ n x, dc.look n = some x → x.Ok)
    (hKT : K + dc.N.length * (1 + 107602 * (2 * M)) ≤ KT) (hKT2 : KT ≤ 1000000000) :
    Calls Tryz.prog 19 #[.pointer (some ⟨fa, 0, none⟩), .pointer (some ⟨fc, 0, none⟩)] w fun e w' => ∃ t, e = .returned (.bool t) ∧ Says own wa wb w fa fc KT da dc t w' := by
  have CC := Lib.hid (crash_more (c := 0) 0 (-1) ha (B := w.heap.size) (A := none) (m := 0) (keep := []) ⟨rfl, fun h => absurd h (by omega)⟩ (Nat.le_refl _) (by decide))
  have HA := Lib.hid ha
  have HC := Lib.hid hc
  have HNA := Lib.hid hna
  have HNS := Lib.hid hns
  have HNC := Lib.hid hnc
  have HKT := Lib.hid hKT
  have HFITS := Lib.hid hfits
  clear ha hc hna hns hnc hKT hfits
  go_enter Tryz.func19, Tryz.ntmps19
  go_upto_region 2 with (go_at_call 13; refine CC.out.mono ?_; rintro e w1 ⟨own', f2, d2, rfl, ka, kf, hcr, hge, hown, hb1⟩)
  obtain ⟨pa, hpa⟩ : ∃ pa : Ent, pa = ⟨fa, wa, da.N.map (·.1), text da⟩ := ⟨_, rfl⟩
  obtain ⟨pc, hpc⟩ : ∃ pc : Ent, pc = ⟨fc, wb, dc.N.map (·.1), text dc⟩ := ⟨_, rfl⟩
  obtain ⟨pf, hpf⟩ : ∃ pf : Ent, pf = ⟨f2, wa, d2.N.map (·.1), text d2⟩ := ⟨_, rfl⟩
  have hfa : fa < w.heap.size := HA.out.disk.lt
  have hfc : fc < w.heap.size := HC.out.disk.lt
  have kc : Held own' wb w1 fc dc K := HC.out.beside hb1 hown ka.top
  have hD : Dks own' w1 K [pa, pc, pf] := by
    refine ⟨fun p hp q hq e => ?_, fun p hp => ?_⟩
    · simp only [List.mem_cons, List.not_mem_nil, or_false] at hp hq
      rcases hp with rfl | rfl | rfl <;> rcases hq with rfl | rfl | rfl <;> first | rfl | (exfalso; rw [hpa, hpc] at e; exact hne e) | (exfalso; rw [hpa, hpc] at e; exact hne e.symm) | (exfalso; rw [hpa, hpf] at e; have e : fa = f2 := e; omega) | (exfalso; rw [hpa, hpf] at e; have e : f2 = fa := e; omega) | (exfalso; rw [hpc, hpf] at e; have e : fc = f2 := e; omega) | (exfalso; rw [hpc, hpf] at e; have e : f2 = fc := e; omega)
    · simp only [List.mem_cons, List.not_mem_nil, or_false] at hp
      rcases hp with rfl | rfl | rfl
      · exact ⟨da, by rw [hpa]; exact ka, by rw [hpa], fun n => by rw [hpa]⟩
      · exact ⟨dc, by rw [hpc]; exact kc, by rw [hpc], fun n => by rw [hpc]⟩
      · exact ⟨d2, by rw [hpf]; exact kf, by rw [hpf], fun n => by rw [hpf]⟩
  have hmf : pf.ns.length ≤ M := by rw [hpf]; show (d2.N.map (·.1)).length ≤ M; rw [hcr.names, List.length_map]; exact hms
  have hma' : pa.ns.length ≤ M := by rw [hpa]; show (da.N.map (·.1)).length ≤ M; rw [List.length_map]; exact hma
  have HNF : Hid (∀ n ∈ pf.ns, n.length ≤ maxLen) := by rw [hpf]; show ∀ n ∈ d2.N.map (·.1), n.length ≤ maxLen; rw [hcr.names]; exact HNS.out
  have HNA' : Hid (∀ n ∈ pa.ns, n.length ≤ maxLen) := by rw [hpa]; exact HNA.out
  have HNC' : Hid (∀ n ∈ pc.ns, n.length ≤ maxLen) := by rw [hpc]; exact HNC.out
  have e1 : fa = pa.f := by rw [hpa]
  have e2 : fc = pc.f := by rw [hpc]
  have e3 : f2 = pf.f := by rw [hpf]
  have hSl : pc.ns.length = dc.N.length := by rw [hpc]; show (dc.N.map (·.1)).length = _; rw [List.length_map]
  have H1 := Lib.hid hpa
  have H2 := Lib.hid hpc
  have H3 := Lib.hid hpf
  have HOWN := Lib.hid hown
  have HCR := Lib.hid hcr
  have HPA : Hid (pa ∈ [pa, pc, pf]) := by show pa ∈ _; simp
  have HPC : Hid (pc ∈ [pa, pc, pf]) := by show pc ∈ _; simp
  have HPF : Hid (pf ∈ [pa, pc, pf]) := by show pf ∈ _; simp
  obtain ⟨LL, hLL⟩ : ∃ LL, LL = [pa, pc, pf] := ⟨_, rfl⟩
  rw [← hLL] at hD HPA HPC HPF
  have HLL := Lib.hid hLL
  have HDD := Lib.hid hD
  have HR1 : Hid (Rd own' w w1) := Rd.of_below hb1
  have HFIT2 : Hid (∀ n, (pc.T n).length ≤ 4194304) := by
    rw [hpc]
    show ∀ n, (text dc n).length ≤ 4194304
    intro n
    unfold text
    cases hx : dc.look n with
    | none => show 0 ≤ _; omega
    | some x => exact (HFITS.out n x hx).max
  clear hpa hpc hpf hown hcr hLL hD hb1 ka kf kc hge hfa hfc HA HC HNA HNS HNC CC hma hms hne HFITS
  subst e1 e2 e3
  obtain ⟨S, hS⟩ : ∃ S, S = pc.ns.length := ⟨_, rfl⟩
  rw [← hSl, ← hS] at HKT
  obtain ⟨D, hD⟩ : ∃ D, D = 2 * M := ⟨_, rfl⟩
  obtain ⟨C, hC⟩ : ∃ C, C = 1 + 107602 * D := ⟨_, rfl⟩
  rw [← hD, ← hC] at HKT
  have CN := Lib.hid (names_dks HDD.out HPC.out)
  rw [← hS] at CN
  have HSL := Lib.hid hS
  have HCC := Lib.hid hC
  have HD2 := Lib.hid hD
  clear hS hC hD hSl
  go_upto_region 4 with (go_at_call 36; refine CN.out.mono ?_; rintro e w2 ⟨A2, c2, rfl, hn2, hc2, hf2, hb2⟩)
  have hcm2 : c2 ≤ 9223372036854775807 := by unfold maxLen at hc2; exact hc2
  have HD2' := Lib.hid (HDD.out.all hb2)
  have HR2 := Lib.hid (HR1.out.trans (Rd.of_below (own := own') hb2))
  have HF2 := Lib.hid hf2
  clear CN hb2 hf2 HDD HR1 hc2
  go_loopw [7] (fun v wr => ∃ (i K' : Nat), v = .int .i64 (i : Int) ∧ i ≤ S ∧ Hid (K' + (S - i) * C ≤ KT) ∧ Hid (Dks own' wr K' LL) ∧ Hid (Rd own' w2 wr) ∧ Hid (∀ j n, j < i → pc.ns[j]? = some n → One pa pf (pc.T n))) (fun v _ => S - (RowKit.intOf v).toNat)
  case atStart => exact ⟨0, K, rfl, Nat.zero_le _, HKT, HD2', Rd.refl _ _, fun j n h => by omega⟩
  case round =>
    obtain ⟨i, K', rfl, hi, HKI, HDI, HRI, HT⟩ := hrel
    by_cases hlt : i < S
    · obtain ⟨b2, o2, rfl, _, _, _⟩ := HF2.out.2 (by omega)
      obtain ⟨nm, hnm⟩ : ∃ nm, pc.ns[i]? = some nm := ⟨pc.ns[i]'(by rw [← HSL.out]; exact hlt), List.getElem?_eq_getElem _⟩
      have hcell : wr.cell? ⟨b2, o2 + i, none⟩ = some (.string (str nm)) := free_cell (free_rd HF2.out HRI.out) i _ (by rw [List.getElem?_map, hnm]; rfl)
      have hmem := List.mem_of_getElem? hnm
      have hk1 : K' + C + (S - (i + 1)) * C ≤ KT := by
        have h := HKI.out
        rw [show S - i = (S - (i + 1)) + 1 by omega, Nat.add_mul, Nat.one_mul] at h
        omega
      obtain ⟨V, hV⟩ : ∃ V, V = (S - (i + 1)) * C := ⟨_, rfl⟩
      rw [← hV] at hk1
      have hk2 : K' + 1 + 107602 * D + V ≤ KT := by have := HCC.out; omega
      have CW0 := whole_any (str nm) HDI.out HPC.out (by show nm.toArray.size ≤ maxLen; rw [List.size_toArray]; exact HNC'.out nm hmem) (show K' + 1 ≤ 1073741824 by omega)
      have e0 : (str nm).data.toList = nm := rfl
      rw [e0] at CW0
      obtain ⟨y, hy⟩ : ∃ y, y = pc.T nm := ⟨_, rfl⟩
      obtain ⟨Y, hY⟩ : ∃ Y, Y = y.length := ⟨_, rfl⟩
      rw [← hy, ← hY] at CW0
      have CW := Lib.hid CW0
      have HYY := Lib.hid hY
      have HY := Lib.hid hy
      have HNM := Lib.hid hnm
      have HVV := Lib.hid hV
      have HK2 := Lib.hid hk2
      clear CW0 hy hY hmem hnm e0 hV hk1 hk2
      go_upto_region 7 with (go_at_call 37; refine CW.out.mono ?_; rintro e w3 ⟨A3, c3, rfl, hyc, hyc2, hym, hf3, hd3, hr3⟩; have HF3 := Lib.hid hf3; have HD3 := Lib.hid hd3; have HR3 := Lib.hid (HRI.out.trans hr3); clear hf3 hd3 hr3)
      have HYC := Lib.hid hyc2
      have hcm3 : c3 ≤ 9223372036854775807 := by unfold maxLen at hyc2; exact hyc2
      have h39 := front_39 y y.length 0 (by omega) (Nat.zero_le _)
      rw [← HYY.out] at h39
      have CF := Lib.hid (reffront_any A3 Y c3 y w3 (free_row HF3.out) hyc hyc2 (by omega))
      obtain ⟨F, hF⟩ : ∃ F, F = frontFrom 0 y := ⟨_, rfl⟩
      obtain ⟨EN, hEN⟩ : ∃ EN, EN = endOf 0 F := ⟨_, rfl⟩
      rw [← hF, ← hEN] at CF
      rw [← hF] at h39
      have HFF := Lib.hid hF
      clear hyc2 hF hEN CW
      go_upto_region 9 with (go_at_call 38; refine CF.out.mono ?_; rintro e w5 ⟨v5, rfl, h5⟩)
      obtain ⟨A5, c5, rfl, hn5, hc5, hf5⟩ := row_free HD3.out HPC.out h5.row
      have HF5 := Lib.hid hf5
      have HD5 := Lib.hid (HD3.out.all h5.below)
      have HR5 := Lib.hid (HR3.out.trans (Rd.of_below (own := own') h5.below))
      have HF35 := Lib.hid (free_rd HF3.out (Rd.of_below (own := own') h5.below))
      have HR53 : Hid (Rd own' w3 w5) := Rd.of_below (own := own') h5.below
      have hcm5 : c5 ≤ 9223372036854775807 := by unfold maxLen at hc5; exact hc5
      clear h5 hf5 CF HF3 hc5
      go_loopw [11] (fun v wr => ∃ (k K2 : Nat), v = .int .i64 (k : Int) ∧ k ≤ F.length ∧ Hid (K2 ≤ K' + 1 + k * D) ∧ Hid (Dks own' wr K2 LL) ∧ Hid (Rd own' w5 wr) ∧ Hid (∀ j q, j < k → F[j]? = some q → Stands pa q.1 (enc q.2) ∨ Stands pf q.1 (enc q.2))) (fun v _ => F.length - (RowKit.intOf v).toNat)
      case atStart => exact ⟨0, K' + 1, rfl, Nat.zero_le _, by show _ ≤ _; omega, HD5, Rd.refl _ _, fun j q h => by omega⟩
      case round =>
        obtain ⟨k, K2, rfl, hk, HK3, HDD, HRD0, HT2⟩ := hrel
        by_cases hkl : k < F.length
        · obtain ⟨b5, o5, rfl, _, _, _⟩ := HF5.out.2 (by omega)
          obtain ⟨⟨qp, x⟩, hq⟩ : ∃ q, F[k]? = some q := ⟨F[k]'hkl, List.getElem?_eq_getElem _⟩
          obtain ⟨g1, g2, g3⟩ := front_good y y.length 0 (by omega) (qp, x) (by rw [← HFF.out]; exact List.mem_of_getElem? hq)
          dsimp only at g1 g2 g3
          have HI1 : Hid (∀ W, Rd own' w5 W → W.cell? ⟨b5, o5 + k * 7, none⟩ = some (.int .i64 (qp : Int))) := fun W hW => (found_rec (free_item (free_rd HF5.out hW) k _ hq)).1
          have HI2 : Hid (∀ W, Rd own' w5 W → W.rangeAt b5 (o5 + k * 7 + 1) x.vals.toList) := fun W hW => (found_rec (free_item (free_rd HF5.out hW) k _ hq)).2
          have HQ := Lib.hid hq
          have hbl : x.body.length ≤ maxLen := by have := HYY.out; unfold maxLen; omega
          have hen := enc_length x g1
          have CE : Hid (∀ W, Calls Tryz.prog 40 #[.agg x.vals] W fun e w' => ∃ u, e = .returned u ∧ w'.ownsRow W.heap.size 5 1 u (enc x).length (bvs (enc x)) ∧ Below W.heap.size W w') := fun W => refencode_any x W g2 hbl
          obtain ⟨ex, hex⟩ : ∃ ex, ex = enc x := ⟨_, rfl⟩
          obtain ⟨EX, hEX⟩ : ∃ EX, EX = ex.length := ⟨_, rfl⟩
          rw [← hex, ← hEX] at CE
          rw [← hex, ← hEX] at hen
          have HEX := Lib.hid hex
          have hex0 : 0 < EX := by omega
          have hex2 : EX ≤ 8388608 := by have := HYY.out; omega
          have hqp : qp ≤ 8388608 := by have := HYY.out; omega
          have hkD : k * D + D ≤ 107600 * D := by
            have := Nat.mul_le_mul_right D (show k + 1 ≤ 107600 by omega)
            rwa [Nat.add_mul, Nat.one_mul] at this
          have hk4 : K2 + 2 * M ≤ 1000000000 := by have := HK2.out; have := HK3.out; have := HD2.out; omega
          have HRD : Hid (Rd own' w5 wr.drew) := HRD0.out.trans (Rd.of_below (own := own') (Below.refl _ _).drew)
          have HDD0 : Hid (Dks own' wr.drew K2 LL) := HDD.out.all (Below.refl _ _).drew
          clear hq hex hEX g1 g2 g3 hbl hen
          go_upto_region 11 with fail
          refine wp_region_noPanic ?_
          refine wp_region_held_drew (S := fun W => Hid (Rd own' w5 W)) (by kernel_rfl) HRD (fun h0 => ?_)
          refine held_take 0 (v := ?_) (d := (some 41)) rfl rfl (by kernel_rfl) (by kernel_rfl) (by kernel_rfl) (fun _ _ _ h => h) (Or.inl ⟨by rfl, ?_⟩) h0 ?_
          rotate_left
          · intro _ _; go_simp; (try with_reducible rfl)
          try simp only [Act.put, List.setIfInBounds_toArray, List.set_cons_zero, List.set_cons_succ]
          refine held_take 1 (v := ?_) (d := (some 42)) rfl rfl (by kernel_rfl) (by kernel_rfl) (by kernel_rfl) (fun _ _ _ h => h) (Or.inl ⟨by rfl, ?_⟩) h0 ?_
          rotate_left
          · intro _ _; go_simp; (try with_reducible rfl)
          try simp only [Act.put, List.setIfInBounds_toArray, List.set_cons_zero, List.set_cons_succ]
          refine held_take 2 (v := ?_) (d := (some 43)) rfl rfl (by kernel_rfl) (by kernel_rfl) (by kernel_rfl) (fun _ _ _ h => h) (Or.inl ⟨by rfl, ?_⟩) h0 ?_
          rotate_left
          · intro _ _; go_simp; (try with_reducible rfl)
          try simp only [Act.put, List.setIfInBounds_toArray, List.set_cons_zero, List.set_cons_succ]
          refine held_take 3 (v := ?_) (d := (some 44)) rfl rfl (by kernel_rfl) (by kernel_rfl) (by kernel_rfl) (fun _ _ _ h => h) (Or.inl ⟨by rfl, ?_⟩) h0 ?_
          rotate_left
          · intro _ _; go_simp; (try with_reducible rfl)
          try simp only [Act.put, List.setIfInBounds_toArray, List.set_cons_zero, List.set_cons_succ]
          refine held_take 4 (v := ?_) (d := (some 45)) rfl rfl (by kernel_rfl) (by kernel_rfl) (by kernel_rfl) (fun _ _ _ h => h) (Or.inl ⟨by rfl, ?_⟩) h0 ?_
          rotate_left
          · intro _ _; go_simp; (try with_reducible rfl)
          try simp only [Act.put, List.setIfInBounds_toArray, List.set_cons_zero, List.set_cons_succ]
          refine held_take 5 (v := ?_) (d := (some 46)) rfl rfl (by kernel_rfl) (by kernel_rfl) (by kernel_rfl) (fun _ _ _ h => h) (Or.inl ⟨by rfl, ?_⟩) h0 ?_
          rotate_left
          · intro _ _; go_simp; (try with_reducible rfl)
          try simp only [Act.put, List.setIfInBounds_toArray, List.set_cons_zero, List.set_cons_succ]
          refine held_take 6 (v := .int .i64 (qp : Int)) (d := (some 47)) rfl rfl (by kernel_rfl) (by kernel_rfl) (by kernel_rfl) (fun _ _ _ h => h) (Or.inl ⟨by rfl, ?_⟩) h0 ?_
          · intro W hW; have hc := HI1.out W hW.out; go_simp
          try simp only [Act.put, List.setIfInBounds_toArray, List.set_cons_zero, List.set_cons_succ]
          refine held_take 7 (v := ?_) (d := (some 48)) rfl rfl (by kernel_rfl) (by kernel_rfl) (by kernel_rfl) (fun _ _ _ h => h) (Or.inl ⟨by rfl, ?_⟩) h0 ?_
          rotate_left
          · intro _ _; go_simp; (try with_reducible rfl)
          try simp only [Act.put, List.setIfInBounds_toArray, List.set_cons_zero, List.set_cons_succ]
          refine held_take 8 (v := ?_) (d := (some 49)) rfl rfl (by kernel_rfl) (by kernel_rfl) (by kernel_rfl) (fun _ _ _ h => h) (Or.inl ⟨by rfl, ?_⟩) h0 ?_
          rotate_left
          · intro _ _; go_simp; (try with_reducible rfl)
          try simp only [Act.put, List.setIfInBounds_toArray, List.set_cons_zero, List.set_cons_succ]
          refine held_take 9 (v := ?_) (d := (some 50)) rfl rfl (by kernel_rfl) (by kernel_rfl) (by kernel_rfl) (fun _ _ _ h => h) (Or.inl ⟨by rfl, ?_⟩) h0 ?_
          rotate_left
          · intro _ _; go_simp; (try with_reducible rfl)
          try simp only [Act.put, List.setIfInBounds_toArray, List.set_cons_zero, List.set_cons_succ]
          refine held_take 10 (v := ?_) (d := (some 51)) rfl rfl (by kernel_rfl) (by kernel_rfl) (by kernel_rfl) (fun _ _ _ h => h) (Or.inl ⟨by rfl, ?_⟩) h0 ?_
          rotate_left
          · intro _ _; go_simp; (try with_reducible rfl)
          try simp only [Act.put, List.setIfInBounds_toArray, List.set_cons_zero, List.set_cons_succ]
          refine held_take 11 (v := .agg x.vals) (d := some 52) rfl rfl (by kernel_rfl) (by kernel_rfl) (by kernel_rfl) (fun _ _ _ h => h) (yieldsIf_load_mid (by rfl) 91 (.tmp 51) rfl b5 (o5 + k * 7 + 1) rfl x.vals.toList _ (fun W h => HI2.out W h.out) Tryz.underlying91 rfl rec_info) h0 ?_
          try simp only [Act.put, List.setIfInBounds_toArray, List.set_cons_zero, List.set_cons_succ]
          refine wpAnyH_ready (rs := [12]) (by kernel_rfl) (by simp) (AllReadyH.cons rfl (fun K hK => ?_) AllReadyH.nil)
          go_simp
          with_reducible refine (CE.out _).mono ?_
          rintro e w6 ⟨u6, rfl, ho6, hb6⟩
          obtain ⟨A6, c6, rfl, hn6, hc6⟩ := own_form ho6
          have HF6 := Lib.hid (HDD0.out.row HPA.out ho6)
          have HD6 := Lib.hid (HDD0.out.all hb6)
          have HR6 := Lib.hid (HRD.out.trans (Rd.of_below (own := own') hb6))
          clear hb6 ho6
          refine hK.out _ _ (HR6) (fun h1 => ?_)
          clear hK K
          try simp only [Act.put, List.setIfInBounds_toArray, List.set_cons_zero, List.set_cons_succ]
          refine wpAnyH_ready (rs := [13]) (by kernel_rfl) (by simp) (AllReadyH.cons rfl (fun K hK => ?_) AllReadyH.nil)
          go_simp
          with_reducible refine (had_any (p := pa) (q := pf) (M := M) qp ex A6 EX c6 HD6.out HPA.out HPF.out hma' hmf HNA'.out HNF.out hk4 hqp HF6.out hex0 hex2 hn6 hc6).mono ?_
          rintro e w7 ⟨t7, rfl, hd7, hr7, hst7⟩
          have HD7 := Lib.hid hd7
          have HR7 := Lib.hid (HR6.out.trans hr7)
          have HST := Lib.hid hst7
          clear hd7 hr7 hst7
          refine hK.out _ _ (HR7) (fun h2 => ?_)
          clear hK K
          try simp only [Act.put, List.setIfInBounds_toArray, List.set_cons_zero, List.set_cons_succ]
          refine held_take 14 (v := ?_) (d := (some 55)) rfl rfl (by kernel_rfl) (by kernel_rfl) (by kernel_rfl) (fun _ _ _ h => h) (Or.inl ⟨by rfl, ?_⟩) h2 ?_
          rotate_left
          · intro _ _; go_simp; (try with_reducible rfl)
          try simp only [Act.put, List.setIfInBounds_toArray, List.set_cons_zero, List.set_cons_succ]
          refine wpAnyH_done (by kernel_rfl) ?_ _
          refine NoPanic.normal ?_
          clear CE HI1 HI2 hex0 hex2 hqp hk4
          cases t7 with
          | false =>
            go_wp2_with fail
            go_ret
            refine ⟨true, rfl, ⟨own', pa, pc, pf, d2, HCR.out, HOWN.out, ?_, HR2.out.trans (HR5.out.trans HR7.out), H1.out, H2.out, by rw [H3.out], by rw [H3.out], by rw [H3.out], fun h => by cases h⟩⟩
            rw [← HLL.out]
            refine HD7.out.mono ?_ (by omega)
            have := HK2.out; have := HK3.out; have := HD2.out
            omega
          | true =>
            have hkk : K2 + 2 * M ≤ K' + 1 + (k + 1) * D := by
              rw [Nat.add_mul, Nat.one_mul]
              have := HK3.out; have := HD2.out
              omega
            have HKK := Lib.hid hkk
            have HT3 : Hid (∀ j q, j < k + 1 → F[j]? = some q → Stands pa q.1 (enc q.2) ∨ Stands pf q.1 (enc q.2)) := fun j q hj hq => by
              by_cases e : j = k
              · subst e
                have e := HQ.out.symm.trans hq
                obtain rfl := Option.some.inj e
                rw [← HEX.out]
                exact HST.out rfl
              · exact HT2.out j q (by omega) hq
            clear hkk hkD
            go_wp2_with fail
            go_roundw
            case rel => exact ⟨k + 1, K2 + 2 * M, by go_num, by omega, HKK, HD7, HR7, HT3⟩
            case measure => (simp [RowKit.intOf]; omega)
        · have hkF : k = F.length := by omega
          have HAll : Hid (∀ q ∈ frontFrom 0 y, Stands pa q.1 (enc q.2) ∨ Stands pf q.1 (enc q.2)) := fun q hq => by
            rw [← HFF.out] at hq
            obtain ⟨j, hj, e⟩ := List.getElem_of_mem hq
            exact HT2.out j q (by omega) (by rw [← e]; exact List.getElem?_eq_getElem _)
          have HKF := Lib.hid hkF
          clear hkF
          have hkD : k * D + 2 * D ≤ 107602 * D := by
            have hkF := HKF.out
            have := Nat.mul_le_mul_right D (show k + 2 ≤ 107602 by omega)
            rwa [Nat.add_mul] at this
          have HKD := Lib.hid hkD
          clear hkD
          go_upto_region 14 with fail
          go_loopw [12] (fun v wx => ∃ (s P K3 : Nat), v = .int .i64 (P : Int) ∧ s ≤ 2 ∧ P ≤ 8192 ∧ Hid (P = 4096 * s) ∧ Hid (K3 ≤ K' + 1 + k * D + s * D) ∧ Hid (Dks own' wx K3 LL) ∧ Hid (Rd own' w5 wx) ∧
            Hid (∀ r, r < s → 4096 * r < y.length → 0 < slotN (y.drop (4096 * r)) → Stands pa (4096 * r) ((y.drop (4096 * r)).take (slotN (y.drop (4096 * r)))) ∨ Stands pf (4096 * r) ((y.drop (4096 * r)).take (slotN (y.drop (4096 * r)))))) (fun v _ => 12288 - (RowKit.intOf v).toNat)
          case atStart => exact ⟨0, 0, K2, rfl, Nat.zero_le _, Nat.zero_le _, rfl, by show _ ≤ _; have := HK3.out; omega, HDD, HRD0, fun r h => by omega⟩
          case round =>
            obtain ⟨s, P, K3, rfl, hs2, hP8, HPS, HK4, HD8, HR8, HT8⟩ := hrel
            have hPS := HPS.out
            by_cases hs : s < 2
            · have p1 : (P : Int) ≤ 4096 := by omega
              by_cases hPY : P < Y
              · have p2 : (P : Int) < (Y : Int) := by omega
                obtain ⟨yb, yo, rfl, _, _, _⟩ := HF35.out.2 (by omega)
                have hF8 := free_rd HF35.out HR8.out
                have hsl := slotN_le (y.drop P)
                have CS0 := slot_any (some ⟨yb, yo + P, none⟩) (Y - P) (c3 - P) (y.drop P) wr (row_from (free_row hF8) hPY) (by omega) (by have := HYC.out; omega) (by omega)
                obtain ⟨Q, hQ⟩ : ∃ Q, Q = slotN (y.drop P) := ⟨_, rfl⟩
                rw [← hQ] at CS0 hsl
                rw [List.length_drop, ← HYY.out] at hsl
                have CS := Lib.hid CS0
                have HQ := Lib.hid hQ
                have hcP : ¬ c3 = P := by omega
                have hsD : s * D + D ≤ 2 * D := by
                  have := Nat.mul_le_mul_right D (show s + 1 ≤ 2 by omega)
                  rwa [Nat.add_mul, Nat.one_mul] at this
                have hK9 : K3 + 2 * M ≤ 1000000000 := by have := HK2.out; have := HK4.out; have := HD2.out; have := HKD.out; omega
                have hK9' : K3 + 2 * M ≤ KT := by have := HK2.out; have := HK4.out; have := HD2.out; have := HKD.out; omega
                have hK10 : K3 + 2 * M ≤ K' + 1 + k * D + (s + 1) * D := by
                  rw [Nat.add_mul, Nat.one_mul]
                  have := HK4.out; have := HD2.out
                  omega
                have HK9 := Lib.hid hK9
                have HK9' := Lib.hid hK9'
                have HK10 := Lib.hid hK10
                have HPY := Lib.hid hPY
                have hPQ : P + Q ≤ Y := by omega
                clear CS0 hQ hPS hsD hK9 hK9' hK10 hF8
                by_cases hQ0 : 0 < Q
                · have q1 : (0 : Int) < (Q : Int) := by omega
                  have q2 : (P : Int) + (Q : Int) ≤ (c3 : Int) := by omega
                  obtain ⟨xs, hxs⟩ : ∃ xs, xs = (y.drop P).take Q := ⟨_, rfl⟩
                  have HXS := Lib.hid hxs
                  have HX0 : Hid (Free own' wr (some ⟨yb, yo + P, none⟩) Q (bvs xs)) := by rw [hxs]; exact free_part (free_rd HF35.out HR8.out) hPQ
                  clear hxs
                  go_upto_if 84 with (first
                    | (go_at_call 41; refine CS.out.mono ?_; rintro e w8 ⟨rfl, hb8⟩; have HD9 := Lib.hid (HD8.out.all hb8); have HR9 := Lib.hid (HR8.out.trans (Rd.of_below (own := own') hb8)); have HX9 := Lib.hid (free_rd HX0.out (Rd.of_below (own := own') hb8)); clear hb8)
                    | (go_at_call 39; with_reducible refine (had_any (p := pa) (q := pf) (M := M) P xs (some ⟨yb, yo + P, none⟩) Q (c3 - P) HD9.out HPA.out HPF.out hma' hmf HNA'.out HNF.out HK9.out (by omega) HX9.out hQ0 (by omega) (by omega) (by have := HYC.out; omega)).mono ?_; rintro e w9 ⟨t9, rfl, hd9, hr9, hst9⟩; have HDA := Lib.hid hd9; have HRA := Lib.hid (HR9.out.trans hr9); have HSTA := Lib.hid hst9; clear hd9 hr9 hst9))
                  cases t9 with
                  | false =>
                    go_wp2_with fail
                    go_ret
                    refine ⟨true, rfl, ⟨own', pa, pc, pf, d2, HCR.out, HOWN.out, ?_, HR2.out.trans (HR5.out.trans HRA.out), H1.out, H2.out, by rw [H3.out], by rw [H3.out], by rw [H3.out], fun h => by cases h⟩⟩
                    rw [← HLL.out]
                    exact HDA.out.mono HK9'.out (by omega)
                  | true =>
                    have HT9 : Hid (∀ r, r < s + 1 → 4096 * r < y.length → 0 < slotN (y.drop (4096 * r)) → Stands pa (4096 * r) ((y.drop (4096 * r)).take (slotN (y.drop (4096 * r)))) ∨ Stands pf (4096 * r) ((y.drop (4096 * r)).take (slotN (y.drop (4096 * r))))) := fun r hr h1 h2 => by
                      by_cases e : r = s
                      · subst e
                        rw [← HPS.out, ← HQ.out, ← HXS.out]
                        exact HSTA.out rfl
                      · exact HT8.out r (by omega) h1 h2
                    go_wp2_with fail
                    go_roundw
                    case rel => exact ⟨s + 1, P + 4096, K3 + 2 * M, by go_num, by omega, by have := HPS.out; omega, by show _ = _; have := HPS.out; omega, HK10, HDA, HRA, HT9⟩
                    case measure => (simp [RowKit.intOf]; omega)
                · have q1 : ¬ (0 : Int) < (Q : Int) := by omega
                  have HT9 : Hid (∀ r, r < s + 1 → 4096 * r < y.length → 0 < slotN (y.drop (4096 * r)) → Stands pa (4096 * r) ((y.drop (4096 * r)).take (slotN (y.drop (4096 * r)))) ∨ Stands pf (4096 * r) ((y.drop (4096 * r)).take (slotN (y.drop (4096 * r))))) := fun r hr h1 h2 => by
                    by_cases e : r = s
                    · subst e
                      rw [← HPS.out, ← HQ.out] at h2
                      exact absurd h2 hQ0
                    · exact HT8.out r (by omega) h1 h2
                  go_wp2_with (go_at_call 41; refine CS.out.mono ?_; rintro e w8 ⟨rfl, hb8⟩; have HD9 := Lib.hid (HD8.out.all hb8); have HR9 := Lib.hid (HR8.out.trans (Rd.of_below (own := own') hb8)); clear hb8)
                  go_roundw
                  case rel => exact ⟨s + 1, P + 4096, K3, by go_num, by omega, by have := HPS.out; omega, by show _ = _; have := HPS.out; omega, by show _ ≤ _; have := HK10.out; omega, HD9, HR9, HT9⟩
                  case measure => (simp [RowKit.intOf]; omega)
              · have p2 : ¬ (P : Int) < (Y : Int) := by omega
                have HONE : Hid (∀ j n, j < i + 1 → pc.ns[j]? = some n → One pa pf (pc.T n)) := fun j n hj hn => by
                  by_cases e : j = i
                  · subst e
                    have e := HNM.out.symm.trans hn
                    obtain rfl := Option.some.inj e
                    rw [← HY.out]
                    exact ⟨HAll.out, fun r hr h1 h2 => HT8.out r (by have := HYY.out; have := HPS.out; omega) h1 h2⟩
                  · exact HT.out j n (by omega) hn
                have hK11 : K3 + (S - (i + 1)) * C ≤ KT := by
                  have := HK2.out; have := HK4.out; have := HKD.out; have := HVV.out
                  have hsD : s * D ≤ 2 * D := Nat.mul_le_mul_right D (by omega)
                  omega
                have HK11 := Lib.hid hK11
                clear hK11 hPS
                go_wp2_with fail
                go_roundw
                case rel => exact ⟨i + 1, K3, by go_num, by omega, HK11, HD8, HR3.out.trans (by exact Rd.trans (by exact HR53.out) HR8.out), HONE⟩
                case measure => (simp [RowKit.intOf]; omega)
            · have p1 : ¬ (P : Int) ≤ 4096 := by omega
              have HONE : Hid (∀ j n, j < i + 1 → pc.ns[j]? = some n → One pa pf (pc.T n)) := fun j n hj hn => by
                by_cases e : j = i
                · subst e
                  have e := HNM.out.symm.trans hn
                  obtain rfl := Option.some.inj e
                  rw [← HY.out]
                  exact ⟨HAll.out, fun r hr h1 h2 => HT8.out r (by omega) h1 h2⟩
                · exact HT.out j n (by omega) hn
              have hK11 : K3 + (S - (i + 1)) * C ≤ KT := by
                have := HK2.out; have := HK4.out; have := HKD.out; have := HVV.out
                have hsD : s * D ≤ 2 * D := Nat.mul_le_mul_right D (by omega)
                omega
              have HK11 := Lib.hid hK11
              clear hK11 hPS
              go_wp2_with fail
              go_roundw
              case rel => exact ⟨i + 1, K3, by go_num, by omega, HK11, HD8, HR3.out.trans (by exact Rd.trans (by exact HR53.out) HR8.out), HONE⟩
              case measure => (simp [RowKit.intOf]; omega)
    · obtain rfl : i = S := by omega
      go_wp2_with fail
      go_ret
      refine ⟨false, rfl, ⟨own', pa, pc, pf, d2, HCR.out, HOWN.out, ?_, HR2.out.trans HRI.out, H1.out, H2.out, by rw [H3.out], by rw [H3.out], by rw [H3.out], fun _ n hn => ?_⟩⟩
      · rw [← HLL.out]
        exact HDI.out.mono (by have := HKI.out; omega) (by omega)
      · obtain ⟨j, hj, e⟩ := List.getElem_of_mem hn
        exact HT.out j n (by have := HSL.out; omega) (by rw [← e]; exact List.getElem?_eq_getElem _)
end Go.Proofs.YtcmlchicpmnhdaaGreatDoor.Mix
/-
  What law 8's Mixed says of the disks of layer 9's laws; what a crash leaves of a Create that failed: facts, and a contract.
-/
namespace Go.Proofs.YtcmlchicpmnhdaaGreatDoor.Slot
open Go.RowKit Go.Proofs.YtcmlchicpmnhdaaGreatDoor.Rec Go.Proofs.YtcmlchicpmnhdaaGreatDoor.Disk Go.Proofs.YtcmlchicpmnhdaaGreatDoor.Mix
open Go.Proofs.YtcmlchicpmnhdaaGreatDoor.Crc (Turned)
open Go.Proofs.YtcmlchicpmnhdaaGreatDoor.Seg (Fr ptr mark_old mark_top free_fr failRaw_held)
set_option linter.unusedVariables false
set_option linter.unusedSimpArgs false

theorem mixed_slots {own : Own} {wa w : World} {fa fc K : Nat} {da dc : Dk} (ha : Held own wa w fa da K) (hc : Held own wa w fc dc K) (hne : fa ≠ fc) (hma : da.N.length ≤ 1) (hms : (da.crashDir 0).length ≤ 1) (hna : ∀ n ∈ da.N.map (·.1), n.length ≤ maxLen) (hns : ∀ n ∈ (da.crashDir 0).map (·.1), n.length ≤ maxLen)
    (hnl : dc.N.length ≤ 1) (hnc : ∀ n ∈ dc.N.map (·.1), n.length ≤ maxLen) (hK : K ≤ 1000) :
    Calls Tryz.prog 19 #[.pointer (some ⟨fa, 0, none⟩), .pointer (some ⟨fc, 0, none⟩)] w fun e w' => ∃ t, e = .returned (.bool t) ∧ Says own wa wa w fa fc 300000 da dc t w' :=
  mixed_any (M := 1) ha hc hne hma hms hna hns hnc (fun n x hx => hc.ok hx) (by
    have : dc.N.length * (1 + 107602 * (2 * 1)) ≤ 1 * (1 + 107602 * (2 * 1)) := Nat.mul_le_mul_right _ hnl
    omega) (by decide)
theorem dget_iff {n : Nm} {N : Dir} : dget n N = none ↔ n ∉ N.map (·.1) := by
  constructor
  · intro h hm
    obtain ⟨p, hp, rfl⟩ := List.mem_map.1 hm
    exact dget_none h p hp rfl
  · intro h
    cases e : dget n N with
    | none => rfl
    | some g => exact absurd (List.mem_map.2 ⟨_, dget_mem e, rfl⟩) h
/-- The crashed disk behind Mixed. -/
theorem says_disk {own : Own} {wa wb w w' : World} {fa fc KT : Nat} {da dc : Dk} {t : Bool} (h : Says own wa wb w fa fc KT da dc t w') : ∃ own' d, Held own' wb w' fc d KT ∧ (∀ b, b < w.heap.size → own' b = own b) ∧ Rd own' w w' ∧ (∀ n, dc.look n = none → d.look n = none) ∧ (∀ n x, dc.look n = some x → ∃ y, d.look n = some y ∧ y.now = x.now) := by
  obtain ⟨own', pa, pc, pf, d2, _, hs, hd, hr, _, hpc, _⟩ := h.ex
  obtain ⟨d, h1, h2, h3⟩ := hd.disk pc (by simp)
  rw [hpc] at h1 h2 h3
  refine ⟨own', d, h1, hs, hr, fun n hn => ?_, fun n x hx => ?_⟩
  · unfold Dk.look at hn ⊢
    have h4 := Option.map_eq_none_iff.1 hn
    rw [Option.map_eq_none_iff, dget_iff, h2]
    exact dget_iff.1 h4
  · have h4 : text d n = text dc n := h3 n
    cases hy : d.look n with
    | none =>
      unfold Dk.look at hx hy
      have h5 := Option.map_eq_none_iff.1 hy
      rw [dget_iff, h2] at h5
      obtain ⟨g, h6, _⟩ := Option.map_eq_some_iff.1 hx
      exact absurd (List.mem_map.2 ⟨_, dget_mem h6, rfl⟩) h5
    | some y =>
      unfold text at h4
      rw [hx, hy] at h4
      exact ⟨y, rfl, h4⟩
theorem crash_names_le (d d' : Dk) {n : Int} {keep : List Bool} {torn : Int} (h : d.Crashed d' n keep torn) (hl : (d.crashDir n).length ≤ 1) (hn : ∀ m ∈ (d.crashDir n).map (·.1), m.length ≤ maxLen) : d'.N.length ≤ 1 ∧ ∀ m ∈ d'.N.map (·.1), m.length ≤ maxLen := by
  have e := h.names
  refine ⟨?_, fun m hm => hn m (e ▸ hm)⟩
  have := congrArg List.length e
  rw [List.length_map, List.length_map] at this
  omega
/-- The directory that a crash of a half made file leaves. -/
theorem half_dir {nm : ByteArray} {b : List UInt8} {d : Dk} (h : Half nm b d) (n : Int) : d.crashDir n = [] ∨ (∃ g, d.crashDir n = [(nmNew, g)]) ∨ ∃ g, d.crashDir n = [(nm.data.toList, g)] ∧ d.fl g = ⟨laidB b, laidB b, []⟩ := by
  cases h with
  | bare hb =>
    refine .inl ?_
    rw [Dk.crashDir, hb.wait, hb.S, List.take_nil]
    rfl
  | beside g x hb =>
    rw [Dk.crashDir, hb.wait, hb.S]
    generalize (min (max n 0) ([⟨noName, sNew, some g⟩] : List Chg).length).toNat = k
    match k with
    | 0 => exact .inl rfl
    | k + 1 => exact .inr (.inl ⟨g, by rw [List.take_of_length_le (by simp)]; rfl⟩)
  | named g hb =>
    have hfl := hb.fl
    rw [Dk.crashDir, hb.wait, hb.S]
    generalize (min (max n 0) ([⟨noName, sNew, some g⟩, ⟨sNew, nm, some g⟩] : List Chg).length).toNat = k
    match k with
    | 0 => exact .inl rfl
    | 1 => exact .inr (.inl ⟨g, rfl⟩)
    | k + 2 =>
      refine .inr (.inr ⟨g, ?_, hfl⟩)
      rw [List.take_of_length_le (by simp)]
      rfl
theorem look_crash {d d' : Dk} {n : Int} {keep : List Bool} {torn : Int} (h : d.Crashed d' n keep torn) (nm : Nm) (hd : nm ∉ (d.crashDir n).map (·.1)) : d'.look nm = none := by
  unfold Dk.look
  rw [Option.map_eq_none_iff, dget_iff, h.names]
  exact hd
theorem half_crash {nm : ByteArray} {b : List UInt8} {d d' : Dk} {n : Int} {keep : List Bool} {torn : Int} (h : Half nm b d) (hne : nm.data.toList ≠ nmNew) (hc : d.Crashed d' n keep torn) : d'.look nm.data.toList = none ∨ ∃ x, d'.look nm.data.toList = some x ∧ x.now = laidB b := by
  rcases half_dir h n with e | ⟨g, e⟩ | ⟨g, e, hfl⟩
  · exact .inl (look_crash hc _ (by rw [e]; simp))
  · exact .inl (look_crash hc _ (by rw [e]; simpa using hne))
  · refine .inr ⟨⟨laidB b, laidB b, []⟩, ?_, rfl⟩
    rw [hc.look, e, crash_first, hfl, Fl.crash_clean (x := ⟨laidB b, laidB b, []⟩) rfl rfl]
    rfl
theorem half_small {nm : ByteArray} {b : List UInt8} {d : Dk} (h : Half nm b d) (hs : nm.data.toList.length ≤ maxLen) (n : Int) : (d.N.length ≤ 1 ∧ ∀ m ∈ d.N.map (·.1), m.length ≤ maxLen) ∧ (d.crashDir n).length ≤ 1 ∧ ∀ m ∈ (d.crashDir n).map (·.1), m.length ≤ maxLen := by
  refine ⟨?_, ?_⟩
  · cases h with
    | bare hb => rw [hb.N]; exact ⟨by simp, by simp⟩
    | beside g x hb => rw [hb.N]; exact ⟨by simp, by intro m hm; simp at hm; rw [hm]; decide⟩
    | named g hb => rw [hb.N]; exact ⟨by simp, by intro m hm; simp at hm; rw [hm]; exact hs⟩
  · rcases half_dir h n with e | ⟨g, e⟩ | ⟨g, e, _⟩
    · rw [e]; exact ⟨by simp, by simp⟩
    · rw [e]; exact ⟨by simp, by intro m hm; simp at hm; rw [hm]; decide⟩
    · rw [e]; exact ⟨by simp, by intro m hm; simp at hm; rw [hm]; exact hs⟩
end Go.Proofs.YtcmlchicpmnhdaaGreatDoor.Slot
/-
  Proved: SlotsCrash returns true, whatever it is handed: behind a failure of any call, and a crash.
-/
namespace Go.Proofs.YtcmlchicpmnhdaaGreatDoor.Slot
open Go.RowKit Go.Proofs.YtcmlchicpmnhdaaGreatDoor.Rec Go.Proofs.YtcmlchicpmnhdaaGreatDoor.Disk Go.Proofs.YtcmlchicpmnhdaaGreatDoor.Mix
open Go.Proofs.YtcmlchicpmnhdaaGreatDoor.Crc (Turned)
open Go.Proofs.YtcmlchicpmnhdaaGreatDoor.Seg (Fr ptr mark_old mark_top free_fr failRaw_held)
set_option linter.unusedVariables false
set_option linter.unusedSimpArgs false

theorem parts_zero (n : Nat) : ∀ i, (partsFor 0 n [] (-1)).getD i 0 = 0 := by
  intro i
  unfold partsFor
  rw [List.getD_eq_getElem?_getD, List.getElem?_map]
  by_cases h : i < n
  · rw [List.getElem?_range h]
    show partOf (0 + i) [] (-1) = 0
    unfold partOf
    rw [if_neg (by omega)]
    simp
  · rw [List.getElem?_eq_none (by simpa using h)]
    rfl
/-- What Mixed says of a file of slots where it says no. -/
theorem says_one {own : Own} {wa wb w w' : World} {fa fc KT g g' : Nat} {da dc : Dk} {nm : Nm} {x : Fl} {y : List UInt8} (h : Says own wa wb w fa fc KT da dc false w') (oa : OneFile da nm g x) (oc : OneFile dc nm g' ⟨y, y, []⟩) (hx : x.Ok) (hl : x.now.length = 8192) (hw : x.was.length = 8192) (hy : y.length = 8192) (s : Nat) (hs : s < 2) : OneSlot x y s := by
  intro h0
  obtain ⟨own', pa, pc, pf, d2, hcr, _, _, _, hpa, hpc, _, hns, hT, hone⟩ := h.ex
  have h1 := hone rfl nm (by rw [hpc]; show nm ∈ dc.N.map (·.1); rw [oc.N]; simp)
  have e1 : pc.T nm = y := by
    rw [hpc]
    show text dc nm = y
    unfold text
    rw [oc.look]
    rfl
  rw [e1] at h1
  obtain ⟨g2, o2, _⟩ := oa.crashed hcr
  have hle : slotN (slotAt y s) ≤ (slotAt y s).length := slotN_le _
  have hlen : ((y.drop (4096 * s)).take (slotN (slotAt y s))).length = slotN (slotAt y s) := by
    rw [List.length_take]
    exact Nat.min_eq_left hle
  rcases h1.slots s hs (by omega) h0 with ⟨q, hq, k1, k2⟩ | ⟨q, hq, k1, k2⟩
  · refine .inl ?_
    rw [hpa] at hq k1 k2
    have hq' : q ∈ da.N.map (·.1) := hq
    rw [oa.N] at hq'
    obtain rfl : q = nm := by simpa using hq'
    have e2 : text da q = x.now := by
      unfold text
      rw [oa.look]
      rfl
    have k1' : 4096 * s + ((y.drop (4096 * s)).take (slotN (slotAt y s))).length ≤ (text da q).length := k1
    have k2' : ((text da q).drop (4096 * s)).take ((y.drop (4096 * s)).take (slotN (slotAt y s))).length = (y.drop (4096 * s)).take (slotN (slotAt y s)) := k2
    rw [e2, hlen] at k1' k2'
    exact ⟨k1', k2'⟩
  · refine .inr ?_
    rw [hns] at hq
    rw [hT] at k1 k2
    have hq' : q ∈ d2.N.map (·.1) := hq
    rw [o2.N] at hq'
    obtain rfl : q = nm := by simpa using hq'
    have e2 : text d2 q = x.was := by
      unfold text
      rw [o2.look]
      show x.crash _ = x.was
      exact crash_old hx (by omega) (parts_zero _)
    have k1' : 4096 * s + ((y.drop (4096 * s)).take (slotN (slotAt y s))).length ≤ (text d2 q).length := k1
    have k2' : ((text d2 q).drop (4096 * s)).take ((y.drop (4096 * s)).take (slotN (slotAt y s))).length = (y.drop (4096 * s)).take (slotN (slotAt y s)) := k2
    rw [e2, hlen] at k1' k2'
    exact ⟨k1', k2'⟩
/-- A file of slots that was saved, on a disk of which a call may be to fail. -/
structure UpA (own : Own) (w0 w : World) (v : Sf) (x : Fl) (a : Option Nat) (K : Nat) : Prop where
  ex : ∃ g d, SG own w0 w v g x a K d
  lasts : v.lasts = true
  sides : Sides x.now v.slot v.turn v.txt
  used : v.used = v.turn
  was : x.was = x.now
  clean : x.soiled = []
/-- .. of which it is known what a crash leaves. -/
structure Ends (own : Own) (w0 w : World) (v : Sf) (x : Fl) (a : Option Nat) (K : Nat) (p q : List UInt8) : Prop where
  ex : ∃ g d, SG own w0 w v g x a K d
  ok : x.Ok
  len : x.now.length = 8192
  waslen : x.was.length = 8192
  tells : ∀ parts : List Nat, (∀ i, parts.getD i 0 ≤ 64) → (∀ s, s < 2 → OneSlot x (x.crash parts) s) → ∃ t b', Slot.tells (x.crash parts) = some (t, b') ∧ (b' = p ∨ b' = q)
theorem UpA.lies {own : Own} {w0 w : World} {v : Sf} {x : Fl} {a : Option Nat} {K : Nat} (h : UpA own w0 w v x a K) : Lies own w v := by
  obtain ⟨g, d, hs⟩ := h.ex
  exact hs.lies
theorem UpA.below {own : Own} {w0 w : World} {v : Sf} {x : Fl} {a : Option Nat} {K : Nat} (h : UpA own w0 w v x a K) : Below w0.heap.size w0 w := by
  obtain ⟨g, d, hs⟩ := h.ex
  exact hs.disk.below
theorem UpA.top {own : Own} {w0 w : World} {v : Sf} {x : Fl} {a : Option Nat} {K : Nat} (h : UpA own w0 w v x a K) : ∀ b p, own b = some p → b < w.heap.size := by
  obtain ⟨g, d, hs⟩ := h.ex
  exact hs.top
theorem UpA.none {own : Own} {w0 w : World} {v : Sf} {x : Fl} {a : Option Nat} {K : Nat} (h : UpA own w0 w v x a K) : ∀ b, b < w0.heap.size → own b = none := by
  obtain ⟨g, d, hs⟩ := h.ex
  exact hs.disk.free
theorem Ends.lies {own : Own} {w0 w : World} {v : Sf} {x : Fl} {a : Option Nat} {K : Nat} {p q : List UInt8} (h : Ends own w0 w v x a K p q) : Lies own w v := by
  obtain ⟨g, d, hs⟩ := h.ex
  exact hs.lies
theorem Ends.all {own : Own} {w0 w w' : World} {v : Sf} {x : Fl} {a : Option Nat} {K : Nat} {p q : List UInt8} (h : Ends own w0 w v x a K p q) (hb : Below w.heap.size w w') : Ends own w0 w' v x a K p q := by
  obtain ⟨g, d, hs⟩ := h.ex
  exact { h with ex := ⟨g, d, hs.all hb⟩ }
theorem calm_tells {x : Fl} {s t : Nat} {b : List UInt8} (hs : Sides x.now s t b) (hw : x.was = x.now) (hc : x.soiled = []) (q : List UInt8) (parts : List Nat) : ∃ t' b', tells (x.crash parts) = some (t', b') ∧ (b' = b ∨ b' = q) := by
  rw [Fl.crash_clean hc hw]
  exact ⟨t, b, hs.tell, .inl rfl⟩
theorem UpA.ends {own : Own} {w0 w : World} {v : Sf} {x : Fl} {a : Option Nat} {K : Nat} (h : UpA own w0 w v x a K) (q : List UInt8) : Ends own w0 w v x a K v.txt q := by
  obtain ⟨g, d, hs⟩ := h.ex
  exact ⟨⟨g, d, hs⟩, hs.xok, h.sides.len, by rw [h.was]; exact h.sides.len, fun parts _ _ => calm_tells h.sides h.was h.clean q parts⟩
theorem upa_fail {own : Own} {w0 w : World} {v : Sf} {x : Fl} {K : Nat} (n : Int) (h : Up own w0 w v x K) (hn : n ≤ 9223372036854775807) :
    Calls Tryz.prog 18 #[.pointer (some ⟨v.f, 0, none⟩), .int .i64 n] w fun e w' => e = .returned undef ∧ ∃ a, UpA own w0 w' v x a K := by
  refine (tried_fail n h.tried hn).mono ?_
  rintro e w' ⟨he, ht, _⟩
  exact ⟨he, failArm n, ht.ex, h.lasts, h.sides, h.used, h.was, h.clean⟩
theorem upa_ok {own : Own} {w0 w : World} {v : Sf} {x : Fl} {a : Option Nat} {K : Nat} (hT : Turned w0) (h : UpA own w0 w v x a K) (hok : ¬ (a = some 0 ∨ a = some 1)) (hu : v.turn < 1099511627776) (hK : K + 2 ≤ 1073741824)
    {A : Option Addr} {n c : Nat} {b : List UInt8} (hR : Free own w A n (bvs b)) (hnc : n ≤ c) (hc : c ≤ maxLen) (hn : n ≤ 4080) :
    Calls Tryz.prog 27 #[.pointer (some ⟨v.sf, 0, none⟩), .slice A n c] w fun e w' => e = .returned (.int .i64 0) ∧ ∃ own' x' a', UpA own' w0 w' { v with slot := 1 - v.slot, turn := v.turn + 1, txt := b, used := v.turn + 1 } x' a' (K + 2) ∧ Fr own own' w w' := by
  obtain ⟨g, d, hs⟩ := h.ex
  have hbn : b.length = n := by have := hR.1; rwa [bvs_length] at this
  refine (save_any hT hs h.lasts (by rw [h.used]; exact hu) h.sides.two h.sides.len hR hnc hc hn hK).mono ?_
  rintro e w' ⟨er, he, own', d', v', x', a', hsv, hsg, hfr⟩
  cases hsv with
  | write => exact absurd (.inl rfl) hok
  | sync L _ => exact absurd (.inr rfl) hok
  | ok _ h0 h1 =>
    rw [h.used] at hsg
    exact ⟨he, own', ⟨putAt x.now (4096 * (1 - v.slot)) (slotFull (v.turn + 1) b), putAt x.now (4096 * (1 - v.slot)) (slotFull (v.turn + 1) b), []⟩, armed (armed a), ⟨⟨g, d', hsg⟩, h.lasts, h.sides.save (by omega) (slotFull_len (by omega)) (Nat.lt_succ_self _) (by omega), rfl, rfl, rfl⟩, hfr⟩
theorem clean_sec {L : Secs} {x0 : Fl} {s t : Nat} (hc : x0.soiled = []) (hL : ∀ t, shas t L = (shas t x0.soiled || touches (4096 * (1 - s)) 4096 t)) (hs : s < 2) (h1 : 64 * s ≤ t) (h2 : t < 64 * s + 64) : shas t L = false := by
  rw [hL, hc]
  have e : touches (4096 * (1 - s)) 4096 t = false := by
    unfold touches
    rcases (by omega : s = 0 ∨ s = 1) with rfl | rfl
    · rw [decide_eq_false (by omega)]
      rfl
    · rw [Bool.and_eq_false_iff]
      refine .inr (decide_eq_false ?_)
      have : sectors (4096 * (1 - 1)) 4096 = 64 := by decide
      rw [this]
      omega
  rw [e]
  rfl
theorem upa_bad {own : Own} {w0 w : World} {v : Sf} {x : Fl} {a : Option Nat} {K : Nat} (hT : Turned w0) (h : UpA own w0 w v x a K) (hbad : a = some 0 ∨ a = some 1) (hu : v.turn < 1099511627776) (hK : K + 2 ≤ 1073741824)
    {A : Option Addr} {n c : Nat} {b : List UInt8} (hR : Free own w A n (bvs b)) (hnc : n ≤ c) (hc : c ≤ maxLen) (hn : n ≤ 4080) :
    Calls Tryz.prog 27 #[.pointer (some ⟨v.sf, 0, none⟩), .slice A n c] w fun e w' => e = .returned (.int .i64 3) ∧ ∃ own' x' a', Ends own' w0 w' { v with used := v.turn + 1 } x' a' (K + 2) v.txt b := by
  obtain ⟨g, d, hs⟩ := h.ex
  have hbn : b.length = n := by have := hR.1; rwa [bvs_length] at this
  refine (save_any hT hs h.lasts (by rw [h.used]; exact hu) h.sides.two h.sides.len hR hnc hc hn hK).mono ?_
  rintro e w' ⟨er, he, own', d', v', x', a', hsv, hsg, hfr⟩
  cases hsv with
  | write =>
    rw [h.used] at hsg
    exact ⟨he, own', x, none, ⟨g, d', hsg⟩, hsg.xok, h.sides.len, by rw [h.was]; exact h.sides.len, fun parts _ _ => calm_tells h.sides h.was h.clean b parts⟩
  | sync L hL =>
    rw [h.used] at hsg
    have h2 := h.sides.two
    have hlen : (putAt x.now (4096 * (1 - v.slot)) (slotFull (v.turn + 1) b)).length = 8192 := put_length h.sides.len (by omega) (slotFull_len (by omega))
    refine ⟨he, own', ⟨putAt x.now (4096 * (1 - v.slot)) (slotFull (v.turn + 1) b), x.was, L⟩, none, ⟨g, d', hsg⟩, hsg.xok, hlen, by show x.was.length = 8192; rw [h.was]; exact h.sides.len, fun parts hp hone => ?_⟩
    have here : slotOf (slotAt (putAt x.now (4096 * (1 - v.slot)) (slotFull (v.turn + 1) b)) v.slot) = some (v.turn, v.txt) := (put_there h.sides.len (by omega) h2 (by omega) (slotFull_len (by omega))).trans h.sides.here
    have hct := crash_tells (x := ⟨putAt x.now (4096 * (1 - v.slot)) (slotFull (v.turn + 1) b), x.was, L⟩) hsg.xok hlen (by show x.was.length = 8192; rw [h.was]; exact h.sides.len) hp h2 here (fun i h3 h4 => clean_sec h.clean hL h2 h3 h4) (q := (v.turn + 1, b)) (Nat.lt_succ_self _)
      (by intro p hp2; have hp3 : slotOf (slotAt x.was (1 - v.slot)) = some p := hp2; rw [h.was] at hp3; exact h.sides.there p hp3) (.inl (put_here h.sides.len (by omega) (by omega) (by omega))) (hone (1 - v.slot) (by omega))
    rcases hct with e | e
    · exact ⟨_, _, e, .inl rfl⟩
    · exact ⟨_, _, e, .inr rfl⟩
  | ok _ h0 h1 => rcases hbad with e | e <;> contradiction
end Go.Proofs.YtcmlchicpmnhdaaGreatDoor.Slot
