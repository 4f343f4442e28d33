/-
  Proved: the walk of MacCheck of package stillroomlaw3: it returns true and changes nothing that was there.
  Conditions: the slices read as bytes; the numbers lie in their types; the tables sha.start and sha.rounds hold their words.
-/
import Derived.Test.YtllbdeniigakkaaDoorMacBase
import Derived.Test.YtllbdeniigakkaaDoorDraw
import Derived.Deep.DeepCutAuto
namespace Go.Proofs.YtllbdeniigakkaaDoor.Sha
open Go.RowKit

theorem u8_of {x : Int} (h0 : 0 ≤ x) (h1 : x ≤ 255) : ∃ c : UInt8, x = (c.toNat : Int) := by
  refine ⟨UInt8.ofNat x.toNat, ?_⟩
  rw [UInt8.toNat_ofNat']
  have : x.toNat % 2 ^ 8 = x.toNat := Nat.mod_eq_of_lt (by omega)
  rw [this]
  omega

/-- A slice of an array of one-cell elements, from its front to a place. -/
theorem run_sliceAt_arr_h {P : Program} {T e : TypeId} {n : Nat} (ht : P.underlying T = some (.array n e)) (hs : (P.info? e).map (·.size) = some 1) (g l : Nat) (hl : l ≤ n) (h0 : 0 < n) (w : World) :
    (Instr.sliceAt T (.pointer (some ⟨g, 0, none⟩)) none (some (.int .i64 (l : Int))) none).run P w = .ok (.slice (some ⟨g, 0, none⟩) l n) w := by
  obtain ⟨info, hinfo, hsize⟩ := Option.map_eq_some_iff.1 hs
  have hL : P.arrayLen T = n := by simp [Program.arrayLen, ht]
  have hE : P.elem T = e := by simp [Program.elem, ht]
  have h := run_sliceAt_array_h (P := P) w T ⟨g, 0, none⟩ (by rw [hL, hE]; exact ht) .i64 (l : Int) (by omega) (by rw [hL]; omega)
  have hne : ¬ n = 0 := by omega
  rw [h, hE, hL]
  simp [sizeOf, typeInfo, hinfo, hsize, slicedAt, Addr.add, hne]
theorem below_none {B : Nat} {a w w' : World} (h : Below B a w) (hg : w.grownBy w' none) (hs : B ≤ w.heap.size) : Below B a w' :=
  h.grown hg hs (fun k hk => by cases hk)
set_option linter.unusedSimpArgs false in
set_option maxHeartbeats 4000000 in
theorem macCheck_walk (A : Option Addr) (n c : Nat) (xs : List UInt8) (B : Option Addr) (m d : Nat) (zs : List UInt8) (pl x cut : Int) (w : World) (hT : Tables w)
    (hA : Row w w.heap.size A n (bvs xs)) (hn : n ≤ c) (hc : c ≤ maxLen) (hB : Row w w.heap.size B m (bvs zs)) (hm : m ≤ d) (hd : d ≤ maxLen) (hpl : -9223372036854775808 ≤ pl ∧ pl ≤ 9223372036854775807) (hx : (Lit.int .u8 x).wf = true) (hcut : -9223372036854775808 ≤ cut ∧ cut ≤ 9223372036854775807) :
    Calls Tryd.prog 4 #[.slice A n c, .slice B m d, .int .i64 pl, .int .u8 x, .int .i64 cut] w fun e w' => e = .returned (.bool true) ∧ Below w.heap.size w w' := by
  obtain ⟨hp1, hp2⟩ := hpl
  obtain ⟨hq1, hq2⟩ := hcut
  obtain ⟨hx1, hx2⟩ : 0 ≤ x ∧ x ≤ 255 := bounds_u8 hx
  obtain ⟨cx, rfl⟩ := u8_of hx1 hx2
  have hgd := eq_guard
  have hzero' := zero_sum
  have HT := Lib.hid hT
  have HA := Lib.hid hA
  have HB := Lib.hid hB
  have HC := Lib.hid hc
  have HD := Lib.hid hd
  clear hT hA hB hc hd hx hx1 hx2
  go_enter Tryd.func4, Tryd.ntmps4
  go_wp2_with fail
  refine (begun3_any w HT.out).mono ?_
  rintro e w1 ⟨rfl, hb1⟩
  have HB1 := Lib.hid hb1
  have hz1 := hb1.size
  clear hb1
  go_wp2_with fail
  refine (short_any A n c 80 w1 hn HC.out).mono ?_
  rintro e w2 ⟨rfl, rfl⟩
  go_wp2_with fail
  refine (short_any B m d 100 w1 hm HD.out).mono ?_
  rintro e w2 ⟨rfl, rfl⟩
  have HKA : Hid (∀ W : World, Below w.heap.size w W → Row W w.heap.size A (min n 80) (bvs (xs.take 80))) := fun W h => short_row (m := 80) h HA.out
  have HKB : Hid (∀ W : World, Below w.heap.size w W → Row W w.heap.size B (min m 100) (bvs (zs.take 100))) := fun W h => short_row (m := 100) h HB.out
  obtain ⟨N, hN⟩ : ∃ N, N = min n 80 := ⟨_, rfl⟩
  obtain ⟨M, hM⟩ : ∃ M, M = min m 100 := ⟨_, rfl⟩
  rw [← hN] at HKA ⊢
  rw [← hM] at HKB ⊢
  have hN2 : N ≤ 80 := by omega
  have hNc : N ≤ c := by omega
  have hM2 : M ≤ 100 := by omega
  have hMd : M ≤ d := by omega
  obtain ⟨ks, hks⟩ : ∃ ks, ks = xs.take 80 := ⟨_, rfl⟩
  obtain ⟨bs, hbs⟩ : ∃ bs, bs = zs.take 100 := ⟨_, rfl⟩
  rw [← hks] at HKA
  rw [← hbs] at HKB
  clear hN hM hks hbs HA HB hn hm
  obtain ⟨tag, htag⟩ : ∃ tag, tag = hmac ks bs := ⟨_, rfl⟩
  have htl : tag.length = 32 := by rw [htag, hmac_length]
  obtain ⟨tl, htt⟩ : ∃ tl, tl = bvs tag := ⟨_, rfl⟩
  have htv : tl.length = 32 := by rw [htt, bvs_length, htl]
  have HTL := Lib.hid htl
  have HTT := Lib.hid htt
  have HTV := Lib.hid htv
  have HTS : Hid (tl.toArray.size = 32) := by show tl.toArray.size = 32; rw [List.size_toArray]; exact htv
  have HT1 : Hid (tl.toArray.all (·.oneCell') = true) := by show _ = _; rw [htt]; exact bvs_all' _
  have HSM : Hid (∀ W : World, Below w.heap.size w W → Calls Tryd.prog 8 #[.slice A N c, .slice B M d] W fun e w' => e = .returned (.agg tl.toArray) ∧ Below W.heap.size W w') := fun W h => by
    have := macsum_any A N c ks B M d bs W (HT.out.all h) ((HKA.out W h).more h.size) hNc HC.out (by omega) ((HKB.out W h).more h.size) hMd HD.out (by omega)
    rw [← htag, ← htt] at this
    exact this
  have HCK : Hid (∀ W : World, Below w.heap.size w W → ∀ (C : Option Addr) (k f : Nat) (ts : List UInt8), Row W W.heap.size C k (bvs ts) → k ≤ f → f ≤ maxLen → Calls Tryd.prog 10 #[.slice A N c, .slice B M d, .slice C k f] W fun e w' => e = .returned (.bool (decide (ts = tag))) ∧ Below W.heap.size W w') := fun W h C k f ts hr hk hf => by
    have := maccheck_any A N c ks B M d bs C k f ts W (HT.out.all h) ((HKA.out W h).more h.size) hNc HC.out (by omega) ((HKB.out W h).more h.size) hMd HD.out (by omega) hr hk hf
    rw [← htag] at this
    exact this
  clear htag htl htt htv HKA HKB HC HD
  go_wp2_with fail
  with_reducible refine (HSM.out w1 HB1.out).mono ?_
  rintro e w3 ⟨rfl, hb3⟩
  have HB3 := Lib.hid (HB1.out.trans (hb3.mono hz1))
  have hz3 : w.heap.size ≤ w3.heap.size := HB3.out.size
  clear hb3 HSM
  go_upto_if 27 with (first
    | (refine wpList_store_blk rfl 25 (.tmp 12) (.tmp 24) rfl w3.heap.size tl.toArray rfl rfl 25 zeroSum (heap_alloc_new _ _) (by rw [HTS.out]; kernel_rfl) (by rw [HTS.out]; rfl) HT1.out ?_
       intro w4 G1 G2
       have hz4 : w3.heap.size + 1 ≤ w4.heap.size := by have := (only_hid G2).size; simpa using this
       have HB4 : Hid (Below w.heap.size w w4) := below_only (HB3.out.alloc hz3 _) (only_hid G2) hz3 (by simp; omega))
    | (refine wpList_load_row rfl 25 (.tmp 12) rfl w3.heap.size rfl 25 tl.toArray (0, 0) _ G1.out Tryd.underlying25 rfl (by rw [HTS.out]; kernel_rfl) ?_)
    | (refine wpList_store_blk rfl 25 (.tmp 13) (.tmp 25) rfl w4.heap.size tl.toArray rfl rfl 25 zeroSum (heap_alloc_new _ _) (by rw [HTS.out]; kernel_rfl) (by rw [HTS.out]; rfl) HT1.out ?_
       intro w5 G3 G4
       have hz5 : w4.heap.size + 1 ≤ w5.heap.size := by have := (only_hid G4).size; simpa using this
       have HB5 : Hid (Below w.heap.size w w5) := below_only (HB4.out.alloc (by omega) _) (only_hid G4) (by omega) (by simp; omega)
       have G5 : Hid (Blk w5 w3.heap.size 25 tl.toArray) := (G4.out.block _ (by simp; omega) (by intro e; injection e; omega)).trans ((Below.heap_alloc w4 _ _ (by omega)).trans G1.out)))
  clear G1 G2 G4 HB4
  go_cut [13] (fun v wr => v = .pointer (some ⟨w4.heap.size, 0, none⟩) ∧ Hid (∃ u : List UInt8, u.length = 32 ∧ Blk wr w4.heap.size 25 (bvs u).toArray ∧ Blk wr w3.heap.size 25 tl.toArray ∧ Below w.heap.size w wr))
  case first =>
    by_cases hneg : 0 ≤ pl
    · obtain ⟨R, hR⟩ : ∃ R : Nat, pl.tmod 32 = (R : Int) := ⟨(pl.tmod 32).toNat, by rw [Int.tmod_eq_emod]; split <;> omega⟩
      have hR2 : R < 32 := by have h := hR; rw [Int.tmod_eq_emod] at h; split at h <;> omega
      have hR3 : pl % 32 = (R : Int) := by have h := hR; rw [Int.tmod_eq_emod] at h; split at h <;> omega
      have hbk : Blk w5 w4.heap.size 25 (bvs tag).toArray := by have := G3.out; rw [HTT.out] at this; exact this
      have f1 := blk_byte hbk R (by rw [HTL.out]; exact hR2)
      have f2 : w5.frozen? ⟨w4.heap.size, R, none⟩ = false := hbk.free R
      obtain ⟨y, hy⟩ : ∃ y, y = tag.getD R 0 := ⟨_, rfl⟩
      rw [← hy] at f1
      have hyl := y.toNat_lt
      have hcl := cx.toNat_lt
      have GX := Lib.hid (u8_xor_bv y cx)
      have HK := Lib.hid hbk
      clear hy hbk G3
      go_wp2_with fail
      go_meet
      case rel =>
        refine ⟨rfl, tag.set R (y ^^^ cx), by rw [List.length_set]; exact HTL.out, ?_, (Below.heap_setCell _ _ _ _ (by show w3.heap.size ≠ w4.heap.size; omega)).trans G5.out, HB5.out.setCell (by show w.heap.size ≤ w4.heap.size; omega) _⟩
        rw [GX.out, ← bvs_put]
        exact HK.out.put R _
    · go_wp2_with fail
      go_meet
      case rel => exact ⟨rfl, tag, HTL.out, by have := G3.out; rw [HTT.out] at this; exact this, G5.out, HB5.out⟩
  case rest =>
    obtain ⟨rfl, HI⟩ := hcut
    obtain ⟨u, hu1, hu2, hu3, hu4⟩ := HI.out
    obtain ⟨ul, hul⟩ : ∃ ul, ul = bvs u := ⟨_, rfl⟩
    rw [← hul] at hu2
    obtain ⟨p, hp⟩ : ∃ p, p = decide (u = tag) := ⟨_, rfl⟩
    have hu25 := Tryd.underlying25
    have hit : (Tryd.prog.info? 25).map (·.size) = some tl.length := by rw [HTV.out]; kernel_rfl
    have hiu : (Tryd.prog.info? 25).map (·.size) = some ul.length := by rw [hul, bvs_length, hu1]; kernel_rfl
    have heq : ∀ W : World, (binOp .eql 25 (.agg ul.toArray) (.agg tl.toArray)).run Tryd.prog W = .ok (.bool p) W := fun W => by
      rw [hul, HTT.out, run_eql_bytes (P := Tryd.prog) Tryd.underlying25 Tryd.underlying5 (by kernel_rfl) u tag hu1 HTL.out W, hp]
    have hz6 : w.heap.size ≤ wc.heap.size := hu4.size
    have hg3 : w3.heap.size < wc.heap.size := blk_lt hu3
    have hg4 : w4.heap.size < wc.heap.size := blk_lt hu2
    have HB0 : Hid (Below wc.heap.size wc wc.drew) := (Below.refl _ _).drew
    have HW : Hid (∀ W, Below wc.heap.size wc W → Below w.heap.size w W) := fun W h => hu4.trans (h.mono hz6)
    have HBT : Hid (∀ W, Below wc.heap.size wc W → Blk W w3.heap.size 25 (bvs tag).toArray) := fun W h => by
      have := hu3
      rw [HTT.out] at this
      exact (h.block _ hg3).trans this
    have HBU : Hid (∀ W, Below wc.heap.size wc W → Blk W w4.heap.size 25 (bvs u).toArray) := fun W h => by
      have := hu2
      rw [hul] at this
      exact (h.block _ hg4).trans this
    have HS : Hid (∀ W, Below wc.heap.size wc W → W.rangeAt w3.heap.size 0 tl ∧ W.rangeAt w4.heap.size 0 ul ∧ Hid (Below wc.heap.size wc W)) := fun W h =>
      ⟨fun j v hj => (h.cell hg3).trans ((Blk.cell hu3 _).trans (by simpa using hj)), fun j v hj => (h.cell hg4).trans ((Blk.cell hu2 _).trans (by simpa using hj)), h⟩
    have HM32 : Hid (32 ≤ maxLen) := by show 32 ≤ maxLen; unfold maxLen; omega
    have HU1 := Lib.hid hu1
    have HP := Lib.hid hp
    clear HI hu1 hu2 hu3 hu4 hul hp G3 G5 HB5 hg3 hg4
    go_upto_region 9 with fail
    refine wp_region_noPanic ?_
    refine wp_region_held_drew (S := fun w' => w'.rangeAt w3.heap.size 0 tl ∧ w'.rangeAt w4.heap.size 0 ul ∧ Hid (Below wc.heap.size wc w')) (by kernel_rfl) (HS.out _ HB0.out) (fun h0 => ?_)
    refine held_take 0 (v := ?_) (d := (some 35)) rfl rfl (by kernel_rfl) (by kernel_rfl) (by kernel_rfl) (fun _ _ _ h => h) (Or.inl ⟨by rfl, ?_⟩) h0 ?_
    rotate_left
    · intro _ _; go_simp; (try with_reducible rfl)
    try simp only [Act.put, List.setIfInBounds_toArray, List.set_cons_zero, List.set_cons_succ]
    refine held_take 1 (v := ?_) (d := (some 36)) rfl rfl (by kernel_rfl) (by kernel_rfl) (by kernel_rfl) (fun _ _ _ h => h) (Or.inl ⟨by rfl, ?_⟩) h0 ?_
    rotate_left
    · intro _ _; go_simp; (try with_reducible rfl)
    try simp only [Act.put, List.setIfInBounds_toArray, List.set_cons_zero, List.set_cons_succ]
    refine held_take 2 (v := ?_) (d := (some 37)) rfl rfl (by kernel_rfl) (by kernel_rfl) (by kernel_rfl) (fun _ _ _ h => h) (Or.inl ⟨by rfl, ?_⟩) h0 ?_
    rotate_left
    · intro _ _; go_simp; (try with_reducible rfl)
    try simp only [Act.put, List.setIfInBounds_toArray, List.set_cons_zero, List.set_cons_succ]
    refine wpAnyH_ready (rs := [3]) (by kernel_rfl) (by simp) (AllReadyH.cons rfl (fun K hK => ?_) AllReadyH.nil)
    go_simp
    have hq := HCK.out wc.drew (HW.out _ HB0.out) (some ⟨w3.heap.size, 0, none⟩) 32 32 tag (blk_row (HBT.out _ HB0.out) HTL.out) (Nat.le_refl _) HM32.out
    rw [decide_eq_true rfl] at hq
    with_reducible refine hq.mono ?_
    clear hq
    rintro e w10 ⟨rfl, hb10⟩
    have HB10 : Hid (Below wc.heap.size wc w10) := HB0.out.trans (hb10.mono HB0.out.size)
    clear hb10
    refine hK.out _ _ (HS.out _ HB10.out) (fun h10 => ?_)
    clear hK K
    try simp only [Act.put, List.setIfInBounds_toArray, List.set_cons_zero, List.set_cons_succ]
    refine held_take 4 (v := ?_) (d := (some 39)) rfl rfl (by kernel_rfl) (by kernel_rfl) (by kernel_rfl) (fun _ _ _ h => h) (Or.inl ⟨by rfl, ?_⟩) h10 ?_
    rotate_left
    · intro _ _; go_simp; (try with_reducible rfl)
    try simp only [Act.put, List.setIfInBounds_toArray, List.set_cons_zero, List.set_cons_succ]
    refine held_take 5 (v := ?_) (d := (some 40)) rfl rfl (by kernel_rfl) (by kernel_rfl) (by kernel_rfl) (fun _ _ _ h => h) (Or.inl ⟨by rfl, ?_⟩) h10 ?_
    rotate_left
    · intro _ _; go_simp; (try with_reducible rfl)
    try simp only [Act.put, List.setIfInBounds_toArray, List.set_cons_zero, List.set_cons_succ]
    refine held_take 6 (v := ?_) (d := (some 41)) rfl rfl (by kernel_rfl) (by kernel_rfl) (by kernel_rfl) (fun _ _ _ h => h) (Or.inl ⟨by rfl, ?_⟩) h10 ?_
    rotate_left
    · intro _ _; go_simp; (try with_reducible rfl)
    try simp only [Act.put, List.setIfInBounds_toArray, List.set_cons_zero, List.set_cons_succ]
    refine held_take 7 (v := ?_) (d := (some 42)) rfl rfl (by kernel_rfl) (by kernel_rfl) (by kernel_rfl) (fun _ _ _ h => h) (Or.inl ⟨by rfl, ?_⟩) h10 ?_
    rotate_left
    · intro _ _; go_simp; (try with_reducible rfl)
    try simp only [Act.put, List.setIfInBounds_toArray, List.set_cons_zero, List.set_cons_succ]
    refine held_take 9 (v := .agg (List.toArray ul)) (d := (some 44)) rfl rfl (by kernel_rfl) (by kernel_rfl) (by kernel_rfl) (fun _ _ _ h => h) (yieldsIf_load_mid (by rfl) _ _ rfl w4.heap.size 0 rfl ul _ (fun _ h => h.2.1) hu25 rfl hiu) h10 ?_
    try simp only [Act.put, List.setIfInBounds_toArray, List.set_cons_zero, List.set_cons_succ]
    refine held_take 10 (v := .agg (List.toArray tl)) (d := (some 45)) rfl rfl (by kernel_rfl) (by kernel_rfl) (by kernel_rfl) (fun _ _ _ h => h) (yieldsIf_load_mid (by rfl) _ _ rfl w3.heap.size 0 rfl tl _ (fun _ h => h.1) hu25 rfl hit) h10 ?_
    try simp only [Act.put, List.setIfInBounds_toArray, List.set_cons_zero, List.set_cons_succ]
    refine held_take 11 (v := ?_) (d := (some 46)) rfl rfl (by kernel_rfl) (by kernel_rfl) (by kernel_rfl) (fun _ _ _ h => h) (Or.inl ⟨by rfl, ?_⟩) h10 ?_
    rotate_left
    · intro _ _; go_simp; (try with_reducible rfl)
    try simp only [Act.put, List.setIfInBounds_toArray, List.set_cons_zero, List.set_cons_succ]
    refine wpAnyH_ready (rs := [8]) (by kernel_rfl) (by simp) (AllReadyH.cons rfl (fun K hK => ?_) AllReadyH.nil)
    go_simp
    have hq := HCK.out w10 (HW.out _ HB10.out) (some ⟨w4.heap.size, 0, none⟩) 32 32 u (blk_row (HBU.out _ HB10.out) HU1.out) (Nat.le_refl _) HM32.out
    rw [← HP.out] at hq
    with_reducible refine hq.mono ?_
    clear hq
    rintro e w11 ⟨rfl, hb11⟩
    have HB11 : Hid (Below wc.heap.size wc w11) := HB10.out.trans (hb11.mono HB10.out.size)
    clear hb11
    refine hK.out _ _ (HS.out _ HB11.out) (fun h11 => ?_)
    clear hK K
    try simp only [Act.put, List.setIfInBounds_toArray, List.set_cons_zero, List.set_cons_succ]
    refine held_take 12 (v := ?_) (d := (some 47)) rfl rfl (by kernel_rfl) (by kernel_rfl) (by kernel_rfl) (fun _ _ _ h => h) (Or.inl ⟨by rfl, ?_⟩) h11 ?_
    rotate_left
    · intro _ _; go_simp; (try with_reducible rfl)
    try simp only [Act.put, List.setIfInBounds_toArray, List.set_cons_zero, List.set_cons_succ]
    refine held_take 13 (v := ?_) (d := (some 48)) rfl rfl (by kernel_rfl) (by kernel_rfl) (by kernel_rfl) (fun _ _ _ h => h) (Or.inl ⟨by rfl, ?_⟩) h11 ?_
    rotate_left
    · intro _ _; go_simp; (try with_reducible rfl)
    try simp only [Act.put, List.setIfInBounds_toArray, List.set_cons_zero, List.set_cons_succ]
    refine held_take 14 (v := ?_) (d := (some 49)) rfl rfl (by kernel_rfl) (by kernel_rfl) (by kernel_rfl) (fun _ _ _ h => h) (Or.inl ⟨by rfl, ?_⟩) h11 ?_
    rotate_left
    · intro _ _; go_simp; (try with_reducible rfl)
    try simp only [Act.put, List.setIfInBounds_toArray, List.set_cons_zero, List.set_cons_succ]
    refine held_take 15 (v := ?_) (d := (some 50)) rfl rfl (by kernel_rfl) (by kernel_rfl) (by kernel_rfl) (fun _ _ _ h => h) (Or.inl ⟨by rfl, ?_⟩) h11 ?_
    rotate_left
    · intro _ _; go_simp; (try with_reducible rfl)
    try simp only [Act.put, List.setIfInBounds_toArray, List.set_cons_zero, List.set_cons_succ]
    refine held_take 16 (v := ?_) (d := (some 51)) rfl rfl (by kernel_rfl) (by kernel_rfl) (by kernel_rfl) (fun _ _ _ h => h) (Or.inl ⟨by rfl, ?_⟩) h11 ?_
    rotate_left
    · intro _ _; go_simp; (try with_reducible rfl)
    try simp only [Act.put, List.setIfInBounds_toArray, List.set_cons_zero, List.set_cons_succ]
    refine held_take 17 (v := ?_) (d := (some 52)) rfl rfl (by kernel_rfl) (by kernel_rfl) (by kernel_rfl) (fun _ _ _ h => h) (Or.inl ⟨by rfl, ?_⟩) h11 ?_
    rotate_left
    · intro _ _; go_simp; (try with_reducible rfl)
    try simp only [Act.put, List.setIfInBounds_toArray, List.set_cons_zero, List.set_cons_succ]
    refine wpAnyH_ready (rs := [18]) (by kernel_rfl) (by simp) (AllReadyH.cons rfl (fun K hK => ?_) AllReadyH.nil)
    go_simp
    refine hK.out _ _ (HS.out _ (HB11.out.alloc HB11.out.size _)) (fun h12 => ?_)
    clear hK K
    try simp only [Act.put, List.setIfInBounds_toArray, List.set_cons_zero, List.set_cons_succ]
    refine wpAnyH_ready (rs := [19]) (by kernel_rfl) (by simp) (AllReadyH.cons rfl (fun K hK => ?_) AllReadyH.nil)
    refine want_append_grows (d := some 54) (by rfl) (.tmp 52) (.tmp 53) 22 rfl rfl 5 (.int .u8 0) 1 Tryd.underlying22 u8_info' rfl ⟨w3.heap.size, 0, none⟩ 32 32 (bvs tag) rfl (by rw [bvs_length]; exact HTL.out) (row_news (blk_row (HBT.out _ (HB11.out.alloc HB11.out.size _)) HTL.out)) ⟨w11.heap.size, 0, none⟩ 1 1 [.int .u8 0] rfl rfl (row_news (Row.fresh w11 5 (0, 0) #[.int .u8 0])) (by omega) (by unfold maxLen; omega) (by omega) ?_
    intro v13 w13 ho13 hg13
    obtain ⟨A13, c13, rfl, hc13, hm13⟩ := own_form ho13.out
    have HR13 : Hid (Row w13 w13.heap.size A13 (32 + 1) (bvs (tag ++ [0]))) := by have := Row.own ho13.out; rw [show [Value.int .u8 0] = bvs [0] from rfl, bvs_append] at this; exact this
    have HM13 : Hid (c13 ≤ maxLen) := hm13
    have HB13 : Hid (Below wc.heap.size wc w13) := below_none (HB11.out.alloc HB11.out.size _) hg13.out (HB11.out.alloc HB11.out.size _).size
    clear ho13 hg13 hm13
    refine hK.out _ _ (HS.out _ HB13.out) (fun h13 => ?_)
    clear hK K
    try simp only [Act.put, List.setIfInBounds_toArray, List.set_cons_zero, List.set_cons_succ]
    refine wpAnyH_ready (rs := [20]) (by kernel_rfl) (by simp) (AllReadyH.cons rfl (fun K hK => ?_) AllReadyH.nil)
    go_simp
    have hq := HCK.out w13 (HW.out _ HB13.out) A13 (32 + 1) c13 (tag ++ [0]) HR13.out hc13 HM13.out
    rw [decide_eq_false (by intro e; have := congrArg List.length e; simp at this)] at hq
    with_reducible refine hq.mono ?_
    clear hq
    rintro e w14 ⟨rfl, hb14⟩
    have HB14 : Hid (Below wc.heap.size wc w14) := HB13.out.trans (hb14.mono HB13.out.size)
    clear hb14
    refine hK.out _ _ (HS.out _ HB14.out) (fun h14 => ?_)
    clear hK K
    try simp only [Act.put, List.setIfInBounds_toArray, List.set_cons_zero, List.set_cons_succ]
    refine held_take 21 (v := ?_) (d := (some 56)) rfl rfl (by kernel_rfl) (by kernel_rfl) (by kernel_rfl) (fun _ _ _ h => h) (Or.inl ⟨by rfl, ?_⟩) h14 ?_
    rotate_left
    · intro _ _; go_simp; (try with_reducible rfl)
    try simp only [Act.put, List.setIfInBounds_toArray, List.set_cons_zero, List.set_cons_succ]
    refine held_take 22 (v := ?_) (d := (some 57)) rfl rfl (by kernel_rfl) (by kernel_rfl) (by kernel_rfl) (fun _ _ _ h => h) (Or.inl ⟨by rfl, ?_⟩) h14 ?_
    rotate_left
    · intro _ _; go_simp; (try with_reducible rfl)
    try simp only [Act.put, List.setIfInBounds_toArray, List.set_cons_zero, List.set_cons_succ]
    refine held_take 23 (v := ?_) (d := (some 14)) rfl rfl (by kernel_rfl) (by kernel_rfl) (by kernel_rfl) (fun _ _ _ h => h) (Or.inl ⟨by rfl, ?_⟩) h14 ?_
    rotate_left
    · intro _ _; go_simp; (try with_reducible rfl)
    try simp only [Act.put, List.setIfInBounds_toArray, List.set_cons_zero, List.set_cons_succ]
    refine wpAnyH_done (by kernel_rfl) ?_ _
    refine NoPanic.normal ?_
    have HW14 : Hid (Below w.heap.size w w14) := HW.out _ HB14.out
    clear h14 HS hu25 hit hiu heq
    by_cases hc0 : cut < 0
    · go_wp2_with fail
      go_ret
      exact ⟨rfl, HW14.out⟩
    by_cases hc1 : 31 < cut
    · go_wp2_with fail
      go_ret
      exact ⟨rfl, HW14.out⟩
    obtain ⟨T, rfl⟩ : ∃ T : Nat, cut = (T : Int) := ⟨cut.toNat, by omega⟩
    have hT32 : T < 32 := by omega
    have hsl := fun W : World => run_sliceAt_arr_h (P := Tryd.prog) Tryd.underlying25 (by kernel_rfl) w3.heap.size T (by omega) (by omega) W
    go_wp2_with fail
    have hrow : Row w14 w14.heap.size (some ⟨w3.heap.size, 0, none⟩) T (bvs (tag.take T)) := by
      have h := (blk_row (HBT.out _ HB14.out) HTL.out).take (k := T) (by omega)
      rwa [bvs_take] at h
    have hq := HCK.out w14 HW14.out (some ⟨w3.heap.size, 0, none⟩) T 32 (tag.take T) hrow (by omega) HM32.out
    rw [decide_eq_false (by intro e; have := congrArg List.length e; rw [List.length_take, HTL.out] at this; omega)] at hq
    with_reducible refine hq.mono ?_
    rintro e w15 ⟨rfl, hb15⟩
    have HW15 : Hid (Below w.heap.size w w15) := HW14.out.trans (hb15.mono HW14.out.size)
    clear hq hrow hb15
    go_wp2_with fail
    go_ret
    exact ⟨rfl, HW15.out⟩
end Go.Proofs.YtllbdeniigakkaaDoor.Sha
