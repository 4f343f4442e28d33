/-
  Texts one behind the other: ManRefEq.
-/
import Derived.Test.YtcmlchicpmnhdaaGreatDoorG10
import Derived.Test.YtcmlchicpmnhdaaGreatDoorG13
/-
  Proved: what EqTenants of the reference says: whether these are the same tenants.
-/
namespace Go.Proofs.YtcmlchicpmnhdaaGreatDoor.Man
open Go.RowKit Go.Proofs.YtcmlchicpmnhdaaGreatDoor.Rec Go.Proofs.YtcmlchicpmnhdaaGreatDoor.Ten
set_option linter.unusedVariables false
set_option linter.unusedSimpArgs false

theorem wp_store_ten {w : World} {o : Oper} {a : Act} {K : Act → World → Prop} {Q : Exit → Act → World → Prop} {g : Nat} {old : Array Value} (h : Blk w g 35 old) (hs : old.size = 6) (y z : Operand) (ho : o.op = .store 35 y z) (hx : a.eval y = .pointer (some ⟨g, 0, none⟩)) (x : Tv) (hy : a.eval z = .agg x.vals) (hd : o.dst = none)
    (k : ∀ w', Hid (TenAt w' g x) → Hid (w.grownBy w' (some g)) → K (a.put none undef) w') : Oper.wp Tryz.prog o a w K Q :=
  wp_store_row 35 y z ho g x.vals hx hy 35 old h ten_size hs x.vals_one (by rw [hd]; exact k _ (setRow_heap w g old x.vals 35 (0, 0) h) (only_setRow w g _))
def eqB (a b : List Te) : Bool := decide (a = b)
theorem eqB_len {a b : List Te} (h : a.length ≠ b.length) : eqB a b = false := decide_eq_false fun e => h (by rw [e])
theorem eqB_at {a b : List Te} {i : Nat} {x y : Te} (ha : a[i]? = some x) (hb : b[i]? = some y) (h : x ≠ y) : eqB a b = false := decide_eq_false fun e => h (by rw [e, hb] at ha; exact (Option.some.inj ha).symm)
theorem eqB_true {a b : List Te} (h : a = b) : eqB a b = true := decide_eq_true h
theorem te_get {l : List Tv} {i : Nat} {x : Tv} (h : l[i]? = some x) : (l.map Tv.te)[i]? = some x.te := by rw [List.getElem?_map, h]; rfl
theorem take_next {a b : List Te} {i : Nat} {x : Te} (ha : a[i]? = some x) (hb : b[i]? = some x) (h : a.take i = b.take i) : a.take (i + 1) = b.take (i + 1) := by
  obtain ⟨h1, h2⟩ := List.getElem?_eq_some_iff.1 ha
  obtain ⟨h3, h4⟩ := List.getElem?_eq_some_iff.1 hb
  rw [List.take_succ_eq_append_getElem h1, List.take_succ_eq_append_getElem h3, h2, h4, h]
theorem segs_next {a b : List Int} {k : Nat} (h : ∀ q, q < k → a.getD q 0 = b.getD q 0) (h2 : a.getD k 0 = b.getD k 0) : ∀ q, q < k + 1 → a.getD q 0 = b.getD q 0 := fun q hq => by
  by_cases e : q = k
  · rw [e]; exact h2
  · exact h q (by omega)
theorem segs_eq {a b : List Int} (hl : a.length = b.length) (h : ∀ q, q < a.length → a.getD q 0 = b.getD q 0) : a = b := by
  refine List.ext_getElem hl fun i h1 h2 => ?_
  have := h i h1
  rwa [List.getD_eq_getElem?_getD, List.getD_eq_getElem?_getD, List.getElem?_eq_getElem h1, List.getElem?_eq_getElem h2] at this
set_option maxRecDepth 100000 in
set_option maxHeartbeats 16000000 in
theorem eqtens_any (A A2 : Option Addr) (n c n2 c2 : Nat) (l l2 : List Tv) (w : World) (hR : Tens w w.heap.size A n l) (hR2 : Tens w w.heap.size A2 n2 l2) (hnc : n ≤ c) (hc : c ≤ maxLen) (hnc2 : n2 ≤ c2) (hc2 : c2 ≤ maxLen) :
    Calls Tryz.prog 16 #[.slice A n c, .slice A2 n2 c2] w fun e w' => e = .returned (.bool (eqB (l.map Tv.te) (l2.map Tv.te))) ∧ Below w.heap.size w w' := by
  have hcm : c ≤ 9223372036854775807 := by unfold maxLen at hc; exact hc
  have hcm2 : c2 ≤ 9223372036854775807 := by unfold maxLen at hc2; exact hc2
  obtain ⟨R, hRR⟩ : ∃ R, R = eqB (l.map Tv.te) (l2.map Tv.te) := ⟨_, rfl⟩
  have HRR := Lib.hid hRR
  rw [← hRR]
  have HL : Hid ((l.map Tv.te).length = n) := Lib.hid (by rw [List.length_map]; exact hR.len)
  have HL2 : Hid ((l2.map Tv.te).length = n2) := Lib.hid (by rw [List.length_map]; exact hR2.len)
  have HR := Lib.hid hR
  have HR2 := Lib.hid hR2
  clear hR hR2 hc hc2 hRR
  by_cases hnn : n = n2
  case neg =>
    have hne : ((n : Int) != (n2 : Int)) = true := bne_iff_ne.2 (by omega)
    have HF : Hid (R = false) := Lib.hid (by rw [HRR.out]; exact eqB_len (by rw [HL.out, HL2.out]; exact hnn))
    clear hnn
    go_enter Tryz.func16, Tryz.ntmps16
    go_wp2_with fail
    go_ret
    exact ⟨by rw [HF.out]; first | done | rfl, Below.refl _ _⟩
  subst hnn
  go_enter Tryz.func16, Tryz.ntmps16
  go_wp2_with fail
  go_loopw [5] (fun iv wr => ∃ (i : Nat), iv = .int .i64 (i : Int) ∧ i ≤ n ∧ Hid (Below w.heap.size w wr) ∧ Hid ((l.map Tv.te).take i = (l2.map Tv.te).take i)) (fun iv _ => n - (RowKit.intOf iv).toNat)
  case atStart => exact ⟨0, rfl, Nat.zero_le _, Below.refl _ _, Lib.hid rfl⟩
  case round =>
    obtain ⟨i, rfl, hi, HBR, HU⟩ := hrel
    by_cases hlt : i < n
    case neg =>
      obtain rfl : i = n := by omega
      have HT : Hid (R = true) := Lib.hid (by
        have h := HU.out
        rw [List.take_of_length_le (by rw [HL.out]; exact Nat.le_refl _), List.take_of_length_le (by rw [HL2.out]; exact Nat.le_refl _)] at h
        rw [HRR.out]
        exact eqB_true h)
      go_wp2_with fail
      go_ret
      exact ⟨by rw [HT.out]; first | done | rfl, HBR.out⟩
    have hlt' : (i : Int) < (n : Int) := by omega
    obtain ⟨b, o, rfl, hb, _⟩ := HR.out.row.2 (by omega)
    obtain ⟨b2, o2, rfl, hb2, _⟩ := HR2.out.row.2 (by omega)
    obtain ⟨x, hx, hmem, _⟩ := HR.out.at hlt
    obtain ⟨y, hy, hmem2, _⟩ := HR2.out.at hlt
    have HI1 : Hid (∀ W, Hid (Below wr.heap.size wr W) → W.rangeAt b (o + i * 6) x.vals.toList) := Lib.hid fun W hW => ten_item (HR.out.row.below (HBR.out.trans (hW.out.mono HBR.out.size))) i x hx
    have HI2 : Hid (∀ W, Hid (Below wr.heap.size wr W) → W.rangeAt b2 (o2 + i * 6) y.vals.toList) := Lib.hid fun W hW => ten_item (HR2.out.row.below (HBR.out.trans (hW.out.mono HBR.out.size))) i y hy
    have HXI := Lib.hid (HR.out.ins x hmem)
    have HYI := Lib.hid (HR2.out.ins y hmem2)
    have HBAD : Hid (x.te ≠ y.te → R = false) := Lib.hid fun h => by rw [HRR.out]; exact eqB_at (te_get hx) (te_get hy) h
    have HGOOD : Hid (x.te = y.te → (l.map Tv.te).take (i + 1) = (l2.map Tv.te).take (i + 1)) := Lib.hid fun h => take_next (te_get hx) (by rw [te_get hy, h]) HU.out
    have HBD : Hid (Below wr.heap.size wr wr.drew) := (Below.refl _ _).drew
    clear hx hy hmem hmem2
    go_upto_region 7 with fail
    go_cut [6, 7] (fun v u wz => ∃ g1 g2, v = .pointer (some ⟨g1, 0, none⟩) ∧ u = .pointer (some ⟨g2, 0, none⟩) ∧ Hid (TenAt wz g1 x) ∧ Hid (TenAt wz g2 y) ∧ Hid (Below wr.heap.size wr wz))
    case first =>
      go_upto_region 6 with fail
      refine wp_region_noPanic ?_
      refine wp_region_held_drew (S := fun W => Hid (Below wr.heap.size wr W)) (by kernel_rfl) HBD (fun h0 => ?_)
      refine held_take 0 (v := ?_) (d := (some 20)) rfl rfl (by kernel_rfl) (by kernel_rfl) (by kernel_rfl) (fun _ _ _ h => h) (Or.inl ⟨by rfl, ?_⟩) h0 ?_
      rotate_left
      · intro _ _; go_simp; (try with_reducible rfl)
      try simp only [Act.put, List.setIfInBounds_toArray, List.set_cons_zero, List.set_cons_succ]
      refine held_take 1 (v := ?_) (d := (some 21)) rfl rfl (by kernel_rfl) (by kernel_rfl) (by kernel_rfl) (fun _ _ _ h => h) (Or.inl ⟨by rfl, ?_⟩) h0 ?_
      rotate_left
      · intro _ _; go_simp; (try with_reducible rfl)
      try simp only [Act.put, List.setIfInBounds_toArray, List.set_cons_zero, List.set_cons_succ]
      refine held_take 2 (v := ?_) (d := (some 22)) rfl rfl (by kernel_rfl) (by kernel_rfl) (by kernel_rfl) (fun _ _ _ h => h) (Or.inl ⟨by rfl, ?_⟩) h0 ?_
      rotate_left
      · intro _ _; go_simp; (try with_reducible rfl)
      try simp only [Act.put, List.setIfInBounds_toArray, List.set_cons_zero, List.set_cons_succ]
      refine held_take 3 (v := .agg x.vals) (d := (some 23)) rfl rfl (by kernel_rfl) (by kernel_rfl) (by kernel_rfl) (fun _ _ _ h => h) (yieldsIf_load_mid (by rfl) 35 (.tmp 22) rfl b (o + i * 6) rfl x.vals.toList _ (fun W h => HI1.out W h) Tryz.underlying35 rfl ten_size) h0 ?_
      try simp only [Act.put, List.setIfInBounds_toArray, List.set_cons_zero, List.set_cons_succ]
      refine held_take 4 (v := ?_) (d := (some 24)) rfl rfl (by kernel_rfl) (by kernel_rfl) (by kernel_rfl) (fun _ _ _ h => h) (Or.inl ⟨by rfl, ?_⟩) h0 ?_
      rotate_left
      · intro _ _; go_simp; (try with_reducible rfl)
      try simp only [Act.put, List.setIfInBounds_toArray, List.set_cons_zero, List.set_cons_succ]
      refine held_take 5 (v := ?_) (d := (some 25)) rfl rfl (by kernel_rfl) (by kernel_rfl) (by kernel_rfl) (fun _ _ _ h => h) (Or.inl ⟨by rfl, ?_⟩) h0 ?_
      rotate_left
      · intro _ _; go_simp; (try with_reducible rfl)
      try simp only [Act.put, List.setIfInBounds_toArray, List.set_cons_zero, List.set_cons_succ]
      refine held_take 6 (v := ?_) (d := (some 26)) rfl rfl (by kernel_rfl) (by kernel_rfl) (by kernel_rfl) (fun _ _ _ h => h) (Or.inl ⟨by rfl, ?_⟩) h0 ?_
      rotate_left
      · intro _ _; go_simp; (try with_reducible rfl)
      try simp only [Act.put, List.setIfInBounds_toArray, List.set_cons_zero, List.set_cons_succ]
      refine held_take 7 (v := .agg y.vals) (d := (some 27)) rfl rfl (by kernel_rfl) (by kernel_rfl) (by kernel_rfl) (fun _ _ _ h => h) (yieldsIf_load_mid (by rfl) 35 (.tmp 26) rfl b2 (o2 + i * 6) rfl y.vals.toList _ (fun W h => HI2.out W h) Tryz.underlying35 rfl ten_size) h0 ?_
      try simp only [Act.put, List.setIfInBounds_toArray, List.set_cons_zero, List.set_cons_succ]
      obtain ⟨wd, hwd⟩ : ∃ wd, wd = wr.drew := ⟨_, rfl⟩
      rw [← hwd] at HBD ⊢
      clear hwd h0
      refine wpAnyH_ready (rs := [8, 9]) (by kernel_rfl) (by simp) (AllReadyH.cons rfl (fun K hK => ?_) (AllReadyH.cons rfl (fun K hK => ?_) AllReadyH.nil))
      · go_simp
        obtain ⟨w1, hw1⟩ : ∃ w', w' = wd.alloc (.cells #[.int .u32 0, .int .u64 0, .int .i64 0, .int .u64 0, .int .i64 0, .slice none 0 0] 35) := ⟨_, rfl⟩
        obtain ⟨g1, hg1⟩ : ∃ g, g = wd.heap.size := ⟨_, rfl⟩
        have hz1 : TenAt w1 g1 zeroTv := by rw [hw1, hg1]; exact ten_zero wd
        have Z1 := Lib.hid hz1
        have hb1 : Below wd.heap.size wd w1 := by rw [hw1]; exact below_alloc wd _
        have S1 := Lib.hid (HBD.out.trans (hb1.mono HBD.out.size))
        have G1 : Hid (wr.heap.size ≤ g1) := Lib.hid (by rw [hg1]; exact HBD.out.size)
        rw [← hw1, ← hg1]
        clear hw1 hg1 hz1 hb1
        refine hK.out _ _ S1 (fun h1 => ?_)
        clear hK K
        try simp only [Act.put, List.setIfInBounds_toArray, List.set_cons_zero, List.set_cons_succ]
        refine wpAnyH_ready (rs := [9]) (by kernel_rfl) (by simp) (AllReadyH.cons rfl (fun K hK => ?_) AllReadyH.nil)
        go_simp
        obtain ⟨w2, hw2⟩ : ∃ w', w' = w1.alloc (.cells #[.int .u32 0, .int .u64 0, .int .i64 0, .int .u64 0, .int .i64 0, .slice none 0 0] 35) := ⟨_, rfl⟩
        obtain ⟨g2, hg2⟩ : ∃ g, g = w1.heap.size := ⟨_, rfl⟩
        have hz2 : TenAt w2 g2 zeroTv := by rw [hw2, hg2]; exact ten_zero w1
        have Z2 := Lib.hid hz2
        have hb2 : Below w1.heap.size w1 w2 := by rw [hw2]; exact below_alloc w1 _
        have S2 := Lib.hid (S1.out.trans (hb2.mono S1.out.size))
        have G2 : Hid (wr.heap.size ≤ g2) := Lib.hid (by rw [hg2]; exact S1.out.size)
        have N2 : Hid (¬ g2 = g1) := Lib.hid (by rw [hg2]; have := Z1.out.lt; omega)
        have Y2 := Lib.hid (blk_below Z1.out hb2 Z1.out.lt)
        rw [← hw2, ← hg2]
        clear hw2 hg2 hz2 hb2
        refine hK.out _ _ S2 (fun h2 => ?_)
        clear hK K
        try simp only [Act.put, List.setIfInBounds_toArray, List.set_cons_zero, List.set_cons_succ]
        refine wpAnyH_ready (rs := [10]) (by kernel_rfl) (by simp) (AllReadyH.cons rfl (fun K hK => ?_) AllReadyH.nil)
        refine wp_store_ten Y2.out rfl (.tmp 6) (.tmp 23) rfl rfl x rfl rfl ?_
        intro w3 X3 E3
        have S3 := Lib.hid (below_only S2.out E3.out G1.out S2.out.size)
        have Y3 := Lib.hid (blk_kept Z2.out E3.out (by have := N2.out; simp; omega))
        refine hK.out _ _ S3 (fun h3 => ?_)
        clear hK K
        try simp only [Act.put, List.setIfInBounds_toArray, List.set_cons_zero, List.set_cons_succ]
        refine wpAnyH_ready (rs := [11]) (by kernel_rfl) (by simp) (AllReadyH.cons rfl (fun K hK => ?_) AllReadyH.nil)
        refine wp_store_ten Y3.out rfl (.tmp 7) (.tmp 27) rfl rfl y rfl rfl ?_
        intro w4 X4 E4
        have S4 := Lib.hid (below_only S3.out E4.out G2.out S3.out.size)
        have Y4 := Lib.hid (blk_kept X3.out E4.out (by have := N2.out; simp; omega))
        refine hK.out _ _ S4 (fun h4 => ?_)
        clear hK K
        try simp only [Act.put, List.setIfInBounds_toArray, List.set_cons_zero, List.set_cons_succ]
        refine wpAnyH_done (by kernel_rfl) ?_ _
        refine NoPanic.normal ?_
        go_wp2_with fail
        go_meet
        case rel => exact ⟨g1, g2, rfl, rfl, Y4, X4, S4⟩
      · go_simp
        obtain ⟨w5, hw5⟩ : ∃ w', w' = wd.alloc (.cells #[.int .u32 0, .int .u64 0, .int .i64 0, .int .u64 0, .int .i64 0, .slice none 0 0] 35) := ⟨_, rfl⟩
        obtain ⟨g5, hg5⟩ : ∃ g, g = wd.heap.size := ⟨_, rfl⟩
        have hz5 : TenAt w5 g5 zeroTv := by rw [hw5, hg5]; exact ten_zero wd
        have Z5 := Lib.hid hz5
        have hb5 : Below wd.heap.size wd w5 := by rw [hw5]; exact below_alloc wd _
        have S5 := Lib.hid (HBD.out.trans (hb5.mono HBD.out.size))
        have G5 : Hid (wr.heap.size ≤ g5) := Lib.hid (by rw [hg5]; exact HBD.out.size)
        rw [← hw5, ← hg5]
        clear hw5 hg5 hz5 hb5
        refine hK.out _ _ S5 (fun h5 => ?_)
        clear hK K
        try simp only [Act.put, List.setIfInBounds_toArray, List.set_cons_zero, List.set_cons_succ]
        refine wpAnyH_ready (rs := [8]) (by kernel_rfl) (by simp) (AllReadyH.cons rfl (fun K hK => ?_) AllReadyH.nil)
        go_simp
        obtain ⟨w6, hw6⟩ : ∃ w', w' = w5.alloc (.cells #[.int .u32 0, .int .u64 0, .int .i64 0, .int .u64 0, .int .i64 0, .slice none 0 0] 35) := ⟨_, rfl⟩
        obtain ⟨g6, hg6⟩ : ∃ g, g = w5.heap.size := ⟨_, rfl⟩
        have hz6 : TenAt w6 g6 zeroTv := by rw [hw6, hg6]; exact ten_zero w5
        have Z6 := Lib.hid hz6
        have hb6 : Below w5.heap.size w5 w6 := by rw [hw6]; exact below_alloc w5 _
        have S6 := Lib.hid (S5.out.trans (hb6.mono S5.out.size))
        have G6 : Hid (wr.heap.size ≤ g6) := Lib.hid (by rw [hg6]; exact S5.out.size)
        have N6 : Hid (¬ g6 = g5) := Lib.hid (by rw [hg6]; have := Z5.out.lt; omega)
        have Y6 := Lib.hid (blk_below Z5.out hb6 Z5.out.lt)
        rw [← hw6, ← hg6]
        clear hw6 hg6 hz6 hb6
        refine hK.out _ _ S6 (fun h6 => ?_)
        clear hK K
        try simp only [Act.put, List.setIfInBounds_toArray, List.set_cons_zero, List.set_cons_succ]
        refine wpAnyH_ready (rs := [10]) (by kernel_rfl) (by simp) (AllReadyH.cons rfl (fun K hK => ?_) AllReadyH.nil)
        refine wp_store_ten Z6.out rfl (.tmp 6) (.tmp 23) rfl rfl x rfl rfl ?_
        intro w7 X7 E7
        have S7 := Lib.hid (below_only S6.out E7.out G6.out S6.out.size)
        have Y7 := Lib.hid (blk_kept Y6.out E7.out (by have := N6.out; simp; omega))
        refine hK.out _ _ S7 (fun h7 => ?_)
        clear hK K
        try simp only [Act.put, List.setIfInBounds_toArray, List.set_cons_zero, List.set_cons_succ]
        refine wpAnyH_ready (rs := [11]) (by kernel_rfl) (by simp) (AllReadyH.cons rfl (fun K hK => ?_) AllReadyH.nil)
        refine wp_store_ten Y7.out rfl (.tmp 7) (.tmp 27) rfl rfl y rfl rfl ?_
        intro w8 X8 E8
        have S8 := Lib.hid (below_only S7.out E8.out G5.out S7.out.size)
        have Y8 := Lib.hid (blk_kept X7.out E8.out (by have := N6.out; simp; omega))
        refine hK.out _ _ S8 (fun h8 => ?_)
        clear hK K
        try simp only [Act.put, List.setIfInBounds_toArray, List.set_cons_zero, List.set_cons_succ]
        refine wpAnyH_done (by kernel_rfl) ?_ _
        refine NoPanic.normal ?_
        go_wp2_with fail
        go_meet
        case rel => exact ⟨g6, g5, rfl, rfl, Y8, X8, S8⟩
    case rest =>
    obtain ⟨g1, g2, rfl, rfl, X, Y, HQ⟩ := hcut
    obtain ⟨w3, hw3⟩ : ∃ w3, w3 = wc := ⟨_, rfl⟩
    rw [← hw3] at X Y HQ ⊢
    clear hw3
    have HB3 := Lib.hid (HBR.out.trans (HQ.out.mono HBR.out.size))
    have hw3 : w.heap.size ≤ w3.heap.size := HB3.out.size
    obtain ⟨y0, y1, y2, y3, y4, y5⟩ := X.out.cells
    obtain ⟨z0, z1, z2, z3, z4, z5⟩ := Y.out.cells
    obtain ⟨id, hid⟩ : ∃ z, z = x.te.id := ⟨_, rfl⟩
    obtain ⟨ep, hep⟩ : ∃ z, z = x.te.epoch := ⟨_, rfl⟩
    obtain ⟨nx, hnx⟩ : ∃ z, z = x.te.next := ⟨_, rfl⟩
    obtain ⟨qu, hqu⟩ : ∃ z, z = x.te.quota := ⟨_, rfl⟩
    obtain ⟨ns, hns⟩ : ∃ z, z = x.te.nextSeg := ⟨_, rfl⟩
    obtain ⟨m, hm⟩ : ∃ z, z = x.te.segs.length := ⟨_, rfl⟩
    obtain ⟨id2, hid2⟩ : ∃ z, z = y.te.id := ⟨_, rfl⟩
    obtain ⟨ep2, hep2⟩ : ∃ z, z = y.te.epoch := ⟨_, rfl⟩
    obtain ⟨nx2, hnx2⟩ : ∃ z, z = y.te.next := ⟨_, rfl⟩
    obtain ⟨qu2, hqu2⟩ : ∃ z, z = y.te.quota := ⟨_, rfl⟩
    obtain ⟨ns2, hns2⟩ : ∃ z, z = y.te.nextSeg := ⟨_, rfl⟩
    obtain ⟨m2, hm2⟩ : ∃ z, z = y.te.segs.length := ⟨_, rfl⟩
    rw [← hid] at y0
    rw [← hep] at y1
    rw [← hqu] at y2
    rw [← hnx] at y3
    rw [← hns] at y4
    rw [← hm] at y5
    rw [← hid2] at z0
    rw [← hep2] at z1
    rw [← hqu2] at z2
    rw [← hnx2] at z3
    rw [← hns2] at z4
    rw [← hm2] at z5
    have HEQ : Hid (x.te = y.te ↔ (id = id2 ∧ ep = ep2 ∧ nx = nx2 ∧ qu = qu2 ∧ ns = ns2 ∧ x.te.segs = y.te.segs)) := Lib.hid (by
      rw [hid, hep, hnx, hqu, hns, hid2, hep2, hnx2, hqu2, hns2]
      constructor
      · intro h; rw [h]; exact ⟨rfl, rfl, rfl, rfl, rfl, rfl⟩
      · rintro ⟨a1, a2, a3, a4, a5, a6⟩
        cases hx : x.te
        cases hy : y.te
        rw [hx, hy] at a1 a2 a3 a4 a5 a6
        simp only at a1 a2 a3 a4 a5 a6
        rw [a1, a2, a3, a4, a5, a6])
    have HMM := Lib.hid hm
    have HMM2 := Lib.hid hm2
    clear hid hep hnx hqu hns hm hid2 hep2 hnx2 hqu2 hns2 hm2
    by_cases e0 : id = id2
    case neg =>
      have f0 : ((id : Int) != (id2 : Int)) = true := bne_iff_ne.2 (by omega)
      have HF : Hid (R = false) := Lib.hid (HBAD.out (fun h => e0 (HEQ.out.1 h).1))
      clear e0
      go_wp2_with fail
      go_ret
      exact ⟨by rw [HF.out]; first | done | rfl, HB3.out⟩
    have f0 : ((id : Int) != (id2 : Int)) = false := by rw [e0]; simp
    have E0 := Lib.hid e0
    clear e0
    by_cases e1 : ep = ep2
    case neg =>
      have f1 : ((ep : Int) != (ep2 : Int)) = true := bne_iff_ne.2 (by omega)
      have HF : Hid (R = false) := Lib.hid (HBAD.out (fun h => e1 (HEQ.out.1 h).2.1))
      clear e1
      go_wp2_with fail
      go_ret
      exact ⟨by rw [HF.out]; first | done | rfl, HB3.out⟩
    have f1 : ((ep : Int) != (ep2 : Int)) = false := by rw [e1]; simp
    have E1 := Lib.hid e1
    clear e1
    by_cases e2 : nx = nx2
    case neg =>
      have f2 : ((nx : Int) != (nx2 : Int)) = true := bne_iff_ne.2 (by omega)
      have HF : Hid (R = false) := Lib.hid (HBAD.out (fun h => e2 (HEQ.out.1 h).2.2.1))
      clear e2
      go_wp2_with fail
      go_ret
      exact ⟨by rw [HF.out]; first | done | rfl, HB3.out⟩
    have f2 : ((nx : Int) != (nx2 : Int)) = false := by rw [e2]; simp
    have E2 := Lib.hid e2
    clear e2
    by_cases e3 : qu = qu2
    case neg =>
      have f3 : (qu != qu2) = true := bne_iff_ne.2 (by omega)
      have HF : Hid (R = false) := Lib.hid (HBAD.out (fun h => e3 (HEQ.out.1 h).2.2.2.1))
      clear e3
      go_wp2_with fail
      go_ret
      exact ⟨by rw [HF.out]; first | done | rfl, HB3.out⟩
    have f3 : (qu != qu2) = false := by rw [e3]; simp
    have E3 := Lib.hid e3
    clear e3
    by_cases e4 : ns = ns2
    case neg =>
      have f4 : (ns != ns2) = true := bne_iff_ne.2 (by omega)
      have HF : Hid (R = false) := Lib.hid (HBAD.out (fun h => e4 (HEQ.out.1 h).2.2.2.2.1))
      clear e4
      go_wp2_with fail
      go_ret
      exact ⟨by rw [HF.out]; first | done | rfl, HB3.out⟩
    have f4 : (ns != ns2) = false := by rw [e4]; simp
    have E4 := Lib.hid e4
    clear e4
    by_cases e5 : m = m2
    case neg =>
      have f5 : ((m : Int) != (m2 : Int)) = true := bne_iff_ne.2 (by omega)
      have HF : Hid (R = false) := Lib.hid (HBAD.out (fun h => e5 (by have := (HEQ.out.1 h).2.2.2.2.2; rw [HMM.out, HMM2.out, this])))
      clear e5
      go_wp2_with fail
      go_ret
      exact ⟨by rw [HF.out]; first | done | rfl, HB3.out⟩
    have f5 : ((m : Int) != (m2 : Int)) = false := by rw [e5]; simp
    have E5 := Lib.hid e5
    clear e5
    have HSX : Hid (∀ W, Hid (Below w3.heap.size w3 W) → 0 < m → ∃ b o, x.A = some ⟨b, o, none⟩ ∧ ∀ k, k < m → W.cell? ⟨b, o + k, none⟩ = some (.int .i64 (x.te.segs.getD k 0))) := Lib.hid fun W hW h0 => by
      obtain ⟨b, o, e, _, hc⟩ := ((HXI.out.below (HB3.out.trans (hW.out.mono hw3))).row).int (by rw [← HMM.out]; exact h0)
      exact ⟨b, o, e, fun k hk => hc k (by rw [← HMM.out]; exact hk)⟩
    have HSY : Hid (∀ W, Hid (Below w3.heap.size w3 W) → 0 < m2 → ∃ b o, y.A = some ⟨b, o, none⟩ ∧ ∀ k, k < m2 → W.cell? ⟨b, o + k, none⟩ = some (.int .i64 (y.te.segs.getD k 0))) := Lib.hid fun W hW h0 => by
      obtain ⟨b, o, e, _, hc⟩ := ((HYI.out.below (HB3.out.trans (hW.out.mono hw3))).row).int (by rw [← HMM2.out]; exact h0)
      exact ⟨b, o, e, fun k hk => hc k (by rw [← HMM2.out]; exact hk)⟩
    have hxc : x.c ≤ 9223372036854775807 := by have := HXI.out.most; unfold maxLen at this; exact this
    have hmx : m ≤ x.c := by rw [HMM.out]; exact HXI.out.cap
    have hyc : y.c ≤ 9223372036854775807 := by have := HYI.out.most; unfold maxLen at this; exact this
    have hmy : m2 ≤ y.c := by rw [HMM2.out]; exact HYI.out.cap
    have Z5 : Hid (∀ W, Hid (Below w3.heap.size w3 W) → W.cell? ⟨g1, 5, none⟩ = some (.slice x.A m x.c) ∧ W.cell? ⟨g2, 5, none⟩ = some (.slice y.A m2 y.c)) := Lib.hid fun W hW => by
      have h1 := (X.out.below hW.out X.out.lt).cells.2.2.2.2.2
      have h2 := (Y.out.below hW.out Y.out.lt).cells.2.2.2.2.2
      rw [← HMM.out] at h1
      rw [← HMM2.out] at h2
      exact ⟨h1, h2⟩
    go_wp2_with fail
    clear y0 y1 y2 y3 y4 y5 z0 z1 z2 z3 z4 z5 f0 f1 f2 f3 f4 f5
    go_loopw [8] (fun kv wk => ∃ (k : Nat), kv = .int .i64 (k : Int) ∧ k ≤ m ∧ Hid (Below w3.heap.size w3 wk) ∧ Hid (∀ q, q < k → x.te.segs.getD q 0 = y.te.segs.getD q 0)) (fun kv _ => m - (RowKit.intOf kv).toNat)
    case atStart => exact ⟨0, rfl, Nat.zero_le _, Below.refl _ _, Lib.hid fun q hq => absurd hq (by omega)⟩
    case round =>
      obtain ⟨k, rfl, hk, HBK, HSE⟩ := hrel
      obtain ⟨u1, u2⟩ := Z5.out _ HBK
      have HBN := Lib.hid (HB3.out.trans (HBK.out.mono hw3))
      have HSZ := Lib.hid (HBN.out.size)
      by_cases hkm : k < m
      case neg =>
        obtain rfl : k = m := by omega
        have HU2 := Lib.hid (HGOOD.out (HEQ.out.2 ⟨E0.out, E1.out, E2.out, E3.out, E4.out, segs_eq (by rw [← HMM.out, ← HMM2.out]; exact E5.out) (by rw [← HMM.out]; exact HSE.out)⟩))
        go_wp2_with fail
        go_roundw
        case rel => exact ⟨i + 1, by go_num, by omega, HBN, HU2⟩
        case measure => (simp [RowKit.intOf]; omega)
      have hkm' : (k : Int) < (m : Int) := by omega
      have hkm2 : k < m2 := by have := E5.out; omega
      have hkm2' : (k : Int) < (m2 : Int) := by omega
      obtain ⟨bs, os, hA, hcs⟩ := HSX.out _ HBK (by omega)
      obtain ⟨bt, ot, hB, hct⟩ := HSY.out _ HBK (by omega)
      have hck := hcs k hkm
      have hct' := hct k hkm2
      rw [hA] at u1
      rw [hB] at u2
      obtain ⟨s, hs⟩ : ∃ s, s = x.te.segs.getD k 0 := ⟨_, rfl⟩
      obtain ⟨t, ht⟩ : ∃ t, t = y.te.segs.getD k 0 := ⟨_, rfl⟩
      rw [← hs] at hck
      rw [← ht] at hct'
      have HS := Lib.hid hs
      have HT := Lib.hid ht
      clear hcs hct hs ht
      by_cases hst : s = t
      · have fst : (s != t) = false := by rw [hst]; simp
        have HS2 : Hid (∀ q, q < k + 1 → x.te.segs.getD q 0 = y.te.segs.getD q 0) := Lib.hid (segs_next HSE.out (by rw [← HS.out, ← HT.out]; exact hst))
        clear hst
        go_wp2_with fail
        go_quiet (fail)
        go_wp2_with fail
        go_roundw
        case rel => exact ⟨k + 1, by go_num, by omega, Lib.hid (HBK.out.trans (below_drewN (Below.refl _ _) _ |>.mono HBK.out.size)), HS2⟩
        case measure => (simp [RowKit.intOf]; omega)
      · have fst : (s != t) = true := bne_iff_ne.2 hst
        have HF : Hid (R = false) := Lib.hid (HBAD.out fun h => hst (by rw [HS.out, HT.out, h]))
        clear hst
        go_wp2_with fail
        go_quiet (fail)
        go_wp2_with fail
        go_ret
        exact ⟨by rw [HF.out]; first | done | rfl, HBN.out.trans (below_drewN (Below.refl _ _) _ |>.mono HSZ.out)⟩
end Go.Proofs.YtcmlchicpmnhdaaGreatDoor.Man
