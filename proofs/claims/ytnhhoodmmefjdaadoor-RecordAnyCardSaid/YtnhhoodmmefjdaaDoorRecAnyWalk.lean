/-
  Proved: RecordAny returns true, whatever it is handed.
  Conditions: the table crc.turned holds its sixteen words; the numbers are those of values.
-/
import Derived.Test.YtnhhoodmmefjdaaDoorRecTells
import Derived.Test.YtnhhoodmmefjdaaDoorRecSpoiltWalk
import Derived.Test.YtnhhoodmmefjdaaDoorShort
namespace Go.Proofs.YtnhhoodmmefjdaaDoor.Rec
open Go.RowKit
open Go.Proofs.YtnhhoodmmefjdaaDoor.Crc (Turned)
set_option linter.unusedVariables false
set_option linter.unusedSimpArgs false

theorem own_take {w : World} {base n c k : Nat} {A : Option Addr} {bs : List UInt8} (h : w.ownsRow base 5 1 (.slice A n c) n (bvs bs)) (hk : k ≤ n) : w.ownsRow base 5 1 (.slice A k c) k (bvs (bs.take k)) := by
  have hl : bs.length = n := by have := h.1; rw [bvs_length] at this; omega
  refine ⟨by rw [bvs_length, List.length_take]; omega, ?_⟩
  rcases h.2 with ⟨h0, hn⟩ | ⟨g, cap, cur, hv, hb, hg, hnc, hm, hs, hx⟩
  · injection h0 with h1 h2 h3
    subst h1 h3
    exact .inl ⟨by rw [show k = 0 by omega], by omega⟩
  · injection hv with h1 h2 h3
    subst h1 h3
    refine .inr ⟨g, c, cur, rfl, hb, hg, by omega, hm, hs, ?_⟩
    rw [← bvs_take, ← hx, List.take_take]
    congr 1
    omega
set_option maxRecDepth 100000 in
set_option maxHeartbeats 8000000 in
theorem recordAny_walk (x : Rc) (k : Int) (p : Int) (z : Int) (A1 : Option Addr) (n1 c1 : Nat) (rs : List UInt8) (A2 : Option Addr) (n2 c2 : Nat) (raw : List UInt8) (w : World) (hT : Turned w) (hx : x.Ok) (hk : -9223372036854775808 ≤ k ∧ k ≤ 9223372036854775807) (hp : -9223372036854775808 ≤ p ∧ p ≤ 9223372036854775807) (hzw : (Lit.int .u8 z).wf = true)
    (hR1 : Row w w.heap.size A1 n1 (bvs rs)) (hn1 : n1 ≤ c1) (hc1 : c1 ≤ maxLen) (hR2 : Row w w.heap.size A2 n2 (bvs raw)) (hn2 : n2 ≤ c2) (hc2 : c2 ≤ maxLen) :
    Calls Tryd.prog 4 #[.agg x.vals, .int .i64 k, .int .i64 p, .int .u8 z, .slice A1 n1 c1, .slice A2 n2 c2] w fun e w' => e = .returned (.bool true) ∧ Below w.heap.size w w' := by
  obtain ⟨hk1, hk2⟩ := hk
  obtain ⟨hp1, hp2⟩ := hp
  obtain ⟨Z, rfl⟩ : ∃ Z : UInt8, z = (Z.toNat : Int) := ⟨UInt8.ofNat z.toNat, by
    have := bounds_u8 hzw
    rw [UInt8.toNat_ofNat']
    omega⟩
  have hZ := Z.toNat_lt
  clear hzw
  obtain ⟨w0, hw0⟩ : ∃ w0, w0 = w.alloc (.cells x.vals 25) := ⟨_, rfl⟩
  have X0 : Hid (RecAt w0 w.heap.size x) := by rw [hw0]; exact RecAt.new w x
  have hB0 : Below w.heap.size w w0 := by rw [hw0]; exact below_alloc w _
  have HBEG := Lib.hid (begun_any w0 (turned_below hT hB0 rfl))
  have HB0 := Lib.hid hB0
  have HT := Lib.hid hT
  have HX := Lib.hid hx
  have h0lt : w.heap.size < w0.heap.size := X0.out.lt
  have CS1 : Hid (∀ W, Calls Tryd.prog 16 #[.slice A1 n1 c1, .int .i64 20] W fun e w' => e = .returned (.slice A1 (min n1 20) c1) ∧ W = w') := fun W => Com.short_any A1 n1 c1 20 W hn1 hc1
  have CS2 : Hid (∀ W, Calls Tryd.prog 16 #[.slice A2 n2 c2, .int .i64 100] W fun e w' => e = .returned (.slice A2 (min n2 100) c2) ∧ W = w') := fun W => Com.short_any A2 n2 c2 100 W hn2 hc2
  have HR1 := Lib.hid hR1
  have HR2 := Lib.hid hR2
  have HN1 := Lib.hid hn1
  have HN2 := Lib.hid hn2
  have HC1 := Lib.hid hc1
  have HC2 := Lib.hid hc2
  clear hB0 hT hx hR1 hR2 hn1 hn2 hc1 hc2
  obtain ⟨m1, hm1⟩ : ∃ m, m = min n1 20 := ⟨_, rfl⟩
  obtain ⟨m2, hm2⟩ : ∃ m, m = min n2 100 := ⟨_, rfl⟩
  rw [← hm1] at CS1
  rw [← hm2] at CS2
  have HM1 := Lib.hid hm1
  have HM2 := Lib.hid hm2
  have hm1' : m1 ≤ 20 := by omega
  have hm2' : m2 ≤ 100 := by omega
  clear hm1 hm2
  obtain ⟨y, hy⟩ : ∃ y, y = x.cut 100 := ⟨_, rfl⟩
  have hyo : y.Ok := by rw [hy]; exact HX.out.cut 100 (by decide)
  have hyl : y.body.length ≤ 100 := by rw [hy]; exact cut_small x 100
  have HYO := Lib.hid hyo
  have HYY := Lib.hid hy
  have hel : (enc y).length ≤ 139 := by
    unfold enc
    split
    · rw [y.bytes_length]; omega
    · exact Nat.zero_le _
  obtain ⟨n, hn⟩ : ∃ n, n = (enc y).length := ⟨_, rfl⟩
  rw [← hn] at hel
  clear hyo hy
  have CC : Hid (∀ w, Calls Tryd.prog 9 #[.agg x.vals, .int .i64 100] w fun e w' => e = .returned (.agg y.vals) ∧ Below w.heap.size w w') := fun w => by
    rw [HYY.out]
    exact cut_any x 100 w HX.out.body (by decide)
  have CE : Hid (∀ W, Calls Tryd.prog 11 #[.agg y.vals] W fun e w' => ∃ u, e = .returned u ∧ w'.ownsRow W.heap.size 5 1 u n (bvs (enc y)) ∧ Below W.heap.size W w') := fun W => by
    have := refencode_any y W HYO.out.fits HYO.out.body
    rwa [← hn] at this
  clear hn
  go_enter Tryd.func4, Tryd.ntmps4
  go_upto_region 1 with fail
  rw [← hw0]
  clear hw0
  go_upto_region 5 with (first
    | (go_at_call 8; refine HBEG.out.mono ?_; rintro e w1 ⟨rfl, hb1⟩; have X1 := Lib.hid (X0.out.below hb1 h0lt); have HB1 := Lib.hid (HB0.out.trans (hb1.mono (Nat.le_of_lt h0lt))); clear hb1)
    | (go_at_call 16; with_reducible refine (CS2.out _).mono ?_; rintro e w' ⟨rfl, rfl⟩)
    | (go_at_call 16; with_reducible refine (CS1.out _).mono ?_; rintro e w' ⟨rfl, rfl⟩))
  have hRa : Row w1 w1.heap.size A2 m2 (bvs (raw.take 100)) := by
    rw [HM2.out]
    exact (Com.short_row HB1.out HR2.out).more HB1.out.size
  have CT := Lib.hid (tells_any A2 m2 c2 _ w1 (turned_below HT.out HB1.out rfl) hRa (by have := HN2.out; have := HM2.out; omega) HC2.out)
  clear hRa HBEG X0 HB0 CS1 CS2
  go_upto_region 8 with (first
    | (go_at_call 17; refine CT.out.mono ?_; rintro e w2 ⟨rfl, hb2⟩; have X2 := Lib.hid (X1.out.below hb2 X1.out.lt); have HB2 := Lib.hid (HB1.out.trans (hb2.mono HB1.out.size)); clear hb2)
    | (refine load_rec X2.out rfl (.tmp 6) rfl rfl ?_)
    | (go_at_call 9; refine (CC.out _).mono ?_; rintro e w3 ⟨rfl, hb3⟩; have HB3 := Lib.hid (HB2.out.trans (hb3.mono HB2.out.size)); clear hb3)
    | (go_at_call 11; refine (CE.out _).mono ?_; rintro e w4 ⟨u, rfl, ho4, hb4⟩; have HO4 := Lib.hid (ho4.mono HB3.out.size); have HB4 := Lib.hid (HB3.out.trans (hb4.mono HB3.out.size)); clear ho4 hb4)
    | (at_builtin; refine wpList_append_reads rfl (.tmp 27) (.tmp 28) 28 rfl w.heap.size 5 (.int .u8 0) 1 Tryd.underlying28 u8_info rfl u n (bvs (enc y)) rfl HO4.out w.heap.size A1 m1 c1 (bvs (rs.take 20)) rfl (by rw [HM1.out]; exact Com.short_row HB4.out HR1.out) (bvs_one _) (by unfold maxLen; omega) (by omega) HB4.out.size ?_; intro v5 w5 ho5 hg5))
  obtain ⟨N, hN⟩ : ∃ N, N = n + m1 := ⟨_, rfl⟩
  have hN9 : N ≤ 159 := by omega
  rw [bvs_append, ← hN] at ho5
  obtain ⟨A, c, rfl, _, _⟩ := own_form ho5
  have HO5 := Lib.hid ho5
  have HB5 : Hid (Below w.heap.size w w5) := own_below HO4.out HB4.out (Nat.le_refl _) HB4.out.size hg5
  clear ho5 hg5 HO4 HB4 HB3 HB2 X2 HB1 X1 CC CE CT HR1 HR2 hN
  go_cut [37] (fun v w' => v = .bool (decide (0 < k ∧ k ≤ (N : Int))) ∧ w' = w5)
  case first =>
    by_cases h1 : 0 < k
    · by_cases h2 : k ≤ (N : Int)
      · go_wp2_with fail
        go_meet
        case rel => exact ⟨by simp [h1, h2], rfl⟩
      · go_wp2_with fail
        go_meet
        case rel => exact ⟨by simp [h1, h2], rfl⟩
    · go_wp2_with fail
      go_meet
      case rel => exact ⟨by simp; omega, rfl⟩
  case rest =>
  obtain ⟨rfl, rfl⟩ := hcut
  go_upto_if 37 with fail
  go_cut [14] (fun v w' => (∃ (A' : Option Addr) (n' c' : Nat) (L' : List UInt8), v = .slice A' n' c' ∧ n' ≤ 159 ∧ n' ≤ c' ∧ c' ≤ maxLen ∧ Hid (w'.ownsRow w.heap.size 5 1 (.slice A' n' c') n' (bvs L'))) ∧ w' = wc)
  case first =>
    by_cases h : 0 < k ∧ k ≤ (N : Int)
    · obtain ⟨h1, h2⟩ := h
      obtain ⟨K, rfl⟩ : ∃ K : Nat, k = K := ⟨k.toNat, by omega⟩
      obtain ⟨M, hM⟩ : ∃ M, N = M + K := ⟨N - K, by omega⟩
      obtain ⟨g, cap, cur, hv, _, _, hnc, hcm, _, _⟩ := own_block HO5.out (by omega)
      injection hv with e1 e2 e3
      subst e1 e3
      have HOM : Hid (wc.ownsRow w.heap.size 5 1 (.slice (some ⟨g, 0, none⟩) M c) M (bvs ((enc y ++ rs.take 20).take M))) := own_take HO5.out (by omega)
      have hMi : (N : Int) - (K : Int) = (M : Int) := by omega
      have hMc : (M : Int) ≤ (c : Int) := by omega
      have hM9 : M ≤ 159 := by omega
      have HMC : Hid (M ≤ c ∧ c ≤ maxLen) := ⟨by omega, hcm⟩
      clear hM hnc hcm
      go_wp2_with fail
      go_meet
      case rel => exact ⟨⟨_, M, c, _, rfl, hM9, HMC.out.1, HMC.out.2, HOM⟩, rfl⟩
    · obtain ⟨_, _, hv, hnc, hcm⟩ := own_form HO5.out
      injection hv with e1 e2 e3
      subst e1 e3
      have HMC : Hid (N ≤ c ∧ c ≤ maxLen) := ⟨hnc, hcm⟩
      have hfl : decide (0 < k ∧ k ≤ (N : Int)) = false := decide_eq_false h
      clear hnc hcm
      go_wp2_with fail
      go_meet
      case rel => exact ⟨⟨_, N, c, _, rfl, hN9, HMC.out.1, HMC.out.2, HO5⟩, rfl⟩
  case rest =>
  obtain ⟨⟨A, n', c, L', rfl, hn9, hnc, hcm, HO6⟩, rfl⟩ := hcut
  have HNC := Lib.hid hnc
  have HCM := Lib.hid hcm
  clear HO5 hnc hcm
  go_upto_region 10 with fail
  go_cut [50] (fun v w' => v = .bool (decide (0 < n' ∧ 0 ≤ p)) ∧ w' = wc)
  case first =>
    by_cases h1 : 0 < n'
    · have h1' : (0 : Int) < (n' : Int) := by omega
      by_cases h2 : 0 ≤ p
      · go_wp2_with fail
        go_meet
        case rel => exact ⟨by simp [h1, h2], rfl⟩
      · go_wp2_with fail
        go_meet
        case rel => exact ⟨by simp [h1, h2], rfl⟩
    · have h1' : ¬ (0 : Int) < (n' : Int) := by omega
      go_wp2_with fail
      go_meet
      case rel => exact ⟨by simp [h1], rfl⟩
  case rest =>
  obtain ⟨rfl, rfl⟩ := hcut
  go_upto_if 50 with fail
  go_cut [14] (fun v w' => (∃ L' : List UInt8, v = .slice A n' c ∧ Hid (Row w' w'.heap.size A n' (bvs L'))) ∧ Hid (Below w.heap.size w w'))
  case first =>
    by_cases h : 0 < n' ∧ 0 ≤ p
    · obtain ⟨h1, h2⟩ := h
      obtain ⟨K, rfl⟩ : ∃ K : Nat, p = K := ⟨p.toNat, by omega⟩
      obtain ⟨g, cap, cur, hv, hg, _, _, _, _, _⟩ := own_block HO6.out h1
      injection hv with e1 e2 e3
      subst e1 e3
      have HG := Lib.hid hg
      obtain ⟨R, hR⟩ : ∃ R, R = K % n' := ⟨_, rfl⟩
      have hRL : R < n' := by rw [hR]; exact Nat.mod_lt _ h1
      have hr1 : (K : Int) % (n' : Int) = (R : Int) := by rw [hR, Int.natCast_emod]
      have hr2 : (K : Int).tmod (n' : Int) = (R : Int) := by rw [hR, Int.tmod_eq_emod_of_nonneg (by omega), Int.natCast_emod]
      have hl0 : ((n' : Int) == 0) = false := beq_eq_false_iff_ne.2 (by omega)
      obtain ⟨q, hq⟩ : ∃ q, q = L'.getD R 0 := ⟨_, rfl⟩
      obtain ⟨y1, y2⟩ := own_cells HO6.out R hRL
      rw [← hq] at y1
      obtain ⟨q2, hq2⟩ : ∃ q2, q2 = q ^^^ Z := ⟨_, rfl⟩
      have hRow := own_put HO6.out R q2 hRL
      have hxo := xor_u8 q Z
      rw [← hq2] at hxo
      have hRi : (R : Int) < (n' : Int) := by omega
      have hq8 := q.toNat_lt
      have HBN : Hid (Below w.heap.size w (wc.setCell ⟨g, R, none⟩ (.int .u8 (q2.toNat : Int)))) := HB5.out.setCell HG.out _
      have HSZ : Hid ((wc.setCell ⟨g, R, none⟩ (.int .u8 (q2.toNat : Int))).heap.size = wc.heap.size) := by show _ = _; simp [World.setCell]
      clear hR hg hq hq2
      go_wp2_with fail
      go_meet
      case rel => exact ⟨⟨_, rfl, hRow.out.more (by rw [HSZ.out]; exact Nat.le_refl _)⟩, HBN⟩
    · have hfl : decide (0 < n' ∧ 0 ≤ p) = false := decide_eq_false h
      go_wp2_with fail
      go_meet
      case rel => exact ⟨⟨_, rfl, Row.own HO6.out⟩, HB5⟩
  case rest =>
  obtain ⟨⟨L2, rfl, HR7⟩, HB7⟩ := hcut
  have CT7 := Lib.hid (tells_any A n' c L2 wc (turned_below HT.out HB7.out rfl) HR7.out HNC.out HCM.out)
  clear HO6 HR7
  go_wp2_with (go_at_call 17; refine CT7.out.mono ?_; rintro e w8 ⟨rfl, hb8⟩; have HB8 := Lib.hid (HB7.out.trans (hb8.mono HB7.out.size)); clear hb8)
  go_ret
  exact ⟨rfl, HB8.out⟩
end Go.Proofs.YtnhhoodmmefjdaaDoor.Rec
