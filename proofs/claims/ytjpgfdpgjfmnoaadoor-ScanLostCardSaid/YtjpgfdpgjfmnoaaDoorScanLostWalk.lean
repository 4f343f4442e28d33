/-
  Proved: ScanLost returns true, whatever it is handed.
  Conditions: the table crc.turned holds its sixteen words; the numbers are those of values.
-/
import Derived.Test.YtjpgfdpgjfmnoaaDoorScanLostList
import Derived.Test.YtjpgfdpgjfmnoaaDoorScanBegun
import Derived.Test.YtjpgfdpgjfmnoaaDoorDraw
import Derived.BigQuiet
namespace Go.Proofs.YtjpgfdpgjfmnoaaDoor.Rec
open Go.RowKit
open Go.Proofs.YtjpgfdpgjfmnoaaDoor.Crc (Turned)
set_option linter.unusedVariables false
set_option linter.unusedSimpArgs false

theorem plain_next {B : List UInt8} {a j : Nat} (h : ∀ r, a ≤ r → r < j → Plain B r) (hj : Plain B j) : Hid (∀ r, a ≤ r → r < j + 1 → Plain B r) := fun r h1 h2 => by
  by_cases e : r = j
  · rw [e]; exact hj
  · exact h r h1 (by omega)
set_option maxRecDepth 100000 in
set_option maxHeartbeats 8000000 in
theorem scanLost_walk (A : Option Addr) (n c : Nat) (k : Int) (t : Int) (z : Int) (w : World) (hT : Turned w) (hA : (∃ l : List Rc, l.length = n ∧ (∀ y ∈ l, y.Ok) ∧ Row w w.heap.size A (n * 6) (rflat l))) (hn : n ≤ c) (hc : c ≤ maxLen)
    (hk : -9223372036854775808 ≤ k ∧ k ≤ 9223372036854775807) (ht : -9223372036854775808 ≤ t ∧ t ≤ 9223372036854775807) (hzw : (Lit.int .u8 z).wf = true) :
    Calls Tryd.prog 4 #[.slice A n c, .int .i64 k, .int .i64 t, .int .u8 z] w fun e w' => e = .returned (.bool true) ∧ Below w.heap.size w w' := by
  obtain ⟨hk1, hk2⟩ := hk
  obtain ⟨ht1, ht2⟩ := ht
  obtain ⟨Z, rfl⟩ : ∃ Z : UInt8, z = (Z.toNat : Int) := ⟨UInt8.ofNat z.toNat, by
    have := bounds_u8 hzw
    rw [UInt8.toNat_ofNat']
    omega⟩
  have hZ := Z.toNat_lt
  clear hzw
  obtain ⟨l, hl, hok, hR⟩ := hA
  have HT := Lib.hid hT
  have HBEG := Lib.hid (scanbegun_any w hT)
  have CG : Hid (∀ W, Below w.heap.size w W → Calls Tryd.prog 8 #[.slice A n c, .int .i64 8] W fun e w' => ∃ v, e = .returned v ∧ ∃ g, Rs W w' v g ∧ g.length ≤ 8 ∧ ∀ x ∈ g, x.Good) := fun W hW =>
    good_any A n c 8 l W ((hR.below hW).more hW.size) hl hok hn hc (by decide)
  clear hT hR hl hok hc
  go_enter Tryd.func4, Tryd.ntmps4
  go_upto_region 5 with (first
    | (go_at_call 7; refine HBEG.out.mono ?_; rintro e w1 ⟨rfl, hb1⟩; have HB1 := Lib.hid hb1; clear hb1)
    | (go_at_call 8; refine (CG.out _ HB1.out).mono ?_; rintro e w2 ⟨v2, rfl, g, hs2, hg8, hgood⟩))
  have HB2 : Hid (Below w.heap.size w w2) := HB1.out.trans (hs2.below.mono HB1.out.size)
  obtain ⟨A2, c2, rfl, hgc, hc2, hR2⟩ := own_row hs2.row
  have HR2 := Lib.hid hR2
  have HG := Lib.hid hgood
  have hcm2 : c2 ≤ 9223372036854775807 := by unfold maxLen at hc2; exact hc2
  clear hs2 hR2 hgood hc2 CG HBEG HB1
  by_cases hg0 : g.length = 0
  · have hg0' : ((g.length : Int) == 0) = true := by rw [hg0]; rfl
    go_wp2_with fail
    go_ret
    exact ⟨rfl, HB2.out⟩
  have hg0' : ((g.length : Int) == 0) = false := beq_eq_false_iff_ne.2 (by omega)
  by_cases hk0 : k < 0
  · go_wp2_with fail
    go_ret
    exact ⟨rfl, HB2.out⟩
  by_cases ht0 : t < 0
  · go_wp2_with fail
    go_ret
    exact ⟨rfl, HB2.out⟩
  by_cases hz0 : Z = 0
  · subst hz0
    go_wp2_with fail
    go_ret
    exact ⟨rfl, HB2.out⟩
  have hz1 : ((Z.toNat : Int) == 0) = false := beq_eq_false_iff_ne.2 (fun e => hz0 (UInt8.toNat.inj (by simpa using e)))
  have HZ := Lib.hid hz0
  clear hz0
  obtain ⟨G, hG⟩ : ∃ G, G = g.length := ⟨_, rfl⟩
  rw [← hG] at hgc hg8 hg0 hg0' HR2
  rw [← hG]
  have HGL := Lib.hid hG
  clear hG
  obtain ⟨K0, rfl⟩ : ∃ K0 : Nat, k = K0 := ⟨k.toNat, by omega⟩
  obtain ⟨T0, rfl⟩ : ∃ T0 : Nat, t = T0 := ⟨t.toNat, by omega⟩
  obtain ⟨K, hK⟩ : ∃ K, K = K0 % G := ⟨_, rfl⟩
  have hKG : K < G := by rw [hK]; exact Nat.mod_lt _ (by omega)
  have hr1 : (K0 : Int) % (G : Int) = (K : Int) := by rw [hK, Int.natCast_emod]
  have hr2 : (K0 : Int).tmod (G : Int) = (K : Int) := by rw [hK, Int.tmod_eq_emod_of_nonneg (by omega), Int.natCast_emod]
  clear hK
  go_upto_region 8 with fail
  clear hr1 hr2 hg0' hz1
  go_upto_region 11 with fail
  go_loopw [10, 11, 12] (fun b en i wr => ∃ (p : Nat), i = .int .i64 (p : Int) ∧ p ≤ G ∧ Hid (Be w2 wr b en g p)) (fun _ _ i _ => G - (intOf i).toNat)
  case atStart => exact ⟨0, rfl, Nat.zero_le _, Be.nil w2 g⟩
  case round =>
    obtain ⟨p, rfl, hp, HBE⟩ := hrel
    by_cases hlt : p < G
    · obtain ⟨b, o, rfl, hb, _⟩ := HR2.out.2 (by omega)
      obtain ⟨x, hx⟩ : ∃ x, g[p]? = some x := ⟨g[p]'(by rw [← HGL.out]; exact hlt), List.getElem?_eq_getElem _⟩
      obtain ⟨hxm, hxf, hxl⟩ := HG.out x (List.mem_of_getElem? hx)
      have HIT : Hid (wr.rangeAt b (o + p * 6) x.vals.toList) := rec_item (HR2.out.below HBE.out.below) p x hx
      have CE : Hid (∀ W, Calls Tryd.prog 10 #[.agg x.vals] W fun e w' => ∃ u, e = .returned u ∧ w'.ownsRow W.heap.size 5 1 u (enc x).length (bvs (enc x)) ∧ Below W.heap.size W w') := fun W => refencode_any x W hxf (by unfold maxLen; omega)
      have HX := Lib.hid hx
      clear hx hxm hxf hxl
      have hsm := upto_small HG.out p
      have hsm1 := upto_next HX.out
      have hsm2 := upto_small HG.out (p + 1)
      have hll : upto g p + (enc x).length ≤ 1000000 := by omega
      have hp6 : p ≤ 1000000 := by omega
      clear hsm hsm1
      go_upto_region 14 with (first
        | (refine load_recM HIT.out rfl (.tmp 54) rfl rfl ?_)
        | (go_at_call 10; refine (CE.out _).mono ?_; rintro e w5 ⟨u5, rfl, ho5, hb5⟩; obtain ⟨A5, c5, rfl, _, _⟩ := own_form ho5; have HR5 := Lib.hid (Row.own ho5); have HBE5 := Lib.hid (HBE.out.all hb5); clear ho5 hb5)
        | (at_builtin; refine be_text HBE5.out x HX.out rfl (.tmp 51) (.tmp 56) rfl rfl w5.heap.size A5 (enc x).length c5 rfl HR5.out hll ?_; intro v6 w6 HBT6))
      obtain ⟨A6, c6, rfl, _, _⟩ := own_form HBT6.out.text
      have HBT7 := Lib.hid (HBT6.out.all (below_alloc w6 (.cells #[.int .i64 (upto g (p + 1) : Int)] 3)))
      have HR1 := Lib.hid (row_one w6 (upto g (p + 1) : Int))
      go_wp2_with (at_builtin; refine be_ends HBT7.out rfl (.tmp 58) (.tmp 61) rfl rfl (w6.heap.size + 1) (some ⟨w6.heap.size, 0, none⟩) 1 rfl HR1.out hp6 ?_; intro v8 w8 HBE8)
      go_roundw
      case rel => exact ⟨p + 1, by go_num, by omega, HBE8⟩
      case measure => (simp [intOf]; omega)
    · obtain rfl : p = G := by omega
      obtain ⟨y, hy⟩ : ∃ y, g[K]? = some y := ⟨g[K]'(by rw [← HGL.out]; exact hKG), List.getElem?_eq_getElem _⟩
      obtain ⟨hym, hyf, hyl⟩ := HG.out y (List.mem_of_getElem? hy)
      have hSE := upto_next hy
      have hel := enc_length y hym
      have hGp : 0 < p := by omega
      have hce : g.take p = g := by rw [HGL.out, List.take_length]
      have htx := HBE.out.text
      have hen := HBE.out.ends
      rw [hce] at htx
      obtain ⟨ge, ce, ue, hve, hge, _, hec, hce2, _, _⟩ := own_block hen hGp
      have hcl : upto g p = (cat g).length := by rw [HGL.out, upto_all]
      obtain ⟨E, hE⟩ : ∃ E, E = (enc y).length := ⟨_, rfl⟩
      obtain ⟨S, hS⟩ : ∃ S, S = upto g K := ⟨_, rfl⟩
      have hSE2 : upto g (K + 1) ≤ upto g p := upto_le g (K + 1) p (by omega)
      have htot := upto_small HG.out p
      rw [← hE] at hel hSE
      rw [← hS] at hSE
      rw [hSE, hcl] at hSE2
      rw [hcl] at htot
      obtain ⟨gb, cb, ub, hvb, hgb, _, hbc, hcb2, _, _⟩ := own_block htx (by omega)
      subst hve hvb
      have HTX := Lib.hid htx
      have HEN := Lib.hid hen
      obtain ⟨N, hN⟩ : ∃ N, N = (cat g).length := ⟨_, rfl⟩
      rw [← hN] at HTX hbc hSE2 htot
      rw [← hN]
      have hNs : N ≤ 2000 := by omega
      have HBr : Hid (Below w2.heap.size w2 wr) := HBE.out.below
      have HNN := Lib.hid hN
      have HSS := Lib.hid hS
      have HEE := Lib.hid hE
      have HY := Lib.hid hy
      have HGE := Lib.hid hge
      have HGB := Lib.hid hgb
      have hcem : ce ≤ 9223372036854775807 := by unfold maxLen at hce2; exact hce2
      have hcbm : cb ≤ 9223372036854775807 := by unfold maxLen at hcb2; exact hcb2
      have HCB := Lib.hid hcb2
      have hE39 : 39 ≤ E := by omega
      have HEC := Lib.hid hSE
      clear hcl hce htx hen hN hS hE hy hge hgb hce2 hcb2 hSE htot HBE hel hyl hGp hlt
      go_upto_if 64 with fail
      go_cut [13] (fun v w' => v = .int .i64 (S : Int) ∧ wr = w')
      case first =>
        rcases Nat.eq_zero_or_pos K with h0 | h0
        · have hS0 : S = 0 := by rw [HSS.out, h0]; rfl
          have h0' : ¬ (0 : Int) < (K : Int) := by omega
          clear h0
          go_wp2_with fail
          go_meet
          case rel => exact ⟨by rw [hS0]; rfl, rfl⟩
        · obtain ⟨K1, rfl⟩ : ∃ K1, K = K1 + 1 := ⟨K - 1, by omega⟩
          have ec := ends_cell HEN.out K1 (by omega)
          rw [← HSS.out] at ec
          go_wp2_with fail
          go_meet
          case rel => exact ⟨rfl, rfl⟩
      case rest =>
      obtain ⟨rfl, rfl⟩ := hcut
      obtain ⟨M, hM⟩ : ∃ M, M = S + E := ⟨_, rfl⟩
      have ecM : wr.cell? ⟨ge, K, none⟩ = some (.int .i64 (M : Int)) := by
        have := ends_cell HEN.out K hKG
        rw [HEC.out, ← hM] at this
        exact this
      have m1 : (M : Int) - (S : Int) = (E : Int) := by omega
      have m2 : ((E : Int) == 0) = false := beq_eq_false_iff_ne.2 (by omega)
      obtain ⟨R, hR⟩ : ∃ R, R = T0 % E := ⟨_, rfl⟩
      have hRE : R < E := by rw [hR]; exact Nat.mod_lt _ (by omega)
      have hr1 : (T0 : Int) % (E : Int) = (R : Int) := by rw [hR, Int.natCast_emod]
      have hr2 : (T0 : Int).tmod (E : Int) = (R : Int) := by rw [hR, Int.tmod_eq_emod_of_nonneg (by omega), Int.natCast_emod]
      have HMM := Lib.hid hM
      have hMN : M ≤ N := by omega
      clear hR hM
      go_upto_region 19 with fail
      clear hr1 hr2 m1 m2 ecM
      have HB0 : Hid (Below w.heap.size w wr) := HB2.out.trans (HBr.out.mono HB2.out.size)
      obtain ⟨tt, htt⟩ : ∃ tt, tt = decide (31 ≤ R ∧ R < 35) := ⟨_, rfl⟩
      have HTT := Lib.hid htt
      clear htt
      go_cut [83] (fun v w' => v = .bool tt ∧ wr = w')
      case first =>
        by_cases i1 : 31 ≤ R
        · have i1' : (31 : Int) ≤ (R : Int) := by omega
          by_cases i2 : R < 35
          · have i2' : (R : Int) < 35 := by omega
            go_wp2_with fail
            go_meet
            case rel => exact ⟨by rw [HTT.out, decide_eq_true ⟨i1, i2⟩], rfl⟩
          · have i2' : ¬ (R : Int) < 35 := by omega
            have HH := Lib.hid i2
            clear i2
            go_wp2_with fail
            go_meet
            case rel => exact ⟨by rw [HTT.out, decide_eq_false (fun h => HH.out h.2)], rfl⟩
        · have i1' : ¬ (31 : Int) ≤ (R : Int) := by omega
          have HH := Lib.hid i1
          clear i1
          go_wp2_with fail
          go_meet
          case rel => exact ⟨by rw [HTT.out, decide_eq_false (fun h => HH.out h.1)], rfl⟩
      case rest =>
      obtain ⟨rfl, rfl⟩ := hcut
      by_cases hin : 31 ≤ R ∧ R < 35
      · obtain rfl : tt = true := by rw [HTT.out, decide_eq_true hin]
        go_wp2_with fail
        go_ret
        exact ⟨rfl, HB0.out⟩
      obtain rfl : tt = false := by rw [HTT.out, decide_eq_false hin]
      have hXN : S + R < N := by have := HMM.out; omega
      have hSN : S ≤ 2000 := by omega
      have hRN : R ≤ 2000 := by omega
      obtain ⟨q, hq⟩ : ∃ q, q = (cat g).getD (S + R) 0 := ⟨_, rfl⟩
      obtain ⟨y1, y2⟩ := own_cells HTX.out (S + R) hXN
      have hRow := own_put HTX.out (S + R) (q ^^^ Z) hXN
      rw [← hq] at y1
      have hxo := xor_u8 q Z
      have hset : (cat g).set (S + R) (q ^^^ Z) = cat (g.take K) ++ ((enc y).set R ((enc y).getD R 0 ^^^ Z) ++ cat (g.drop (K + 1))) := by
        rw [hq, HSS.out, cat_set HY.out (by rw [← HEE.out]; exact hRE), cat_getD HY.out (by rw [← HEE.out]; exact hRE)]
      obtain ⟨q2, hq2⟩ : ∃ q2, q2 = q ^^^ Z := ⟨_, rfl⟩
      rw [← hq2] at hRow hxo hset
      clear hq2
      have hq8 := q.toNat_lt
      have hXi : (S : Int) + (R : Int) < (N : Int) := by omega
      obtain ⟨w6, hw6⟩ : ∃ w6, w6 = wr.setCell ⟨gb, S + R, none⟩ (.int .u8 (q2.toNat : Int)) := ⟨_, rfl⟩
      have hg6 : wr.grownBy w6 (some gb) := by rw [hw6]; exact only_setCell wr ⟨gb, S + R, none⟩ _
      have hsz6 : w6.heap.size = wr.heap.size := by rw [hw6]; simp [World.setCell]
      have HB6 : Hid (Below w.heap.size w w6) := by rw [hw6]; exact HB0.out.setCell (Nat.le_trans HB2.out.size HGB.out) _
      have HBr6 : Hid (Below w2.heap.size w2 w6) := by rw [hw6]; exact HBr.out.setCell HGB.out _
      have HEN6 : Hid (w6.ownsRow w2.heap.size 3 1 (.slice (some ⟨ge, 0, none⟩) p ce) p (ivs (endsOf g p))) := HEN.out.kept hg6 (own_apart HTX.out HEN.out kinds_apart)
      obtain ⟨B, hB⟩ : ∃ B, B = (cat g).set (S + R) q2 := ⟨_, rfl⟩
      rw [← hw6, ← hB] at hRow
      rw [← hB] at hset
      have HRB : Hid (Row w6 w6.heap.size (some ⟨gb, 0, none⟩) N (bvs B)) := hRow.out.more (by omega)
      have hBN : B.length = N := by rw [hB, List.length_set, HNN.out]
      have HBN := Lib.hid hBN
      have HSET := Lib.hid hset
      clear hRow hset hB hBN hsz6 hg6 hq
      go_upto_region 22 with fail
      rw [← hw6]
      clear hw6 y1 y2 hxo HTX HEN
      have HHI := Lib.hid hin
      clear hin hXi
      go_upto_region 23 with fail
      go_loopw [15] (fun v wx => ∃ (j : Nat), v = .int .i64 (j : Int) ∧ S + 1 ≤ j ∧ j ≤ M ∧ wx = w6 ∧ Hid (∀ r, S + 1 ≤ r → r < j → Plain B r)) (fun v _ => M - (intOf v).toNat)
      case atStart => exact ⟨S + 1, by go_num, Nat.le_refl _, by have := HMM.out; omega, rfl, fun r h1 h2 => by omega⟩
      case round =>
        obtain ⟨j, rfl, hj1, hj2, rfl, HPL⟩ := hrel
        have ecM := ends_cell HEN6.out K hKG
        rw [HEC.out, ← HMM.out] at ecM
        by_cases hjM : j < M
        · obtain ⟨c0, hc0⟩ : ∃ c0, c0 = B.getD j 0 := ⟨_, rfl⟩
          have bc : ∀ r, r < N → wr.cell? ⟨gb, r, none⟩ = some (.int .u8 ((B.getD r 0).toNat : Int)) := by
            intro r hr
            obtain ⟨b', o', e, _, hcs⟩ := HRB.out.byte (by omega)
            injection e with e
            injection e with e1 e2
            subst e1 e2
            have := hcs r hr
            rwa [Nat.zero_add] at this
          have b0 := bc j (by omega)
          rw [← hc0] at b0
          have HC0 := Lib.hid hc0
          clear hc0
          by_cases h83 : c0 = 83
          · have d0 : ((c0.toNat : Int) == 83) = true := by rw [h83]; rfl
            have H83 := Lib.hid h83
            clear h83
            by_cases hjn : j + 1 < N
            · have hjn' : (j : Int) + 1 < (N : Int) := by omega
              obtain ⟨c1, hc1⟩ : ∃ c1, c1 = B.getD (j + 1) 0 := ⟨_, rfl⟩
              have b1 := bc (j + 1) hjn
              rw [← hc1] at b1
              have HC1 := Lib.hid hc1
              clear hc1 bc
              by_cases h82 : c1 = 82
              · have d1 : ((c1.toNat : Int) == 82) = true := by rw [h82]; rfl
                clear h82
                go_wp2_with fail
                go_ret
                exact ⟨rfl, HB6.out⟩
              · have d1 : ((c1.toNat : Int) == 82) = false := beq_eq_false_iff_ne.2 (fun e => h82 (UInt8.toNat.inj (by show c1.toNat = 82; omega)))
                have H82 := Lib.hid h82
                clear h82
                go_wp2_with fail
                go_roundw
                case rel => exact ⟨j + 1, by go_num, by omega, by omega, trivial, plain_next HPL.out (fun h => H82.out (by rw [HC1.out]; exact h.2.2))⟩
                case measure => (simp [intOf]; omega)
            · have hjn' : ¬ (j : Int) + 1 < (N : Int) := by omega
              have HJN := Lib.hid hjn
              clear hjn bc
              go_wp2_with fail
              go_roundw
              case rel => exact ⟨j + 1, by go_num, by omega, by omega, trivial, plain_next HPL.out (fun h => HJN.out (by rw [← HBN.out]; exact h.2.1))⟩
              case measure => (simp [intOf]; omega)
          · have d0 : ((c0.toNat : Int) == 83) = false := beq_eq_false_iff_ne.2 (fun e => h83 (UInt8.toNat.inj (by show c0.toNat = 83; omega)))
            have H83 := Lib.hid h83
            clear h83 bc
            go_wp2_with fail
            go_roundw
            case rel => exact ⟨j + 1, by go_num, by omega, by omega, trivial, plain_next HPL.out (fun h => H83.out (by rw [HC0.out]; exact h.1))⟩
            case measure => (simp [intOf]; omega)
        · obtain rfl : j = M := by omega
          have hgoods : ∀ x ∈ g, x.May ∧ x.Fits := fun x hx => ⟨(HG.out x hx).1, (HG.out x hx).2.1⟩
          have hls := lost_stands (g.take K) (g.drop (K + 1)) y R Z (fun x hx => hgoods x (List.mem_of_mem_take hx)) (fun x hx => hgoods x (List.mem_of_mem_drop hx)) hym hyf (by rw [← HEE.out]; exact hRE) HZ.out HHI.out B HSET.out (by
            intro r h1 h2
            have e1 : S = (cat (g.take K)).length := HSS.out
            rw [← e1] at h1 h2
            rw [← HEE.out, ← HMM.out] at h2
            exact HPL.out r h1 h2)
          obtain ⟨l1, l2, l3⟩ := hls
          have CF0 := scanfront_any (some ⟨gb, 0, none⟩) N cb B wr (turned_kept HT.out HB6.out) HRB.out hbc HCB.out (by omega)
          have hS2 : (cat (g.take K)).length = S := HSS.out.symm
          rw [l2, hS2, l1] at CF0
          have hFl : (places 0 (g.take K)).length = K := by rw [places_length, List.length_take, ← HGL.out]; omega
          obtain ⟨F, hF⟩ : ∃ F, F = places 0 (g.take K) := ⟨_, rfl⟩
          rw [← hF] at CF0 hFl
          have HFL := Lib.hid hFl
          have CF := Lib.hid CF0
          have CA : Hid (∀ W, Below wr.heap.size wr W → Calls Tryd.prog 15 #[.slice (some ⟨gb, 0, none⟩) N cb] W fun e w' => ∃ v, e = .returned v ∧ Fd W 46 w' v (allFrom 0 B)) := fun W hW =>
            scanall_any _ N cb B W (turned_kept HT.out (HB6.out.trans (hW.mono HB6.out.size))) ((HRB.out.below hW).more hW.size) hbc HCB.out (by omega)
          have hget : ∀ i, i + 1 < p → ∃ x, g[kap K i]? = some x ∧ (allFrom 0 B)[i]? = some (upto g (kap K i), x) := by
            intro i hi
            have := lost_get HY.out (i := i) (by rw [← HGL.out]; exact hi)
            rw [l3, hS2, HSS.out]
            exact this
          have hLl : (allFrom 0 B).length + 1 = p := by
            rw [l3, List.length_append, places_length, places_length, List.length_take, List.length_drop, ← HGL.out]
            omega
          obtain ⟨L, hL⟩ : ∃ L, L = allFrom 0 B := ⟨_, rfl⟩
          rw [← hL] at CA hget hLl
          have HGET := Lib.hid hget
          obtain ⟨H, hH⟩ : ∃ H, H = L.length := ⟨_, rfl⟩
          rw [← hH] at hLl
          have HLH := Lib.hid hH
          have HHG := Lib.hid hLl
          clear CF0 l1 l2 l3 hS2 hF hFl hget hL hH hLl hgoods HPL HHI HRB hj1 hj2 hjM HSET
          go_upto_region 28 with (go_at_call 11; refine CF.out.mono ?_; rintro e w7 ⟨v7, rfl, h7⟩; obtain ⟨A7, c7, rfl, _, _, _⟩ := h7.form; have HB7 := Lib.hid h7.below; clear h7)
          rw [HFL.out]
          clear CF HFL ecM
          go_upto_region 31 with (go_at_call 15; refine (CA.out _ HB7.out).mono ?_; rintro e w8 ⟨v8, rfl, h8⟩; obtain ⟨A8, c8, rfl, hn8, hc8, hR8⟩ := h8.form; have HB8 := Lib.hid (HB7.out.trans (h8.below.mono HB7.out.size)); have HR8 := Lib.hid hR8; clear h8 hR8)
          rw [← HLH.out] at HR8 hn8 ⊢
          have hcm8 : c8 ≤ 9223372036854775807 := by unfold maxLen at hc8; exact hc8
          have HB28 : Hid (Below w2.heap.size w2 w8) := HBr6.out.trans (HB8.out.mono HBr6.out.size)
          have HB08 : Hid (Below w.heap.size w w8) := HB6.out.trans (HB8.out.mono HB6.out.size)
          have HEN8 : Hid (w8.ownsRow w2.heap.size 3 1 (.slice (some ⟨ge, 0, none⟩) p ce) p (ivs (endsOf g p))) :=
            HEN6.out.kept (row := none) ⟨HB8.out.os, HB8.out.tape, HB8.out.output, HB8.out.size, fun i hi _ => HB8.out.block i hi⟩ (Classical.em _)
          have hpH : p = H + 1 := HHG.out.symm
          have HPH := Lib.hid hpH
          clear CA HB7 HB8 HBr6 HB6 HEN6 hc8 hpH
          go_upto_region 33 with fail
          go_loopw [19, 20] (fun kv iv wx => ∃ (i kk : Nat), iv = .int .i64 (i : Int) ∧ kv = .int .i64 (kk : Int) ∧ i ≤ H ∧ Hid (kk = if i ≤ K then i else i + 1) ∧ Hid (Below w8.heap.size w8 wx)) (fun _ iv _ => H - (intOf iv).toNat)
          case atStart => exact ⟨0, 0, rfl, rfl, Nat.zero_le _, by show _ = _; rw [if_pos (Nat.zero_le _)], Below.refl _ _⟩
          case round =>
            obtain ⟨i, kk, rfl, rfl, hiH, HKK, HBW⟩ := hrel
            have hkk := HKK.out
            by_cases hlt : i < H
            · obtain ⟨b8, o8, rfl, hb8, _⟩ := HR8.out.2 (by omega)
              obtain ⟨b, o, rfl, hb, _⟩ := HR2.out.2 (by omega)
              have hkp : kk < p := by
                have := HPH.out
                split at hkk <;> omega
              have hkp' : (kk : Int) < (p : Int) := by omega
              have hlt' : (i : Int) < (H : Int) := by omega
              obtain ⟨q, hq⟩ : ∃ q, q = kap K i := ⟨_, rfl⟩
              have HQ := Lib.hid hq
              clear hq hkk
              obtain ⟨x, hx, hLx⟩ := HGET.out i (by have := HPH.out; omega)
              rw [← HQ.out] at hx hLx
              have hqp : q < p := by rw [HGL.out]; exact (List.getElem?_eq_some_iff.1 hx).1
              have hqp' : (q : Int) < (p : Int) := by omega
              obtain ⟨b5, hb5⟩ : ∃ b5, b5 = decide (kk = K) := ⟨_, rfl⟩
              have dk : ((kk : Int) == (K : Int)) = b5 := by
                rw [hb5]
                by_cases h : kk = K
                · rw [h]; simp
                · rw [decide_eq_false h]; exact beq_eq_false_iff_ne.2 (by omega)
              have HB5 := Lib.hid hb5
              clear hb5
              go_upto_if 153 with fail
              clear dk
              go_cut [19] (fun v w' => v = .int .i64 (q : Int) ∧ wr = w')
              case first =>
                by_cases hkK : kk = K
                · obtain rfl : b5 = true := by rw [HB5.out, decide_eq_true hkK]
                  have hqk : kk + 1 = q := by
                    have h1 := HKK.out
                    have h2 := HQ.out
                    unfold kap at h2
                    split at h1 <;> split at h2 <;> omega
                  have HQK := Lib.hid hqk
                  clear hqk hkK
                  go_wp2_with fail
                  go_meet
                  case rel => exact ⟨by rw [← HQK.out]; rfl, rfl⟩
                · obtain rfl : b5 = false := by rw [HB5.out, decide_eq_false hkK]
                  have hqk : kk = q := by
                    have h1 := HKK.out
                    have h2 := HQ.out
                    unfold kap at h2
                    split at h1 <;> split at h2 <;> omega
                  have HQK := Lib.hid hqk
                  clear hqk hkK
                  go_wp2_with fail
                  go_meet
                  case rel => exact ⟨by rw [← HQK.out], rfl⟩
              case rest =>
              obtain ⟨rfl, rfl⟩ := hcut
              have hxg := HG.out x (List.mem_of_getElem? hx)
              have hnx := upto_next hx
              have hsm := upto_small HG.out (q + 1)
              have HI1 : Hid (∀ W, Below w8.heap.size w8 W → W.cell? ⟨b8, o8 + i * 7, none⟩ = some (.int .i64 ((upto g q : Nat) : Int))) := fun W hW => (found_rec (found_item (HR8.out.below hW) i _ hLx)).1
              have HI4 : Hid (∀ W, Below w8.heap.size w8 W → W.rangeAt b8 (o8 + i * 7 + 1) x.vals.toList) := fun W hW => (found_rec (found_item (HR8.out.below hW) i _ hLx)).2
              have HI3 : Hid (∀ W, Below w8.heap.size w8 W → W.rangeAt b (o + q * 6) x.vals.toList) := fun W hW => rec_item (HR2.out.below (HB28.out.trans (hW.mono HB28.out.size))) q x hx
              have HI2 : Hid (∀ W, Below w8.heap.size w8 W → W.cell? ⟨ge, q, none⟩ = some (.int .i64 ((upto g (q + 1) : Nat) : Int))) := fun W hW =>
                ends_cell (HEN8.out.kept (row := none) ⟨hW.os, hW.tape, hW.output, hW.size, fun i hi _ => hW.block i hi⟩ (Classical.em _)) q hqp
              have CE : Hid (∀ W, Calls Tryd.prog 10 #[.agg x.vals] W fun e w' => ∃ u, e = .returned u ∧ w'.ownsRow W.heap.size 5 1 u (enc x).length (bvs (enc x)) ∧ Below W.heap.size W w') := fun W => refencode_any x W hxg.2.1 (by have := hxg.2.2; unfold maxLen; omega)
              have CQ : Hid (∀ W, Calls Tryd.prog 17 #[.agg x.vals, .agg x.vals] W fun e w' => e = .returned (.bool true) ∧ Below W.heap.size W w') := fun W => by
                have := eq_any x x W
                rwa [decide_eq_true rfl] at this
              have hq9 : q + 1 ≤ 8 := by omega
              obtain ⟨P1, hP1⟩ : ∃ P1, P1 = upto g q := ⟨_, rfl⟩
              obtain ⟨P2, hP2⟩ : ∃ P2, P2 = upto g (q + 1) := ⟨_, rfl⟩
              obtain ⟨EX, hEX⟩ : ∃ EX, EX = (enc x).length := ⟨_, rfl⟩
              rw [← hP1] at HI1 hnx
              rw [← hP2] at HI2 hnx hsm
              rw [← hEX] at CE hnx
              have s1 : (P2 : Int) - (EX : Int) = (P1 : Int) := by omega
              have s2 : P2 ≤ 2000 := by omega
              have s3 : EX ≤ 2000 := by omega
              have s4 : IntKind.i64.wrap (P1 : Int) = (P1 : Int) := by simp [IntKind.wrap, IntKind.bits, IntKind.signed]; omega
              have HBR : Hid (Below w8.heap.size w8 wr.drew) := HBW.out.drew
              clear hx hLx hxg hnx hsm hP1 hP2 hEX hkp hkp'
              go_upto_region 37 with fail
              refine wp_region_noPanic ?_
              refine wp_region_held_drew (S := fun W => Hid (Below w8.heap.size w8 W)) (by kernel_rfl) HBR (fun h0 => ?_)
              refine held_take 0 (v := ?_) (d := (some 156)) rfl rfl (by kernel_rfl) (by kernel_rfl) (by kernel_rfl) (fun _ _ _ h => h) (Or.inl ⟨by rfl, ?_⟩) h0 ?_
              rotate_left
              · intro _ _; go_simp; (try with_reducible rfl)
              try simp only [Act.put, List.setIfInBounds_toArray, List.set_cons_zero, List.set_cons_succ]
              refine held_take 1 (v := ?_) (d := (some 157)) rfl rfl (by kernel_rfl) (by kernel_rfl) (by kernel_rfl) (fun _ _ _ h => h) (Or.inl ⟨by rfl, ?_⟩) h0 ?_
              rotate_left
              · intro _ _; go_simp; (try with_reducible rfl)
              try simp only [Act.put, List.setIfInBounds_toArray, List.set_cons_zero, List.set_cons_succ]
              refine held_take 2 (v := ?_) (d := (some 158)) rfl rfl (by kernel_rfl) (by kernel_rfl) (by kernel_rfl) (fun _ _ _ h => h) (Or.inl ⟨by rfl, ?_⟩) h0 ?_
              rotate_left
              · intro _ _; go_simp; (try with_reducible rfl)
              try simp only [Act.put, List.setIfInBounds_toArray, List.set_cons_zero, List.set_cons_succ]
              refine held_take 3 (v := .bool true) (d := (some 159)) rfl rfl (by kernel_rfl) (by kernel_rfl) (by kernel_rfl) (fun _ _ _ h => h) (Or.inl ⟨by rfl, ?_⟩) h0 ?_
              · intro _ _; go_simp; (try with_reducible rfl)
              try simp only [Act.put, List.setIfInBounds_toArray, List.set_cons_zero, List.set_cons_succ]
              refine held_take 4 (v := ?_) (d := (some 160)) rfl rfl (by kernel_rfl) (by kernel_rfl) (by kernel_rfl) (fun _ _ _ h => h) (Or.inl ⟨by rfl, ?_⟩) h0 ?_
              rotate_left
              · intro _ _; go_simp; (try with_reducible rfl)
              try simp only [Act.put, List.setIfInBounds_toArray, List.set_cons_zero, List.set_cons_succ]
              refine held_take 5 (v := ?_) (d := (some 161)) rfl rfl (by kernel_rfl) (by kernel_rfl) (by kernel_rfl) (fun _ _ _ h => h) (Or.inl ⟨by rfl, ?_⟩) h0 ?_
              rotate_left
              · intro _ _; go_simp; (try with_reducible rfl)
              try simp only [Act.put, List.setIfInBounds_toArray, List.set_cons_zero, List.set_cons_succ]
              refine held_take 6 (v := ?_) (d := (some 162)) rfl rfl (by kernel_rfl) (by kernel_rfl) (by kernel_rfl) (fun _ _ _ h => h) (Or.inl ⟨by rfl, ?_⟩) h0 ?_
              rotate_left
              · intro _ _; go_simp; (try with_reducible rfl)
              try simp only [Act.put, List.setIfInBounds_toArray, List.set_cons_zero, List.set_cons_succ]
              refine held_take 7 (v := ?_) (d := (some 163)) rfl rfl (by kernel_rfl) (by kernel_rfl) (by kernel_rfl) (fun _ _ _ h => h) (Or.inl ⟨by rfl, ?_⟩) h0 ?_
              rotate_left
              · intro _ _; go_simp; (try with_reducible rfl)
              try simp only [Act.put, List.setIfInBounds_toArray, List.set_cons_zero, List.set_cons_succ]
              refine held_take 8 (v := ?_) (d := (some 164)) rfl rfl (by kernel_rfl) (by kernel_rfl) (by kernel_rfl) (fun _ _ _ h => h) (Or.inl ⟨by rfl, ?_⟩) h0 ?_
              rotate_left
              · intro _ _; go_simp; (try with_reducible rfl)
              try simp only [Act.put, List.setIfInBounds_toArray, List.set_cons_zero, List.set_cons_succ]
              refine held_take 9 (v := .int .i64 (P1 : Int)) (d := (some 165)) rfl rfl (by kernel_rfl) (by kernel_rfl) (by kernel_rfl) (fun _ _ _ h => h) (Or.inl ⟨by rfl, ?_⟩) h0 ?_
              · intro W hW; have hc := HI1.out W hW.out; go_simp
              try simp only [Act.put, List.setIfInBounds_toArray, List.set_cons_zero, List.set_cons_succ]
              refine held_take 10 (v := ?_) (d := (some 166)) rfl rfl (by kernel_rfl) (by kernel_rfl) (by kernel_rfl) (fun _ _ _ h => h) (Or.inl ⟨by rfl, ?_⟩) h0 ?_
              rotate_left
              · intro _ _; go_simp; (try with_reducible rfl)
              try simp only [Act.put, List.setIfInBounds_toArray, List.set_cons_zero, List.set_cons_succ]
              refine held_take 11 (v := ?_) (d := (some 167)) rfl rfl (by kernel_rfl) (by kernel_rfl) (by kernel_rfl) (fun _ _ _ h => h) (Or.inl ⟨by rfl, ?_⟩) h0 ?_
              rotate_left
              · intro _ _; go_simp; (try with_reducible rfl)
              try simp only [Act.put, List.setIfInBounds_toArray, List.set_cons_zero, List.set_cons_succ]
              refine held_take 12 (v := ?_) (d := (some 168)) rfl rfl (by kernel_rfl) (by kernel_rfl) (by kernel_rfl) (fun _ _ _ h => h) (Or.inl ⟨by rfl, ?_⟩) h0 ?_
              rotate_left
              · intro _ _; go_simp; (try with_reducible rfl)
              try simp only [Act.put, List.setIfInBounds_toArray, List.set_cons_zero, List.set_cons_succ]
              refine held_take 13 (v := .int .i64 (P2 : Int)) (d := (some 169)) rfl rfl (by kernel_rfl) (by kernel_rfl) (by kernel_rfl) (fun _ _ _ h => h) (Or.inl ⟨by rfl, ?_⟩) h0 ?_
              · intro W hW; have hc := HI2.out W hW.out; go_simp
              try simp only [Act.put, List.setIfInBounds_toArray, List.set_cons_zero, List.set_cons_succ]
              refine held_take 14 (v := ?_) (d := (some 170)) rfl rfl (by kernel_rfl) (by kernel_rfl) (by kernel_rfl) (fun _ _ _ h => h) (Or.inl ⟨by rfl, ?_⟩) h0 ?_
              rotate_left
              · intro _ _; go_simp; (try with_reducible rfl)
              try simp only [Act.put, List.setIfInBounds_toArray, List.set_cons_zero, List.set_cons_succ]
              refine held_take 15 (v := ?_) (d := (some 171)) rfl rfl (by kernel_rfl) (by kernel_rfl) (by kernel_rfl) (fun _ _ _ h => h) (Or.inl ⟨by rfl, ?_⟩) h0 ?_
              rotate_left
              · intro _ _; go_simp; (try with_reducible rfl)
              try simp only [Act.put, List.setIfInBounds_toArray, List.set_cons_zero, List.set_cons_succ]
              refine held_take 16 (v := ?_) (d := (some 172)) rfl rfl (by kernel_rfl) (by kernel_rfl) (by kernel_rfl) (fun _ _ _ h => h) (Or.inl ⟨by rfl, ?_⟩) h0 ?_
              rotate_left
              · intro _ _; go_simp; (try with_reducible rfl)
              try simp only [Act.put, List.setIfInBounds_toArray, List.set_cons_zero, List.set_cons_succ]
              refine held_take 17 (v := .agg x.vals) (d := (some 173)) rfl rfl (by kernel_rfl) (by kernel_rfl) (by kernel_rfl) (fun _ _ _ h => h) (yieldsIf_load_mid (by rfl) 32 (.tmp 172) rfl b (o + q * 6) rfl x.vals.toList _ (fun W h => HI3.out W h.out) Tryd.underlying32 rfl rec_info) h0 ?_
              try simp only [Act.put, List.setIfInBounds_toArray, List.set_cons_zero, List.set_cons_succ]
              refine wpAnyH_ready (rs := [18]) (by kernel_rfl) (by simp) (AllReadyH.cons rfl (fun K hK => ?_) AllReadyH.nil)
              go_simp
              with_reducible refine (CE.out _).mono ?_
              rintro e w9 ⟨u9, rfl, ho9, hb9⟩
              obtain ⟨A9, c9, rfl, _, _⟩ := own_form ho9
              have B9 := Lib.hid (HBR.out.trans (hb9.mono HBR.out.size))
              clear hb9 ho9
              refine hK.out _ _ (B9) (fun h1 => ?_)
              clear hK K
              try simp only [Act.put, List.setIfInBounds_toArray, List.set_cons_zero, List.set_cons_succ]
              refine held_take 19 (v := ?_) (d := (some 175)) rfl rfl (by kernel_rfl) (by kernel_rfl) (by kernel_rfl) (fun _ _ _ h => h) (Or.inl ⟨by rfl, ?_⟩) h1 ?_
              rotate_left
              · intro _ _; go_simp; (try with_reducible rfl)
              try simp only [Act.put, List.setIfInBounds_toArray, List.set_cons_zero, List.set_cons_succ]
              refine held_take 20 (v := .int .i64 (P1 : Int)) (d := (some 176)) rfl rfl (by kernel_rfl) (by kernel_rfl) (by kernel_rfl) (fun _ _ _ h => h) (Or.inl ⟨by rfl, ?_⟩) h1 ?_
              · intro _ _; go_simp; (try with_reducible rfl)
              try simp only [Act.put, List.setIfInBounds_toArray, List.set_cons_zero, List.set_cons_succ]
              refine held_take 21 (v := .bool true) (d := (some 177)) rfl rfl (by kernel_rfl) (by kernel_rfl) (by kernel_rfl) (fun _ _ _ h => h) (Or.inl ⟨by rfl, ?_⟩) h1 ?_
              · intro _ _; go_simp; (try with_reducible rfl)
              try simp only [Act.put, List.setIfInBounds_toArray, List.set_cons_zero, List.set_cons_succ]
              refine held_take 22 (v := .bool true) (d := (some 178)) rfl rfl (by kernel_rfl) (by kernel_rfl) (by kernel_rfl) (fun _ _ _ h => h) (Or.inl ⟨by rfl, ?_⟩) h1 ?_
              · intro _ _; go_simp; (try with_reducible rfl)
              try simp only [Act.put, List.setIfInBounds_toArray, List.set_cons_zero, List.set_cons_succ]
              refine wpAnyH_done (by kernel_rfl) ?_ _
              refine NoPanic.normal ?_
              clear CE s1 s2 s3 s4 HI1 HI2
              have HBR2 : Hid (Below w8.heap.size w8 w9.drew) := B9.out.drew
              go_upto_region 38 with fail
              refine wp_region_noPanic ?_
              refine wp_region_held_drew (S := fun W => Hid (Below w8.heap.size w8 W)) (by kernel_rfl) HBR2 (fun h0 => ?_)
              refine held_take 0 (v := ?_) (d := (some 179)) rfl rfl (by kernel_rfl) (by kernel_rfl) (by kernel_rfl) (fun _ _ _ h => h) (Or.inl ⟨by rfl, ?_⟩) h0 ?_
              rotate_left
              · intro _ _; go_simp; (try with_reducible rfl)
              try simp only [Act.put, List.setIfInBounds_toArray, List.set_cons_zero, List.set_cons_succ]
              refine held_take 1 (v := ?_) (d := (some 180)) rfl rfl (by kernel_rfl) (by kernel_rfl) (by kernel_rfl) (fun _ _ _ h => h) (Or.inl ⟨by rfl, ?_⟩) h0 ?_
              rotate_left
              · intro _ _; go_simp; (try with_reducible rfl)
              try simp only [Act.put, List.setIfInBounds_toArray, List.set_cons_zero, List.set_cons_succ]
              refine held_take 2 (v := ?_) (d := (some 181)) rfl rfl (by kernel_rfl) (by kernel_rfl) (by kernel_rfl) (fun _ _ _ h => h) (Or.inl ⟨by rfl, ?_⟩) h0 ?_
              rotate_left
              · intro _ _; go_simp; (try with_reducible rfl)
              try simp only [Act.put, List.setIfInBounds_toArray, List.set_cons_zero, List.set_cons_succ]
              refine held_take 3 (v := ?_) (d := (some 182)) rfl rfl (by kernel_rfl) (by kernel_rfl) (by kernel_rfl) (fun _ _ _ h => h) (Or.inl ⟨by rfl, ?_⟩) h0 ?_
              rotate_left
              · intro _ _; go_simp; (try with_reducible rfl)
              try simp only [Act.put, List.setIfInBounds_toArray, List.set_cons_zero, List.set_cons_succ]
              refine held_take 4 (v := .agg x.vals) (d := (some 183)) rfl rfl (by kernel_rfl) (by kernel_rfl) (by kernel_rfl) (fun _ _ _ h => h) (yieldsIf_load_mid (by rfl) 32 (.tmp 182) rfl b8 (o8 + i * 7 + 1) rfl x.vals.toList _ (fun W h => HI4.out W h.out) Tryd.underlying32 rfl rec_info) h0 ?_
              try simp only [Act.put, List.setIfInBounds_toArray, List.set_cons_zero, List.set_cons_succ]
              refine held_take 5 (v := ?_) (d := (some 184)) rfl rfl (by kernel_rfl) (by kernel_rfl) (by kernel_rfl) (fun _ _ _ h => h) (Or.inl ⟨by rfl, ?_⟩) h0 ?_
              rotate_left
              · intro _ _; go_simp; (try with_reducible rfl)
              try simp only [Act.put, List.setIfInBounds_toArray, List.set_cons_zero, List.set_cons_succ]
              refine held_take 6 (v := ?_) (d := (some 185)) rfl rfl (by kernel_rfl) (by kernel_rfl) (by kernel_rfl) (fun _ _ _ h => h) (Or.inl ⟨by rfl, ?_⟩) h0 ?_
              rotate_left
              · intro _ _; go_simp; (try with_reducible rfl)
              try simp only [Act.put, List.setIfInBounds_toArray, List.set_cons_zero, List.set_cons_succ]
              refine held_take 7 (v := ?_) (d := (some 186)) rfl rfl (by kernel_rfl) (by kernel_rfl) (by kernel_rfl) (fun _ _ _ h => h) (Or.inl ⟨by rfl, ?_⟩) h0 ?_
              rotate_left
              · intro _ _; go_simp; (try with_reducible rfl)
              try simp only [Act.put, List.setIfInBounds_toArray, List.set_cons_zero, List.set_cons_succ]
              refine held_take 8 (v := .agg x.vals) (d := (some 187)) rfl rfl (by kernel_rfl) (by kernel_rfl) (by kernel_rfl) (fun _ _ _ h => h) (yieldsIf_load_mid (by rfl) 32 (.tmp 186) rfl b (o + q * 6) rfl x.vals.toList _ (fun W h => HI3.out W h.out) Tryd.underlying32 rfl rec_info) h0 ?_
              try simp only [Act.put, List.setIfInBounds_toArray, List.set_cons_zero, List.set_cons_succ]
              refine wpAnyH_ready (rs := [9]) (by kernel_rfl) (by simp) (AllReadyH.cons rfl (fun K hK => ?_) AllReadyH.nil)
              go_simp
              with_reducible refine (CQ.out _).mono ?_
              rintro e w10 ⟨rfl, hb10⟩
              have B10 := Lib.hid (HBR2.out.trans (hb10.mono HBR2.out.size))
              clear hb10
              refine hK.out _ _ (B10) (fun h1 => ?_)
              clear hK K
              try simp only [Act.put, List.setIfInBounds_toArray, List.set_cons_zero, List.set_cons_succ]
              refine held_take 10 (v := .bool false) (d := (some 189)) rfl rfl (by kernel_rfl) (by kernel_rfl) (by kernel_rfl) (fun _ _ _ h => h) (Or.inl ⟨by rfl, ?_⟩) h1 ?_
              · intro _ _; go_simp; (try with_reducible rfl)
              try simp only [Act.put, List.setIfInBounds_toArray, List.set_cons_zero, List.set_cons_succ]
              refine wpAnyH_done (by kernel_rfl) ?_ _
              refine NoPanic.normal ?_
              go_wp2_with fail
              go_roundw
              case rel => exact ⟨i + 1, q + 1, by go_num, by go_num, by omega, by
                have h2 := HQ.out
                unfold kap at h2
                show _ = _
                split at h2 <;> split <;> omega, B10⟩
              case measure => (simp [intOf]; omega)
            · obtain rfl : i = H := by omega
              have HBF : Hid (Below w.heap.size w wr) := HB08.out.trans (HBW.out.mono HB08.out.size)
              have hpi := HPH.out
              by_cases hik : i ≤ K
              · obtain rfl : K = i := by omega
                rw [if_pos (Nat.le_refl _)] at hkk
                obtain rfl : kk = K := hkk
                have e1 : ((kk : Int) + 1 == (p : Int)) = true := beq_iff_eq.2 (by omega)
                clear hpi
                go_wp2_with fail
                go_ret
                exact ⟨rfl, HBF.out⟩
              · rw [if_neg hik] at hkk
                obtain rfl : kk = p := by omega
                have e1 : ((kk : Int) == (K : Int)) = false := beq_eq_false_iff_ne.2 (by omega)
                clear hkk hpi
                go_wp2_with fail
                go_ret
                exact ⟨rfl, HBF.out⟩
end Go.Proofs.YtjpgfdpgjfmnoaaDoor.Rec
