/-
  Proved: ScanAll returns true, whatever it is handed.
  Conditions: the table crc.turned holds its sixteen words; the numbers are those of values.
-/
import Derived.Test.YtjpgfdpgjfmnoaaDoorScanArgs
import Derived.Test.YtjpgfdpgjfmnoaaDoorScanBegun
import Derived.Test.YtjpgfdpgjfmnoaaDoorScanGood
import Derived.Test.YtjpgfdpgjfmnoaaDoorScanEqAll
import Derived.Test.YtjpgfdpgjfmnoaaDoorScanRef
import Derived.Test.YtjpgfdpgjfmnoaaDoorScanRefFront
import Derived.Test.YtjpgfdpgjfmnoaaDoorShort
namespace Go.Proofs.YtjpgfdpgjfmnoaaDoor.Rec
open Go.RowKit
open Go.Proofs.YtjpgfdpgjfmnoaaDoor.Crc (Turned)
set_option linter.unusedVariables false
set_option linter.unusedSimpArgs false

set_option maxRecDepth 100000 in
set_option maxHeartbeats 8000000 in
theorem scanAll_walk (A : Option Addr) (n c : Nat) (J : Option Addr) (jn jc : Nat) (k : Int) (z : Int) (w : World) (hT : Turned w) (hA : (∃ l : List Rc, l.length = n ∧ (∀ y ∈ l, y.Ok) ∧ Row w w.heap.size A (n * 6) (rflat l))) (hn : n ≤ c) (hc : c ≤ maxLen)
    (hJ : RowsB w J jn) (hjn : jn ≤ jc) (hjc : jc ≤ maxLen) (hk : -9223372036854775808 ≤ k ∧ k ≤ 9223372036854775807) (hzw : (Lit.int .u8 z).wf = true) :
    Calls Tryd.prog 3 #[.slice A n c, .slice J jn jc, .int .i64 k, .int .u8 z] w fun e w' => e = .returned (.bool true) ∧ Below w.heap.size w w' := by
  obtain ⟨hk1, hk2⟩ := hk
  obtain ⟨Z, rfl⟩ : ∃ Z : UInt8, z = (Z.toNat : Int) := ⟨UInt8.ofNat z.toNat, by
    have := bounds_u8 hzw
    rw [UInt8.toNat_ofNat']
    omega⟩
  have hZ := Z.toNat_lt
  clear hzw
  obtain ⟨l, hl, hok, hR⟩ := hA
  have hjl : jn ≤ 9223372036854775807 := by unfold maxLen at hjc; omega
  have HT := Lib.hid hT
  have HJ := Lib.hid hJ
  have HBEG := Lib.hid (scanbegun_any w hT)
  have CG : Hid (∀ W, Below w.heap.size w W → Calls Tryd.prog 8 #[.slice A n c, .int .i64 6] W fun e w' => ∃ v, e = .returned v ∧ ∃ g, Rs W w' v g ∧ g.length ≤ 6 ∧ ∀ x ∈ g, x.Good) := fun W hW =>
    good_any A n c 6 l W ((hR.below hW).more hW.size) hl hok hn hc (by decide)
  clear hT hJ hR hl hok hc
  go_enter Tryd.func3, Tryd.ntmps3
  go_upto_region 5 with (first
    | (go_at_call 7; refine HBEG.out.mono ?_; rintro e w1 ⟨rfl, hb1⟩; have HB1 := Lib.hid hb1; clear hb1)
    | (go_at_call 8; refine (CG.out _ HB1.out).mono ?_; rintro e w2 ⟨v2, rfl, g, hs2, hg6, hgood⟩))
  have HB2 : Hid (Below w.heap.size w w2) := HB1.out.trans (hs2.below.mono HB1.out.size)
  obtain ⟨A2, c2, rfl, hgc, hc2, hR2⟩ := own_row hs2.row
  have HR2 := Lib.hid hR2
  have HG := Lib.hid hgood
  have hcm2 : c2 ≤ 9223372036854775807 := by unfold maxLen at hc2; exact hc2
  clear hs2 hR2 hgood hc2 CG HBEG HB1
  go_upto_region 7 with fail
  go_loopw [10, 11] (fun v i wr => ∃ (p : Nat) (bs : List UInt8), i = .int .i64 (p : Int) ∧ p ≤ g.length ∧ bs.length ≤ p * 300 ∧ Hid (Bf w2 wr v bs)) (fun _ i _ => g.length - (intOf i).toNat)
  case atStart => exact ⟨0, [], rfl, Nat.zero_le _, Nat.zero_le _, Bf.nil w2⟩
  case round =>
    obtain ⟨p, bs, rfl, hp, hbl, HBF⟩ := hrel
    by_cases hlt : p < g.length
    · obtain ⟨b, o, rfl, hb, _⟩ := HR2.out.2 (by omega)
      obtain ⟨x, hx⟩ : ∃ x, g[p]? = some x := ⟨g[p]'hlt, List.getElem?_eq_getElem _⟩
      obtain ⟨hxm, hxf, hxl⟩ := HG.out x (List.mem_of_getElem? hx)
      have HIT : Hid (∀ W, Below w2.heap.size w2 W → W.rangeAt b (o + p * 6) x.vals.toList) := fun W hW => rec_item (HR2.out.below hW) p x hx
      have CE : Hid (∀ W, Calls Tryd.prog 10 #[.agg x.vals] W fun e w' => ∃ u, e = .returned u ∧ w'.ownsRow W.heap.size 5 1 u (enc x).length (bvs (enc x)) ∧ Below W.heap.size W w') := fun W => refencode_any x W hxf (by unfold maxLen; omega)
      have hel : (enc x).length ≤ 239 := by rw [enc_length x hxm]; omega
      obtain ⟨ex, hex⟩ : ∃ ex, ex = enc x := ⟨_, rfl⟩
      rw [← hex] at CE hel
      clear hex hx hxm hxf hxl
      go_upto_if 30 with fail
      go_cut [10] (fun v w' => ∃ bs', bs'.length ≤ p * 300 + 15 ∧ Hid (Bf w2 w' v bs'))
      case first =>
        by_cases hjp : p < jn
        · obtain ⟨jb, jo, rfl, hjb, hrows⟩ := HJ.out (by omega)
          obtain ⟨A', l', c', js, hcell, hjr, hlc, hcc⟩ := hrows p hjp
          have hBr : Below w.heap.size w wr := HB2.out.trans (HBF.out.below.mono HB2.out.size)
          have jcell : wr.cell? ⟨jb, jo + p, none⟩ = some (.slice A' l' c') := (hBr.cell (p := ⟨jb, jo + p, none⟩) hjb).trans hcell
          have CS := Lib.hid (Com.short_any A' l' c' 15 wr hlc hcc)
          have HJR : Hid (Row wr w.heap.size A' (min l' 15) (bvs (js.take 15))) := Com.short_row hBr hjr
          have hsz := HJR.out.size
          have hll : bs.length + min l' 15 ≤ 1000000 := by omega
          clear hcell hjr hlc hcc hrows hBr
          go_wp2_with (first
            | (go_at_call 9; refine CS.out.mono ?_; rintro e w3 ⟨rfl, rfl⟩)
            | (at_builtin; refine bf_append HBF.out rfl (.tmp 31) (.tmp 36) rfl rfl w.heap.size A' (min l' 15) c' (js.take 15) rfl HJR.out hll ?_; intro v4 w4 HBF4))
          go_meet
          case rel => exact ⟨_, by rw [List.length_append]; omega, HBF4⟩
        · have hjp' : ¬ (p : Int) < (jn : Int) := by omega
          go_wp2_with fail
          go_meet
          case rel => exact ⟨bs, by omega, HBF⟩
      case rest =>
      obtain ⟨bs3, hbl3, HBF3⟩ := hcut
      have HIT3 := Lib.hid (HIT.out _ HBF3.out.below)
      clear HBF HIT
      have hll3 : bs3.length + ex.length ≤ 1000000 := by omega
      go_wp2_with (first
        | (refine load_recM HIT3.out rfl (.tmp 41) rfl rfl ?_)
        | (go_at_call 10; refine (CE.out _).mono ?_; rintro e w5 ⟨u5, rfl, ho5, hb5⟩; obtain ⟨A5, c5, rfl, _, _⟩ := own_form ho5; have HR5 := Lib.hid (Row.own ho5); have HBF5 := Lib.hid (HBF3.out.all hb5); clear ho5 hb5)
        | (at_builtin; refine bf_append HBF5.out rfl (.tmp 38) (.tmp 43) rfl rfl w5.heap.size A5 ex.length c5 ex rfl HR5.out hll3 ?_; intro v6 w6 HBF6))
      go_roundw
      case rel => exact ⟨p + 1, bs3 ++ ex, by go_num, by omega, by rw [List.length_append]; omega, HBF6⟩
      case measure => (simp [intOf]; omega)
    · obtain rfl : p = g.length := by omega
      have hbl2 : bs.length ≤ 2000 := by omega
      have HBr : Hid (Below w.heap.size w wr) := HB2.out.trans (HBF.out.below.mono HB2.out.size)
      obtain ⟨A4, c4, rfl, hnc4, hc4, hR4⟩ := HBF.out.form
      have HR4 := Lib.hid hR4
      clear hR4
      have hcm4 : c4 ≤ 9223372036854775807 := by unfold maxLen at hc4; exact hc4
      obtain ⟨t, ht⟩ : ∃ t, t = decide (0 < bs.length ∧ 0 ≤ k) := ⟨_, rfl⟩
      have HTT := Lib.hid ht
      clear ht
      go_upto_region 12 with fail
      go_cut [51] (fun v w' => v = .bool t ∧ wr = w')
      case first =>
        by_cases hb0 : 0 < bs.length
        · have hb0' : (0 : Int) < (bs.length : Int) := by omega
          by_cases hk0 : 0 ≤ k
          · go_wp2_with fail
            go_meet
            case rel => exact ⟨by rw [HTT.out, decide_eq_true ⟨hb0, hk0⟩], rfl⟩
          · go_wp2_with fail
            go_meet
            case rel => exact ⟨by rw [HTT.out, decide_eq_false (fun h => by omega)], rfl⟩
        · have hb0' : ¬ (0 : Int) < (bs.length : Int) := by omega
          go_wp2_with fail
          go_meet
          case rel => exact ⟨by rw [HTT.out, decide_eq_false (fun h => by omega)], rfl⟩
      case rest =>
      obtain ⟨rfl, rfl⟩ := hcut
      go_upto_if 51 with fail
      go_cut [10] (fun v w' => ∃ bs', bs'.length = bs.length ∧ v = .slice A4 bs.length c4 ∧ Hid (Row w' w'.heap.size A4 bs.length (bvs bs')) ∧ Hid (Below w.heap.size w w'))
      case first =>
        by_cases hbk : 0 < bs.length ∧ 0 ≤ k
        · obtain ⟨hb0, hk0⟩ := hbk
          obtain rfl : t = true := by rw [HTT.out, decide_eq_true ⟨hb0, hk0⟩]
          have hb0' : (0 : Int) < (bs.length : Int) := by omega
          obtain ⟨g4, c5, cur, hv, hg4, _, _, _, _, _⟩ := own_block HBF.out.row hb0
          injection hv with hv1 hv2 hv3
          subst hv1 hv3
          have HO := Lib.hid HBF.out.row
          obtain ⟨K, rfl⟩ : ∃ K : Nat, k = K := ⟨k.toNat, by omega⟩
          obtain ⟨R, hRR⟩ : ∃ R, R = K % bs.length := ⟨_, rfl⟩
          have hRL : R < bs.length := by rw [hRR]; exact Nat.mod_lt _ (by omega)
          have hr1 : (K : Int) % (bs.length : Int) = (R : Int) := by rw [hRR, Int.natCast_emod]
          have hr2 : (K : Int).tmod (bs.length : Int) = (R : Int) := by rw [hRR, Int.tmod_eq_emod_of_nonneg (by omega), Int.natCast_emod]
          have hl0 : ((bs.length : Int) == 0) = false := beq_eq_false_iff_ne.2 (by omega)
          obtain ⟨q, hq⟩ : ∃ q, q = bs.getD R 0 := ⟨_, rfl⟩
          obtain ⟨y1, y2⟩ := own_cells HO.out R hRL
          have hRow := own_put HO.out R (q ^^^ Z) hRL
          rw [← hq] at y1
          have hxo := xor_u8 q Z
          obtain ⟨q2, hq2⟩ : ∃ q2, q2 = q ^^^ Z := ⟨_, rfl⟩
          rw [← hq2] at hRow hxo
          clear hq2
          have hq8 := q.toNat_lt
          have hRi : (R : Int) < (bs.length : Int) := by omega
          have HB6 : Hid (Below w.heap.size w (wr.setCell ⟨g4, R, none⟩ (.int .u8 (q2.toNat : Int)))) := HBr.out.setCell (Nat.le_trans HB2.out.size hg4) _
          have hsz6 : (wr.setCell ⟨g4, R, none⟩ (.int .u8 (q2.toNat : Int))).heap.size = wr.heap.size := by simp [World.setCell]
          have HROW := Lib.hid (hRow.out.more (by omega : wr.heap.size ≤ (wr.setCell ⟨g4, R, none⟩ (.int .u8 (q2.toNat : Int))).heap.size))
          clear hRow hsz6 hq hRR hg4
          go_wp2_with fail
          go_meet
          case rel => exact ⟨bs.set R q2, by rw [List.length_set], rfl, HROW, HB6⟩
        · obtain rfl : t = false := by rw [HTT.out, decide_eq_false hbk]
          go_wp2_with fail
          go_meet
          case rel => exact ⟨bs, rfl, rfl, HR4, HBr⟩
      case rest =>
      obtain ⟨bt, hbt, rfl, HRT, HBT⟩ := hcut
      obtain ⟨N, hN⟩ : ∃ N, N = bs.length := ⟨_, rfl⟩
      rw [← hN] at hbt hbl2 hnc4 HRT
      rw [← hN]
      clear hN HR4 HBr HBF hcm4
      have HL := Lib.hid hbt
      have hnL := Nat.le_trans (all_count bt) (Nat.le_of_eq hbt)
      have hnF := Nat.le_trans (front_count bt) (Nat.le_of_eq hbt)
      have CF : Hid (∀ W, Below wc.heap.size wc W → Calls Tryd.prog 11 #[.slice A4 N c4] W fun e w' => ∃ v, e = .returned (.tuple #[v, .int .i64 ((endOf 0 (frontFrom 0 bt) : Nat) : Int)]) ∧ Fd W 46 w' v (frontFrom 0 bt)) := fun W hW =>
        scanfront_any A4 N c4 bt W (turned_kept HT.out (HBT.out.trans (hW.mono HBT.out.size))) ((HRT.out.below hW).more hW.size) hnc4 hc4 (by omega)
      have CRF : Hid (∀ W, Below wc.heap.size wc W → Calls Tryd.prog 12 #[.slice A4 N c4] W fun e w' => ∃ v, e = .returned (.tuple #[v, .int .i64 ((endOf 0 (frontFrom 0 bt) : Nat) : Int)]) ∧ Fd W 60 w' v (frontFrom 0 bt)) := fun W hW =>
        reffront_any A4 N c4 bt W ((HRT.out.below hW).more hW.size) hnc4 hc4 (by omega)
      have CA : Hid (∀ W, Below wc.heap.size wc W → Calls Tryd.prog 15 #[.slice A4 N c4] W fun e w' => ∃ v, e = .returned v ∧ Fd W 46 w' v (allFrom 0 bt)) := fun W hW =>
        scanall_any A4 N c4 bt W (turned_kept HT.out (HBT.out.trans (hW.mono HBT.out.size))) ((HRT.out.below hW).more hW.size) hnc4 hc4 (by omega)
      have CRA : Hid (∀ W, Below wc.heap.size wc W → Calls Tryd.prog 16 #[.slice A4 N c4] W fun e w' => ∃ v, e = .returned v ∧ Fd W 60 w' v (allFrom 0 bt)) := fun W hW =>
        refall_any A4 N c4 bt W ((HRT.out.below hW).more hW.size) hnc4 hc4 (by omega)
      have HW0 := Lib.hid (Below.refl wc.heap.size wc)
      obtain ⟨F, hF⟩ : ∃ F, frontFrom 0 bt = F := ⟨_, rfl⟩
      obtain ⟨L, hL⟩ : ∃ L, allFrom 0 bt = L := ⟨_, rfl⟩
      obtain ⟨E, hE⟩ : ∃ E, endOf 0 F = E := ⟨_, rfl⟩
      rw [hF, hE] at CF CRF
      rw [hL] at CA CRA
      rw [hF] at hnF
      rw [hL] at hnL
      clear hF hL hE HRT hbt
      go_upto_region 16 with (first
        | (go_at_call 11; refine (CF.out _ HW0.out).mono ?_; rintro e w7 ⟨v7, rfl, h7⟩; obtain ⟨A7, c7, rfl, hn7, hc7, hR7⟩ := h7.form; have HB7 := Lib.hid h7.below; have HR7 := Lib.hid hR7; clear h7 hR7)
        | (go_at_call 12; refine (CRF.out _ HB7.out).mono ?_; rintro e w8 ⟨v8, rfl, h8⟩; obtain ⟨A8, c8, rfl, hn8, hc8, hR8⟩ := h8.form; have HB8 := Lib.hid (HB7.out.trans (h8.below.mono HB7.out.size)); have HR78 := Lib.hid ((HR7.out.below h8.below).more h8.below.size); have HR8 := Lib.hid hR8; clear h8 hR8))
      have hFL : F.length ≤ 100000 := by omega
      have hLL : L.length ≤ 100000 := by omega
      clear hnF hnL hnc4 hc4
      go_wp2_with (first
        | (go_at_call 15; refine (CA.out _ HB8.out).mono ?_; rintro e w9 ⟨v9, rfl, h9⟩; obtain ⟨A9, c9, rfl, hn9, hc9, hR9⟩ := h9.form; have HB9 := Lib.hid (HB8.out.trans (h9.below.mono HB8.out.size)); have HR79 := Lib.hid ((HR78.out.below h9.below).more h9.below.size); have HR89 := Lib.hid ((HR8.out.below h9.below).more h9.below.size); have C9 := Lib.hid (found_any A9 L.length c9 L w9 hR9 rfl hn9 hc9 hLL); clear h9 hR9)
        | (go_at_call 14; with_reducible refine C9.out.mono ?_; rintro e w10 ⟨v10, rfl, h10⟩; obtain ⟨A10, c10, rfl, hn10, hc10, hR10⟩ := h10.form; have HB10 := Lib.hid (HB9.out.trans (h10.below.mono HB9.out.size)); have HR710 := Lib.hid ((HR79.out.below h10.below).more h10.below.size); have HR810 := Lib.hid ((HR89.out.below h10.below).more h10.below.size); have HR10 := Lib.hid hR10; clear h10 hR10)
        | (go_at_call 16; refine (CRA.out _ HB10.out).mono ?_; rintro e w11 ⟨v11, rfl, h11⟩; obtain ⟨A11, c11, rfl, hn11, hc11, hR11⟩ := h11.form; have HB11 := Lib.hid (HB10.out.trans (h11.below.mono HB10.out.size)); have HR711 := Lib.hid ((HR710.out.below h11.below).more h11.below.size); have HR811 := Lib.hid ((HR810.out.below h11.below).more h11.below.size); have C11 := Lib.hid (eqall_any A10 A11 L.length c10 c11 L w11 ((HR10.out.below h11.below).more h11.below.size) hR11 rfl hLL); clear h11 hR11)
        | (go_at_call 13; with_reducible refine C11.out.mono ?_; rintro e w12 ⟨rfl, hb12⟩; have HB12 := Lib.hid (HB11.out.trans (hb12.mono HB11.out.size)); have HR812 := Lib.hid ((HR811.out.below hb12).more hb12.size); have C12 := Lib.hid (found_any A7 F.length c7 F w12 ((HR711.out.below hb12).more hb12.size) rfl hn7 hc7 hFL); clear hb12)
        | (go_at_call 14; with_reducible refine C12.out.mono ?_; rintro e w13 ⟨v13, rfl, h13⟩; obtain ⟨A13, c13, rfl, hn13, hc13, hR13⟩ := h13.form; have HB13 := Lib.hid (HB12.out.trans (h13.below.mono HB12.out.size)); have C13 := Lib.hid (eqall_any A13 A8 F.length c13 c8 F w13 hR13 ((HR812.out.below h13.below).more h13.below.size) rfl hFL); clear h13 hR13)
        | (go_at_call 13; with_reducible refine C13.out.mono ?_; rintro e w14 ⟨rfl, hb14⟩; have HB14 := Lib.hid (HB13.out.trans (hb14.mono HB13.out.size)); clear hb14))
      go_ret
      exact ⟨rfl, HBT.out.trans (HB14.out.mono HBT.out.size)⟩
end Go.Proofs.YtjpgfdpgjfmnoaaDoor.Rec
