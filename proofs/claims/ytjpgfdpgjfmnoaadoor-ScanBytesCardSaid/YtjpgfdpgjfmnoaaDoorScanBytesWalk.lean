/-
  Proved: ScanBytes returns true, whatever it is handed.
  Conditions: the table crc.turned holds its sixteen words.
-/
import Derived.Test.YtjpgfdpgjfmnoaaDoorScanChain
import Derived.Test.YtjpgfdpgjfmnoaaDoorScanBegun
import Derived.Test.YtjpgfdpgjfmnoaaDoorScanEqAll
import Derived.Test.YtjpgfdpgjfmnoaaDoorScanRef
import Derived.Test.YtjpgfdpgjfmnoaaDoorShort
import Derived.BigQuiet
namespace Go.Proofs.YtjpgfdpgjfmnoaaDoor.Rec
open Go.RowKit
open Go.Proofs.YtjpgfdpgjfmnoaaDoor.Crc (Turned)
set_option linter.unusedVariables false
set_option linter.unusedSimpArgs false

set_option maxRecDepth 100000 in
set_option maxHeartbeats 8000000 in
theorem scanBytes_walk (A : Option Addr) (n0 c : Nat) (xs : List UInt8) (w : World) (hT : Turned w) (hR : Row w w.heap.size A n0 (bvs xs)) (hn : n0 ≤ c) (hc : c ≤ maxLen) :
    Calls Tryd.prog 5 #[.slice A n0 c] w fun e w' => e = .returned (.bool true) ∧ Below w.heap.size w w' := by
  have hcm : c ≤ 9223372036854775807 := by unfold maxLen at hc; exact hc
  have HBEG := Lib.hid (scanbegun_any w hT)
  have CS : Hid (∀ W, Calls Tryd.prog 9 #[.slice A n0 c, .int .i64 400] W fun e w' => e = .returned (.slice A (min n0 400) c) ∧ W = w') := fun W => Com.short_any A n0 c 400 W hn hc
  have HT := Lib.hid hT
  have HR0 : Hid (Row w w.heap.size A (min n0 400) (bvs (xs.take 400))) := Com.short_row (Below.refl _ _) hR
  obtain ⟨n, hn'⟩ : ∃ n, n = min n0 400 := ⟨_, rfl⟩
  obtain ⟨bs, hbs⟩ : ∃ bs, bs = xs.take 400 := ⟨_, rfl⟩
  rw [← hn'] at CS HR0
  rw [← hbs] at HR0
  have hn400 : n ≤ 400 := by omega
  have hnc : n ≤ c := by omega
  have hsz := HR0.out.size
  have HC := Lib.hid hc
  clear hT hR hn hc hn' hbs
  have CA : Hid (∀ W, Below w.heap.size w W → Calls Tryd.prog 15 #[.slice A n c] W fun e w' => ∃ v, e = .returned v ∧ Fd W 46 w' v (allFrom 0 bs)) := fun W hW =>
    scanall_any A n c bs W (turned_kept HT.out hW) ((HR0.out.below hW).more hW.size) hnc HC.out (by omega)
  have CRA : Hid (∀ W, Below w.heap.size w W → Calls Tryd.prog 16 #[.slice A n c] W fun e w' => ∃ v, e = .returned v ∧ Fd W 60 w' v (allFrom 0 bs)) := fun W hW =>
    refall_any A n c bs W ((HR0.out.below hW).more hW.size) hnc HC.out (by omega)
  have HCH : Hid (Chain bs 0 (allFrom 0 bs)) := all_chain bs _ 0
  have hLL := all_count bs
  obtain ⟨L, hL⟩ : ∃ L, L = allFrom 0 bs := ⟨_, rfl⟩
  rw [← hL] at CA CRA HCH hLL
  have HSZ := Lib.hid hsz
  rw [hsz] at hLL
  clear hL hsz
  go_enter Tryd.func5, Tryd.ntmps5
  go_upto_region 6 with (first
    | (go_at_call 7; refine HBEG.out.mono ?_; rintro e w1 ⟨rfl, hb1⟩; have HB1 := Lib.hid hb1; clear hb1)
    | (go_at_call 9; refine (CS.out _).mono ?_; rintro e w2 ⟨rfl, rfl⟩)
    | (go_at_call 15; refine (CA.out _ HB1.out).mono ?_; rintro e w3 ⟨v3, rfl, h3⟩; obtain ⟨A3, c3, rfl, hn3, hc3, hR3⟩ := h3.form; have HB3 := Lib.hid (HB1.out.trans (h3.below.mono HB1.out.size)); have HR3 := Lib.hid hR3; clear h3 hR3))
  have hcm3 : c3 ≤ 9223372036854775807 := by unfold maxLen at hc3; exact hc3
  go_upto_region 8 with fail
  go_loopw [5, 6] (fun a i wr => ∃ (p e : Nat), i = .int .i64 (p : Int) ∧ a = .int .i64 (e : Int) ∧ p ≤ L.length ∧ e ≤ n ∧ Hid (Chain bs e (L.drop p)) ∧ Hid (Below w3.heap.size w3 wr)) (fun _ i _ => L.length - (intOf i).toNat)
  case atStart => exact ⟨0, 0, rfl, rfl, Nat.zero_le _, Nat.zero_le _, HCH.out, Below.refl _ _⟩
  case round =>
    obtain ⟨p, e, rfl, rfl, hp, hen, HCP, HBr⟩ := hrel
    by_cases hlt : p < L.length
    · obtain ⟨b, o, rfl, hb, _⟩ := HR3.out.2 (by omega)
      obtain ⟨q, hq⟩ : ∃ q, L[p]? = some q := ⟨L[p]'hlt, List.getElem?_eq_getElem _⟩
      have HIT : Hid (∀ W, Below w3.heap.size w3 W → W.cell? ⟨b, o + p * 7, none⟩ = some (.int .i64 (q.1 : Int)) ∧ W.rangeAt b (o + p * 7 + 1) q.2.vals.toList) := fun W hW => found_rec (found_item (HR3.out.below hW) p q hq)
      obtain ⟨h1, h2, h3, h4, h5, h6⟩ := chain_one HCP.out hq
      have HC6 := Lib.hid h6
      rw [HSZ.out] at h2
      obtain ⟨at', x⟩ := q
      dsimp only at h1 h2 h3 h4 h5 HIT HC6
      obtain ⟨E, hE⟩ : ∃ E, E = 39 + x.body.length := ⟨_, rfl⟩
      have hel := enc_length x h3
      rw [← hE] at h2 h5 hel HC6
      have hE39 : 39 ≤ E := by omega
      have CE : Hid (∀ W, Calls Tryd.prog 10 #[.agg x.vals] W fun e w' => ∃ u, e = .returned u ∧ w'.ownsRow W.heap.size 5 1 u E (bvs (enc x)) ∧ Below W.heap.size W w') := fun W => by
        have := refencode_any x W h4 (by unfold maxLen; omega)
        rwa [hel] at this
      obtain ⟨ab, ao, rfl, hab, _⟩ := HR0.out.2 (by omega)
      have HPT : Hid (∀ W, Below w.heap.size w W → Row W w.heap.size (some ⟨ab, ao + at', none⟩) E (bvs (enc x))) := fun W hW => by
        have := (row_from (HR0.out.below hW) (show at' < n by omega)).take (k := E) (by omega)
        rw [bvs_take] at this
        rw [h5]
        exact this
      obtain ⟨s, hs⟩ : ∃ s, s = str (enc x) := ⟨_, rfl⟩
      have HS := Lib.hid hs
      obtain ⟨i1, i2⟩ := HIT.out wr HBr.out
      have HI2 := Lib.hid i2
      clear hq h3 h4 h5 h6 hE hel hs i2 HCP
      have j1 : ¬ (at' : Int) < (e : Int) := by omega
      have j2 : ¬ (n : Int) < (at' : Int) := by omega
      have j3 : ¬ c = at' := by omega
      go_upto_region 13 with (first
        | (refine load_recM HI2.out rfl (.tmp 41) rfl rfl ?_)
        | (go_at_call 10; refine (CE.out _).mono ?_; rintro e w5 ⟨u5, rfl, ho5, hb5⟩; have HO5 := Lib.hid ho5; have HB5 := Lib.hid (HBr.out.trans (hb5.mono HBr.out.size)); clear ho5 hb5))
      have HB05 : Hid (Below w.heap.size w w5) := HB3.out.trans (HB5.out.mono HB3.out.size)
      obtain ⟨A5, c5, rfl, _, _⟩ := own_form HO5.out
      have v1 : ∀ k, (w5.drewN k).cell? ⟨b, o + p * 7, none⟩ = some (.int .i64 (at' : Int)) := fun k => (HIT.out _ (below_drewN HB5.out k)).1
      have v0 := v1 0
      have cv1 : ∀ k, (convert 26 9 (.slice (some ⟨ab, ao + at', none⟩) E (c - at'))).run Tryd.prog (w5.drewN k) = .ok (.string s) (w5.drewN k) := fun k => conv_row (HPT.out _ (below_drewN HB05.out k)) HS
      have cv2 : ∀ k, (convert 26 9 (.slice A5 E c5)).run Tryd.prog (w5.drewN k) = .ok (.string s) (w5.drewN k) := fun k => conv_row (B := w5.heap.size) ((Row.own HO5.out).below (below_drewN (Below.refl _ _) k)) HS
      have j4 : ((E : Int) == 0) = false := beq_eq_false_iff_ne.2 (by omega)
      have j5 : ¬ (n : Int) - (at' : Int) < (E : Int) := by omega
      have j6 : decide ((n : Int) - (at' : Int) < (E : Int)) = false := decide_eq_false j5
      go_quiet (fail)
      have v2 := v1 nq
      clear cv1 cv2 v1 v0
      go_wp2_with fail
      go_roundw
      case rel => exact ⟨p + 1, at' + E, by go_num, by go_num, by omega, h2, HC6.out, below_drewN HB5.out nq⟩
      case measure => (simp [intOf]; omega)
    · obtain rfl : p = L.length := by omega
      have C9 : Hid (Calls Tryd.prog 14 #[.slice A3 L.length c3] wr fun e w' => ∃ v, e = .returned v ∧ Fd wr 60 w' v L) :=
        found_any A3 L.length c3 L wr ((HR3.out.below HBr.out).more HBr.out.size) rfl hn3 hc3 (by omega)
      have HB8 : Hid (Below w.heap.size w wr) := HB3.out.trans (HBr.out.mono HB3.out.size)
      have hLL2 : L.length ≤ 100000 := by omega
      go_wp2_with (first
        | (go_at_call 14; refine C9.out.mono ?_; rintro e w10 ⟨v10, rfl, h10⟩; obtain ⟨A10, c10, rfl, hn10, hc10, hR10⟩ := h10.form; have HB10 := Lib.hid (HB8.out.trans (h10.below.mono HB8.out.size)); have HR10 := Lib.hid hR10; clear h10 hR10)
        | (go_at_call 16; refine (CRA.out _ HB10.out).mono ?_; rintro e w11 ⟨v11, rfl, h11⟩; obtain ⟨A11, c11, rfl, hn11, hc11, hR11⟩ := h11.form; have HB11 := Lib.hid (HB10.out.trans (h11.below.mono HB10.out.size)); have C11 := Lib.hid (eqall_any A10 A11 L.length c10 c11 L w11 ((HR10.out.below h11.below).more h11.below.size) hR11 rfl hLL2); clear h11 hR11)
        | (go_at_call 13; refine C11.out.mono ?_; rintro e w12 ⟨rfl, hb12⟩; have HB12 := Lib.hid (HB11.out.trans (hb12.mono HB11.out.size)); clear hb12))
      go_ret
      exact ⟨rfl, HB12.out⟩
end Go.Proofs.YtjpgfdpgjfmnoaaDoor.Rec
