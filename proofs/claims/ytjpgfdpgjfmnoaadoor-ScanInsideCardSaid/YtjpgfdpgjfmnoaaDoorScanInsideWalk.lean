/-
  Proved: ScanInside returns true, whatever it is handed.
  Conditions: the table crc.turned holds its sixteen words; the numbers are those of values.
-/
import Derived.Test.YtjpgfdpgjfmnoaaDoorScanInner
import Derived.Test.YtjpgfdpgjfmnoaaDoorScanBegun
import Derived.Test.YtjpgfdpgjfmnoaaDoorRecHead
namespace Go.Proofs.YtjpgfdpgjfmnoaaDoor.Rec
open Go.RowKit
open Go.Proofs.YtjpgfdpgjfmnoaaDoor.Crc (Turned)
set_option linter.unusedVariables false
set_option linter.unusedSimpArgs false

theorem one_front {x : Rc} (hm : x.May) (hf : x.Fits) : frontFrom 0 (enc x) = [(0, x)] ∧ endOf 0 (frontFrom 0 (enc x)) = (enc x).length ∧ allFrom 0 (enc x) = [(0, x)] := by
  have hd : dec ((enc x).drop 0) = .ok x (39 + x.body.length) := by rw [List.drop_zero]; exact dec_enc x hm hf
  have hl := enc_length x hm
  have hno : ∀ y n, dec ((enc x).drop (0 + (39 + x.body.length))) ≠ .ok y n := by
    rw [Nat.zero_add, ← hl, List.drop_length, dec_nil]
    intro y n h
    cases h
  have h1 : frontFrom 0 (enc x) = [(0, x)] := by rw [frontFrom_ok hd, frontFrom_no hno]
  refine ⟨h1, ?_, ?_⟩
  · rw [h1, hl]
    show 0 + _ = _
    rw [Nat.zero_add]
  · rw [allFrom_ok (by rw [hl]; omega) hd, allFrom_end _ _ (by rw [hl]; omega)]
set_option maxRecDepth 100000 in
set_option maxHeartbeats 8000000 in
theorem scanInside_walk (n0 : Int) (z : Int) (w : World) (hT : Turned w) (hn0 : -9223372036854775808 ≤ n0 ∧ n0 ≤ 9223372036854775807) (hzw : (Lit.int .u8 z).wf = true) :
    Calls Tryd.prog 6 #[.int .i64 n0, .int .u8 z] w fun e w' => e = .returned (.bool true) ∧ Below w.heap.size w w' := by
  obtain ⟨Z, rfl⟩ : ∃ Z : UInt8, z = (Z.toNat : Int) := ⟨UInt8.ofNat z.toNat, by
    have := bounds_u8 hzw
    rw [UInt8.toNat_ofNat']
    omega⟩
  have hZ := Z.toNat_lt
  clear hzw hn0
  have HBEG := Lib.hid (scanbegun_any w hT)
  have HT := Lib.hid hT
  have hz := zeroRec
  clear hT
  by_cases hlow : n0 < 1
  · go_enter Tryd.func6, Tryd.ntmps6
    go_wp2_with (go_at_call 7; refine HBEG.out.mono ?_; rintro e w1 ⟨rfl, hb1⟩; have HB1 := Lib.hid hb1; clear hb1)
    go_ret
    exact ⟨rfl, HB1.out⟩
  by_cases hhi : 15 < n0
  · go_enter Tryd.func6, Tryd.ntmps6
    go_wp2_with (go_at_call 7; refine HBEG.out.mono ?_; rintro e w1 ⟨rfl, hb1⟩; have HB1 := Lib.hid hb1; clear hb1)
    go_ret
    exact ⟨rfl, HB1.out⟩
  obtain ⟨n, rfl⟩ : ∃ n : Nat, n0 = n := ⟨n0.toNat, by omega⟩
  have hn1 : 1 ≤ n := by omega
  have hn15 : n ≤ 15 := by omega
  have CI : Hid (∀ i : Nat, i < 256 → ∀ W, Calls Tryd.prog 18 #[.int .i64 (i : Int), .int .u8 (Z.toNat : Int)] W fun e w' => e = .returned (.agg (rcI i Z).vals) ∧ Below W.heap.size W w') := fun i hi W => inner_any i Z W hi
  go_enter Tryd.func6, Tryd.ntmps6
  go_upto_region 8 with (go_at_call 7; refine HBEG.out.mono ?_; rintro e w1 ⟨rfl, hb1⟩; have HB1 := Lib.hid hb1; clear hb1)
  go_loopw [6, 7] (fun v i wr => ∃ (p : Nat) (l : List UInt8), i = .int .i64 (p : Int) ∧ v = .string (str l) ∧ p ≤ n ∧ l.length = p * 41 ∧ Hid (Below w.heap.size w wr)) (fun _ i _ => n - (intOf i).toNat)
  case atStart => exact ⟨0, [], rfl, rfl, Nat.zero_le _, rfl, HB1⟩
  case round =>
    obtain ⟨p, l, rfl, rfl, hp, hl, HB⟩ := hrel
    by_cases hlt : p < n
    · have CE : Hid (∀ W, Calls Tryd.prog 10 #[.agg (rcI p Z).vals] W fun e w' => ∃ u, e = .returned u ∧ w'.ownsRow W.heap.size 5 1 u 41 (bvs (enc (rcI p Z))) ∧ Below W.heap.size W w') := fun W => by
        have := refencode_any (rcI p Z) W (rcI_fits p Z (by omega)) (by show 2 ≤ _; decide)
        have el : (enc (rcI p Z)).length = 41 := by rw [enc_length _ (rcI_may p Z (by omega))]; rfl
        rwa [el] at this
      have CIp := Lib.hid (CI.out p (by omega))
      have el : (enc (rcI p Z)).length = 41 := by rw [enc_length _ (rcI_may p Z (by omega))]; rfl
      obtain ⟨ex, hex⟩ : ∃ ex, ex = enc (rcI p Z) := ⟨_, rfl⟩
      obtain ⟨r, hr⟩ : ∃ r, r = rcI p Z := ⟨_, rfl⟩
      rw [← hex] at CE el
      rw [← hr] at CE CIp
      clear hex hr
      obtain ⟨s, hs⟩ : ∃ s, s = str ex := ⟨_, rfl⟩
      obtain ⟨t, ht⟩ : ∃ t, t = str l := ⟨_, rfl⟩
      have HS := Lib.hid hs
      have HTT := Lib.hid ht
      rw [← ht]
      clear ht
      have hss : s.size = 41 := by rw [hs, str_size, el]
      have hts : t.size = p * 41 := by rw [HTT.out, str_size, hl]
      clear hs
      go_upto_region 11 with (first
        | (go_at_call 18; refine (CIp.out _).mono ?_; rintro e w2 ⟨rfl, hb2⟩; have HB2 := Lib.hid (HB.out.trans (hb2.mono HB.out.size)); clear hb2)
        | (go_at_call 10; refine (CE.out _).mono ?_; rintro e w3 ⟨u3, rfl, ho3, hb3⟩; obtain ⟨A3, c3, rfl, hcv3⟩ := conv_own ho3 HS;  have HB3 := Lib.hid (HB2.out.trans (hb3.mono HB2.out.size)); clear ho3 hb3))
      go_wp2_with fail
      go_roundw
      case rel => exact ⟨p + 1, l ++ ex, by go_num, by rw [HTT.out, HS.out, str_append], by omega, by rw [List.length_append, hl, el]; omega, HB3⟩
      case measure => (simp [intOf]; omega)
    · obtain rfl : p = n := by omega
      obtain ⟨y, hy⟩ : ∃ y, y = withBody (rcI 99 Z) l := ⟨_, rfl⟩
      have hym : y.May := by
        rw [hy]
        obtain ⟨m1, m2, m3, m4, m5, _⟩ := rcI_may 99 Z (by decide)
        exact ⟨m1, m2, m3, m4, m5, by show l.length ≤ 1000; omega⟩
      have hyf : y.Fits := by
        rw [hy]
        obtain ⟨m1, m2, m3, m4⟩ := rcI_fits 99 Z (by decide)
        exact ⟨m1, m2, m3, m4⟩
      have hyl : y.body.length = p * 41 := by rw [hy]; exact hl
      have el := enc_length y hym
      obtain ⟨h1, h2, h3⟩ := one_front hym hyf
      obtain ⟨E, hE⟩ : ∃ E, E = (enc y).length := ⟨_, rfl⟩
      have hE2 : E ≤ 1000 := by omega
      have CE : Hid (∀ W, Calls Tryd.prog 10 #[.agg y.vals] W fun e w' => ∃ u, e = .returned u ∧ w'.ownsRow W.heap.size 5 1 u E (bvs (enc y)) ∧ Below W.heap.size W w') := fun W => by
        have := refencode_any y W hyf (by unfold maxLen; omega)
        rwa [← hE] at this
      rw [← hE] at h2
      have H1 := Lib.hid h1
      have H2 := Lib.hid h2
      have H3 := Lib.hid h3
      have CIp := Lib.hid (CI.out 99 (by decide))
      have HY := Lib.hid hy
      obtain ⟨r, hr⟩ : ∃ r, r = rcI 99 Z := ⟨_, rfl⟩
      rw [← hr] at CIp HY
      obtain ⟨ex, hex⟩ : ∃ ex, ex = enc y := ⟨_, rfl⟩
      rw [← hex] at CE H1 H2 H3
      obtain ⟨t, ht⟩ : ∃ t, t = str l := ⟨_, rfl⟩
      have HTT := Lib.hid ht
      rw [← ht]
      clear hex hr hE h1 h2 h3 hym hyf hy hyl el hl CI ht
      go_upto_region 13 with (first
        | (go_at_call 18; refine (CIp.out _).mono ?_; rintro e w2 ⟨rfl, hb2⟩; have HB2 := Lib.hid (HB.out.trans (hb2.mono HB.out.size)); clear hb2)
        | (refine store_recN (zero_new w2) rfl rfl (.tmp 9) (.tmp 36) rfl rfl r rfl rfl ?_; intro w3 X3 G3))
      have HB3 : Hid (Below w.heap.size w w3) := below_only (HB2.out.alloc HB2.out.size _) (only_hid G3) HB2.out.size (by have := HB2.out.size; simp; omega)
      have y5 : w3.cell? ⟨w2.heap.size, 5, none⟩ = some (.string (str r.body)) := X3.out.cell 5
      have f5 : w3.frozen? ⟨w2.heap.size, 5, none⟩ = false := X3.out.free 5
      clear G3
      go_upto_region 14 with fail
      obtain ⟨w4, hw4⟩ : ∃ w4, w4 = w3.setCell ⟨w2.heap.size, 5, none⟩ (.string t) := ⟨_, rfl⟩
      have X4 : Hid (RecAt w4 w2.heap.size y) := by
        rw [hw4, HTT.out, HY.out]
        exact X3.out.body _
      have HB4 : Hid (Below w.heap.size w w4) := by
        rw [hw4]
        exact HB3.out.setCell (show w.heap.size ≤ w2.heap.size from HB2.out.size) _
      rw [← hw4]
      clear hw4 y5 f5 X3 HB3
      go_upto_region 15 with (first
        | (refine load_rec X4.out rfl (.tmp 9) rfl rfl ?_)
        | (go_at_call 10; refine (CE.out _).mono ?_; rintro e w5 ⟨u5, rfl, ho5, hb5⟩; obtain ⟨A5, c5, rfl, hnc5, hc5⟩ := own_form ho5; have HB5 := Lib.hid (HB4.out.trans (hb5.mono HB4.out.size)); have HR5 := Lib.hid (Row.own ho5); have CF := scanfront_any A5 E c5 ex _ (turned_kept HT.out HB5.out) HR5.out hnc5 hc5 (by omega); rw [H2.out, H1.out] at CF; have HCF := Lib.hid CF; clear ho5 hb5 CF))
      go_upto_region 16 with (go_at_call 11; refine HCF.out.mono ?_; rintro e w6 ⟨v6, rfl, h6⟩; obtain ⟨A6, c6, rfl, _, _, _⟩ := h6.form; have HB6 := Lib.hid (HB5.out.trans (h6.below.mono HB5.out.size)); have CA := scanall_any A5 E c5 ex _ (turned_kept HT.out HB6.out) ((HR5.out.below h6.below).more h6.below.size) hnc5 hc5 (by omega); rw [H3.out] at CA; have HCA := Lib.hid CA; clear CA h6)
      go_wp2_with (go_at_call 15; refine HCA.out.mono ?_; rintro e w7 ⟨v7, rfl, h7⟩; obtain ⟨A7, c7, rfl, _, _, _⟩ := h7.form; have HB7 := Lib.hid (HB6.out.trans (h7.below.mono HB6.out.size)); clear h7)
      go_ret
      exact ⟨rfl, HB7.out⟩
end Go.Proofs.YtjpgfdpgjfmnoaaDoor.Rec
