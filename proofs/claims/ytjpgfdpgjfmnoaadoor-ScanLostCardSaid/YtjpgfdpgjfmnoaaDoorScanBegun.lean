/-
  Proved: begun of law 7 returns true: one record among other bytes.
  Conditions: the table crc.turned holds its sixteen words.
-/
import Derived.Test.YtjpgfdpgjfmnoaaDoorScanBuf
import Derived.Test.YtjpgfdpgjfmnoaaDoorScanAny
import Derived.Test.YtjpgfdpgjfmnoaaDoorRecRefEnc
import Derived.Lib.SlBytesConst
namespace Go.Proofs.YtjpgfdpgjfmnoaaDoor.Rec
open Go.RowKit
open Go.Proofs.YtjpgfdpgjfmnoaaDoor.Crc (Turned)
set_option linter.unusedVariables false
set_option linter.unusedSimpArgs false

def xU : Rc := ⟨2, 0, 0, 0, 0, [120]⟩
theorem xU_may : xU.May := by decide
theorem xU_fits : xU.Fits := ⟨by decide, by decide, by decide, by decide⟩
theorem xU_len : (enc xU).length = 40 := by rw [enc_length xU xU_may]; rfl
def junkU : List UInt8 := [106, 117, 110, 107, 83]
theorem xU_front : ∃ l, enc xU = 83 :: l := by
  rw [enc_may xU_may]
  exact ⟨_, rfl⟩
theorem u_text : (junkU ++ enc xU).length = 45 := by rw [List.length_append, xU_len]; rfl
theorem u_no : ∀ p, p < 5 → ∀ x n, dec ((junkU ++ enc xU).drop p) ≠ .ok x n := by
  obtain ⟨l, hl⟩ := xU_front
  intro p hp
  rw [hl]
  rcases (show p = 0 ∨ p = 1 ∨ p = 2 ∨ p = 3 ∨ p = 4 by omega) with rfl | rfl | rfl | rfl | rfl
  · exact dec_head (by simp [junkU]) (by simp [junkU])
  · exact dec_head (by simp [junkU]) (by simp [junkU])
  · exact dec_head (by simp [junkU]) (by simp [junkU])
  · exact dec_head (by simp [junkU]) (by simp [junkU])
  · exact dec_head2 (by simp [junkU]) (by simp [junkU])
theorem u_all : allFrom 0 (junkU ++ enc xU) = [(5, xU)] := by
  have hd := dec_behind junkU [] xU xU_may xU_fits (p := 5) rfl
  rw [List.append_nil] at hd
  rw [allFrom_no (by rw [u_text]; decide) (u_no 0 (by decide)), allFrom_no (by rw [u_text]; decide) (u_no 1 (by decide)), allFrom_no (by rw [u_text]; decide) (u_no 2 (by decide)), allFrom_no (by rw [u_text]; decide) (u_no 3 (by decide)), allFrom_no (by rw [u_text]; decide) (u_no 4 (by decide)), allFrom_ok (by rw [u_text]; decide) hd, allFrom_end _ _ (by rw [u_text]; decide)]
theorem u_frontL : frontFrom 0 (junkU ++ enc xU) = [] := frontFrom_no (u_no 0 (by decide))
set_option maxRecDepth 100000 in
set_option maxHeartbeats 8000000 in
theorem scanbegun_any (w : World) (hT : Turned w) : Calls Tryd.prog 7 #[] w fun e w' => e = .returned (.bool true) ∧ Below w.heap.size w w' := by
  have CE : Hid (∀ w, Calls Tryd.prog 10 #[.agg #[.int .i64 2, .int .u32 0, .int .u64 0, .int .u64 0, .int .u64 0, .string ⟨#[120]⟩]] w fun e w' => ∃ u, e = .returned u ∧ w'.ownsRow w.heap.size 5 1 u 40 (bvs (enc xU)) ∧ Below w.heap.size w w') := fun w => by
    have := refencode_any xU w xU_fits (by decide)
    rw [xU_len] at this
    exact this
  have hz := zeroRec
  have HT := Lib.hid hT
  clear hT
  have hcv := fun (w : World) (C : Array Value) (n c : Nat) => Lib.run_convert_bytes_const (P := Tryd.prog) w 26 5 C n c Tryd.underlying26 Tryd.underlying5
  obtain ⟨W1, hW1⟩ : ∃ W1, W1 = w.alloc (.cells #[.int .u8 106, .int .u8 117, .int .u8 110, .int .u8 107, .int .u8 83] 5 (5, 6)) := ⟨_, rfl⟩
  have HB1 : Hid (Below w.heap.size w W1) := by rw [hW1]; exact below_alloc w _
  have HJ : Hid (Row W1 W1.heap.size (some ⟨w.heap.size, 0, none⟩) 5 (bvs junkU)) := by
    rw [hW1]
    exact (Row.fresh w 5 (5, 6) #[.int .u8 106, .int .u8 117, .int .u8 110, .int .u8 107, .int .u8 83]).more (by simp)
  go_enter Tryd.func7, Tryd.ntmps7
  go_wp2_with (first
    | (go_at_call 10; rw [← hW1]; clear hcv; refine (CE.out _).mono ?_; rintro e w2 ⟨u, rfl, ho, hb2⟩; obtain ⟨A, c, rfl, hnc, hc⟩ := own_form ho; have HR2 := Lib.hid (Row.own ho); have HB2 := Lib.hid hb2; obtain ⟨b2, o2, rfl, hlt2, _⟩ := HR2.out.2 (by omega); clear ho hb2)
    | (at_builtin; refine bf_grows rfl (.tmp 6) (.tmp 8) rfl ⟨w.heap.size, 0, none⟩ 5 5 W1.heap.size junkU rfl (HJ.out.below HB2.out) w2.heap.size ⟨b2, o2, none⟩ 40 c (enc xU) rfl HR2.out (by decide) (by decide) ?_; intro v3 w3 HV))
  obtain ⟨A3, c3, rfl, hnc3, hc3, hR3⟩ := HV.out.form
  rw [u_text] at hnc3 hR3
  have hB3 : Below w.heap.size w w3 := (HB1.out.trans (HB2.out.mono HB1.out.size)).trans (HV.out.below.mono ((HB1.out.trans (HB2.out.mono HB1.out.size)).size))
  have CA := scanall_any A3 45 c3 (junkU ++ enc xU) w3 (turned_kept HT.out hB3) hR3 hnc3 hc3 (by decide)
  rw [u_all] at CA
  have HR3 := Lib.hid hR3
  have HB3 := Lib.hid hB3
  have HC3 := Lib.hid hc3
  rw [u_text]
  clear hR3 hB3 hc3 HV HR2 HB2 HB1 HJ hW1 hlt2
  refine CA.mono ?_
  rintro e w4 ⟨v4, rfl, h4⟩
  clear CA CE
  obtain ⟨A4, c4, rfl, hnc4, hc4, hR4⟩ := h4.form
  have hR34 : Row w4 w4.heap.size A3 45 (bvs (junkU ++ enc xU)) := (HR3.out.below h4.below).more h4.below.size
  have CF := scanfront_any A3 45 c3 (junkU ++ enc xU) w4 (turned_kept HT.out (HB3.out.trans (h4.below.mono HB3.out.size))) hR34 hnc3 HC3.out (by decide)
  rw [u_frontL] at CF
  obtain ⟨b4, o4, rfl, hlt4, _⟩ := hR4.2 (by decide)
  have HR4 := Lib.hid hR4
  have HB4 : Hid (Below w.heap.size w w4) := HB3.out.trans (h4.below.mono HB3.out.size)
  have HCF := Lib.hid CF
  clear hR4 hR34 CF h4 HR3 HB3 HC3 hc4 hnc4
  go_upto_region 4 with (go_at_call 11; refine HCF.out.mono ?_; rintro e w5 ⟨v5, rfl, h5⟩; obtain ⟨A5, c5, rfl, _, _, _⟩ := h5.form; have H5 := Lib.hid h5.below; clear h5)
  have hfi := found_item (HR4.out.below H5.out) 0 (5, xU) rfl
  obtain ⟨f0, fr⟩ := found_rec hfi
  obtain ⟨_, _, _, _, _, f6⟩ := range_rec fr
  have g0 : w5.cell? ⟨b4, o4, none⟩ = some (.int .i64 5) := f0
  have g6 : w5.cell? ⟨b4, o4 + 6, none⟩ = some (.string ⟨#[120]⟩) := f6
  have HB5 : Hid (Below w.heap.size w w5) := HB4.out.trans (H5.out.mono HB4.out.size)
  clear hfi f0 fr f6 HCF HR4
  go_wp2_with fail
  go_ret
  exact ⟨rfl, HB5.out⟩
end Go.Proofs.YtjpgfdpgjfmnoaaDoor.Rec
