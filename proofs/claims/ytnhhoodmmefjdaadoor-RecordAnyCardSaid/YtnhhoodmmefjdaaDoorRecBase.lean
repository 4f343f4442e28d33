/-
  Proved: law 6's 'begun' returns true, and turns nothing that lay.
  Conditions: the table crc.turned holds its sixteen words.
-/
import Derived.Test.YtnhhoodmmefjdaaDoorRecDecode
namespace Go.Proofs.YtnhhoodmmefjdaaDoor.Rec
open Go.RowKit
open Go.Proofs.YtnhhoodmmefjdaaDoor.Crc (Turned)
set_option linter.unusedVariables false
set_option linter.unusedSimpArgs false

def xB : Rc := ⟨2, 2, 0, 0, 0, [97, 98]⟩
theorem xB_may : xB.May := by decide
theorem xB_fits : xB.Fits := ⟨by decide, by decide, by decide, by decide⟩
theorem xB_len : (enc xB).length = 41 := by rw [enc_may xB_may, xB.bytes_length]; rfl
theorem xB_dec : dec (enc xB) = .ok xB 41 := by
  have := dec_bytes xB [] xB_may xB_fits
  rw [List.append_nil, ← enc_may xB_may] at this
  exact this
theorem xB_cut : dec ((enc xB).take 10) = .more := by
  refine dec_front xB _ ((enc xB).drop 10) xB_may xB_fits ?_ ?_
  · rw [List.take_append_drop, enc_may xB_may]
  · rw [List.length_drop, xB_len]
    decide
set_option maxRecDepth 100000 in
set_option maxHeartbeats 4000000 in
theorem begun_any (w : World) (hT : Turned w) : Calls Tryd.prog 8 #[] w fun e w' => e = .returned (.bool true) ∧ Below w.heap.size w w' := by
  have CE : Calls Tryd.prog 10 #[.agg #[.int .i64 2, .int .u32 2, .int .u64 0, .int .u64 0, .int .u64 0, .string ⟨#[97, 98]⟩]] w fun e w' => ∃ u, e = .returned u ∧ w'.ownsRow w.heap.size 5 1 u (enc xB).length (bvs (enc xB)) ∧ Below w.heap.size w w' := encode_any xB w hT xB_fits (by decide)
  rw [xB_len] at CE
  have hz := zeroRec
  have HT := Lib.hid hT
  clear hT
  go_enter Tryd.func8, Tryd.ntmps8
  go_wp2_with fail
  refine CE.mono ?_
  rintro e w1 ⟨u, rfl, ho, hb1⟩
  obtain ⟨A, c, rfl, hnc, hc⟩ := own_form ho
  have hR := Row.own ho
  have CD := decode_any A 41 c _ w1 (turned_below HT.out hb1 rfl) hR hnc hc
  rw [xB_dec] at CD
  obtain ⟨b, o, rfl, _, _⟩ := hR.2 (by omega)
  have hm : c ≤ 9223372036854775807 := by unfold maxLen at hc; exact hc
  have HR1 := Lib.hid hR
  have HB1 := Lib.hid hb1
  have HCD : Hid (Calls Tryd.prog 14 #[.slice (some ⟨b, o, none⟩) 41 c] w1 fun e w' => e = .returned (.tuple #[.agg xB.vals, .int .i64 41, .int .i64 0]) ∧ Below w1.heap.size w1 w') := CD
  have HC := Lib.hid hc
  clear CE ho hb1 hR CD hc
  go_upto_region 5 with (first
    | (go_at_call 14; refine HCD.out.mono ?_; rintro e w2 ⟨rfl, hb2⟩; have HB2 := Lib.hid hb2; clear hb2)
    | (refine store_rec (zero_new w2) rfl rfl (.tmp 2) (.tmp 16) rfl rfl xB rfl ?_; intro w3 X3 G3))
  have HB2' : Hid (Below w.heap.size w w2) := HB1.out.trans (HB2.out.mono HB1.out.size)
  have hg12 : w1.heap.size ≤ w2.heap.size := HB2.out.size
  have HB3 : Hid (Below w.heap.size w w3) := below_only (HB2'.out.alloc HB2'.out.size _) (only_hid G3) HB2'.out.size (by have := HB2'.out.size; simp; omega)
  have HB13 : Hid (Below w1.heap.size w1 w3) := below_only (HB2.out.alloc HB2.out.size _) (only_hid G3) hg12 (by simp; omega)
  have hR3 : Row w3 w3.heap.size (some ⟨b, o, none⟩) 10 (bvs ((enc xB).take 10)) := by
    have := (HR1.out.below HB13.out).take (k := 10) (by omega)
    rw [bvs_take] at this
    exact this.more HB13.out.size
  have CD3 := decode_any (some ⟨b, o, none⟩) 10 c _ w3 (turned_below HT.out HB3.out rfl) hR3 (by omega) HC.out
  rw [xB_cut] at CD3
  have HCD3 : Hid (Calls Tryd.prog 14 #[.slice (some ⟨b, o, none⟩) 10 c] w3 fun e w' => e = .returned (.tuple #[.agg zeroRc.vals, .int .i64 0, .int .i64 11]) ∧ Below w3.heap.size w3 w') := CD3
  have hx3 : w2.heap.size < w3.heap.size := X3.out.lt
  clear HCD HB2 HB2' HB1 HB13 hR3 CD3 HR1 G3
  go_upto_region 6 with (first
    | (go_at_call 14; refine HCD3.out.mono ?_; rintro e w4 ⟨rfl, hb4⟩; have HB4 := Lib.hid hb4; clear hb4)
    | (refine store_rec (zero_new w4) rfl rfl (.tmp 5) (.tmp 23) rfl rfl zeroRc rfl ?_; intro w5 X5 G5))
  have hg34 : w3.heap.size ≤ w4.heap.size := HB4.out.size
  have HB4' : Hid (Below w.heap.size w w4) := HB3.out.trans (HB4.out.mono HB3.out.size)
  have HX : Hid (RecAt w5 w2.heap.size xB) := ((X3.out.below HB4.out hx3).below (below_alloc w4 _) (by omega)).kept (only_hid G5) (by intro e; injection e; omega)
  have HB5 : Hid (Below w.heap.size w w5) := below_only (HB4'.out.alloc HB4'.out.size _) (only_hid G5) HB4'.out.size (by have := HB4'.out.size; simp; omega)
  have y5 : w5.cell? ⟨w2.heap.size, 5, none⟩ = some (.string ⟨#[97, 98]⟩) := HX.out.cell 5
  have y1 : w5.cell? ⟨w2.heap.size, 1, none⟩ = some (.int .u32 2) := HX.out.cell 1
  clear HX HB4 HB4' HB3 X3 X5 G5 HCD3
  go_wp2_with fail
  go_ret
  exact ⟨rfl, HB5.out⟩
end Go.Proofs.YtnhhoodmmefjdaaDoor.Rec
