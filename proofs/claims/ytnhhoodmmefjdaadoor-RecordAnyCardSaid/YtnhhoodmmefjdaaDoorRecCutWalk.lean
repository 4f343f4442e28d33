/-
  Proved: RecordCut returns true, whatever it is handed.
  Conditions: the table crc.turned holds its sixteen words; the numbers are those of values.
-/
import Derived.Test.YtnhhoodmmefjdaaDoorRecEndsWalk
import Derived.Test.YtnhhoodmmefjdaaDoorRecTable
namespace Go.Proofs.YtnhhoodmmefjdaaDoor.Rec
open Go.RowKit
open Go.Proofs.YtnhhoodmmefjdaaDoor.Crc (Turned)
set_option linter.unusedVariables false
set_option linter.unusedSimpArgs false

theorem Rc.Ok.cut {x : Rc} (h : x.Ok) (m : Nat) (hm : m ≤ maxLen) : (x.cut m).Ok :=
  ⟨h.kind, ⟨h.fits.tenant, h.fits.epoch, h.fits.object, h.fits.seq⟩, by show (x.body.take m).length ≤ maxLen; rw [List.length_take]; have := h.body; omega⟩
theorem cut_small (x : Rc) (m : Nat) : (x.cut m).body.length ≤ m := by
  show (x.body.take m).length ≤ m
  rw [List.length_take]
  omega
theorem dec_cut (y : Rc) (m : Nat) (hy : y.May) (hf : y.Fits) (hm : m < y.bytes.length) : dec ((enc y).take m) = .more := by
  rw [enc_may hy]
  refine dec_front y _ (y.bytes.drop m) hy hf ?_ ?_
  · rw [List.take_append_drop]
  · rw [List.length_drop]
    omega
set_option maxRecDepth 100000 in
set_option maxHeartbeats 8000000 in
theorem recordCut_walk (x : Rc) (k : Int) (w : World) (hT : Turned w) (hx : x.Ok) (hk : -9223372036854775808 ≤ k ∧ k ≤ 9223372036854775807) :
    Calls Tryd.prog 5 #[.agg x.vals, .int .i64 k] w fun e w' => e = .returned (.bool true) ∧ Below w.heap.size w w' := by
  obtain ⟨hk1, hk2⟩ := hk
  obtain ⟨w0, hw0⟩ : ∃ w0, w0 = w.alloc (.cells x.vals 25) := ⟨_, rfl⟩
  have X0 : Hid (RecAt w0 w.heap.size x) := by rw [hw0]; exact RecAt.new w x
  have hB0 : Below w.heap.size w w0 := by rw [hw0]; exact below_alloc w _
  have HBEG := Lib.hid (begun_any w0 (turned_below hT hB0 rfl))
  have HB0 := Lib.hid hB0
  have HT := Lib.hid hT
  have HX := Lib.hid hx
  have hz := zeroRec
  clear hB0 hT hx
  obtain ⟨y, hy⟩ : ∃ y, y = x.cut 200 := ⟨_, rfl⟩
  have hyo : y.Ok := by rw [hy]; exact HX.out.cut 200 (by decide)
  have hyl : y.body.length ≤ 200 := by rw [hy]; exact cut_small x 200
  have HYO := Lib.hid hyo
  have HYY := Lib.hid hy
  clear hyo hy
  have h0lt : w.heap.size < w0.heap.size := X0.out.lt
  have CC : Hid (∀ w, Calls Tryd.prog 9 #[.agg x.vals, .int .i64 200] w fun e w' => e = .returned (.agg y.vals) ∧ Below w.heap.size w w') := fun w => by
    rw [HYY.out]
    exact cut_any x 200 w HX.out.body (by decide)
  have CM : Hid (∀ w, Calls Tryd.prog 13 #[.agg y.vals] w fun e w' => e = .returned (.bool y.may) ∧ Below w.heap.size w w') := fun w => refmay_any y w HYO.out.body
  go_enter Tryd.func5, Tryd.ntmps5
  go_upto_region 1 with fail
  rw [← hw0]
  clear hw0
  go_upto_region 5 with (first
    | (go_at_call 8; refine HBEG.out.mono ?_; rintro e w1 ⟨rfl, hb1⟩; have X1 := Lib.hid (X0.out.below hb1 h0lt); have HB1 := Lib.hid (HB0.out.trans (hb1.mono (Nat.le_of_lt h0lt))); clear hb1)
    | (refine load_rec X1.out rfl (.tmp 2) rfl rfl ?_)
    | (go_at_call 9; refine (CC.out _).mono ?_; rintro e w2 ⟨rfl, hb2⟩; have X2 := Lib.hid (X1.out.below hb2 X1.out.lt); have HB2 := Lib.hid (HB1.out.trans (hb2.mono HB1.out.size)); clear hb2)
    | (refine store_recN X2.out rfl rfl (.tmp 2) (.tmp 14) rfl rfl y rfl rfl ?_; intro w3 X3 G3))
  have HB3 : Hid (Below w.heap.size w w3) := below_only HB2.out (only_hid G3) (Nat.le_refl _) HB2.out.size
  clear X0 X1 X2 HB0 HB1 HB2 G3 HBEG CC
  by_cases hm : y.May
  case neg =>
    have em := may_false hm
    clear hm
    go_wp2_with (first
      | (refine load_rec X3.out rfl (.tmp 2) rfl rfl ?_)
      | (go_at_call 13; refine (CM.out _).mono ?_; rw [em]; rintro e w4 ⟨rfl, hb4⟩; have HB4 := Lib.hid (HB3.out.trans (hb4.mono HB3.out.size)); clear hb4))
    go_ret
    exact ⟨rfl, HB4.out⟩
  have em := may_true hm
  have HM := Lib.hid hm
  have el : (enc y).length = 39 + y.body.length := by rw [enc_may hm, y.bytes_length]
  clear hm
  go_upto_region 8 with (first
      | (refine load_rec X3.out rfl (.tmp 2) rfl rfl ?_)
      | (go_at_call 13; refine (CM.out _).mono ?_; rw [em]; rintro e w4 ⟨rfl, hb4⟩; have HB4 := Lib.hid (HB3.out.trans (hb4.mono HB3.out.size)); have X4 := Lib.hid (X3.out.below hb4 X3.out.lt); have CE := Lib.hid (encode_any y w4 (turned_below HT.out HB4.out rfl) HYO.out.fits HYO.out.body); rw [el] at CE; clear hb4)
      | (refine load_rec X4.out rfl (.tmp 2) rfl rfl ?_)
      | (go_at_call 10; refine CE.out.mono ?_; rintro e w5 ⟨u, rfl, ho, hb5⟩; obtain ⟨A, c, rfl, hnc, hc⟩ := own_form ho; have HR5 := Lib.hid (Row.own ho); have HB5 := Lib.hid (HB4.out.trans (hb5.mono HB4.out.size)); have HNC := Lib.hid hnc; have HC := Lib.hid hc; clear ho hb5 hnc hc))
  obtain ⟨L, hL⟩ : ∃ L, L = 39 + y.body.length := ⟨_, rfl⟩
  rw [← hL] at el HR5 HNC ⊢
  have hLb : 39 ≤ L ∧ L ≤ 239 := by omega
  have HEL := Lib.hid el
  clear hL el CE X3 X4 HB3 HB4 CM
  by_cases h1 : k < 1
  case pos =>
    go_wp2_with fail
    go_ret
    exact ⟨by simp [h1], HB5.out⟩
  by_cases h2 : (L : Int) < k
  case pos =>
    go_wp2_with fail
    go_ret
    exact ⟨by simp [h2], HB5.out⟩
  obtain ⟨K, rfl⟩ : ∃ K : Nat, k = K := ⟨k.toNat, by omega⟩
  obtain ⟨b, o, rfl, _, _⟩ := HR5.out.2 (by omega)
  obtain ⟨M, hM⟩ : ∃ M, L = M + K := ⟨L - K, by omega⟩
  have hMi : (L : Int) - (K : Int) = (M : Int) := by omega
  have hnc := HNC.out
  have hMc : (M : Int) ≤ (c : Int) := by omega
  have hRM : Row w5 w5.heap.size (some ⟨b, o, none⟩) M (bvs ((enc y).take M)) := by
    have := HR5.out.take (k := M) (by omega)
    rw [bvs_take] at this
    exact this
  have hd : dec ((enc y).take M) = .more := dec_cut y M HM.out HYO.out.fits (by rw [← enc_may HM.out, HEL.out]; omega)
  have CD0 := decode_any (some ⟨b, o, none⟩) M c _ w5 (turned_below HT.out HB5.out rfl) hRM (by omega) HC.out
  rw [hd] at CD0
  have CD : Hid (Calls Tryd.prog 14 #[.slice (some ⟨b, o, none⟩) M c] w5 fun e w' => e = .returned (.tuple #[.agg zeroRc.vals, .int .i64 0, .int .i64 11]) ∧ Below w5.heap.size w5 w') := CD0
  have hM9 : M ≤ 239 := by omega
  clear hd CD0 hRM hM
  go_wp2_with (first
    | (go_at_call 14; refine CD.out.mono ?_; rintro e w6 ⟨rfl, hb6⟩; have HB6 := Lib.hid (HB5.out.trans (hb6.mono HB5.out.size)); clear hb6)
    | (refine store_recN (zero_new w6) rfl rfl (.tmp 7) (.tmp 36) rfl rfl zeroRc rfl rfl ?_; intro w7 X7 G7))
  have HB7 : Hid (Below w.heap.size w w7) := below_only (HB6.out.alloc HB6.out.size _) (only_hid G7) HB6.out.size (by have := HB6.out.size; simp; omega)
  go_ret
  exact ⟨rfl, HB7.out⟩
end Go.Proofs.YtnhhoodmmefjdaaDoor.Rec
