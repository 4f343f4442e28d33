/-
  Proved: RecordSpoilt returns true, whatever it is handed.
  Conditions: the table crc.turned holds its sixteen words; the numbers are those of values.
-/
import Derived.Test.YtnhhoodmmefjdaaDoorRecCutWalk
namespace Go.Proofs.YtnhhoodmmefjdaaDoor.Rec
open Go.RowKit
open Go.Proofs.YtnhhoodmmefjdaaDoor.Crc (Turned)
set_option linter.unusedVariables false
set_option linter.unusedSimpArgs false

theorem xor_u8 (a b : UInt8) : bits .xor .u8 (a.toNat : Int) (b.toNat : Int) = ((a ^^^ b).toNat : Int) := by
  rw [u8_xor_nat _ _ a.toNat_lt b.toNat_lt, UInt8.toNat_xor]
theorem xor_ne (a b : UInt8) (h : b ≠ 0) : a ^^^ b ≠ a := by
  intro e
  refine h ?_
  have : a ^^^ (a ^^^ b) = a ^^^ a := by rw [e]
  rw [← UInt8.xor_assoc, UInt8.xor_self, UInt8.zero_xor] at this
  exact this
/-- A byte of a row of the call's own is written. -/
theorem own_put {w : World} {base g n c : Nat} {bs : List UInt8} (h : w.ownsRow base 5 1 (.slice (some ⟨g, 0, none⟩) n c) n (bvs bs)) (k : Nat) (z : UInt8) (hk : k < n) :
    Hid (Row (w.setCell ⟨g, k, none⟩ (.int .u8 (z.toNat : Int))) w.heap.size (some ⟨g, 0, none⟩) n (bvs (bs.set k z))) := by
  have hr := Row.own h
  have hs := hr.size
  obtain ⟨b, o, e, hlt, hc⟩ := hr.2 (by omega)
  injection e with e
  injection e with e1 e2
  subst e1 e2
  refine ⟨by rw [bvs_length, List.length_set, hs], fun _ => ⟨g, 0, rfl, hlt, fun i v hv => ?_⟩⟩
  obtain ⟨g', cap, cur, hv', _, hblk, _, _, hsz, _⟩ := own_block h (by omega)
  injection hv' with a1 a2 a3
  injection a1 with a1
  injection a1 with a1
  subst a1
  rw [Nat.zero_add, (hblk.put k _).cell i]
  rw [bvs, List.getElem?_map, List.getElem?_set] at hv
  by_cases hik : k = i
  · subst hik
    rw [if_pos rfl, if_pos (by omega)] at hv
    rw [Array.getElem?_setIfInBounds_self_of_lt (by omega)]
    exact hv
  · rw [if_neg hik] at hv
    rw [Array.getElem?_setIfInBounds_ne hik, ← hblk.cell i]
    have := hc i v (by rw [bvs, List.getElem?_map]; exact hv)
    rwa [Nat.zero_add] at this
theorem own_cells {w : World} {base g n c : Nat} {bs : List UInt8} (h : w.ownsRow base 5 1 (.slice (some ⟨g, 0, none⟩) n c) n (bvs bs)) (k : Nat) (hk : k < n) :
    w.cell? ⟨g, k, none⟩ = some (.int .u8 ((bs.getD k 0).toNat : Int)) ∧ w.frozen? ⟨g, k, none⟩ = false := by
  obtain ⟨b, o, e, hlt, hc⟩ := (Row.own h).byte (by omega)
  injection e with e
  injection e with e1 e2
  subst e1 e2
  obtain ⟨g', cap, cur, hv', _, hblk, _⟩ := own_block h (by omega)
  injection hv' with a1 a2 a3
  injection a1 with a1
  injection a1 with a1
  subst a1
  have := hc k hk
  rw [Nat.zero_add] at this
  exact ⟨this, hblk.free k⟩
theorem dec_changed (y : Rc) (k : Nat) (z : UInt8) (hy : y.May) (hf : y.Fits) (hk : k < 39 + y.body.length) (hz : z ≠ 0) (hn : ¬ (31 ≤ k ∧ k < 35)) : dec ((enc y).set k ((enc y).getD k 0 ^^^ z)) = .bad := by
  rw [enc_may hy]
  exact dec_spoilt y k _ hy hf hk (xor_ne _ _ hz) hn
set_option maxRecDepth 100000 in
set_option maxHeartbeats 8000000 in
theorem recordSpoilt_walk (x : Rc) (k : Int) (z : Int) (w : World) (hT : Turned w) (hx : x.Ok) (hk : -9223372036854775808 ≤ k ∧ k ≤ 9223372036854775807) (hzw : (Lit.int .u8 z).wf = true) :
    Calls Tryd.prog 6 #[.agg x.vals, .int .i64 k, .int .u8 z] w fun e w' => e = .returned (.bool true) ∧ Below w.heap.size w w' := by
  obtain ⟨hk1, hk2⟩ := hk
  obtain ⟨Z, rfl⟩ : ∃ Z : UInt8, z = (Z.toNat : Int) := ⟨UInt8.ofNat z.toNat, by
    have := bounds_u8 hzw
    rw [UInt8.toNat_ofNat']
    omega⟩
  have hZ := Z.toNat_lt
  clear hzw
  obtain ⟨w0, hw0⟩ : ∃ w0, w0 = w.alloc (.cells x.vals 25) := ⟨_, rfl⟩
  have X0 : Hid (RecAt w0 w.heap.size x) := by rw [hw0]; exact RecAt.new w x
  have hB0 : Below w.heap.size w w0 := by rw [hw0]; exact below_alloc w _
  have HBEG := Lib.hid (begun_any w0 (turned_below hT hB0 rfl))
  have HB0 := Lib.hid hB0
  have HT := Lib.hid hT
  have HX := Lib.hid hx
  have hz := zeroRec
  clear hB0 hT hx
  obtain ⟨y, hy⟩ : ∃ y, y = x.cut 200 := ⟨_, rfl⟩
  have hyo : y.Ok := by rw [hy]; exact HX.out.cut 200 (by decide)
  have hyl : y.body.length ≤ 200 := by rw [hy]; exact cut_small x 200
  have HYO := Lib.hid hyo
  have HYY := Lib.hid hy
  clear hyo hy
  have h0lt : w.heap.size < w0.heap.size := X0.out.lt
  have CC : Hid (∀ w, Calls Tryd.prog 9 #[.agg x.vals, .int .i64 200] w fun e w' => e = .returned (.agg y.vals) ∧ Below w.heap.size w w') := fun w => by
    rw [HYY.out]
    exact cut_any x 200 w HX.out.body (by decide)
  have CM : Hid (∀ w, Calls Tryd.prog 13 #[.agg y.vals] w fun e w' => e = .returned (.bool y.may) ∧ Below w.heap.size w w') := fun w => refmay_any y w HYO.out.body
  go_enter Tryd.func6, Tryd.ntmps6
  go_upto_region 1 with fail
  rw [← hw0]
  clear hw0
  go_upto_region 5 with (first
    | (go_at_call 8; refine HBEG.out.mono ?_; rintro e w1 ⟨rfl, hb1⟩; have X1 := Lib.hid (X0.out.below hb1 h0lt); have HB1 := Lib.hid (HB0.out.trans (hb1.mono (Nat.le_of_lt h0lt))); clear hb1)
    | (refine load_rec X1.out rfl (.tmp 3) rfl rfl ?_)
    | (go_at_call 9; refine (CC.out _).mono ?_; rintro e w2 ⟨rfl, hb2⟩; have X2 := Lib.hid (X1.out.below hb2 X1.out.lt); have HB2 := Lib.hid (HB1.out.trans (hb2.mono HB1.out.size)); clear hb2)
    | (refine store_recN X2.out rfl rfl (.tmp 3) (.tmp 17) rfl rfl y rfl rfl ?_; intro w3 X3 G3))
  have HB3 : Hid (Below w.heap.size w w3) := below_only HB2.out (only_hid G3) (Nat.le_refl _) HB2.out.size
  clear X0 X1 X2 HB0 HB1 HB2 G3 HBEG CC
  by_cases hm : y.May
  case neg =>
    have em := may_false hm
    clear hm
    go_wp2_with (first
      | (refine load_rec X3.out rfl (.tmp 3) rfl rfl ?_)
      | (go_at_call 13; refine (CM.out _).mono ?_; rw [em]; rintro e w4 ⟨rfl, hb4⟩; have HB4 := Lib.hid (HB3.out.trans (hb4.mono HB3.out.size)); clear hb4))
    go_ret
    exact ⟨rfl, HB4.out⟩
  have em := may_true hm
  have HM := Lib.hid hm
  have el : (enc y).length = 39 + y.body.length := by rw [enc_may hm, y.bytes_length]
  clear hm
  by_cases hk0 : k < 0
  case pos =>
    go_wp2_with (first
      | (refine load_rec X3.out rfl (.tmp 3) rfl rfl ?_)
      | (go_at_call 13; refine (CM.out _).mono ?_; rw [em]; rintro e w4 ⟨rfl, hb4⟩; have HB4 := Lib.hid (HB3.out.trans (hb4.mono HB3.out.size)); clear hb4))
    go_ret
    exact ⟨rfl, HB4.out⟩
  by_cases hz0 : Z = 0
  case pos =>
    subst hz0
    go_wp2_with (first
      | (refine load_rec X3.out rfl (.tmp 3) rfl rfl ?_)
      | (go_at_call 13; refine (CM.out _).mono ?_; rw [em]; rintro e w4 ⟨rfl, hb4⟩; have HB4 := Lib.hid (HB3.out.trans (hb4.mono HB3.out.size)); clear hb4))
    go_ret
    exact ⟨rfl, HB4.out⟩
  have hz1 : ((Z.toNat : Int) == 0) = false := beq_eq_false_iff_ne.2 (fun e => hz0 (UInt8.toNat.inj (by simpa using e)))
  have HZ := Lib.hid hz0
  clear hz0
  go_upto_region 8 with (first
      | (refine load_rec X3.out rfl (.tmp 3) rfl rfl ?_)
      | (go_at_call 13; refine (CM.out _).mono ?_; rw [em]; rintro e w4 ⟨rfl, hb4⟩; have HB4 := Lib.hid (HB3.out.trans (hb4.mono HB3.out.size)); have X4 := Lib.hid (X3.out.below hb4 X3.out.lt); have CE := Lib.hid (encode_any y w4 (turned_below HT.out HB4.out rfl) HYO.out.fits HYO.out.body); rw [el] at CE; clear hb4)
      | (refine load_rec X4.out rfl (.tmp 3) rfl rfl ?_)
      | (go_at_call 10; refine CE.out.mono ?_; rintro e w5 ⟨u, rfl, ho, hb5⟩))
  obtain ⟨L, hL⟩ : ∃ L, L = 39 + y.body.length := ⟨_, rfl⟩
  rw [← hL] at el ho
  have hLb : 39 ≤ L ∧ L ≤ 239 := by omega
  obtain ⟨g, c, cur, hv, hg, _, hnc, hc, _, _⟩ := own_block ho (by omega)
  subst hv
  have HO5 := Lib.hid ho
  have HB5 := Lib.hid (HB4.out.trans (hb5.mono HB4.out.size))
  have HG5 : Hid (w.heap.size ≤ g) := Nat.le_trans HB4.out.size hg
  have HNC := Lib.hid hnc
  have HC := Lib.hid hc
  have HEL := Lib.hid el
  have HLL := Lib.hid hL
  obtain ⟨K, rfl⟩ : ∃ K : Nat, k = K := ⟨k.toNat, by omega⟩
  obtain ⟨R, hR⟩ : ∃ R, R = K % L := ⟨_, rfl⟩
  have hRL : R < L := by rw [hR]; exact Nat.mod_lt _ (by omega)
  have hr1 : (K : Int) % (L : Int) = (R : Int) := by rw [hR, Int.natCast_emod]
  have hr2 : (K : Int).tmod (L : Int) = (R : Int) := by rw [hR, Int.tmod_eq_emod_of_nonneg (by omega), Int.natCast_emod]
  have hl0 : ((L : Int) == 0) = false := beq_eq_false_iff_ne.2 (by omega)
  clear ho hb5 hnc hc hg el hL CE X3 X4 HB3 HB4 CM hR
  go_upto_region 9 with fail
  clear hr1 hr2 hl0
  by_cases hin : 31 ≤ R ∧ R < 35
  case pos =>
    obtain ⟨i1, i2⟩ := hin
    have i1' : (31 : Int) ≤ (R : Int) := by omega
    have i2' : (R : Int) < 35 := by omega
    go_wp2_with fail
    go_ret
    exact ⟨rfl, HB5.out⟩
  have hd : dec ((enc y).set R ((enc y).getD R 0 ^^^ Z)) = .bad := dec_changed y R Z HM.out HYO.out.fits (by rw [← HLL.out]; exact hRL) HZ.out hin
  obtain ⟨q, hq⟩ : ∃ q, q = (enc y).getD R 0 := ⟨_, rfl⟩
  obtain ⟨y1, y2⟩ := own_cells HO5.out R hRL
  have hRow := own_put HO5.out R (q ^^^ Z) hRL
  rw [← hq] at hd y1
  have hxo := xor_u8 q Z
  obtain ⟨q2, hq2⟩ : ∃ q2, q2 = q ^^^ Z := ⟨_, rfl⟩
  rw [← hq2] at hd hRow hxo
  clear hq2
  obtain ⟨w6, hw6⟩ : ∃ w6, w6 = w5.setCell ⟨g, R, none⟩ (.int .u8 (q2.toNat : Int)) := ⟨_, rfl⟩
  have HB6 : Hid (Below w.heap.size w w6) := by rw [hw6]; exact HB5.out.setCell HG5.out _
  have hsz6 : w6.heap.size = w5.heap.size := by rw [hw6]; simp [World.setCell]
  rw [← hw6] at hRow
  have CD0 := decode_any (some ⟨g, 0, none⟩) L c _ w6 (turned_below HT.out HB6.out rfl) (hRow.out.more (by omega)) HNC.out HC.out
  rw [hd] at CD0
  have CD : Hid (Calls Tryd.prog 14 #[.slice (some ⟨g, 0, none⟩) L c] w6 fun e w' => e = .returned (.tuple #[.agg zeroRc.vals, .int .i64 0, .int .i64 4]) ∧ Below w6.heap.size w6 w') := CD0
  have hRi : (R : Int) < (L : Int) := by omega
  have hq8 := q.toNat_lt
  clear hd CD0 hRow hsz6 hq
  by_cases h31 : R < 31
  · have h31' : ¬ (31 : Int) ≤ (R : Int) := by omega
    clear hin
    go_upto_region 12 with fail
    rw [← hw6]
    clear hw6 y1 y2
    go_wp2_with (first
      | (go_at_call 14; refine CD.out.mono ?_; rintro e w7 ⟨rfl, hb7⟩; have HB7 := Lib.hid (HB6.out.trans (hb7.mono HB6.out.size)); clear hb7)
      | (refine store_recN (zero_new w7) rfl rfl (.tmp 10) (.tmp 51) rfl rfl zeroRc rfl rfl ?_; intro w8 X8 G8))
    have HB8 : Hid (Below w.heap.size w w8) := below_only (HB7.out.alloc HB7.out.size _) (only_hid G8) HB7.out.size (by have := HB7.out.size; simp; omega)
    go_ret
    exact ⟨rfl, HB8.out⟩
  · have h31' : (31 : Int) ≤ (R : Int) := by omega
    have h35' : ¬ (R : Int) < 35 := by omega
    clear hin
    go_upto_region 12 with fail
    rw [← hw6]
    clear hw6 y1 y2
    go_wp2_with (first
      | (go_at_call 14; refine CD.out.mono ?_; rintro e w7 ⟨rfl, hb7⟩; have HB7 := Lib.hid (HB6.out.trans (hb7.mono HB6.out.size)); clear hb7)
      | (refine store_recN (zero_new w7) rfl rfl (.tmp 10) (.tmp 51) rfl rfl zeroRc rfl rfl ?_; intro w8 X8 G8))
    have HB8 : Hid (Below w.heap.size w w8) := below_only (HB7.out.alloc HB7.out.size _) (only_hid G8) HB7.out.size (by have := HB7.out.size; simp; omega)
    go_ret
    exact ⟨rfl, HB8.out⟩
end Go.Proofs.YtnhhoodmmefjdaaDoor.Rec
