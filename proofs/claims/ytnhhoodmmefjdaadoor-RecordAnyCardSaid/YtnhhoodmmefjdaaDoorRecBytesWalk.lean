/-
  Proved: RecordBytes returns true, whatever it is handed.
  Conditions: the table crc.turned holds its sixteen words; the numbers are those of values.
-/
import Derived.Test.YtnhhoodmmefjdaaDoorRecCutWalk
import Derived.Test.YtnhhoodmmefjdaaDoorRecRefEnc
namespace Go.Proofs.YtnhhoodmmefjdaaDoor.Rec
open Go.RowKit
open Go.Proofs.YtnhhoodmmefjdaaDoor.Crc (Turned)
set_option linter.unusedVariables false
set_option linter.unusedSimpArgs false

/-- A record is loaded whole in a region that draws. -/
theorem step_load_rec {ops : Array Oper} {o : Oper} {a : Act} {w : World} {K : Act → World → Prop} {Q : Exit → Act → World → Prop} {E : Prop} {g : Nat} {x : Rc} (h : RecAt w g x) (hw : Region.wanted o (yielded ops a.tmps) = true) (y : Operand) (ho : o.op = .load 25 y) (hx : a.eval y = .pointer (some ⟨g, 0, none⟩))
    (k : K (a.put o.dst (.agg x.vals)) w) : if Region.wanted o (yielded ops a.tmps) = true then Oper.wp Tryd.prog o a w K Q else E := by
  rw [if_pos hw]
  exact wp_load_row 25 y ho g hx 25 x.vals (0, 0) _ h Tryd.underlying25 rfl rec_info k
theorem rec_cells {w : World} {g : Nat} {z : Rc} (h : RecAt w g z) : w.cell? ⟨g, 0, none⟩ = some (.int .i64 z.kind) ∧ w.cell? ⟨g, 1, none⟩ = some (.int .u32 (z.tenant : Int)) ∧ w.cell? ⟨g, 2, none⟩ = some (.int .u64 (z.epoch : Int)) ∧ w.cell? ⟨g, 3, none⟩ = some (.int .u64 (z.object : Int)) ∧ w.cell? ⟨g, 4, none⟩ = some (.int .u64 (z.seq : Int)) ∧ w.cell? ⟨g, 5, none⟩ = some (.string (str z.body)) :=
  ⟨h.cell 0, h.cell 1, h.cell 2, h.cell 3, h.cell 4, h.cell 5⟩
theorem conv_row {w : World} {B n c : Nat} {A : Option Addr} {l : List UInt8} {s : ByteArray} (hR : Row w B A n (bvs l)) (hs : Hid (s = str l)) : (convert 28 9 (.slice A n c)).run Tryd.prog w = .ok (.string s) w := by
  rw [hs.out]
  exact bytes_string Tryd.underlying28 Tryd.underlying5 Tryd.underlying9 hR
theorem below_of_drew {w w' : World} (h : Below w.drew.heap.size w.drew w') : Hid (Below w.heap.size w w') := ⟨h.os, h.tape, h.output, h.size, h.block⟩
theorem conv_own {w : World} {base n : Nat} {u : Value} {l : List UInt8} {s : ByteArray} (h : w.ownsRow base 5 1 u n (bvs l)) (hs : Hid (s = str l)) : ∃ A c, u = .slice A n c ∧ (convert 28 9 (.slice A n c)).run Tryd.prog w = .ok (.string s) w := by
  obtain ⟨A, c, rfl, _, _⟩ := own_form h
  exact ⟨A, c, rfl, conv_row (Row.own h) hs⟩
theorem dec_enc (y : Rc) (hy : y.May) (hf : y.Fits) : dec (enc y) = .ok y (39 + y.body.length) := by
  have := dec_bytes y [] hy hf
  rw [List.append_nil] at this
  rw [enc_may hy]
  exact this
set_option maxRecDepth 100000 in
set_option maxHeartbeats 8000000 in
theorem recordBytes_walk (x : Rc) (m : Int) (w : World) (hT : Turned w) (hx : x.Ok) (hm : -9223372036854775808 ≤ m ∧ m ≤ 9223372036854775807) :
    Calls Tryd.prog 3 #[.agg x.vals, .int .i64 m] w fun e w' => e = .returned (.bool true) ∧ Below w.heap.size w w' := by
  obtain ⟨hm1, hm2⟩ := hm
  obtain ⟨w0, hw0⟩ : ∃ w0, w0 = w.alloc (.cells x.vals 25) := ⟨_, rfl⟩
  have X0 : Hid (RecAt w0 w.heap.size x) := by rw [hw0]; exact RecAt.new w x
  have hB0 : Below w.heap.size w w0 := by rw [hw0]; exact below_alloc w _
  have HBEG := Lib.hid (begun_any w0 (turned_below hT hB0 rfl))
  have HB0 := Lib.hid hB0
  have HT := Lib.hid hT
  have HX := Lib.hid hx
  have hz := zeroRec
  clear hB0 hT hx
  obtain ⟨y, hy⟩ : ∃ y, y = x.cut 300 := ⟨_, rfl⟩
  have hyo : y.Ok := by rw [hy]; exact HX.out.cut 300 (by decide)
  have hyl : y.body.length ≤ 300 := by rw [hy]; exact cut_small x 300
  have HYO := Lib.hid hyo
  have HYY := Lib.hid hy
  clear hyo hy
  have h0lt : w.heap.size < w0.heap.size := X0.out.lt
  have CC : Hid (∀ w, Calls Tryd.prog 9 #[.agg x.vals, .int .i64 300] w fun e w' => e = .returned (.agg y.vals) ∧ Below w.heap.size w w') := fun w => by
    rw [HYY.out]
    exact cut_any x 300 w HX.out.body (by decide)
  go_enter Tryd.func3, Tryd.ntmps3
  go_upto_region 1 with fail
  rw [← hw0]
  clear hw0
  go_upto_region 5 with (first
    | (go_at_call 8; refine HBEG.out.mono ?_; rintro e w1 ⟨rfl, hb1⟩; have X1 := Lib.hid (X0.out.below hb1 h0lt); have HB1 := Lib.hid (HB0.out.trans (hb1.mono (Nat.le_of_lt h0lt))); clear hb1)
    | (refine load_rec X1.out rfl (.tmp 2) rfl rfl ?_)
    | (go_at_call 9; refine (CC.out _).mono ?_; rintro e w2 ⟨rfl, hb2⟩; have X2 := Lib.hid (X1.out.below hb2 X1.out.lt); have HB2 := Lib.hid (HB1.out.trans (hb2.mono HB1.out.size)); clear hb2)
    | (refine store_recN X2.out rfl rfl (.tmp 2) (.tmp 14) rfl rfl y rfl rfl ?_; intro w3 X3 G3))
  have HB3 : Hid (Below w.heap.size w w3) := below_only HB2.out (only_hid G3) (Nat.le_refl _) HB2.out.size
  clear X0 X1 X2 HB0 HB1 HB2 G3 HBEG CC
  go_cut [20] (fun v w' => v = .bool (decide (0 < m ∧ m < 1100)) ∧ w' = w3)
  case first =>
    by_cases h1 : 0 < m
    · by_cases h2 : m < 1100
      · go_wp2_with fail
        go_meet
        case rel => exact ⟨by simp [h1, h2], rfl⟩
      · go_wp2_with fail
        go_meet
        case rel => exact ⟨by simp [h1, h2], rfl⟩
    · go_wp2_with fail
      go_meet
      case rel => exact ⟨by simp; omega, rfl⟩
  case rest =>
  obtain ⟨rfl, rfl⟩ := hcut
  go_upto_if 20 with fail
  go_cut [2] (fun v w' => v = .pointer (some ⟨w.heap.size, 0, none⟩) ∧ ∃ z : Rc, Hid z.Ok ∧ z.body.length ≤ 1100 ∧ Hid (RecAt w' w.heap.size z) ∧ Hid (Below w.heap.size w w'))
  case first =>
    by_cases h : 0 < m ∧ m < 1100
    · obtain ⟨h1, h2⟩ := h
      obtain ⟨N, rfl⟩ : ∃ N : Nat, m = N := ⟨m.toNat, by omega⟩
      obtain ⟨i0, hi, hz0, hz1, hz2⟩ := u8_info3
      have HI := Lib.hid hi
      have HZ0 := Lib.hid hz0
      have HZ1 := Lib.hid hz1
      have HB : Hid (i0.bytes * N ≤ 281474976710656 ∧ N ≤ maxLen) := ⟨by rw [hz2]; omega, by unfold maxLen; omega⟩
      have hN : N < 1100 := by omega
      clear hi hz0 hz1 hz2
      go_wp2_with (at_make; refine wpList_make_full _ rfl _ _ 28 rfl wc.heap.size 5 i0 (.int .u8 0) 1 Tryd.underlying28 HI.out HZ0.out HZ1.out _ _ _ _ N rfl rfl rfl rfl HB.out.1 HB.out.2 (Nat.le_refl _) ?_; intro w4 ho4 hg4; have HR4 := Lib.hid (own_noughts ho4); have HG4 := Lib.hid hg4; have hcv := bytes_string (P := Tryd.prog) (src := 28) (dst := 9) (c := N) Tryd.underlying28 Tryd.underlying5 Tryd.underlying9 HR4.out; have X4 := Lib.hid (X3.out.kept hg4 (by simp)); have y5 : w4.cell? ⟨w.heap.size, 5, none⟩ = some (.string (str y.body)) := X4.out.cell 5; have f5 : w4.frozen? ⟨w.heap.size, 5, none⟩ = false := X4.out.free 5; clear ho4 hg4)
      go_meet
      case rel =>
        refine ⟨rfl, { y with body := List.replicate N 0 }, ⟨HYO.out.kind, ⟨HYO.out.fits.tenant, HYO.out.fits.epoch, HYO.out.fits.object, HYO.out.fits.seq⟩, by show (List.replicate N 0).length ≤ _; rw [List.length_replicate]; exact HB.out.2⟩, by show (List.replicate N 0).length ≤ _; rw [List.length_replicate]; omega, X4.out.body _, ?_⟩
        exact (HB3.out.grown HG4.out HB3.out.size (fun k hk => by cases hk)).setCell (Nat.le_refl _) _
    · go_wp2_with fail
      go_meet
      case rel => exact ⟨rfl, y, HYO, by omega, X3, HB3⟩
  case rest =>
  obtain ⟨rfl, z, HZO, hzl, XZ, HBZ⟩ := hcut
  clear X3 HB3 HYO HYY hyl
  have CE : Hid (∀ W, Turned W → Calls Tryd.prog 10 #[.agg z.vals] W fun e w' => ∃ u, e = .returned u ∧ w'.ownsRow W.heap.size 5 1 u (enc z).length (bvs (enc z)) ∧ Below W.heap.size W w') := fun W hW => encode_any z W hW HZO.out.fits HZO.out.body
  have CR : Hid (∀ W, Calls Tryd.prog 11 #[.agg #[.int .i64 z.kind, .int .u32 (z.tenant : Int), .int .u64 (z.epoch : Int), .int .u64 (z.object : Int), .int .u64 (z.seq : Int), .string (str z.body)]] W fun e w' => ∃ u, e = .returned u ∧ w'.ownsRow W.heap.size 5 1 u (enc z).length (bvs (enc z)) ∧ Below W.heap.size W w') := fun W => refencode_any z W HZO.out.fits HZO.out.body
  have CM : Hid (∀ W, Calls Tryd.prog 12 #[.agg #[.int .i64 z.kind, .int .u32 (z.tenant : Int), .int .u64 (z.epoch : Int), .int .u64 (z.object : Int), .int .u64 (z.seq : Int), .string (str z.body)]] W fun e w' => e = .returned (.bool z.may) ∧ Below W.heap.size W w') := fun W => may_any z W HZO.out.body
  have CN : Hid (∀ W, Calls Tryd.prog 13 #[.agg #[.int .i64 z.kind, .int .u32 (z.tenant : Int), .int .u64 (z.epoch : Int), .int .u64 (z.object : Int), .int .u64 (z.seq : Int), .string (str z.body)]] W fun e w' => e = .returned (.bool z.may) ∧ Below W.heap.size W w') := fun W => refmay_any z W HZO.out.body
  have hTc := turned_below HT.out HBZ.out rfl
  obtain ⟨n, hn⟩ : ∃ n, n = (enc z).length := ⟨_, rfl⟩
  rw [← hn] at CE CR
  have HN := Lib.hid hn
  have HTC := Lib.hid hTc
  clear hn hTc
  go_upto_region 8 with (first
    | (refine load_rec XZ.out rfl (.tmp 2) rfl rfl ?_)
    | (go_at_call 10; refine (CE.out _ HTC.out).mono ?_; rintro e w5 ⟨u, rfl, ho, hb5⟩))
  obtain ⟨A, c, rfl, hnc, hc⟩ := own_form ho
  have HR5 := Lib.hid (Row.own ho)
  have HB5 := Lib.hid (HBZ.out.trans (hb5.mono HBZ.out.size))
  have X5 := Lib.hid (XZ.out.below hb5 XZ.out.lt)
  have HNC := Lib.hid hnc
  have HC := Lib.hid hc
  have X5d : Hid (RecAt w5.drew w.heap.size z) := X5.out
  obtain ⟨d0, d1, d2, d3, d4, d5⟩ := rec_cells X5d.out
  have hcv := bytes_string (P := Tryd.prog) (w := w5.drew) (src := 28) (dst := 9) (c := c) Tryd.underlying28 Tryd.underlying5 Tryd.underlying9 (row_heap HR5.out rfl)
  obtain ⟨s, hs⟩ : ∃ s, s = str (enc z) := ⟨_, rfl⟩
  rw [← hs] at hcv
  have HS := Lib.hid hs
  have hlt5 : w.heap.size < w5.heap.size := X5.out.lt
  clear ho hb5 hnc hc hs XZ HBZ CE
  go_cut [39] (fun v w' => v = .bool false ∧ Hid (Below w5.heap.size w5 w'))
  case first =>
    go_region_law (first
      | (go_simp; go_at_call 11; with_reducible refine (CR.out _).mono ?_; rintro e w6 ⟨u6, rfl, ho6, hb6⟩; obtain ⟨A6, c6, rfl, hcv6⟩ := conv_own ho6 HS; have B6 := below_of_drew hb6; have X6 := Lib.hid (X5.out.below B6.out hlt5); have hcv7 := conv_row (c := c) (HR5.out.below B6.out) HS; have h6 := X6.out.lt; obtain ⟨p0, p1, p2, p3, p4, p5⟩ := rec_cells X6.out; clear ho6 hb6)
      | (go_simp; go_at_call 12; with_reducible refine (CM.out _).mono ?_; rintro e w7 ⟨rfl, hb7⟩; have X7 := Lib.hid (X6.out.below hb7 h6); have B7 := Lib.hid (B6.out.trans (hb7.mono B6.out.size)); obtain ⟨q0, q1, q2, q3, q4, q5⟩ := rec_cells X7.out; clear hb7)
      | (go_simp; go_at_call 13; with_reducible refine (CN.out _).mono ?_; rintro e w8 ⟨rfl, hb8⟩; have B8 := Lib.hid (B7.out.trans (hb8.mono B7.out.size)); clear hb8))
    all_goals
      go_wp2_with fail
      go_meet
      case rel => exact ⟨by simp, B8⟩
  case rest =>
  obtain ⟨rfl, HBC⟩ := hcut
  have XC := Lib.hid (X5.out.below HBC.out hlt5)
  have HRC := Lib.hid (HR5.out.below HBC.out)
  have HB : Hid (Below w.heap.size w wc) := HB5.out.trans (HBC.out.mono HB5.out.size)
  have h5c : w5.heap.size ≤ wc.heap.size := HBC.out.size
  have CM2 : Hid (∀ W, Calls Tryd.prog 12 #[.agg z.vals] W fun e w' => e = .returned (.bool z.may) ∧ Below W.heap.size W w') := CM.out
  clear d0 d1 d2 d3 d4 d5 hcv HR5 HBC X5 X5d CM CN CR HS
  by_cases hmay : z.May
  case neg =>
    have em := may_false hmay
    obtain rfl : n = 0 := by rw [HN.out, enc_not hmay]; rfl
    clear hmay
    go_wp2_with (first
      | (refine load_rec XC.out rfl (.tmp 2) rfl rfl ?_)
      | (go_at_call 12; refine (CM2.out _).mono ?_; rw [em]; rintro e w6 ⟨rfl, hb6⟩; have HB6 := Lib.hid (HB.out.trans (hb6.mono HB.out.size)); clear hb6))
    go_ret
    exact ⟨rfl, HB6.out⟩
  have hnl : n = 39 + z.body.length := by rw [HN.out, enc_may hmay, z.bytes_length]
  have hn0 : ((n : Int) == 0) = false := beq_eq_false_iff_ne.2 (by omega)
  have CD0 := decode_any A n c _ wc (turned_below HT.out HB.out rfl) (HRC.out.more (by omega)) HNC.out HC.out
  rw [dec_enc z hmay HZO.out.fits, ← hnl] at CD0
  have CD : Hid (Calls Tryd.prog 14 #[.slice A n c] wc fun e w' => e = .returned (.tuple #[.agg z.vals, .int .i64 (n : Int), .int .i64 0]) ∧ Below wc.heap.size wc w') := CD0
  have hltc : w.heap.size < wc.heap.size := XC.out.lt
  have CQ : Hid (∀ W, Calls Tryd.prog 15 #[.agg z.vals, .agg z.vals] W fun e w' => e = .returned (.bool true) ∧ Below W.heap.size W w') := fun W => by
    have := eq_any z z W
    rwa [decide_eq_true rfl] at this
  clear CD0 hmay hnl CM2 HRC
  go_upto_region 13 with (first
    | (go_at_call 14; refine CD.out.mono ?_; rintro e w6 ⟨rfl, hb6⟩; have B6 := Lib.hid hb6; clear hb6)
    | (refine store_recN (zero_new w6) rfl rfl (.tmp 7) (.tmp 49) rfl rfl z rfl rfl ?_; intro w7 X7 G7))
  have h6 : wc.heap.size ≤ w6.heap.size := B6.out.size
  have HB6 : Hid (Below w.heap.size w w6) := HB.out.trans (B6.out.mono HB.out.size)
  have HB7 : Hid (Below w.heap.size w w7) := below_only (HB6.out.alloc HB6.out.size _) (only_hid G7) HB6.out.size (by have := HB6.out.size; simp; omega)
  have XZ7 : Hid (RecAt w7 w.heap.size z) := ((XC.out.below B6.out hltc).below (below_alloc w6 _) (by omega)).kept (only_hid G7) (by intro e; injection e; omega)
  clear B6 HB6 G7 XC CD
  go_wp2_with (first
    | (refine load_recG X7.out rfl (.tmp 7) rfl rfl ?_)
    | (refine load_recG XZ7.out rfl (.tmp 2) rfl rfl ?_)
    | (go_at_call 15; refine (CQ.out _).mono ?_; rintro e w8 ⟨rfl, hb8⟩; have HB8 := Lib.hid (HB7.out.trans (hb8.mono HB7.out.size)); clear hb8))
  go_ret
  exact ⟨by simp, HB8.out⟩
end Go.Proofs.YtnhhoodmmefjdaaDoor.Rec
