/-
  Texts one behind the other: RecRefDec3.
-/
import Derived.Test.YtcmlchicpmnhdaaGreatDoorG06
import Derived.Test.YtcmlchicpmnhdaaGreatDoorG09
import Derived.Test.YtcmlchicpmnhdaaGreatDoorG15
/-
  Proved: what the reference's Decode returns of a whole head whose mark and kind are right.
  Conditions: the slice reads as bytes.
-/
namespace Go.Proofs.YtcmlchicpmnhdaaGreatDoor.Rec
open Go.RowKit
open Go.Proofs.YtcmlchicpmnhdaaGreatDoor.Crc (Turned)
set_option linter.unusedVariables false
set_option linter.unusedSimpArgs false

/-- A load of a record, in a region that draws, taken first. -/
theorem yieldsIf_load_rec {ops : Array Oper} {S : World → Prop} {op : Oper} {a : Act} (hw : Region.wanted op (yielded ops a.tmps) = true) (y : Operand) (ho : op.op = .load 91 y)
    (g : Nat) (hx : a.eval y = .pointer (some ⟨g, 0, none⟩)) (x : Rc) (hS : ∀ w, S w → RecAt w g x) : YieldsIf Tryz.prog ops S op (.agg x.vals) a :=
  .inl ⟨hw, fun w hw' => by
    unfold execOp
    simp only [ho, hx, Instr.loadAt, Instr.sureAddr, Sem.run_bind, Sem.run_pure, Result.andThen_ok, run_loadVar_row w g 91 91 x.vals (0, 0) _ (hS w hw') Tryz.underlying91 rfl rec_info]⟩
/-- Bytes as a text, in a region that draws, taken first. -/
theorem yieldsIf_conv {ops : Array Oper} {S : World → Prop} {op : Oper} {a : Act} {A : Option Addr} {n c : Nat} {s : ByteArray} (hw : Region.wanted op (yielded ops a.tmps) = true) (y : Operand) (ho : op.op = .convert 51 9 y)
    (hx : a.eval y = .slice A n c) (hS : ∀ w, S w → (convert 51 9 (.slice A n c)).run Tryz.prog w = .ok (.string s) w) : YieldsIf Tryz.prog ops S op (.string s) a :=
  .inl ⟨hw, fun w hw' => by
    unfold execOp
    simp only [ho, hx, Sem.run_bind, Sem.run_pure, Result.andThen_ok, hS w hw']⟩
/-- What the reference looks at first: all but tenant and body. -/
def bare (x : Rc) : Rc := { x with tenant := 0, body := [] }
theorem bare_may {x : Rc} (h : x.body = []) : (bare x).May ↔ x.May := by
  unfold Rc.May bare
  rw [h]
theorem Row.lt_of {w : World} {B n b o : Nat} {vs : List Value} (h : Row w B (some ⟨b, o, none⟩) n vs) (hn : 0 < n) : b < B := by
  obtain ⟨b', o', e, hlt, _⟩ := h.2 hn
  injection e with e
  injection e with e1 e2
  subst e1
  exact hlt
theorem undrew_only {w w' : World} {row : Option Nat} (h : w.drew.grownBy w' row) : Hid (w.grownBy w' row) := ⟨h.os, h.tape, h.output, h.size, h.block⟩
theorem refget_still {w : World} {B n b o c : Nat} {bs : List UInt8} (h : Row w B (some ⟨b, o, none⟩) n (bvs bs)) (hnc : n ≤ c) (hc : c ≤ maxLen) (k m z d : Nat) (hk : k < m) (hm : m ≤ n) (hz : z = m - k) (h8 : z ≤ 8) (hd : d = c - k) :
    Hid (∀ w', w'.heap = w.heap → Calls Tryz.prog 73 #[.slice (some ⟨b, o + k, none⟩) z d] w' fun e w'' => e = .returned (.int .u64 (beN (part bs k m) : Int)) ∧ w'' = w') := by
  intro w' e
  subst hz hd
  refine (refget_any _ _ _ B _ w' (row_heap (row_part h hk hm) e) h8 (by omega) (by omega)).mono ?_
  rintro e w'' ⟨h1, rfl⟩
  exact ⟨h1, rfl⟩
theorem refget_part {w : World} {B n b o c : Nat} {bs : List UInt8} (h : Row w B (some ⟨b, o, none⟩) n (bvs bs)) (hnc : n ≤ c) (hc : c ≤ maxLen) (k m z d : Nat) (hk : k < m) (hm : m ≤ n) (hz : z = m - k) (h8 : z ≤ 8) (hd : d = c - k) :
    Hid (∀ w', Below B w w' → Calls Tryz.prog 73 #[.slice (some ⟨b, o + k, none⟩) z d] w' fun e w'' => e = .returned (.int .u64 (beN (part bs k m) : Int)) ∧ w' = w'') := by
  intro w' e
  subst hz hd
  refine (refget_any _ _ _ B _ w' ((row_part h hk hm).below e) h8 (by omega) (by omega)).mono ?_
  rintro e w'' ⟨h1, rfl⟩
  exact ⟨h1, rfl⟩
set_option maxRecDepth 100000 in
set_option maxHeartbeats 8000000 in
theorem refdecode_f (b o n c : Nat) (bs : List UInt8) (w : World) (hR : Row w w.heap.size (some ⟨b, o, none⟩) n (bvs bs)) (hnc : n ≤ c) (hc : c ≤ maxLen) (hf : Front bs) (h39 : 39 ≤ n) :
    Calls Tryz.prog 69 #[.slice (some ⟨b, o, none⟩) n c] w fun e w' => e = .returned (.tuple (dec bs).vals) ∧ Below w.heap.size w w' := by
  have h1 : 2 ≤ n := by omega
  have h0 : bs.getD 0 0 = 83 := hf.1 (by rw [hR.size]; omega)
  have hg : bs.getD 1 0 = 82 := hf.2.1 (by rw [hR.size]; omega)
  have hmk : mayKind ((bs.getD 2 0).toNat : Int) := hf.2.2 (by rw [hR.size]; omega)
  obtain ⟨x0, hx0⟩ : ∃ x0, x0 = headOf bs := ⟨_, rfl⟩
  obtain ⟨L, hL⟩ : ∃ L, L = lenOf bs := ⟨_, rfl⟩
  have hls := hR.size
  have hL4 : L < 4294967296 := by rw [hL]; exact beN_part_lt bs 31 35 4 (by omega) (by omega) rfl
  have hdec : dec bs = if ¬ (x0.May ∧ L ≤ 1000) then .bad else if n < 39 + L then .more else if ¬ sumRight bs then .bad else .ok (withBody x0 (part bs 39 (39 + L))) (39 + L) := by
    rw [hx0, hL, ← hls]
    conv => lhs; unfold dec
    rw [if_neg (not_not_intro hf), if_neg (by omega)]
  have HDEC := Lib.hid hdec
  have HX0 := Lib.hid hx0
  have HLL := Lib.hid hL
  have HLS := Lib.hid hls
  have HFR := Lib.hid hf
  have HNC := Lib.hid hnc
  have HCM := Lib.hid hc
  have i35 : (35 : Int) ≤ (c : Int) := by omega
  have i39 : (39 : Int) ≤ (c : Int) := by omega
  have n31 : ¬ c = 31 := by omega
  clear hdec hx0 hL hls hf
  have hm : c ≤ 9223372036854775807 := by unfold maxLen at hc; exact hc
  have hz := zeroRec
  obtain ⟨w1, hw1⟩ : ∃ w1, w1 = w.alloc (.cells #[.int .i64 0, .int .u32 0, .int .u64 0, .int .u64 0, .int .u64 0, .string ⟨#[]⟩] 91) := ⟨_, rfl⟩
  have hB1 : Below w.heap.size w w1 := by rw [hw1]; exact below_alloc w _
  have HR1 : Hid (Row w1 w.heap.size (some ⟨b, o, none⟩) n (bvs bs)) := hR.below hB1
  have HZ : Hid (RecAt w1 w.heap.size zeroRc) := by rw [hw1]; exact zero_new w
  have HB1 := Lib.hid hB1
  have hl := hR.size
  have hnc' : n ≤ 9223372036854775807 := by omega
  obtain ⟨b', o', e', _, hcs⟩ := HR1.out.byte (by omega)
  injection e' with e'
  injection e' with e1 e2
  subst e1 e2
  have hcell : w1.cell? ⟨b, o, none⟩ = some (.int .u8 ((bs.getD 0 0).toNat : Int)) := hcs 0 (by omega)
  rw [h0] at hcell
  have hs0 : ((((⟨#[83, 82]⟩ : ByteArray)[0]'(by decide)).toNat : Nat) : Int) = 83 := rfl
  have hd : ((83 : Int) != ((((⟨#[83, 82]⟩ : ByteArray)[0]'(by decide)).toNat : Nat) : Int)) = false := rfl
  have hcell' : w1.cell? ⟨b, o, none⟩ = some (.int .u8 83) := hcell
  have hs1 : ((((⟨#[83, 82]⟩ : ByteArray)[1]'(by decide)).toNat : Nat) : Int) = 82 := rfl
  have hc1 : w1.cell? ⟨b, o + 1, none⟩ = some (.int .u8 ((bs.getD 1 0).toNat : Int)) := hcs 1 (by omega)
  rw [hg] at hc1
  have hc1' : w1.cell? ⟨b, o + 1, none⟩ = some (.int .u8 82) := hc1
  have hd2 : ((82 : Int) != ((((⟨#[83, 82]⟩ : ByteArray)[1]'(by decide)).toNat : Nat) : Int)) = false := rfl
  have hn1 : (1 : Int) < (n : Int) := by omega
  have hn0 : (0 : Int) < (n : Int) := by omega
  have HC1 := Lib.hid hc1'
  have HL := Lib.hid hl
  have HR := Lib.hid hR
  clear hcs hl hR hB1 hcell h0 hg hc1
  go_enter Tryz.func69, Tryz.ntmps69
  go_upto_region 1 with fail
  rw [← hw1]
  clear hw1
  go_wp2_with fail
  refine wp_loop_rounds 3 ?_
  rw [rounds_succ]
  go_wp2_with fail
  go_quiet (fail)
  obtain ⟨w2, hw2⟩ : ∃ w2, w2 = w1.drewN nq := ⟨_, rfl⟩
  have HZ2 : Hid (RecAt w2 w.heap.size zeroRc) := by rw [hw2]; exact HZ.out
  have HB2 : Hid (Below w.heap.size w w2) := by rw [hw2]; exact below_drewN HB1.out nq
  have hc2 : w2.cell? ⟨b, o + 1, none⟩ = some (.int .u8 82) := by rw [hw2]; exact HC1.out
  rw [← hw2]
  clear hw2 HZ HB1 hc1' hcell'
  go_wp2_with fail
  rw [rounds_succ]
  go_wp2_with fail
  go_quiet (fail)
  obtain ⟨w3, hw3⟩ : ∃ w3, w3 = w2.drewN nq := ⟨_, rfl⟩
  have HZ3 : Hid (RecAt w3 w.heap.size zeroRc) := by rw [hw3]; exact HZ2.out
  have HB3 : Hid (Below w.heap.size w w3) := by rw [hw3]; exact below_drewN HB2.out nq
  rw [← hw3]
  clear hw3 HZ2 HB2 hc2 hd hd2 hs0 hs1
  have HR3 := Lib.hid (HR.out.below HB3.out)
  obtain ⟨b3, o3, e3, _, hcs3⟩ := HR3.out.byte (by omega)
  injection e3 with e3
  injection e3 with f1 f2
  subst f1 f2
  have hn2' : (2 : Int) < (n : Int) := by omega
  have hk : w3.cell? ⟨b, o + 2, none⟩ = some (.int .u8 ((bs.getD 2 0).toNat : Int)) := hcs3 2 (by omega)
  obtain ⟨q, hq⟩ : ∃ q, q = bs.getD 2 0 := ⟨_, rfl⟩
  rw [← hq] at hk hmk
  have hq8 := q.toNat_lt
  have ha' : ¬ (q.toNat : Int) < 1 := by have := hmk.1; omega
  have hb4' : ¬ (4 : Int) < (q.toNat : Int) := by have := hmk.2; omega
  have hn39 : ¬ (n : Int) < 39 := by omega
  have HQ := Lib.hid hq
  have G0 := refget_part HR3.out HNC.out HCM.out 31 35 4 (c - 31) (by omega) (by omega) rfl (by omega) rfl
  have e31 : beN (part bs 31 35) = L := HLL.out.symm
  rw [e31] at G0
  clear hcs3 hq e31 hmk
  go_wp2_with fail
  rw [rounds_succ]
  by_cases hbig : L ≤ 1000
  case neg =>
    have hbig' : (1000 : Int) < (L : Int) := by omega
    have e : dec bs = .bad := by rw [HDEC.out, if_pos (fun h => hbig h.2)]
    have HE := Lib.hid e
    clear e
    go_wp2_with (first
      | (go_at_call 73; refine (G0.out _ (Below.refl _ _)).mono ?_; rintro e w' ⟨rfl, rfl⟩)
      | (refine store_recN HZ3.out rfl rfl (.tmp 2) (.tmp 53) rfl rfl zeroRc rfl rfl ?_; intro w4 G5 G6))
    refine bodyPost_ret (result_rec3 G5.out rfl _ rfl) rfl ?_
    exact ⟨by rw [HE.out]; rfl, below_only HB3.out (only_hid G6) (Nat.le_refl _) HB3.out.size⟩
  have hbig' : ¬ (1000 : Int) < (L : Int) := by omega
  go_upto_region 14 with (go_at_call 73; refine (G0.out _ (Below.refl _ _)).mono ?_; rintro e w' ⟨rfl, rfl⟩)
  have hbq : b < w3.heap.size := Nat.lt_of_lt_of_le (Row.lt_of HR3.out (by omega)) HB3.out.size
  obtain ⟨wz, hwz⟩ : ∃ wz, wz = (w3.alloc (.cells #[.int .i64 0, .int .u32 0, .int .u64 0, .int .u64 0, .int .u64 0, .string ⟨#[]⟩] 91)).drew := ⟨_, rfl⟩
  have HBz : Hid (Below w3.heap.size w3 wz) := by rw [hwz]; exact ((Below.refl _ w3).alloc (Nat.le_refl _) _).drew
  have HBd : Hid (Below w3.heap.size w3 w3.drew) := (Below.refl _ w3).drew
  have hk' : wz.cell? ⟨b, o + 2, none⟩ = some (.int .u8 (q.toNat : Int)) := (HBz.out.cell hbq).trans hk
  rw [hwz] at hk'
  have hlow : w.heap.size ≤ w3.heap.size := HB3.out.size
  have G1 := refget_part HR3.out HNC.out HCM.out 7 15 8 (c - 7) (by omega) (by omega) rfl (by omega) rfl
  have G2 := refget_part HR3.out HNC.out HCM.out 15 23 8 (c - 15) (by omega) (by omega) rfl (by omega) rfl
  have G3 := refget_part HR3.out HNC.out HCM.out 23 31 8 (c - 23) (by omega) (by omega) rfl (by omega) rfl
  obtain ⟨V1, hV1⟩ : ∃ V, V = beN (part bs 7 15) := ⟨_, rfl⟩
  obtain ⟨V2, hV2⟩ : ∃ V, V = beN (part bs 15 23) := ⟨_, rfl⟩
  obtain ⟨V3, hV3⟩ : ∃ V, V = beN (part bs 23 31) := ⟨_, rfl⟩
  rw [← hV1] at G1
  rw [← hV2] at G2
  rw [← hV3] at G3
  have e0 : (bare x0).vals = #[.int .i64 (q.toNat : Int), .int .u32 0, .int .u64 (V1 : Int), .int .u64 (V2 : Int), .int .u64 (V3 : Int), .string ⟨#[]⟩] := by
    rw [HX0.out, hV1, hV2, hV3, HQ.out]
    rfl
  have e1 : IntKind.i64.wrap (q.toNat : Int) = (q.toNat : Int) := by rw [IntKind.wrap_i64]; omega
  have HREL : Hid (RecAt ((w3.alloc (.cells #[.int .i64 (IntKind.i64.wrap (q.toNat : Int)), .int .u32 0, .int .u64 (V1 : Int), .int .u64 (V2 : Int), .int .u64 (V3 : Int), .string ⟨#[]⟩] 91)).drew) w3.heap.size (bare x0)) := by
    show Blk _ _ _ (bare x0).vals
    rw [e0, e1]
    exact Blk.new w3 _ _
  have HREB : Hid (∀ o, Below w3.heap.size w3 ((w3.alloc o).drew)) := fun o => ((Below.refl _ w3).alloc (Nat.le_refl _) _).drew
  clear e1
  have Z1 : Hid (∀ w', Below w3.heap.size w3 w' → Below w.heap.size w3 w') := fun w' h => h.mono hlow
  have i7 : (7 : Int) ≤ (c : Int) := by omega
  have i15 : (15 : Int) ≤ (c : Int) := by omega
  have i23 : (23 : Int) ≤ (c : Int) := by omega
  have i31 : (31 : Int) ≤ (c : Int) := by omega
  have n7 : ¬ c = 7 := by omega
  have n15 : ¬ c = 15 := by omega
  have n23 : ¬ c = 23 := by omega
  have HWZ := Lib.hid hwz
  clear hwz hV1 hV2 hV3 e0
  go_cut [8] (fun v w' => v = .pointer (some ⟨w3.heap.size, 0, none⟩) ∧ Hid (RecAt w' w3.heap.size (bare x0)) ∧ Hid (Below w3.heap.size w3 w'))
  case first =>
    clear h39 h1 hL4 HDEC HX0 HLL HLS HFR HNC HCM i35 i39 n31 HC1 hn1 hn0 ha' hb4' hn39 hbig hbig' hnc' HL HR HZ3 HB3 HR3 G0 HR1 HQ hnc hc
    go_region_law (first
      | (go_simp; go_at_call 73; with_reducible refine (G1.out _ (by first | exact Z1.out _ HBd.out | (rw [← HWZ.out]; exact Z1.out _ HBz.out))).mono ?_; rintro e w' ⟨rfl, rfl⟩)
      | (go_simp; go_at_call 73; with_reducible refine (G2.out _ (by first | exact Z1.out _ HBd.out | (rw [← HWZ.out]; exact Z1.out _ HBz.out))).mono ?_; rintro e w' ⟨rfl, rfl⟩)
      | (go_simp; go_at_call 73; with_reducible refine (G3.out _ (by first | exact Z1.out _ HBd.out | (rw [← HWZ.out]; exact Z1.out _ HBz.out))).mono ?_; rintro e w' ⟨rfl, rfl⟩))
    all_goals
      go_wp2_with fail
      go_meet
      case rel => exact ⟨rfl, HREL, HREB.out _⟩
  case rest =>
  obtain ⟨rfl, XB, HBC⟩ := hcut
  clear hk hk' HWZ HREL HREB HBz HBd G1 G2 G3 Z1
  obtain ⟨g8, hg8⟩ : ∃ g, g = w3.heap.size := ⟨_, rfl⟩
  rw [← hg8] at XB ⊢
  have hg8l : w.heap.size < g8 := by rw [hg8]; exact HZ3.out.lt
  have HZC : Hid (RecAt wc w.heap.size zeroRc) := HZ3.out.below HBC.out HZ3.out.lt
  have HBW : Hid (Below w.heap.size w wc) := HB3.out.trans (HBC.out.mono HB3.out.size)
  have hbody : x0.body = [] := by rw [HX0.out]; rfl
  have HBM := Lib.hid (bare_may hbody)
  have CM : Hid (Calls Tryz.prog 70 #[.agg (bare x0).vals] wc fun e w' => e = .returned (.bool (bare x0).may) ∧ Below wc.heap.size wc w') := refmay_any (bare x0) wc (by show 0 ≤ _; omega)
  have hlo : w.heap.size < wc.heap.size := HZC.out.lt
  have h8o : g8 < wc.heap.size := XB.out.lt
  have HHB := Lib.hid hbody
  clear hg8 HZ3 HB3 HBC HR3 G0 hbody
  by_cases hmay : x0.May
  case neg =>
    have em : (bare x0).may = false := may_false fun h => hmay (HBM.out.1 h)
    have e : dec bs = .bad := by rw [HDEC.out, if_pos (fun h => hmay h.1)]
    have HE := Lib.hid e
    clear e hmay
    go_wp2_with (first
      | (refine load_rec XB.out rfl (.tmp 8) rfl rfl ?_)
      | (go_at_call 70; refine CM.out.mono ?_; rw [em]; rintro e w4 ⟨rfl, hb4⟩; have HZ4 := Lib.hid (HZC.out.below hb4 hlo); have HB4 := Lib.hid (HBW.out.trans (hb4.mono HBW.out.size)); clear hb4)
      | (refine store_recN HZ4.out rfl rfl (.tmp 2) (.tmp 71) rfl rfl zeroRc rfl rfl ?_; intro w5 G5 G6))
    refine bodyPost_ret (result_rec3 G5.out rfl _ rfl) rfl ?_
    exact ⟨by rw [HE.out]; rfl, below_only HB4.out (only_hid G6) (Nat.le_refl _) HB4.out.size⟩
  have em : (bare x0).may = true := may_true (HBM.out.2 hmay)
  have HMAY := Lib.hid hmay
  clear hmay
  go_upto_region 17 with (first
      | (refine load_rec XB.out rfl (.tmp 8) rfl rfl ?_)
      | (go_at_call 70; refine CM.out.mono ?_; rw [em]; rintro e w4 ⟨rfl, hb4⟩; have HZ4 := Lib.hid (HZC.out.below hb4 hlo); have X4 := Lib.hid (XB.out.below hb4 h8o); have HB4 := Lib.hid (HBW.out.trans (hb4.mono HBW.out.size)); clear hb4))
  clear HZC HBW CM XB em
  by_cases hmore : n < 39 + L
  case pos =>
    have hmore' : (n : Int) - 39 < (L : Int) := by omega
    have e : dec bs = .more := by rw [HDEC.out, if_neg (not_not_intro ⟨HMAY.out, hbig⟩), if_pos hmore]
    have HE := Lib.hid e
    clear e
    go_wp2_with (refine store_recN HZ4.out rfl rfl (.tmp 2) (.tmp 78) rfl rfl zeroRc rfl rfl ?_; intro w5 G5 G6)
    refine bodyPost_ret (result_rec3 G5.out rfl _ rfl) rfl ?_
    exact ⟨by rw [HE.out]; rfl, below_only HB4.out (only_hid G6) (Nat.le_refl _) HB4.out.size⟩
  have hmore' : ¬ (n : Int) - 39 < (L : Int) := by omega
  have hdec : dec bs = if ¬ sumRight bs then .bad else .ok (withBody x0 (part bs 39 (39 + L))) (39 + L) := by rw [HDEC.out, if_neg (not_not_intro ⟨HMAY.out, hbig⟩), if_neg hmore]
  have HDEC3 := Lib.hid hdec
  obtain ⟨x, hx⟩ : ∃ x, x = withBody x0 (part bs 39 (39 + L)) := ⟨_, rfl⟩
  have HXX := Lib.hid hx
  have hLc : 39 + (L : Int) ≤ (c : Int) := by have := HNC.out; omega
  have hLs : 39 + L - 39 = L := by omega
  have HR4 := Lib.hid (HR.out.below HB4.out)
  clear hdec hx HDEC
  go_upto_region 19 with fail
  have hwL : IntKind.i64.wrap (L : Int) = (L : Int) := by rw [IntKind.wrap_i64]; omega
  have hwL2 : IntKind.i64.wrap (39 + (L : Int)) = 39 + (L : Int) := by rw [IntKind.wrap_i64]; omega
  have h8w : g8 < w4.heap.size := X4.out.lt
  have hA0 : (0 : Int) ≤ 39 + (L : Int) := by omega
  have hA3 : (39 : Int) ≤ 39 + (L : Int) := by omega
  have hA1 : (39 : Int) ≤ max (39 + (L : Int)) 0 := by omega
  have hA2 : (39 + (L : Int)).toNat = 39 + L := by omega
  go_cut [8] (fun v w' => v = .pointer (some ⟨g8, 0, none⟩) ∧ Hid (RecAt w' g8 x) ∧ Hid (w4.grownBy w' (some g8)))
  case first =>
    obtain ⟨b4, o4, e4, _, hcs4⟩ := HR4.out.byte (by omega)
    injection e4 with e4
    injection e4 with f1 f2
    subst f1 f2
    have hkd : w4.drew.cell? ⟨b, o + 2, none⟩ = some (.int .u8 ((bs.getD 2 0).toNat : Int)) := hcs4 2 (by omega)
    rw [← HQ.out] at hkd
    have K1 := refget_still HR4.out HNC.out HCM.out 3 7 4 (c - 3) (by omega) (by omega) rfl (by omega) rfl
    have K2 := refget_still HR4.out HNC.out HCM.out 7 15 8 (c - 7) (by omega) (by omega) rfl (by omega) rfl
    have K3 := refget_still HR4.out HNC.out HCM.out 15 23 8 (c - 15) (by omega) (by omega) rfl (by omega) rfl
    have K4 := refget_still HR4.out HNC.out HCM.out 23 31 8 (c - 23) (by omega) (by omega) rfl (by omega) rfl
    have hV0 : beN (part bs 3 7) < 4294967296 := beN_part_lt bs 3 7 4 (by omega) (by have := HLS.out; omega) rfl
    have ev : x.vals = #[.int .i64 (q.toNat : Int), .int .u32 ((beN (part bs 3 7) : Nat) : Int), .int .u64 ((beN (part bs 7 15) : Nat) : Int), .int .u64 ((beN (part bs 15 23) : Nat) : Int), .int .u64 ((beN (part bs 23 31) : Nat) : Int), .string (str (part bs 39 (39 + L)))] := by
      rw [HXX.out, HX0.out, HQ.out]
      rfl
    obtain ⟨V0, eV0⟩ : ∃ V, V = beN (part bs 3 7) := ⟨_, rfl⟩
    obtain ⟨V1, eV1⟩ : ∃ V, V = beN (part bs 7 15) := ⟨_, rfl⟩
    obtain ⟨V2, eV2⟩ : ∃ V, V = beN (part bs 15 23) := ⟨_, rfl⟩
    obtain ⟨V3, eV3⟩ : ∃ V, V = beN (part bs 23 31) := ⟨_, rfl⟩
    rw [← eV0] at K1 hV0 ev
    rw [← eV1] at K2 ev
    rw [← eV2] at K3 ev
    rw [← eV3] at K4 ev
    obtain ⟨s, hs⟩ : ∃ s, s = str (part bs 39 (39 + L)) := ⟨_, rfl⟩
    rw [← hs] at ev
    have HS := Lib.hid hs
    have HEV := Lib.hid ev
    have hw0 : IntKind.i64.wrap (q.toNat : Int) = (q.toNat : Int) := by rw [IntKind.wrap_i64]; omega
    have hw1 : IntKind.u32.wrap (V0 : Int) = (V0 : Int) := by rw [IntKind.wrap_u32]; omega
    have i3 : (3 : Int) ≤ (c : Int) := by omega
    have i7 : (7 : Int) ≤ (c : Int) := by omega
    have i15 : (15 : Int) ≤ (c : Int) := by omega
    have i23 : (23 : Int) ≤ (c : Int) := by omega
    have i31 : (31 : Int) ≤ (c : Int) := by omega
    have n3 : ¬ c = 3 := by omega
    have n7 : ¬ c = 7 := by omega
    have n15 : ¬ c = 15 := by omega
    have n23 : ¬ c = 23 := by omega
    have X4d : Hid (Blk w4.drew g8 91 (bare x0).vals) := X4.out
    have hRow : Row w4.drew w.heap.size (some ⟨b, o, none⟩) n (bvs bs) := HR4.out
    have hPart : ∀ P, (L = 0 ∨ P = some (⟨b, o + 39, none⟩ : Addr)) → Row w4.drew w.heap.size P L (bvs (part bs 39 (39 + L))) := by
      intro P hP
      rcases Nat.eq_zero_or_pos L with h0 | h0
      · subst h0
        exact ⟨by simp [part, bvs], fun h => absurd h (by omega)⟩
      · rcases hP with hP | hP
        · omega
        · subst hP
          have := row_part (k := 39) (m := 39 + L) hRow (by omega) (by omega)
          rwa [hLs] at this
    have HPART := Lib.hid hPart
    clear hcs4 eV0 eV1 eV2 eV3 hs hRow hPart ev
    obtain ⟨P, hP⟩ : ∃ P, (if c = 39 then some (⟨b, o, none⟩ : Addr) else some ⟨b, o + 39, none⟩) = P := ⟨_, rfl⟩
    have hcv := conv_row (c := c - 39) (HPART.out P (by
      rw [← hP]
      split
      · exact .inl (by omega)
      · exact .inr rfl)) HS
    go_still_tail 24, (by kernel_rfl)
    still_call (K1.out _ rfl)
    repeat still_step
    still_call (K2.out _ rfl)
    repeat still_step
    still_call (K3.out _ rfl)
    repeat still_step
    still_call (K4.out _ rfl)
    repeat still_step
    refine wpStill_nil ?_
    change wpList _ _ _ _ _ w4.drew
    clear K1 K2 K3 K4
    go_wp2_with (refine store_recN X4d.out rfl rfl (.tmp 8) (.tmp 102) rfl rfl x (by rw [HEV.out]; rfl) rfl ?_; intro w5 G5 G6)
    go_meet
    case rel => exact ⟨rfl, G5, undrew_only G6.out⟩
  case rest =>
  obtain ⟨rfl, XC, GC⟩ := hcut
  have HZ5 : Hid (RecAt wc w.heap.size zeroRc) := HZ4.out.kept GC.out (by intro e; injection e; omega)
  have HB5 : Hid (Below w.heap.size w wc) := below_only HB4.out GC.out (Nat.le_of_lt hg8l) HB4.out.size
  have hlo5 : w.heap.size < wc.heap.size := HZ5.out.lt
  have h8o5 : g8 < wc.heap.size := XC.out.lt
  have hHL : 39 + lenOf bs ≤ bs.length := by rw [← HLL.out, HLS.out]; omega
  have hxm : x.May := by
    rw [HXX.out, HX0.out, HLL.out]
    exact again_may bs ⟨by rw [← HX0.out]; exact HMAY.out, by rw [← HLL.out]; exact hbig⟩ hHL
  have hxb : x.bytes = bs.take (39 + L) ↔ sumRight bs := by
    rw [HXX.out, HX0.out, HLL.out]
    exact again bs HFR.out hHL
  have hxf : x.Fits := by
    have := headOf_fits bs (by omega)
    rw [HXX.out, HX0.out]
    exact ⟨this.tenant, this.epoch, this.object, this.seq⟩
  have hxl : x.body.length ≤ maxLen := by have := hxm.2.2.2.2.2; unfold maxLen; omega
  have CM : Hid (∀ W, Calls Tryz.prog 70 #[.agg x.vals] W fun e w' => e = .returned (.bool true) ∧ Below W.heap.size W w') := fun W => by
    have := refmay_any x W hxl
    rw [may_true hxm] at this
    exact this
  obtain ⟨N9, hN9⟩ : ∃ N, N = x.bytes.length := ⟨_, rfl⟩
  have CE : Hid (∀ W, Calls Tryz.prog 40 #[.agg x.vals] W fun e w' => ∃ u, e = .returned u ∧ w'.ownsRow W.heap.size 5 1 u N9 (bvs x.bytes) ∧ Below W.heap.size W w') := fun W => by
    have := refencode_any x W hxf hxl
    rw [enc_may hxm, ← hN9] at this
    exact this
  have hRowT : Row wc w.heap.size (some ⟨b, o, none⟩) (39 + L) (bvs (bs.take (39 + L))) := by
    have := (HR.out.below HB5.out).take (k := 39 + L) (by omega)
    rw [bvs_take] at this
    exact this
  obtain ⟨s1, hs1⟩ : ∃ s, s = str x.bytes := ⟨_, rfl⟩
  obtain ⟨s2, hs2⟩ : ∃ s, s = str (bs.take (39 + L)) := ⟨_, rfl⟩
  have hss : s1 = s2 ↔ sumRight bs := by
    rw [hs1, hs2, ← hxb]
    exact ⟨str_inj, fun h => by rw [h]⟩
  have HS1 := Lib.hid hs1
  have HS2 := Lib.hid hs2
  have HSS := Lib.hid hss
  have HRT := Lib.hid hRowT
  have hte : (s1.toList == s2.toList) = decide (sumRight bs) := by
    rw [text_eq]
    exact decide_eq_decide.2 hss
  have XCd : Hid (RecAt wc.drew g8 x) := XC.out
  have HXL : Hid (w.heap.size ≤ wc.heap.size) := Nat.le_of_lt hlo5
  have HBD : Hid (Below wc.heap.size wc wc.drew) := (Below.refl _ _).drew
  clear hN9 hs1 hs2 hss hRowT hxl hxf hxb hxm hHL HZ4 HB4 X4 HR4 GC
  go_upto_region 20 with fail
  obtain ⟨t, ht⟩ : ∃ t, t = (!decide (sumRight bs)) := ⟨_, rfl⟩
  have HTT := Lib.hid ht
  clear ht
  go_cut [117] (fun v w' => v = .bool t ∧ Hid (Below wc.heap.size wc w'))
  case first =>
    refine wp_region_noPanic ?_
    refine wp_region_held_drew (S := fun w' => Hid (Below wc.heap.size wc w')) (by kernel_rfl) HBD (fun h0 => ?_)
    refine held_take 0 (v := .agg x.vals) (d := some 103) rfl rfl (by kernel_rfl) (by kernel_rfl) (by kernel_rfl) (fun _ _ _ h => h) (yieldsIf_load_rec (by rfl) (.tmp 8) rfl g8 rfl x (fun w h => XC.out.below h.out h8o5)) h0 ?_
    try simp only [Act.put, List.setIfInBounds_toArray, List.set_cons_zero, List.set_cons_succ]
    refine wpAnyH_ready (rs := [1]) (by kernel_rfl) (by simp) (AllReadyH.cons rfl (fun K hK => ?_) AllReadyH.nil)
    go_simp
    with_reducible refine (CM.out _).mono ?_
    rintro e w6 ⟨rfl, hb6⟩
    have B6 := below_of_drew hb6
    clear hb6
    refine hK.out _ _ (B6) (fun h1 => ?_)
    clear hK K
    try simp only [Act.put, List.setIfInBounds_toArray, List.set_cons_zero, List.set_cons_succ]
    refine held_take 2 (v := ?_) (d := (some 105)) rfl rfl (by kernel_rfl) (by kernel_rfl) (by kernel_rfl) (fun _ _ _ h => h) (Or.inl ⟨by rfl, ?_⟩) h1 ?_
    rotate_left
    · intro _ _; go_simp; (try with_reducible rfl)
    try simp only [Act.put, List.setIfInBounds_toArray, List.set_cons_zero, List.set_cons_succ]
    refine held_take 3 (v := ?_) (d := (some 106)) rfl rfl (by kernel_rfl) (by kernel_rfl) (by kernel_rfl) (fun _ _ _ h => h) (Or.inl ⟨by rfl, ?_⟩) h1 ?_
    rotate_left
    · intro _ _; go_simp; (try with_reducible rfl)
    try simp only [Act.put, List.setIfInBounds_toArray, List.set_cons_zero, List.set_cons_succ]
    refine held_take 4 (v := .agg x.vals) (d := some 107) rfl rfl (by kernel_rfl) (by kernel_rfl) (by kernel_rfl) (fun _ _ _ h => h) (yieldsIf_load_rec (by rfl) (.tmp 8) rfl g8 rfl x (fun w h => XC.out.below h.out h8o5)) h1 ?_
    try simp only [Act.put, List.setIfInBounds_toArray, List.set_cons_zero, List.set_cons_succ]
    refine held_take 7 (v := ?_) (d := (some 110)) rfl rfl (by kernel_rfl) (by kernel_rfl) (by kernel_rfl) (fun _ _ _ h => h) (Or.inl ⟨by rfl, ?_⟩) h1 ?_
    rotate_left
    · intro _ _; go_simp; (try with_reducible rfl)
    try simp only [Act.put, List.setIfInBounds_toArray, List.set_cons_zero, List.set_cons_succ]
    refine held_take 8 (v := ?_) (d := (some 111)) rfl rfl (by kernel_rfl) (by kernel_rfl) (by kernel_rfl) (fun _ _ _ h => h) (Or.inl ⟨by rfl, ?_⟩) h1 ?_
    rotate_left
    · intro _ _; go_simp; (try with_reducible rfl)
    try simp only [Act.put, List.setIfInBounds_toArray, List.set_cons_zero, List.set_cons_succ]
    refine held_take 9 (v := ?_) (d := (some 112)) rfl rfl (by kernel_rfl) (by kernel_rfl) (by kernel_rfl) (fun _ _ _ h => h) (Or.inl ⟨by rfl, ?_⟩) h1 ?_
    rotate_left
    · intro _ _; go_simp; (try with_reducible rfl)
    try simp only [Act.put, List.setIfInBounds_toArray, List.set_cons_zero, List.set_cons_succ]
    refine held_take 10 (v := ?_) (d := (some 113)) rfl rfl (by kernel_rfl) (by kernel_rfl) (by kernel_rfl) (fun _ _ _ h => h) (Or.inl ⟨by rfl, ?_⟩) h1 ?_
    rotate_left
    · intro _ _; go_simp; (try with_reducible rfl)
    try simp only [Act.put, List.setIfInBounds_toArray, List.set_cons_zero, List.set_cons_succ]
    refine held_take 11 (v := ?_) (d := (some 114)) rfl rfl (by kernel_rfl) (by kernel_rfl) (by kernel_rfl) (fun _ _ _ h => h) (Or.inl ⟨by rfl, ?_⟩) h1 ?_
    rotate_left
    · intro _ _; go_simp; (try with_reducible rfl)
    try simp only [Act.put, List.setIfInBounds_toArray, List.set_cons_zero, List.set_cons_succ]
    refine held_take 12 (v := .string s2) (d := some 115) rfl rfl (by kernel_rfl) (by kernel_rfl) (by kernel_rfl) (fun _ _ _ h => h) (yieldsIf_conv (by rfl) (.tmp 114) rfl rfl (fun w h => conv_row (c := c) (HRT.out.below (h.out.mono HXL.out)) HS2)) h1 ?_
    try simp only [Act.put, List.setIfInBounds_toArray, List.set_cons_zero, List.set_cons_succ]
    refine wpAnyH_ready (rs := [5]) (by kernel_rfl) (by simp) (AllReadyH.cons rfl (fun K hK => ?_) AllReadyH.nil)
    go_simp
    with_reducible refine (CE.out _).mono ?_
    rintro e w7 ⟨u7, rfl, ho7, hb7⟩
    obtain ⟨A7, c7, rfl, hcv7⟩ := conv_own ho7 HS1
    have B7 := Lib.hid (B6.out.trans (hb7.mono B6.out.size))
    clear hb7 ho7
    refine hK.out _ _ (B7) (fun h2 => ?_)
    clear hK K
    try simp only [Act.put, List.setIfInBounds_toArray, List.set_cons_zero, List.set_cons_succ]
    refine wpAnyH_ready (rs := [6]) (by kernel_rfl) (by simp) (AllReadyH.cons rfl (fun K hK => ?_) AllReadyH.nil)
    go_simp
    refine hK.out _ _ (B7) (fun h3 => ?_)
    clear hK K
    try simp only [Act.put, List.setIfInBounds_toArray, List.set_cons_zero, List.set_cons_succ]
    refine held_take 13 (v := ?_) (d := (some 116)) rfl rfl (by kernel_rfl) (by kernel_rfl) (by kernel_rfl) (fun _ _ _ h => h) (Or.inl ⟨by rfl, ?_⟩) h3 ?_
    rotate_left
    · intro _ _; go_simp; (try with_reducible rfl)
    try simp only [Act.put, List.setIfInBounds_toArray, List.set_cons_zero, List.set_cons_succ]
    refine held_take 14 (v := ?_) (d := (some 117)) rfl rfl (by kernel_rfl) (by kernel_rfl) (by kernel_rfl) (fun _ _ _ h => h) (Or.inl ⟨by rfl, ?_⟩) h3 ?_
    rotate_left
    · intro _ _; go_simp; (try with_reducible rfl)
    try simp only [Act.put, List.setIfInBounds_toArray, List.set_cons_zero, List.set_cons_succ]
    refine wpAnyH_done (by kernel_rfl) ?_ _
    refine NoPanic.normal ?_
    go_wp2_with fail
    go_meet
    case rel => exact ⟨by rw [HTT.out], B7⟩
  case rest =>
  obtain ⟨rfl, HBF⟩ := hcut
  have HZ9 := Lib.hid (HZ5.out.below HBF.out hlo5)
  have X9 := Lib.hid (XC.out.below HBF.out h8o5)
  have HB9 : Hid (Below w.heap.size w wc) := HB5.out.trans (HBF.out.mono HXL.out)
  clear XCd CM CE HZ5 HB5 HBF XC
  by_cases hsr : sumRight bs
  case neg =>
    have e : dec bs = .bad := by rw [HDEC3.out, if_pos hsr]
    have HE := Lib.hid e
    obtain rfl : t = true := by rw [HTT.out, decide_eq_false hsr]; rfl
    clear e
    go_wp2_with (refine store_recN HZ9.out rfl rfl (.tmp 2) (.tmp 118) rfl rfl zeroRc rfl rfl ?_; intro w5 G5 G6)
    refine bodyPost_ret (result_rec3 G5.out rfl _ rfl) rfl ?_
    exact ⟨by rw [HE.out]; rfl, below_only HB9.out (only_hid G6) (Nat.le_refl _) HB9.out.size⟩
  have e : dec bs = .ok x (39 + L) := by rw [HDEC3.out, if_neg (not_not_intro hsr), HXX.out]
  have HE := Lib.hid e
  obtain rfl : t = false := by rw [HTT.out, decide_eq_true hsr]; rfl
  clear e
  go_wp2_with (first
    | (refine load_rec X9.out rfl (.tmp 8) rfl rfl ?_)
    | (refine store_recN HZ9.out rfl rfl (.tmp 2) (.tmp 119) rfl rfl x rfl rfl ?_; intro w5 G5 G6))
  refine bodyPost_ret (result_rec3 G5.out rfl _ rfl) rfl ?_
  exact ⟨by rw [HE.out]; show _ = Ending.returned (.tuple #[.agg x.vals, .int .i64 ((39 + L : Nat) : Int), .int .i64 0]); rw [show ((39 + L : Nat) : Int) = 39 + (L : Int) by omega]; rfl, below_only HB9.out (only_hid G6) (Nat.le_refl _) HB9.out.size⟩
theorem refdecode_any (A : Option Addr) (n c : Nat) (bs : List UInt8) (w : World) (hR : Row w w.heap.size A n (bvs bs)) (hnc : n ≤ c) (hc : c ≤ maxLen) :
    Calls Tryz.prog 69 #[.slice A n c] w fun e w' => e = .returned (.tuple (dec bs).vals) ∧ Below w.heap.size w w' := by
  rcases Nat.eq_zero_or_pos n with h0 | h0
  · subst h0
    obtain rfl : bs = [] := List.eq_nil_of_length_eq_zero hR.size
    exact refdecode_a A c w hc
  obtain ⟨b, o, rfl, _, _⟩ := hR.2 h0
  have hl := hR.size
  by_cases g0 : bs.getD 0 0 = 83
  · by_cases g1 : n = 1
    · have e : dec bs = .more := by
        unfold dec
        rw [if_neg (not_not_intro ⟨fun _ => g0, fun h => by omega, fun h => by omega⟩), if_pos (by omega)]
      rw [e]
      exact refdecode_c b o n c bs w hR hnc hc g1 g0
    · by_cases g2 : bs.getD 1 0 = 82
      · by_cases g3 : mayKind ((bs.getD 2 0).toNat : Int) ∧ 39 ≤ n
        · exact refdecode_f b o n c bs w hR hnc hc ⟨fun _ => g0, fun _ => g2, fun _ => g3.1⟩ g3.2
        · exact refdecode_e b o n c bs w hR hnc hc (by omega) g0 g2 g3
      · have e : dec bs = .bad := by
          unfold dec
          rw [if_pos fun h => g2 (h.2.1 (by omega))]
        rw [e]
        exact refdecode_d b o n c bs w hR hnc hc (by omega) g0 g2
  · have e : dec bs = .bad := by
      unfold dec
      rw [if_pos fun h => g0 (h.1 (by omega))]
    rw [e]
    exact refdecode_b b o n c bs w hR hnc hc h0 g0
end Go.Proofs.YtcmlchicpmnhdaaGreatDoor.Rec
