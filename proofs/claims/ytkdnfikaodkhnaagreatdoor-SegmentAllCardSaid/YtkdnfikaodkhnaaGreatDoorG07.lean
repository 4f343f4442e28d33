/-
  Texts one behind the other: RecHead, RecDecode, ScanCom.
-/
import Derived.StillTailTactics
import Derived.BigQuiet
import Derived.Test.YtkdnfikaodkhnaaGreatDoorG06
/-
  Proved: what withoutBody returns of a whole head.
  Conditions: the slice reads as bytes, at least 39.
-/
namespace Go.Proofs.YtkdnfikaodkhnaaGreatDoor.Rec
open Go.RowKit
set_option linter.unusedVariables false
set_option linter.unusedSimpArgs false

theorem row_heap {w w' : World} {B n : Nat} {A : Option Addr} {vs : List Value} (h : Row w B A n vs) (e : w'.heap = w.heap) : Row w' B A n vs :=
  h.keep fun b o _ => by unfold World.cell?; rw [e]
theorem row_part {w : World} {B n k m b o : Nat} {bs : List UInt8} (h : Row w B (some ⟨b, o, none⟩) n (bvs bs)) (hk : k < m) (hm : m ≤ n) : Row w B (some ⟨b, o + k, none⟩) (m - k) (bvs (part bs k m)) := by
  have := (h.drop (k := k) (by omega)).take (k := m - k) (by omega)
  rw [bvs_drop, bvs_take] at this
  exact this
theorem get_part {w : World} {B n b o c : Nat} {bs : List UInt8} (h : Row w B (some ⟨b, o, none⟩) n (bvs bs)) (hnc : n ≤ c) (hc : c ≤ maxLen) (k m z d : Nat) (hk : k < m) (hm : m ≤ n) (hz : z = m - k) (h8 : z ≤ 8) (hd : d = c - k) :
    Hid (∀ w', w'.heap = w.heap → Calls Tryz.prog 73 #[.slice (some ⟨b, o + k, none⟩) z d] w' fun e w'' => e = .returned (.int .u64 (beN (part bs k m) : Int)) ∧ w'' = w') := by
  intro w' e
  subst hz hd
  refine (get_any _ _ _ B _ w' (row_heap (row_part h hk hm) e) h8 (by omega) (by omega)).mono ?_
  rintro e w'' ⟨h1, rfl⟩
  exact ⟨h1, rfl⟩
set_option maxHeartbeats 2000000 in
set_option maxRecDepth 100000 in
theorem withoutBody_any (b o n c B : Nat) (bs : List UInt8) (w : World) (hR : Row w B (some ⟨b, o, none⟩) n (bvs bs)) (hB : B ≤ w.heap.size) (hn : 39 ≤ n) (hnc : n ≤ c) (hc : c ≤ maxLen) :
    Calls Tryz.prog 72 #[.slice (some ⟨b, o, none⟩) n c] w fun e w' => e = .returned (.agg (headOf bs).vals) ∧ Below w.heap.size w w' := by
  have hm : c ≤ 9223372036854775807 := by unfold maxLen at hc; exact hc
  have h39 : 39 ≤ c := by omega
  have hz := zeroRec
  obtain ⟨w1, hw1⟩ : ∃ w1, w1 = w.alloc (.cells #[.int .i64 0, .int .u32 0, .int .u64 0, .int .u64 0, .int .u64 0, .string ⟨#[]⟩] 40) := ⟨_, rfl⟩
  have hB1 : Below w.heap.size w w1 := by rw [hw1]; exact below_alloc w _
  have hR1 : Row w1 B (some ⟨b, o, none⟩) n (bvs bs) := hR.below (hB1.mono hB)
  have G0 := get_part hR1 hnc hc 2 3 1 (c - 2) (by omega) (by omega) rfl (by omega) rfl
  have G1 := get_part hR1 hnc hc 3 7 4 (c - 3) (by omega) (by omega) rfl (by omega) rfl
  have G2 := get_part hR1 hnc hc 7 15 8 (c - 7) (by omega) (by omega) rfl (by omega) rfl
  have G3 := get_part hR1 hnc hc 15 23 8 (c - 15) (by omega) (by omega) rfl (by omega) rfl
  have G4 := get_part hR1 hnc hc 23 31 8 (c - 23) (by omega) (by omega) rfl (by omega) rfl
  have hl := hR.size
  have b0 : beN (part bs 2 3) < 256 := by have := beN_lt 1 (part bs 2 3) (part_length _ _ _ (by omega) (by omega)); omega
  have b1 : beN (part bs 3 7) < 4294967296 := by have := beN_lt 4 (part bs 3 7) (part_length _ _ _ (by omega) (by omega)); omega
  have hv : (headOf bs).vals = #[.int .i64 ((beN (part bs 2 3) : Nat) : Int), .int .u32 ((beN (part bs 3 7) : Nat) : Int), .int .u64 ((beN (part bs 7 15) : Nat) : Int), .int .u64 ((beN (part bs 15 23) : Nat) : Int), .int .u64 ((beN (part bs 23 31) : Nat) : Int), .string ⟨#[]⟩] := by
    unfold Rc.vals headOf
    rw [part_kind bs (by omega), beN_one]
    rfl
  have HS : Hid (Blk w1.drew w.heap.size 40 zeroRc.vals) := by
    rw [hw1]
    exact Blk.new w 40 zeroRc.vals
  obtain ⟨x, hx⟩ : ∃ x, x = headOf bs := ⟨_, rfl⟩
  rw [← hx] at hv ⊢
  obtain ⟨V0, hV0⟩ : ∃ V, V = beN (part bs 2 3) := ⟨_, rfl⟩
  obtain ⟨V1, hV1⟩ : ∃ V, V = beN (part bs 3 7) := ⟨_, rfl⟩
  obtain ⟨V2, hV2⟩ : ∃ V, V = beN (part bs 7 15) := ⟨_, rfl⟩
  obtain ⟨V3, hV3⟩ : ∃ V, V = beN (part bs 15 23) := ⟨_, rfl⟩
  obtain ⟨V4, hV4⟩ : ∃ V, V = beN (part bs 23 31) := ⟨_, rfl⟩
  rw [← hV0] at G0 b0 hv
  rw [← hV1] at G1 b1 hv
  rw [← hV2] at G2 hv
  rw [← hV3] at G3 hv
  rw [← hV4] at G4 hv
  have w0 : IntKind.i64.wrap (V0 : Int) = (V0 : Int) := by rw [IntKind.wrap_i64]; omega
  have w1' : IntKind.u32.wrap (V1 : Int) = (V1 : Int) := by simp [IntKind.wrap, IntKind.bits, IntKind.signed]; omega
  have HV : Hid (x.vals = #[.int .i64 (IntKind.i64.wrap (V0 : Int)), .int .u32 (IntKind.u32.wrap (V1 : Int)), .int .u64 (V2 : Int), .int .u64 (V3 : Int), .int .u64 (V4 : Int), .string ⟨#[]⟩]) := by
    show _ = _
    rw [w0, w1', hv]
  clear w0 w1'
  have HB1 := Lib.hid hB1
  clear hV0 hV1 hV2 hV3 hV4 hx hv hl hR hR1 hB1 hc hnc hn
  go_enter Tryz.func72, Tryz.ntmps72
  go_upto_region 1 with fail
  rw [← hw1]
  clear hw1
  have i3 : (3 : Int) ≤ (c : Int) := by omega
  have i7 : (7 : Int) ≤ (c : Int) := by omega
  have i15 : (15 : Int) ≤ (c : Int) := by omega
  have i23 : (23 : Int) ≤ (c : Int) := by omega
  have i31 : (31 : Int) ≤ (c : Int) := by omega
  have n2 : ¬ c = 2 := by omega
  have n3 : ¬ c = 3 := by omega
  have n7 : ¬ c = 7 := by omega
  have n15 : ¬ c = 15 := by omega
  have n23 : ¬ c = 23 := by omega
  go_still_tail 18, (by kernel_rfl)
  still_call (G0.out _ rfl)
  repeat still_step
  still_call (G1.out _ rfl)
  repeat still_step
  still_call (G2.out _ rfl)
  repeat still_step
  still_call (G3.out _ rfl)
  repeat still_step
  still_call (G4.out _ rfl)
  repeat still_step
  refine wpStill_nil ?_
  change wpList _ _ _ _ _ w1.drew
  clear G0 G1 G2 G3 G4
  go_wp2_with (refine store_rec HS.out rfl rfl (.tmp 2) (.tmp 20) rfl rfl x (by rw [HV.out]; rfl) ?_; intro w2 G5 G6)
  refine bodyPost_ret (v := .agg x.vals) (result_rec G5.out rfl _ rfl) rfl ?_
  exact ⟨rfl, below_only HB1.out.drew (only_hid G6) (Nat.le_refl _) HB1.out.size⟩
end Go.Proofs.YtkdnfikaodkhnaaGreatDoor.Rec
/-
  Proved: what Decode of record returns: what a list of bytes begins with.
  Conditions: the slice reads as bytes; the table crc.turned holds its sixteen words.
-/
namespace Go.Proofs.YtkdnfikaodkhnaaGreatDoor.Rec
open Go.RowKit
open Go.Proofs.YtkdnfikaodkhnaaGreatDoor.Crc (Turned)
set_option linter.unusedVariables false
set_option linter.unusedSimpArgs false

theorem result_rec3 {w : World} {fn : Func} {p q r : Tmp} {g : Nat} {x : Rc} (h : RecAt w g x) (hr : fn.results = #[.cell p 40, .tmp q, .tmp r]) (tmps : Array Value) (hp : tmps.getD p undef = .pointer (some ⟨g, 0, none⟩)) :
    (results fn tmps).run Tryz.prog w = .ok (.tuple #[.agg x.vals, tmps.getD q undef, tmps.getD r undef]) w := by
  have hp' : tmps[p]?.getD undef = .pointer (some ⟨g, 0, none⟩) := by simpa using hp
  simp [results, hr, hp', asAddr, run_loadVar_row w g 40 40 x.vals (0, 0) _ h Tryz.underlying40 rfl rec_info]
def Out.vals : Out → Array Value
  | .ok x n => #[.agg x.vals, .int .i64 (n : Int), .int .i64 0]
  | .more => #[.agg zeroRc.vals, .int .i64 0, .int .i64 11]
  | .bad => #[.agg zeroRc.vals, .int .i64 0, .int .i64 4]
theorem zero_new (w : World) : RecAt (w.alloc (.cells #[.int .i64 0, .int .u32 0, .int .u64 0, .int .u64 0, .int .u64 0, .string ⟨#[]⟩] 40)) w.heap.size zeroRc := Blk.new w 40 zeroRc.vals

set_option maxRecDepth 100000 in
set_option maxHeartbeats 4000000 in
theorem decode_short (A : Option Addr) (n c : Nat) (bs : List UInt8) (w : World) (hR : Row w w.heap.size A n (bvs bs)) (hnc : n ≤ c) (hc : c ≤ maxLen) (h : ¬ (Front bs ∧ 39 ≤ n)) :
    Calls Tryz.prog 43 #[.slice A n c] w fun e w' => e = .returned (.tuple (dec bs).vals) ∧ Below w.heap.size w w' := by
  have hm : c ≤ 9223372036854775807 := by unfold maxLen at hc; exact hc
  have hz := zeroRec
  obtain ⟨w1, hw1⟩ : ∃ w1, w1 = w.alloc (.cells #[.int .i64 0, .int .u32 0, .int .u64 0, .int .u64 0, .int .u64 0, .string ⟨#[]⟩] 40) := ⟨_, rfl⟩
  have hB1 : Below w.heap.size w w1 := by rw [hw1]; exact below_alloc w _
  have hR1 : Row w1 w.heap.size A n (bvs bs) := hR.below hB1
  have HZ : Hid (RecAt w1 w.heap.size zeroRc) := by rw [hw1]; exact zero_new w
  have CB := Lib.hid (begins_any A n c _ bs w1 hR1 hnc hc)
  have HB1 := Lib.hid hB1
  have hl := hR.size
  by_cases hf : Front bs
  · have e : dec bs = .more := by
      unfold dec
      rw [if_neg (not_not_intro hf), if_pos (by rw [hl]; exact Nat.lt_of_not_le fun h' => h ⟨hf, h'⟩)]
    have hlt' : n < 39 := Nat.lt_of_not_le fun h' => h ⟨hf, h'⟩
    have hlt : (n : Int) < 39 := by omega
    rw [e, decide_eq_true hf] at *
    clear e hf h hl hR hR1 hB1 hc hnc
    go_enter Tryz.func43, Tryz.ntmps43
    go_upto_region 1 with fail
    rw [← hw1]
    clear hw1 hz
    go_wp2_with (first
      | (go_at_call 71; refine CB.out.mono ?_; rintro e w' ⟨rfl, rfl⟩)
      | (refine store_rec HZ.out rfl rfl (.tmp 2) (.tmp 16) rfl rfl zeroRc rfl ?_; intro w2 G5 G6))
    refine bodyPost_ret (result_rec3 G5.out rfl _ rfl) rfl ?_
    exact ⟨rfl, below_only HB1.out (only_hid G6) (Nat.le_refl _) HB1.out.size⟩
  · have e : dec bs = .bad := by
      unfold dec
      rw [if_pos hf]
    rw [e, decide_eq_false hf] at *
    clear e hf h hl hR hR1 hB1 hc hnc
    go_enter Tryz.func43, Tryz.ntmps43
    go_upto_region 1 with fail
    rw [← hw1]
    clear hw1 hz
    go_wp2_with (first
      | (go_at_call 71; refine CB.out.mono ?_; rintro e w' ⟨rfl, rfl⟩)
      | (refine store_rec HZ.out rfl rfl (.tmp 2) (.tmp 12) rfl rfl zeroRc rfl ?_; intro w2 G5 G6))
    refine bodyPost_ret (result_rec3 G5.out rfl _ rfl) rfl ?_
    exact ⟨rfl, below_only HB1.out (only_hid G6) (Nat.le_refl _) HB1.out.size⟩
theorem beN_part_lt (bs : List UInt8) (i j k : Nat) (h : i ≤ j) (hj : j ≤ bs.length) (hk : j - i = k) : beN (part bs i j) < 256 ^ k := beN_lt k _ (by rw [part_length bs i j h hj, hk])
theorem headOf_fits (bs : List UInt8) (h : 39 ≤ bs.length) : (headOf bs).Fits :=
  ⟨beN_part_lt bs 3 7 4 (by omega) (by omega) rfl, beN_part_lt bs 7 15 8 (by omega) (by omega) rfl, beN_part_lt bs 15 23 8 (by omega) (by omega) rfl, beN_part_lt bs 23 31 8 (by omega) (by omega) rfl⟩
set_option maxRecDepth 100000 in
set_option maxHeartbeats 8000000 in
theorem decode_long (b o n c : Nat) (bs : List UInt8) (w : World) (hT : Turned w) (hR : Row w w.heap.size (some ⟨b, o, none⟩) n (bvs bs)) (hnc : n ≤ c) (hc : c ≤ maxLen) (hf : Front bs) (h39 : 39 ≤ n) :
    Calls Tryz.prog 43 #[.slice (some ⟨b, o, none⟩) n c] w fun e w' => e = .returned (.tuple (dec bs).vals) ∧ Below w.heap.size w w' := by
  have hm : c ≤ 9223372036854775807 := by unfold maxLen at hc; exact hc
  have hz := zeroRec
  obtain ⟨w1, hw1⟩ : ∃ w1, w1 = w.alloc (.cells #[.int .i64 0, .int .u32 0, .int .u64 0, .int .u64 0, .int .u64 0, .string ⟨#[]⟩] 40) := ⟨_, rfl⟩
  have hB1 : Below w.heap.size w w1 := by rw [hw1]; exact below_alloc w _
  have hR1 : Row w1 w.heap.size (some ⟨b, o, none⟩) n (bvs bs) := hR.below hB1
  have HZ : Hid (RecAt w1 w.heap.size zeroRc) := by rw [hw1]; exact zero_new w
  have CB := Lib.hid (begins_any (some ⟨b, o, none⟩) n c _ bs w1 hR1 hnc hc)
  have HB1 := Lib.hid hB1
  have hl := hR.size
  rw [decide_eq_true hf] at CB
  have CW := Lib.hid (withoutBody_any b o n c _ bs w1 hR1 hB1.size h39 hnc hc)
  have hn39 : ¬ (n : Int) < 39 := by omega
  obtain ⟨x0, hx0⟩ : ∃ x0, x0 = headOf bs := ⟨_, rfl⟩
  obtain ⟨L, hL⟩ : ∃ L, L = lenOf bs := ⟨_, rfl⟩
  have hL4 : L < 4294967296 := by rw [hL]; exact beN_part_lt bs 31 35 4 (by omega) (by omega) rfl
  have hdec : dec bs = if ¬ (x0.May ∧ L ≤ 1000) then .bad else if n < 39 + L then .more else if ¬ sumRight bs then .bad else .ok (withBody x0 (part bs 39 (39 + L))) (39 + L) := by
    rw [hx0, hL, ← hl]
    conv => lhs; unfold dec
    rw [if_neg (not_not_intro hf), if_neg (by omega)]
  rw [← hx0] at CW
  have i35 : (35 : Int) ≤ (c : Int) := by omega
  have i39 : (39 : Int) ≤ (c : Int) := by omega
  have n31 : ¬ c = 31 := by omega
  have n35 : ¬ c = 35 := by omega
  have HR := Lib.hid hR
  have HT := Lib.hid hT
  have HDEC := Lib.hid hdec
  have HNC := Lib.hid hnc
  have HC := Lib.hid hc
  have HX0 := Lib.hid hx0
  have HL := Lib.hid hl
  have HLL := Lib.hid hL
  clear hR hT hdec hnc hc hf hl hx0 hL hR1 hB1
  go_enter Tryz.func43, Tryz.ntmps43
  go_upto_region 1 with fail
  rw [← hw1]
  clear hw1
  go_upto_region 6 with (first
      | (go_at_call 71; refine CB.out.mono ?_; rintro e w' ⟨rfl, rfl⟩)
      | (go_at_call 72; refine CW.out.mono ?_; rintro e w2 ⟨rfl, hb2⟩; have HB2 := Lib.hid hb2; clear hb2)
      | (refine store_rec (zero_new w2) rfl rfl (.tmp 5) (.tmp 18) rfl rfl x0 rfl ?_; intro w3 X3 G3))
  have HB2' : Hid (Below w.heap.size w w2) := HB1.out.trans (HB2.out.mono HB1.out.size)
  have hg2 : w.heap.size < w2.heap.size := Nat.lt_of_lt_of_le HZ.out.lt HB2.out.size
  have HB3 : Hid (Below w.heap.size w w3) := below_only (HB2'.out.alloc HB2'.out.size _) (only_hid G3) (Nat.le_of_lt hg2) (by simp; omega)
  have HZ3 : Hid (RecAt w3 w.heap.size zeroRc) := ((HZ.out.below HB2.out HZ.out.lt).below (below_alloc w2 _) hg2).kept (only_hid G3) (by intro e; injection e; omega)
  have HR3 := Lib.hid (HR.out.below HB3.out)
  have CG := get_part HR3.out HNC.out HC.out 31 35 4 (c - 31) (by omega) (by omega) rfl (by omega) rfl
  have e31 : beN (part bs 31 35) = L := HLL.out.symm
  rw [e31] at CG
  have hbody : x0.body.length ≤ maxLen := by rw [HX0.out]; exact Nat.zero_le _
  have CM := Lib.hid (may_any x0 w3 hbody)
  have hz3 : w.heap.size < w3.heap.size := HZ3.out.lt
  have hx3 : w2.heap.size < w3.heap.size := X3.out.lt
  clear e31 hbody HB1 HZ HB2 HB2' CB CW G3
  by_cases hmay : x0.May
  case neg =>
    have em := may_false hmay
    have e : dec bs = .bad := by rw [HDEC.out, if_pos (fun h => hmay h.1)]
    have HE := Lib.hid e
    clear e hmay HDEC
    go_wp2_with (first
      | (go_at_call 73; refine (CG.out _ rfl).mono ?_; rintro e w' ⟨rfl, rfl⟩)
      | (refine load_rec X3.out rfl (.tmp 5) rfl rfl ?_)
      | (go_at_call 53; refine CM.out.mono ?_; rw [em]; rintro e w4 ⟨rfl, hb4⟩; have HZ4 := Lib.hid (HZ3.out.below hb4 hz3); have HB4 := Lib.hid (HB3.out.trans (hb4.mono HB3.out.size)); clear hb4)
      | (refine store_rec HZ4.out rfl rfl (.tmp 2) (.tmp 29) rfl rfl zeroRc rfl ?_; intro w5 G5 G6))
    refine bodyPost_ret (result_rec3 G5.out rfl _ rfl) rfl ?_
    exact ⟨by rw [HE.out]; rfl, below_only HB4.out (only_hid G6) (Nat.le_refl _) HB4.out.size⟩
  have em := may_true hmay
  by_cases hbig : L ≤ 1000
  case neg =>
    have hbig' : (1000 : Int) < (L : Int) := by omega
    have e : dec bs = .bad := by rw [HDEC.out, if_pos (fun h => hbig h.2)]
    have HE := Lib.hid e
    clear e hmay HDEC hbig
    go_wp2_with (first
      | (go_at_call 73; refine (CG.out _ rfl).mono ?_; rintro e w' ⟨rfl, rfl⟩)
      | (refine load_rec X3.out rfl (.tmp 5) rfl rfl ?_)
      | (go_at_call 53; refine CM.out.mono ?_; rw [em]; rintro e w4 ⟨rfl, hb4⟩; have HZ4 := Lib.hid (HZ3.out.below hb4 hz3); have HB4 := Lib.hid (HB3.out.trans (hb4.mono HB3.out.size)); clear hb4)
      | (refine store_rec HZ4.out rfl rfl (.tmp 2) (.tmp 29) rfl rfl zeroRc rfl ?_; intro w5 G5 G6))
    refine bodyPost_ret (result_rec3 G5.out rfl _ rfl) rfl ?_
    exact ⟨by rw [HE.out]; rfl, below_only HB4.out (only_hid G6) (Nat.le_refl _) HB4.out.size⟩
  have hbig' : ¬ (1000 : Int) < (L : Int) := by omega
  have hdec : dec bs = if n < 39 + L then .more else if ¬ sumRight bs then .bad else .ok (withBody x0 (part bs 39 (39 + L))) (39 + L) := by rw [HDEC.out, if_neg (not_not_intro ⟨hmay, hbig⟩)]
  have HDEC2 := Lib.hid hdec
  clear hdec HDEC hmay
  go_upto_region 10 with (first
      | (go_at_call 73; refine (CG.out _ rfl).mono ?_; rintro e w' ⟨rfl, rfl⟩)
      | (refine load_rec X3.out rfl (.tmp 5) rfl rfl ?_)
      | (go_at_call 53; refine CM.out.mono ?_; rw [em]; rintro e w4 ⟨rfl, hb4⟩; have HZ4 := Lib.hid (HZ3.out.below hb4 hz3); have HX4 := Lib.hid (X3.out.below hb4 hx3); have HB4 := Lib.hid (HB3.out.trans (hb4.mono HB3.out.size)); clear hb4))
  by_cases hmore : n < 39 + L
  case pos =>
    have hmore' : (n : Int) < 39 + (L : Int) := by omega
    have e : dec bs = .more := by rw [HDEC2.out, if_pos hmore]
    have HE := Lib.hid e
    clear e HDEC2
    go_wp2_with (refine store_rec HZ4.out rfl rfl (.tmp 2) (.tmp 37) rfl rfl zeroRc rfl ?_; intro w5 G5 G6)
    refine bodyPost_ret (result_rec3 G5.out rfl _ rfl) rfl ?_
    exact ⟨by rw [HE.out]; rfl, below_only HB4.out (only_hid G6) (Nat.le_refl _) HB4.out.size⟩
  have hmore' : ¬ (n : Int) < 39 + (L : Int) := by omega
  have hdec : dec bs = if ¬ sumRight bs then .bad else .ok (withBody x0 (part bs 39 (39 + L))) (39 + L) := by rw [HDEC2.out, if_neg hmore]
  have HDEC3 := Lib.hid hdec
  clear hdec HDEC2 X3 HZ3 HB3 HR3 CG CM
  have hnc := HNC.out
  have hLc : 39 + (L : Int) ≤ (c : Int) := by omega
  have hLs : 39 + L - 39 = L := by omega
  go_upto_region 13 with fail
  obtain ⟨P, hP⟩ : ∃ P, P = (if c = 39 then some (⟨b, o, none⟩ : Addr) else some ⟨b, o + 39, none⟩) := ⟨_, rfl⟩
  rw [← hP]
  have HR4 := Lib.hid (HR.out.below HB4.out)
  have HRP : Hid (Row w4 w.heap.size P L (bvs (part bs 39 (39 + L)))) := by
    rcases Nat.eq_zero_or_pos L with h0 | h0
    · subst h0
      exact ⟨by simp [part, bvs], fun h => absurd h (by omega)⟩
    · rw [hP, if_neg (by omega)]
      have := row_part (k := 39) (m := 39 + L) HR4.out (by omega) (by omega)
      rwa [hLs] at this
  have HRA : Hid (Row w4 w.heap.size (some ⟨b, o, none⟩) 35 (bvs (bs.take 35))) := by
    have := HR4.out.take (k := 35) (by omega)
    rw [bvs_take] at this
    exact this
  have hT4 := turned_below HT.out HB4.out rfl
  obtain ⟨S, hS⟩ : ∃ S, S = (Crc.sum (bs.take 35 ++ part bs 39 (39 + L))).toNat := ⟨_, rfl⟩
  obtain ⟨T, hT'⟩ : ∃ T, T = beN (part bs 35 39) := ⟨_, rfl⟩
  have hS4 : S < 4294967296 := by rw [hS]; exact (Crc.sum _).isLt
  have hsr : sumRight bs ↔ S = T := by unfold sumRight; rw [← HLL.out, ← hS, ← hT']
  have C1 : Hid (∀ q, Calls Tryz.prog 74 #[.slice (some ⟨b, o, none⟩) 35 c, .slice P L (c - 39)] (w4.drewN q) fun e w' => e = .returned (.int .u32 (S : Int)) ∧ ∃ m, w' = w4.drewN m) := by
    intro q
    refine (sumOf_any _ _ _ _ _ _ (bs.take 35) (part bs 39 (39 + L)) (w4.drewN q) hT4 (HRA.out.more HB4.out.size) (HRP.out.more HB4.out.size) (by decide) (by unfold maxLen; omega)).mono ?_
    rintro e w' ⟨h1, h2⟩
    rw [← hS] at h1
    exact ⟨h1, q, h2⟩
  have C2 : Hid (∀ q, Calls Tryz.prog 73 #[.slice (some ⟨b, o + 35, none⟩) 4 (c - 35)] (w4.drewN q) fun e w' => e = .returned (.int .u64 (T : Int)) ∧ ∃ m, w' = w4.drewN m) := by
    intro q
    have := get_part HR4.out HNC.out HC.out 35 39 4 (c - 35) (by omega) (by omega) rfl (by omega) rfl
    refine (this.out (w4.drewN q) rfl).mono ?_
    rintro e w' ⟨h1, h2⟩
    rw [← hT'] at h1
    exact ⟨h1, q, h2⟩
  have HPP := Lib.hid hP
  have HSR := Lib.hid hsr
  clear hP hS hT' hT4 hsr HRA
  have hww : IntKind.u64.wrap (S : Int) = (S : Int) := by simp [IntKind.wrap, IntKind.bits, IntKind.signed]; omega
  by_cases hst : S = T
  case neg =>
    have e : dec bs = .bad := by rw [HDEC3.out, if_pos (fun h => hst (HSR.out.1 h))]
    have HE := Lib.hid e
    clear e HDEC3
    have hd : ((S : Int) != (T : Int)) = true := bne_iff_ne.2 (by omega)
    go_quiet ((first | (go_at_call 74; with_reducible exact C1.out _) | (go_at_call 73; with_reducible exact C2.out _)))
    have HZ5 : Hid (RecAt (w4.drewN nq) w.heap.size zeroRc) := HZ4.out
    have HB5 := Lib.hid (below_drewN HB4.out nq)
    go_wp2_with (refine store_rec HZ5.out rfl rfl (.tmp 2) (.tmp 50) rfl rfl zeroRc rfl ?_; intro w5 G5 G6)
    refine bodyPost_ret (result_rec3 G5.out rfl _ rfl) rfl ?_
    exact ⟨by rw [HE.out]; rfl, below_only HB5.out (only_hid G6) (Nat.le_refl _) HB5.out.size⟩
  have e : dec bs = .ok (withBody x0 (part bs 39 (39 + L))) (39 + L) := by rw [HDEC3.out, if_neg (fun h => h (HSR.out.2 hst))]
  have HE := Lib.hid e
  clear e HDEC3
  have hd : ((S : Int) != (T : Int)) = false := by rw [hst]; simp
  go_quiet ((first | (go_at_call 74; with_reducible exact C1.out _) | (go_at_call 73; with_reducible exact C2.out _)))
  have HZ5 : Hid (RecAt (w4.drewN nq) w.heap.size zeroRc) := HZ4.out
  have HX5 : Hid (RecAt (w4.drewN nq) w2.heap.size x0) := HX4.out
  have HB5 := Lib.hid (below_drewN HB4.out nq)
  have hcv := bytes_string (P := Tryz.prog) (w := w4.drewN nq) (src := 53) (dst := 9) (c := c - 39) Tryz.underlying53 Tryz.underlying5 Tryz.underlying9 (row_heap HRP.out rfl)
  have y5 : (w4.drewN nq).cell? ⟨w2.heap.size, 5, none⟩ = some (.string (str x0.body)) := HX5.out.cell 5
  have f5 : (w4.drewN nq).frozen? ⟨w2.heap.size, 5, none⟩ = false := HX5.out.free 5
  clear C1 C2
  go_upto_region 16 with fail
  obtain ⟨w5, hw5⟩ : ∃ w5, w5 = (w4.drewN nq).setCell ⟨w2.heap.size, 5, none⟩ (.string (str (part bs 39 (39 + L)))) := ⟨_, rfl⟩
  rw [← hw5]
  have G7 : (w4.drewN nq).grownBy ((w4.drewN nq).setCell ⟨w2.heap.size, 5, none⟩ (.string (str (part bs 39 (39 + L))))) (some w2.heap.size) := only_setCell (w4.drewN nq) ⟨w2.heap.size, 5, none⟩ (.string (str (part bs 39 (39 + L))))
  have HX6 : Hid (RecAt w5 w2.heap.size (withBody x0 (part bs 39 (39 + L)))) := by rw [hw5]; exact HX5.out.body _
  rw [← hw5] at G7
  have HZ6 : Hid (RecAt w5 w.heap.size zeroRc) := HZ5.out.kept G7 (by intro e; injection e; omega)
  have HB6 : Hid (Below w.heap.size w w5) := below_only HB5.out G7 (Nat.le_of_lt hg2) HB5.out.size
  clear y5 f5 hcv hw5 HX5 HZ5 HB5 G7
  obtain ⟨x, hx⟩ : ∃ x, x = withBody x0 (part bs 39 (39 + L)) := ⟨_, rfl⟩
  rw [← hx] at HX6 HE
  clear hx
  go_wp2_with (first
    | (refine load_rec HX6.out rfl (.tmp 5) rfl rfl ?_)
    | (refine store_rec HZ6.out rfl rfl (.tmp 2) (.tmp 54) rfl rfl x rfl ?_; intro w6 G5 G6))
  refine bodyPost_ret (result_rec3 G5.out rfl _ rfl) rfl ?_
  exact ⟨by rw [HE.out]; show _ = Ending.returned (.tuple #[.agg x.vals, .int .i64 ((39 + L : Nat) : Int), .int .i64 0]); rw [show ((39 + L : Nat) : Int) = 39 + (L : Int) by omega]; rfl, below_only HB6.out (only_hid G6) (Nat.le_refl _) HB6.out.size⟩
theorem decode_any (A : Option Addr) (n c : Nat) (bs : List UInt8) (w : World) (hT : Turned w) (hR : Row w w.heap.size A n (bvs bs)) (hnc : n ≤ c) (hc : c ≤ maxLen) :
    Calls Tryz.prog 43 #[.slice A n c] w fun e w' => e = .returned (.tuple (dec bs).vals) ∧ Below w.heap.size w w' := by
  by_cases h : Front bs ∧ 39 ≤ n
  · obtain ⟨b, o, rfl, _, _⟩ := hR.2 (by omega)
    exact decode_long b o n c bs w hT hR hnc hc h.1 h.2
  · exact decode_short A n c bs w hR hnc hc h
end Go.Proofs.YtkdnfikaodkhnaaGreatDoor.Rec
/-
  Plain facts: what Decode says as a value, slices from a place on, a new variable beside records found.
-/
namespace Go.Proofs.YtkdnfikaodkhnaaGreatDoor.Rec
open Go.RowKit
set_option linter.unusedVariables false
set_option linter.unusedSimpArgs false

theorem found_info : (Tryz.prog.info? 42).map (fun i => (i.zero, i.size, i.bytes)) = some (some (.agg #[.int .i64 0, .int .i64 0, .int .u32 0, .int .u64 0, .int .u64 0, .int .u64 0, .string ⟨#[]⟩]), 7, 64) := by kernel_rfl
theorem out_ok (o : Out) : (∃ x n, o = .ok x n) ∨ ∃ e : Int, e ≠ 0 ∧ o.vals = #[.agg zeroRc.vals, .int .i64 0, .int .i64 e] ∧ ∀ x n, o ≠ .ok x n := by
  cases o with
  | ok x n => exact .inl ⟨x, n, rfl⟩
  | more => exact .inr ⟨11, by decide, rfl, fun _ _ h => by cases h⟩
  | bad => exact .inr ⟨4, by decide, rfl, fun _ _ h => by cases h⟩
theorem row_from {w : World} {B n p b o : Nat} {bs : List UInt8} (h : Row w B (some ⟨b, o, none⟩) n (bvs bs)) (hp : p < n) : Row w B (some ⟨b, o + p, none⟩) (n - p) (bvs (bs.drop p)) := by
  have := h.drop hp
  rwa [bvs_drop] at this
/-- .. behind a new record of the call's own. -/
theorem fd_store {w0 w w' : World} {e t : TypeId} {v : Value} {l : List (Nat × Rc)} {cs : Array Value} (h : Fd w0 e w v l) (hg : (w.alloc (.cells cs t)).grownBy w' (some w.heap.size)) : Hid (Fd w0 e w' v l) := by
  have hb : Below w.heap.size w w' := below_only (below_alloc w (.cells cs t)) hg (Nat.le_refl _) (by simp)
  exact h.all hb
/-- A slice from a place on, that place at its end too. -/
theorem row_upto {w : World} {B n p b o c : Nat} {bs : List UInt8} {P : Option Addr} (h : Row w B (some ⟨b, o, none⟩) n (bvs bs)) (hp : p ≤ n) (hnc : n ≤ c) (hP : (if c = p then some (⟨b, o, none⟩ : Addr) else some ⟨b, o + p, none⟩) = P) : Row w B P (n - p) (bvs (bs.drop p)) := by
  by_cases hlt : p < n
  · rw [if_neg (by omega)] at hP
    subst hP
    exact row_from h hlt
  · exact ⟨by rw [bvs_length, List.length_drop, h.size], fun hn => absurd hn (by omega)⟩
theorem dec_nil : dec [] = .more := by
  unfold dec
  rw [if_neg (not_not_intro ⟨fun h => absurd h (by decide), fun h => absurd h (by decide), fun h => absurd h (by decide)⟩), if_pos (by decide)]
theorem front_nil : frontFrom 0 [] = [] := frontFrom_no (fun x n h => by rw [List.drop_nil, dec_nil] at h; cases h)
theorem empty_row {w : World} {B : Nat} {A : Option Addr} : Row w B A 0 (bvs []) := ⟨rfl, fun h => absurd h (by omega)⟩
end Go.Proofs.YtkdnfikaodkhnaaGreatDoor.Rec
