/-
  Proved: RecordEnds returns true, whatever it is handed.
  Conditions: the table crc.turned holds its sixteen words; the numbers are those of values.
-/
import Derived.Test.YtnhhoodmmefjdaaDoorRecBase
import Derived.ProofKit
import Derived.OpenShut
namespace Go.Proofs.YtnhhoodmmefjdaaDoor.Rec
open Go.RowKit
open Go.Proofs.YtnhhoodmmefjdaaDoor.Crc (Turned)
set_option linter.unusedVariables false
set_option linter.unusedSimpArgs false

/-- 'make([]byte, n)' reads as so many noughts. -/
theorem own_noughts {w : World} {base g n : Nat} {c : Nat} (h : w.ownsRow base 5 1 (.slice (some ⟨g, 0, none⟩) n c) n (madeCells (Value.int .u8 0).cells (n * 1)).toList) : Row w w.heap.size (some ⟨g, 0, none⟩) n (bvs (List.replicate n 0)) := by
  have := Row.own h
  have e : (madeCells (Value.int .u8 0).cells (n * 1)).toList = bvs (List.replicate n 0) := by
    apply List.ext_getElem?
    intro j
    by_cases hj : j < n
    · simp [madeCells, Value.cells, bvs, bv, hj, Nat.mod_one]
    · simp [madeCells, Value.cells, bvs, bv, hj]
  rwa [e] at this
/-- A record is stored whole; the frame stays as it is. -/
theorem store_recN {w : World} {ops : Array Oper} {rest : List Oper} {o : Oper} {a : Act} {Q : Exit → Act → World → Prop} {g : Nat} {old : Array Value} (h : Blk w g 25 old) (hs : old.size = 6) (hgd : o.guard = none) (y z : Operand) (ho : o.op = .store 25 y z) (hx : a.eval y = .pointer (some ⟨g, 0, none⟩)) (x : Rc) (hy : a.eval z = .agg x.vals) (hd : o.dst = none)
    (k : ∀ w', Hid (RecAt w' g x) → Hid (w.grownBy w' (some g)) → wpList Tryd.prog ops Q rest a w') : wpList Tryd.prog ops Q (o :: rest) a w :=
  store_rec h hs hgd y z ho hx x hy fun w' h1 h2 => by rw [hd]; exact k w' h1 h2
theorem wpList_want {P : Program} {w : World} {ops : Array Oper} {rest : List Oper} {o : Oper} {a : Act} {Q : Exit → Act → World → Prop} (hw : Region.wanted o (yielded ops a.tmps) = true)
    (h : ∀ K : Act → World → Prop, (∀ a w, wpList P ops Q rest a w → K a w) → o.wp P a w K Q) : wpList P ops Q (o :: rest) a w :=
  wpList_step fun K hK => by rw [if_pos hw]; exact h K hK
/-- A record is loaded whole, behind a guard. -/
theorem load_recG {w : World} {ops : Array Oper} {rest : List Oper} {o : Oper} {a : Act} {Q : Exit → Act → World → Prop} {g : Nat} {x : Rc} (h : RecAt w g x) (hw : Region.wanted o (yielded ops a.tmps) = true) (y : Operand) (ho : o.op = .load 25 y) (hx : a.eval y = .pointer (some ⟨g, 0, none⟩))
    (k : wpList Tryd.prog ops Q rest (a.put o.dst (.agg x.vals)) w) : wpList Tryd.prog ops Q (o :: rest) a w :=
  wpList_want hw fun _ hK => wp_load_row 25 y ho g hx 25 x.vals (0, 0) _ h Tryd.underlying25 rfl rec_info (hK _ _ k)
def xN (n a b c : Nat) : Rc := ⟨2, 0, a, b, c, List.replicate n 0⟩
theorem xN_may (n a b c : Nat) : (xN n a b c).May ↔ n ≤ 1000 ∧ a ≤ 1099511627776 ∧ b ≤ 1099511627776 ∧ c ≤ 1099511627776 := by
  unfold Rc.May xN
  simp only [List.length_replicate]
  omega
set_option maxRecDepth 100000 in
set_option maxHeartbeats 8000000 in
theorem recordEnds_walk (n : Int) (a b c : Int) (w : World) (hT : Turned w) (hn : -9223372036854775808 ≤ n ∧ n ≤ 9223372036854775807) (ha : (Lit.int .u64 a).wf = true) (hb : (Lit.int .u64 b).wf = true) (hc : (Lit.int .u64 c).wf = true) :
    Calls Tryd.prog 7 #[.int .i64 n, .int .u64 a, .int .u64 b, .int .u64 c] w fun e w' => e = .returned (.bool true) ∧ Below w.heap.size w w' := by
  obtain ⟨hn1, hn2⟩ := hn
  obtain ⟨a, rfl⟩ : ∃ k : Nat, a = k := ⟨a.toNat, by have := bounds_u64 ha; omega⟩
  obtain ⟨b, rfl⟩ : ∃ k : Nat, b = k := ⟨b.toNat, by have := bounds_u64 hb; omega⟩
  obtain ⟨c, rfl⟩ : ∃ k : Nat, c = k := ⟨c.toNat, by have := bounds_u64 hc; omega⟩
  have ha' := (bounds_u64 ha).2
  have hb' := (bounds_u64 hb).2
  have hc' := (bounds_u64 hc).2
  have HBEG := Lib.hid (begun_any w hT)
  have HT := Lib.hid hT
  clear hT ha hb hc
  by_cases hbad : n < 0 ∨ 1100 < n
  case pos =>
    by_cases h0 : n < 0
    · clear hbad
      go_enter Tryd.func7, Tryd.ntmps7
      go_wp2_with (go_at_call 8; refine HBEG.out.mono ?_; rintro e w1 ⟨rfl, hb1⟩; have HB1 := Lib.hid hb1; clear hb1)
      go_ret
      exact ⟨rfl, HB1.out⟩
    · have h1 : 1100 < n := by omega
      clear hbad
      go_enter Tryd.func7, Tryd.ntmps7
      go_wp2_with (go_at_call 8; refine HBEG.out.mono ?_; rintro e w1 ⟨rfl, hb1⟩; have HB1 := Lib.hid hb1; clear hb1)
      go_ret
      exact ⟨by simp [h1], HB1.out⟩
  obtain ⟨N, rfl⟩ : ∃ k : Nat, n = k := ⟨n.toNat, by omega⟩
  have hN : N ≤ 1100 := by omega
  have hNi : (N : Int) ≤ 1100 := by omega
  obtain ⟨i0, hi, hz0, hz1, hz2⟩ := u8_info3
  have HI := Lib.hid hi
  have HZ0 := Lib.hid hz0
  have HZ1 := Lib.hid hz1
  have HB : Hid (i0.bytes * N ≤ 281474976710656 ∧ N ≤ maxLen) := ⟨by rw [hz2]; omega, by unfold maxLen; omega⟩
  have hz := zeroRec
  clear hi hz0 hz1 hz2 hn1 hn2 hbad
  go_enter Tryd.func7, Tryd.ntmps7
  go_upto_region 6 with (go_at_call 8; refine HBEG.out.mono ?_; rintro e w1 ⟨rfl, hb1⟩; have HB1 := Lib.hid hb1; clear hb1)
  go_upto_region 7 with (first
    | (at_make; refine wpList_make_full _ rfl _ _ 28 rfl w1.heap.size 5 i0 (.int .u8 0) 1 Tryd.underlying28 HI.out HZ0.out HZ1.out _ _ _ _ N rfl rfl rfl rfl HB.out.1 HB.out.2 (Nat.le_refl _) ?_; intro w2 ho2 hg2; have HR2 := Lib.hid (own_noughts ho2); have HG2 := Lib.hid hg2; have hcv := bytes_string (P := Tryd.prog) (src := 28) (dst := 9) (c := N) Tryd.underlying28 Tryd.underlying5 Tryd.underlying9 HR2.out; clear ho2 hg2)
    | (refine store_recN (zero_new w2) rfl rfl (.tmp 10) (.tmp 27) rfl rfl (xN N a b c) rfl rfl ?_; intro w3 X3 G3))
  have hw12 : w1.heap.size ≤ w2.heap.size := HG2.out.size
  have HB2 : Hid (Below w.heap.size w w2) := HB1.out.grown HG2.out HB1.out.size (fun k hk => by cases hk)
  have HB3 : Hid (Below w.heap.size w w3) := below_only (HB2.out.alloc HB2.out.size _) (only_hid G3) HB2.out.size (by have := HB2.out.size; simp; omega)
  have hx3 : w2.heap.size < w3.heap.size := X3.out.lt
  obtain ⟨x, hx⟩ : ∃ x, x = xN N a b c := ⟨_, rfl⟩
  have hmay : x.May ↔ N ≤ 1000 ∧ a ≤ 1099511627776 ∧ b ≤ 1099511627776 ∧ c ≤ 1099511627776 := by rw [hx]; exact xN_may N a b c
  have hlen : x.body.length = N := by rw [hx]; simp [xN]
  have hfit : x.Fits := by rw [hx]; exact ⟨by show 0 < _; omega, by show a < _; omega, by show b < _; omega, by show c < _; omega⟩
  rw [← hx] at X3
  have HMY := Lib.hid hmay
  have HLN := Lib.hid hlen
  have HFT := Lib.hid hfit
  have CM := Lib.hid (may_any x w3 (by rw [hlen]; unfold maxLen; omega))
  clear hx hmay hlen hfit HR2 HG2 HB1 HB2 G3 hcv HI HZ0 HZ1 HB HBEG
  go_cut [11] (fun v w' => v = .bool x.may ∧ w' = w3)
  case first =>
    by_cases h1 : N ≤ 1000
    case neg =>
      have h1' : ¬ (N : Int) ≤ 1000 := by omega
      have e : x.may = false := may_false fun h => h1 (HMY.out.1 h).1
      have HEE := Lib.hid e
      clear e
      go_wp2_with fail
      go_meet
      case rel => exact ⟨by rw [HEE.out], rfl⟩
    have h1' : (N : Int) ≤ 1000 := by omega
    by_cases h2 : a ≤ 1099511627776
    case neg =>
      have h2' : ¬ (a : Int) ≤ 1099511627776 := by omega
      have e : x.may = false := may_false fun h => h2 (HMY.out.1 h).2.1
      have HEE := Lib.hid e
      clear e
      go_wp2_with fail
      go_meet
      case rel => exact ⟨by rw [HEE.out], rfl⟩
    have h2' : (a : Int) ≤ 1099511627776 := by omega
    by_cases h3 : b ≤ 1099511627776
    case neg =>
      have h3' : ¬ (b : Int) ≤ 1099511627776 := by omega
      have e : x.may = false := may_false fun h => h3 (HMY.out.1 h).2.2.1
      have HEE := Lib.hid e
      clear e
      go_wp2_with fail
      go_meet
      case rel => exact ⟨by rw [HEE.out], rfl⟩
    have h3' : (b : Int) ≤ 1099511627776 := by omega
    by_cases h4 : c ≤ 1099511627776
    case neg =>
      have h4' : ¬ (c : Int) ≤ 1099511627776 := by omega
      have e : x.may = false := may_false fun h => h4 (HMY.out.1 h).2.2.2
      have HEE := Lib.hid e
      clear e
      go_wp2_with fail
      go_meet
      case rel => exact ⟨by rw [HEE.out], rfl⟩
    have h4' : (c : Int) ≤ 1099511627776 := by omega
    have e : x.may = true := may_true (HMY.out.2 ⟨h1, h2, h3, h4⟩)
    have HEE := Lib.hid e
    clear e
    go_wp2_with fail
    go_meet
    case rel => exact ⟨by rw [HEE.out], rfl⟩
  case rest =>
  obtain ⟨rfl, rfl⟩ := hcut
  by_cases hm : x.May
  · have em := may_true hm
    have el : (enc x).length = 39 + N := by rw [enc_may hm, x.bytes_length, HLN.out]
    rw [em]
    clear hm HMY
    go_wp2_with (first
      | (refine load_rec X3.out rfl (.tmp 10) rfl rfl ?_)
      | (go_at_call 12; refine CM.out.mono ?_; rw [em]; rintro e w4 ⟨rfl, hb4⟩; have HB4 := Lib.hid (HB3.out.trans (hb4.mono HB3.out.size)); have X4 := Lib.hid (X3.out.below hb4 hx3); have CE := Lib.hid (encode_any x w4 (turned_below HT.out HB4.out rfl) HFT.out (by rw [HLN.out]; unfold maxLen; omega)); rw [el] at CE; clear hb4)
      | (refine load_recG X4.out rfl (.tmp 10) rfl rfl ?_)
      | (go_at_call 10; refine CE.out.mono ?_; rintro e w5 ⟨u, rfl, ho, hb5⟩; obtain ⟨A, cc, rfl, _, _⟩ := own_form ho; have HB5 := Lib.hid (HB4.out.trans (hb5.mono HB4.out.size)); clear ho hb5))
    go_ret
    exact ⟨by simp, HB5.out⟩
  · have em := may_false hm
    have el : (enc x).length = 0 := by rw [enc_not hm]; rfl
    rw [em]
    clear hm HMY
    have h0 : ((0 : Int) == 39 + (N : Int)) = false := beq_eq_false_iff_ne.2 (by omega)
    go_wp2_with (first
      | (refine load_rec X3.out rfl (.tmp 10) rfl rfl ?_)
      | (go_at_call 12; refine CM.out.mono ?_; rw [em]; rintro e w4 ⟨rfl, hb4⟩; have HB4 := Lib.hid (HB3.out.trans (hb4.mono HB3.out.size)); have X4 := Lib.hid (X3.out.below hb4 hx3); have CE := Lib.hid (encode_any x w4 (turned_below HT.out HB4.out rfl) HFT.out (by rw [HLN.out]; unfold maxLen; omega)); rw [el] at CE; clear hb4)
      | (refine load_recG X4.out rfl (.tmp 10) rfl rfl ?_)
      | (go_at_call 10; refine CE.out.mono ?_; rintro e w5 ⟨u, rfl, ho, hb5⟩; obtain ⟨A, cc, rfl, _, _⟩ := own_form ho; have HB5 := Lib.hid (HB4.out.trans (hb5.mono HB4.out.size)); clear ho hb5))
    go_ret
    exact ⟨by simp [h0], HB5.out⟩
end Go.Proofs.YtnhhoodmmefjdaaDoor.Rec
