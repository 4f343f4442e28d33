/-
  Proved: law 6's 'tells' returns true of any list of bytes: record's Decode and the reference's tell the same.
  Conditions: the slice reads as bytes; the table crc.turned holds its sixteen words.
-/
import Derived.Test.YtnhhoodmmefjdaaDoorRecRefDec3
namespace Go.Proofs.YtnhhoodmmefjdaaDoor.Rec
open Go.RowKit
open Go.Proofs.YtnhhoodmmefjdaaDoor.Crc (Turned)
set_option linter.unusedVariables false
set_option linter.unusedSimpArgs false

theorem out_vals (o : Out) : ∃ (x : Rc) (n e : Int), o.vals = #[.agg x.vals, .int .i64 n, .int .i64 e] := by
  cases o with
  | ok x n => exact ⟨x, n, 0, rfl⟩
  | more => exact ⟨zeroRc, 0, 11, rfl⟩
  | bad => exact ⟨zeroRc, 0, 4, rfl⟩
set_option maxRecDepth 100000 in
set_option maxHeartbeats 4000000 in
theorem tells_any (A : Option Addr) (n c : Nat) (bs : List UInt8) (w : World) (hT : Turned w) (hR : Row w w.heap.size A n (bvs bs)) (hnc : n ≤ c) (hc : c ≤ maxLen) :
    Calls Tryd.prog 17 #[.slice A n c] w fun e w' => e = .returned (.bool true) ∧ Below w.heap.size w w' := by
  obtain ⟨x, N, E, ho⟩ := out_vals (dec bs)
  have C1 := decode_any A n c bs w hT hR hnc hc
  rw [ho] at C1
  have HC1 := Lib.hid C1
  have hz := zeroRec
  have C2 : Hid (∀ W, Below w.heap.size w W → Calls Tryd.prog 27 #[.slice A n c] W fun e w' => e = .returned (.tuple #[.agg x.vals, .int .i64 N, .int .i64 E]) ∧ Below W.heap.size W w') := fun W hW => by
    have := refdecode_any A n c bs W ((hR.below hW).more hW.size) hnc hc
    rwa [ho] at this
  have CQ : Hid (∀ W, Calls Tryd.prog 15 #[.agg x.vals, .agg x.vals] W fun e w' => e = .returned (.bool true) ∧ Below W.heap.size W w') := fun W => by
    have := eq_any x x W
    rwa [decide_eq_true rfl] at this
  clear C1 ho hT hR hnc hc
  go_enter Tryd.func17, Tryd.ntmps17
  go_upto_region 2 with (first
    | (go_at_call 14; refine HC1.out.mono ?_; rintro e w2 ⟨rfl, hb2⟩; have B2 := Lib.hid hb2; clear hb2)
    | (refine store_recN (zero_new w2) rfl rfl (.tmp 3) (.tmp 12) rfl rfl x rfl rfl ?_; intro w3 X3 G3))
  have B3 : Hid (Below w.heap.size w w3) := below_only (B2.out.alloc B2.out.size _) (only_hid G3) B2.out.size (by have := B2.out.size; simp; omega)
  have h3 : w2.heap.size < w3.heap.size := X3.out.lt
  have h2 : w.heap.size ≤ w2.heap.size := B2.out.size
  clear G3 B2 HC1
  go_upto_region 3 with (first
    | (go_at_call 27; refine (C2.out _ B3.out).mono ?_; rintro e w4 ⟨rfl, hb4⟩; have B4 := Lib.hid hb4; clear hb4)
    | (refine store_recN (zero_new w4) rfl rfl (.tmp 6) (.tmp 18) rfl rfl x rfl rfl ?_; intro w5 X5 G5))
  have h4 : w3.heap.size ≤ w4.heap.size := B4.out.size
  have B4' : Hid (Below w.heap.size w w4) := B3.out.trans (B4.out.mono B3.out.size)
  have B5 : Hid (Below w.heap.size w w5) := below_only (B4'.out.alloc B4'.out.size _) (only_hid G5) B4'.out.size (by have := B4'.out.size; simp; omega)
  have X6 : Hid (RecAt w5 w2.heap.size x) := ((X3.out.below B4.out h3).below (below_alloc w4 _) (by omega)).kept (only_hid G5) (by intro e; injection e; omega)
  clear G5 B4 B4' B3 X3 C2
  go_wp2_with (first
    | (refine load_recG X6.out rfl (.tmp 3) rfl rfl ?_)
    | (refine load_recG X5.out rfl (.tmp 6) rfl rfl ?_)
    | (go_at_call 15; refine (CQ.out _).mono ?_; rintro e w7 ⟨rfl, hb7⟩; have B7 := Lib.hid (B5.out.trans (hb7.mono B5.out.size)); clear hb7))
  go_ret
  exact ⟨by simp, B7.out⟩
end Go.Proofs.YtnhhoodmmefjdaaDoor.Rec
