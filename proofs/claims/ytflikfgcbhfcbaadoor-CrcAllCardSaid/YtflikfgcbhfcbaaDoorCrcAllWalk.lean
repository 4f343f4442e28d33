/-
  Proved: the walk of CrcAll of package stillroomlaw1: it returns true and changes nothing that was there.
  Conditions: the slices read as bytes or ints; the table crc.turned holds its sixteen words.
-/
import Derived.Test.YtflikfgcbhfcbaaDoorCrcBase
namespace Go.Proofs.YtflikfgcbhfcbaaDoor.Crc
open Go.RowKit

set_option maxHeartbeats 400000 in
theorem crcAll_walk (A : Option Addr) (n c : Nat) (bs : List UInt8) (C : Option Addr) (m d : Nat) (ds : List UInt8) (w : World) (hT : Turned w)
    (hR : Row w w.heap.size A n (bvs bs)) (hn : n ≤ c) (hc : c ≤ maxLen) (hZ : Row w w.heap.size C m (bvs ds)) (hm : m ≤ d) (hd : d ≤ maxLen) :
    Calls Tryd.prog 4 #[.slice A n c, .slice C m d] w fun e w' => e = .returned (.bool true) ∧ Below w.heap.size w w' := by
  go_enter Tryd.func4, Tryd.ntmps4
  go_wp2_with fail
  refine (begun_any w hT).mono ?_
  rintro e w1 ⟨rfl, hb1⟩
  go_wp2_with fail
  refine (short_any A n c 300 w1 hn hc).mono ?_
  rintro e w2 ⟨rfl, rfl⟩
  go_wp2_with fail
  refine (short_any C m d 300 w1 hm hd).mono ?_
  rintro e w2 ⟨rfl, rfl⟩
  have HT := Lib.hid (hT.below hb1)
  have HR := Lib.hid (short_row (m := 300) hb1 hR)
  have HZ := Lib.hid (short_row (m := 300) hb1 hZ)
  have hN : min n 300 ≤ 300 := Nat.min_le_right _ _
  have hM : min m 300 ≤ 300 := Nat.min_le_right _ _
  generalize min n 300 = N at *
  generalize min m 300 = M at *
  generalize bs.take 300 = xs at *
  generalize ds.take 300 = ys at *
  have HB := Lib.hid hb1
  have HM : Hid (300 ≤ maxLen) := by show 300 ≤ maxLen; decide
  clear hT hR hn hc hZ hm hd hb1
  go_wp2_with (first
    | (at_builtin
       refine wpList_append_reads rfl (.const (.slice none 0 0)) (.tmp 14) _ rfl w1.heap.size 5 (.int .u8 0) 1 Tryd.underlying22 byte_info rfl (.slice none 0 0) 0 [] rfl (World.ownsRow_nil _ _ _ _) w1.heap.size A N c (bvs xs) rfl HR.out (bvs_one _) (by simp only [maxLen]; omega) (by omega) (Nat.le_refl _) ?_
       intro v1 w2 ho1 hg1)
    | (at_builtin
       refine wpList_append_reads rfl (.tmp 15) (.tmp 16) _ rfl w1.heap.size 5 (.int .u8 0) 1 Tryd.underlying22 byte_info rfl v1 (0 + N) ([] ++ bvs xs) rfl ho1 w1.heap.size C M d (bvs ys) rfl (HZ.out.below ((Below.refl _ _).grown hg1 (Nat.le_refl _) (by simp [Value.ownBlock]))) (bvs_one _) (by simp only [maxLen]; omega) (by omega) hg1.size ?_
       intro v2 w3 ho2 hg2))
  have hb2 : Below w1.heap.size w1 w2 := own_below (World.ownsRow_nil w1 w1.heap.size 5 1) (Below.refl _ _) (Nat.le_refl _) (Nat.le_refl _) hg1
  have hb3 : Below w1.heap.size w1 w3 := own_below ho1 hb2 (Nat.le_refl _) hb2.size hg2
  obtain ⟨A2, c2, rfl, _, _⟩ := own_form ho2
  have hr2 := Row.own ho2
  rw [List.nil_append, bvs_append] at hr2
  have HX := Lib.hid hr2
  have HT3 := Lib.hid (HT.out.below hb3)
  have HR3 := Lib.hid ((HR.out.below hb3).more hb3.size)
  have HZ3 := Lib.hid ((HZ.out.below hb3).more hb3.size)
  have HB3 := Lib.hid (HB.out.trans (hb3.mono HB.out.size))
  have HS : Hid (more (sum xs) ys = sum (xs ++ ys)) := more_sum xs ys
  have hlen : 0 + N + M ≤ maxLen := Nat.le_trans (show 0 + N + M ≤ 600 by omega) (by decide)
  have hlN : N ≤ maxLen := Nat.le_trans hN (by decide)
  have hlM : M ≤ maxLen := Nat.le_trans hM (by decide)
  have HL := Lib.hid hlen
  have HLN := Lib.hid hlN
  have HLM := Lib.hid hlM
  clear hr2 ho1 hg1 ho2 hg2 hb2 hb3 HR HZ HT hlen hlN hlM
  have q1 : ∃ S : BitVec 32, (Calls Tryd.prog 9 #[.slice A2 (0 + N + M) c2] w3 fun e w' => e = .returned (.int .u32 (S.toNat : Int)) ∧ w3 = w') ∧ (Calls Tryd.prog 11 #[.slice A2 (0 + N + M) c2] w3 fun e w' => e = .returned (.int .u32 (S.toNat : Int)) ∧ w3 = w') ∧
      Calls Tryd.prog 10 #[.int .u32 ((sum xs).toNat : Int), .slice C M d] w3 fun e w' => e = .returned (.int .u32 (S.toNat : Int)) ∧ w3 = w' :=
    ⟨sum (xs ++ ys), sum_any A2 _ c2 (xs ++ ys) w3 HT3.out HX.out HL.out, ref_sum A2 _ c2 (xs ++ ys) w3 HX.out HL.out, by rw [← HS.out]; exact more_any (sum xs) C M d ys w3 HT3.out HZ3.out HLM.out⟩
  have q2 : ∃ R : BitVec 32, (Calls Tryd.prog 9 #[.slice A N c] w3 fun e w' => e = .returned (.int .u32 (R.toNat : Int)) ∧ w3 = w') ∧ sum xs = R := ⟨sum xs, sum_any A N c xs w3 HT3.out HR3.out HLN.out, rfl⟩
  obtain ⟨S, k1, k2, k3⟩ := q1
  obtain ⟨R, k4, hR⟩ := q2
  rw [hR] at k3
  have K1 := Lib.hid k1
  have K2 := Lib.hid k2
  have K3 := Lib.hid k3
  have K4 := Lib.hid k4
  clear k1 k2 k3 k4 hR HS
  generalize 0 + N + M = L at *
  refine K1.out.mono ?_
  rintro e w4 ⟨rfl, rfl⟩
  go_wp2_with fail
  refine K2.out.mono ?_
  rintro e w4 ⟨rfl, rfl⟩
  go_wp2_with fail
  refine K4.out.mono ?_
  rintro e w4 ⟨rfl, rfl⟩
  go_wp2_with fail
  refine K3.out.mono ?_
  rintro e w4 ⟨rfl, rfl⟩
  go_wp2_with fail
  refine K1.out.mono ?_
  rintro e w4 ⟨rfl, rfl⟩
  go_wp2_with fail
  go_ret
  exact ⟨rfl, HB3.out⟩
end Go.Proofs.YtflikfgcbhfcbaaDoor.Crc
