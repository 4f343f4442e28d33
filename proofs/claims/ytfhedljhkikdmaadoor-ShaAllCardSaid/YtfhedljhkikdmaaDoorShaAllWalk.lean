/-
  Proved: the walk of ShaAll of package stillroomlaw2: it returns true and changes nothing that was there.
  Conditions: the slice reads as bytes; the tables sha.start and sha.rounds hold their words.
-/
import Derived.Test.YtfhedljhkikdmaaDoorShaNoneWalk
import Derived.Test.YtfhedljhkikdmaaDoorRefAll
import Derived.Test.YtfhedljhkikdmaaDoorZeros
import Derived.Deep.DeepCutAuto
namespace Go.Proofs.YtfhedljhkikdmaaDoor.Sha
open Go.RowKit

theorem bvs_zeros (m : Nat) : List.replicate m (Value.int .u8 0) = bvs (List.replicate m 0) := by
  simp [bvs, bv]

set_option maxHeartbeats 1000000 in
theorem shaAll_walk (A : Option Addr) (n c : Nat) (xs : List UInt8) (more : Int) (w : World) (hT : Tables w)
    (hA : Row w w.heap.size A n (bvs xs)) (hn : n ≤ c) (hc : c ≤ maxLen) (hm : -9223372036854775808 ≤ more ∧ more ≤ 9223372036854775807) :
    Calls Tryd.prog 3 #[.slice A n c, .int .i64 more] w fun e w' => e = .returned (.bool true) ∧ Below w.heap.size w w' := by
  obtain ⟨hm1, hm2⟩ := hm
  have hgd := eq_guard
  have hcm : c ≤ 9223372036854775807 := by unfold maxLen at hc; exact hc
  have HT := Lib.hid hT
  have HA := Lib.hid hA
  have HC := Lib.hid hc
  clear hT hA hc
  go_enter Tryd.func3, Tryd.ntmps3
  go_wp2_with fail
  refine (begun_any w HT.out).mono ?_
  rintro e w1 ⟨rfl, hb1⟩
  have HB1 := Lib.hid hb1
  have hz1 := hb1.size
  clear hb1
  go_wp2_with fail
  refine (short_any A n c 200 w1 hn HC.out).mono ?_
  rintro e w2 ⟨rfl, rfl⟩
  have HR1 := Lib.hid (short_row (m := 200) HB1.out HA.out)
  obtain ⟨N, hN⟩ : ∃ N, N = min n 200 := ⟨_, rfl⟩
  rw [← hN] at HR1 ⊢
  have hN2 : N ≤ 200 := by omega
  obtain ⟨ys, hys⟩ : ∃ ys, ys = xs.take 200 := ⟨_, rfl⟩
  rw [← hys] at HR1
  have E2 : Hid (0 + N ≤ maxLen) := by show 0 + N ≤ maxLen; unfold maxLen; omega
  have E3 : Hid ((0 + N) * 1 ≤ 140737488355328) := by show (0 + N) * 1 ≤ 140737488355328; omega
  clear hN hys
  by_cases h1 : 0 < more
  · by_cases h2 : more < 300
    · obtain ⟨M, rfl⟩ : ∃ M : Nat, more = (M : Int) := ⟨more.toNat, by omega⟩
      have hM0 : 0 < M := by omega
      have E4 : Hid (N + M ≤ maxLen) := by show N + M ≤ maxLen; unfold maxLen; omega
      have E5 : Hid ((N + M) * 1 ≤ 140737488355328) := by show (N + M) * 1 ≤ 140737488355328; omega
      go_wp2_with (first
        | (at_builtin; refine wpList_append_reads rfl (.const (.slice none 0 0)) (.tmp 10) _ rfl w1.heap.size 5 (.int .u8 0) 1 Tryd.underlying22 u8_info' rfl (.slice none 0 0) 0 [] rfl (World.ownsRow_nil _ _ _ _) w.heap.size A N c (bvs ys) rfl HR1.out (bvs_one _) E2.out E3.out (Nat.le_refl _) ?_; intro v2 w3 ho3 hg3; rw [Nat.zero_add, List.nil_append] at ho3; obtain ⟨A3, c3, rfl, hc3, hm3⟩ := own_form ho3)
        | (at_builtin; refine wpList_append_zeros rfl (.tmp 18) (.tmp 19) _ _ rfl w1.heap.size 5 (.int .u8 0) 1 .i64 .i64 Tryd.underlying22 Tryd.underlying3 u8_info' rfl rfl (.slice A3 N c3) N (bvs ys) rfl ho3 M rfl hM0 E4.out E5.out hg3.size ?_; intro v4 w4 ho4 hg4; rw [bvs_zeros, bvs_append] at ho4; obtain ⟨A4, c4, rfl, hc4, hm4⟩ := own_form ho4))
      have hb3 : Below w1.heap.size w1 w3 := own_below (World.ownsRow_nil w1 w1.heap.size 5 1) (Below.refl _ _) (Nat.le_refl _) (Nat.le_refl _) hg3
      have hbx : Below w.heap.size w w4 := own_below ho3 (HB1.out.trans (hb3.mono hz1)) hz1 hg3.size hg4
      have hrow := Row.own ho4
      obtain ⟨zs, hzs⟩ : ∃ zs, zs = ys ++ List.replicate M 0 := ⟨_, rfl⟩
      rw [← hzs] at hrow
      have HROW := Lib.hid hrow
      have HBX := Lib.hid hbx
      have HDM : Hid (c4 ≤ maxLen) := hm4
      clear hrow hbx
      obtain ⟨res, hres⟩ : ∃ res, res = (bvs (digest zs)).toArray := ⟨_, rfl⟩
      have heq := eq_same hres (digest_length _)
      have HRES := Lib.hid hres
      clear hres
      refine (sum_any A4 (N + M) c4 zs w4 (HT.out.all HBX.out) HROW.out hc4 HDM.out (by omega)).mono ?_
      rintro e w5 ⟨rfl, hb5⟩
      rw [← HRES.out]
      have HW5 := Lib.hid (HBX.out.trans (hb5.mono HBX.out.size))
      have HR5 := Lib.hid ((HROW.out.below hb5).more hb5.size)
      clear hb5
      go_wp2_with fail
      refine (refdig_any A4 (N + M) c4 zs w5 HR5.out (by omega)).mono ?_
      rintro e w6 ⟨rfl, hb6⟩
      rw [← HRES.out]
      have HW6 := Lib.hid (HW5.out.trans (hb6.mono HW5.out.size))
      clear hb6
      go_wp2_with fail
      go_ret
      exact ⟨rfl, HW6.out⟩
    · go_wp2_with (at_builtin; refine wpList_append_reads rfl (.const (.slice none 0 0)) (.tmp 10) _ rfl w1.heap.size 5 (.int .u8 0) 1 Tryd.underlying22 u8_info' rfl (.slice none 0 0) 0 [] rfl (World.ownsRow_nil _ _ _ _) w.heap.size A N c (bvs ys) rfl HR1.out (bvs_one _) E2.out E3.out (Nat.le_refl _) ?_; intro v2 w3 ho3 hg3; rw [Nat.zero_add, List.nil_append] at ho3; obtain ⟨A3, c3, rfl, hc3, hm3⟩ := own_form ho3)
      have hbx : Below w.heap.size w w3 := HB1.out.trans ((own_below (World.ownsRow_nil w1 w1.heap.size 5 1) (Below.refl _ _) (Nat.le_refl _) (Nat.le_refl _) hg3).mono hz1)
      have hrow := Row.own ho3
      obtain ⟨zs, hzs⟩ : ∃ zs, zs = ys := ⟨_, rfl⟩
      rw [← hzs] at hrow
      have HROW := Lib.hid hrow
      have HBX := Lib.hid hbx
      have HDM : Hid (c3 ≤ maxLen) := hm3
      clear hrow hbx
      obtain ⟨res, hres⟩ : ∃ res, res = (bvs (digest zs)).toArray := ⟨_, rfl⟩
      have heq := eq_same hres (digest_length _)
      have HRES := Lib.hid hres
      clear hres
      refine (sum_any A3 N c3 zs w3 (HT.out.all HBX.out) HROW.out hc3 HDM.out (by omega)).mono ?_
      rintro e w5 ⟨rfl, hb5⟩
      rw [← HRES.out]
      have HW5 := Lib.hid (HBX.out.trans (hb5.mono HBX.out.size))
      have HR5 := Lib.hid ((HROW.out.below hb5).more hb5.size)
      clear hb5
      go_wp2_with fail
      refine (refdig_any A3 N c3 zs w5 HR5.out (by omega)).mono ?_
      rintro e w6 ⟨rfl, hb6⟩
      rw [← HRES.out]
      have HW6 := Lib.hid (HW5.out.trans (hb6.mono HW5.out.size))
      clear hb6
      go_wp2_with fail
      go_ret
      exact ⟨rfl, HW6.out⟩
  · go_wp2_with (at_builtin; refine wpList_append_reads rfl (.const (.slice none 0 0)) (.tmp 10) _ rfl w1.heap.size 5 (.int .u8 0) 1 Tryd.underlying22 u8_info' rfl (.slice none 0 0) 0 [] rfl (World.ownsRow_nil _ _ _ _) w.heap.size A N c (bvs ys) rfl HR1.out (bvs_one _) E2.out E3.out (Nat.le_refl _) ?_; intro v2 w3 ho3 hg3; rw [Nat.zero_add, List.nil_append] at ho3; obtain ⟨A3, c3, rfl, hc3, hm3⟩ := own_form ho3)
    have hbx : Below w.heap.size w w3 := HB1.out.trans ((own_below (World.ownsRow_nil w1 w1.heap.size 5 1) (Below.refl _ _) (Nat.le_refl _) (Nat.le_refl _) hg3).mono hz1)
    have hrow := Row.own ho3
    obtain ⟨zs, hzs⟩ : ∃ zs, zs = ys := ⟨_, rfl⟩
    rw [← hzs] at hrow
    have HROW := Lib.hid hrow
    have HBX := Lib.hid hbx
    have HDM : Hid (c3 ≤ maxLen) := hm3
    clear hrow hbx
    obtain ⟨res, hres⟩ : ∃ res, res = (bvs (digest zs)).toArray := ⟨_, rfl⟩
    have heq := eq_same hres (digest_length _)
    have HRES := Lib.hid hres
    clear hres
    refine (sum_any A3 N c3 zs w3 (HT.out.all HBX.out) HROW.out hc3 HDM.out (by omega)).mono ?_
    rintro e w5 ⟨rfl, hb5⟩
    rw [← HRES.out]
    have HW5 := Lib.hid (HBX.out.trans (hb5.mono HBX.out.size))
    have HR5 := Lib.hid ((HROW.out.below hb5).more hb5.size)
    clear hb5
    go_wp2_with fail
    refine (refdig_any A3 N c3 zs w5 HR5.out (by omega)).mono ?_
    rintro e w6 ⟨rfl, hb6⟩
    rw [← HRES.out]
    have HW6 := Lib.hid (HW5.out.trans (hb6.mono HW5.out.size))
    clear hb6
    go_wp2_with fail
    go_ret
    exact ⟨rfl, HW6.out⟩
end Go.Proofs.YtfhedljhkikdmaaDoor.Sha
