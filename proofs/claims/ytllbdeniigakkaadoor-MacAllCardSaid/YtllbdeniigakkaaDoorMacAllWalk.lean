/-
  Proved: the walk of MacAll of package stillroomlaw3: it returns true and changes nothing that was there.
  Conditions: the slices read as bytes; the number lies in its type; the tables sha.start and sha.rounds hold their words.
-/
import Derived.Test.YtllbdeniigakkaaDoorMacBase
import Derived.Test.YtllbdeniigakkaaDoorMacRef
import Derived.Test.YtllbdeniigakkaaDoorZeros
import Derived.Deep.DeepCutAuto
namespace Go.Proofs.YtllbdeniigakkaaDoor.Sha
open Go.RowKit

set_option maxHeartbeats 1000000 in
theorem macAll_walk (A : Option Addr) (n c : Nat) (xs : List UInt8) (B : Option Addr) (m d : Nat) (zs : List UInt8) (long : Int) (w : World) (hT : Tables w)
    (hA : Row w w.heap.size A n (bvs xs)) (hn : n ≤ c) (hc : c ≤ maxLen) (hB : Row w w.heap.size B m (bvs zs)) (hm : m ≤ d) (hd : d ≤ maxLen) (hlong : -9223372036854775808 ≤ long ∧ long ≤ 9223372036854775807) :
    Calls Tryd.prog 3 #[.slice A n c, .slice B m d, .int .i64 long] w fun e w' => e = .returned (.bool true) ∧ Below w.heap.size w w' := by
  obtain ⟨hm1, hm2⟩ := hlong
  have hgd := eq_guard
  have HT := Lib.hid hT
  have HA := Lib.hid hA
  have HB := Lib.hid hB
  have HC := Lib.hid hc
  have HD := Lib.hid hd
  clear hT hA hB hc hd
  go_enter Tryd.func3, Tryd.ntmps3
  go_wp2_with fail
  refine (begun3_any w HT.out).mono ?_
  rintro e w1 ⟨rfl, hb1⟩
  have HB1 := Lib.hid hb1
  have hz1 := hb1.size
  clear hb1
  go_wp2_with fail
  refine (short_any A n c 100 w1 hn HC.out).mono ?_
  rintro e w2 ⟨rfl, rfl⟩
  have HR1 := Lib.hid (short_row (m := 100) HB1.out HA.out)
  obtain ⟨N, hN⟩ : ∃ N, N = min n 100 := ⟨_, rfl⟩
  rw [← hN] at HR1 ⊢
  have hN2 : N ≤ 100 := by omega
  obtain ⟨ys, hys⟩ : ∃ ys, ys = xs.take 100 := ⟨_, rfl⟩
  rw [← hys] at HR1
  have E2 : Hid (0 + N ≤ maxLen) := by show 0 + N ≤ maxLen; unfold maxLen; omega
  have E3 : Hid ((0 + N) * 1 ≤ 140737488355328) := by show (0 + N) * 1 ≤ 140737488355328; omega
  clear hN hys
  go_wp2_with (at_builtin; refine wpList_append_reads rfl (.const (.slice none 0 0)) (.tmp 12) _ rfl w1.heap.size 5 (.int .u8 0) 1 Tryd.underlying22 u8_info' rfl (.slice none 0 0) 0 [] rfl (World.ownsRow_nil _ _ _ _) w.heap.size A N c (bvs ys) rfl HR1.out (bvs_one _) E2.out E3.out (Nat.le_refl _) ?_; intro v2 w3 ho3 hg3; rw [Nat.zero_add, List.nil_append] at ho3; obtain ⟨A3, c3, rfl, hc3, hm3⟩ := own_form ho3)
  have hb3 : Below w1.heap.size w1 w3 := own_below (World.ownsRow_nil w1 w1.heap.size 5 1) (Below.refl _ _) (Nat.le_refl _) (Nat.le_refl _) hg3
  have HB3 : Hid (Below w.heap.size w w3) := HB1.out.trans (hb3.mono hz1)
  have HO3 := Lib.hid ho3
  have HC3 : Hid (c3 ≤ maxLen) := hm3
  have hz3 := hg3.size
  clear hb3 ho3 hg3 hm3
  refine (short_any B m d 200 w3 hm HD.out).mono ?_
  rintro e w2 ⟨rfl, rfl⟩
  have HRB : Hid (∀ W : World, Below w.heap.size w W → Row W w.heap.size B (min m 200) (bvs (zs.take 200))) := fun W h => short_row (m := 200) h HB.out
  obtain ⟨M, hM⟩ : ∃ M, M = min m 200 := ⟨_, rfl⟩
  rw [← hM] at HRB ⊢
  have hM2 : M ≤ 200 := by omega
  have hMd : M ≤ d := by omega
  obtain ⟨bs, hbs⟩ : ∃ bs, bs = zs.take 200 := ⟨_, rfl⟩
  rw [← hbs] at HRB
  clear hM hbs
  by_cases h1 : 0 < long
  · by_cases h2 : long < 100
    · obtain ⟨L, rfl⟩ : ∃ L : Nat, long = (L : Int) := ⟨long.toNat, by omega⟩
      have hL0 : 0 < L := by omega
      have E4 : Hid (N + L ≤ maxLen) := by show N + L ≤ maxLen; unfold maxLen; omega
      have E5 : Hid ((N + L) * 1 ≤ 140737488355328) := by show (N + L) * 1 ≤ 140737488355328; omega
      go_wp2_with (at_builtin; refine wpList_append_zeros rfl (.tmp 22) (.tmp 23) _ _ rfl w1.heap.size 5 (.int .u8 0) 1 .i64 .i64 Tryd.underlying22 Tryd.underlying3 u8_info' rfl rfl (.slice A3 N c3) N (bvs ys) rfl HO3.out L rfl hL0 E4.out E5.out hz3 ?_; intro v4 w4 ho4 hg4; rw [bvs_zeros, bvs_append] at ho4; obtain ⟨A4, c4, rfl, hc4, hm4⟩ := own_form ho4)
      have hb4 : Below w.heap.size w w4 := own_below HO3.out HB3.out hz1 hz3 hg4
      have hrb4 := HRB.out w4 hb4
      have hrow := Row.own ho4
      obtain ⟨key, hkey⟩ : ∃ key, key = ys ++ List.replicate L 0 := ⟨_, rfl⟩
      rw [← hkey] at hrow
      have HROW := Lib.hid hrow
      have HBX : Hid (Below w.heap.size w w4) := hb4
      have HDM : Hid (c4 ≤ maxLen) := hm4
      clear hrow hkey
      obtain ⟨res, hres⟩ : ∃ res, res = (bvs (hmac key bs)).toArray := ⟨_, rfl⟩
      have heq := eq_same hres (hmac_length _ _)
      have HRES := Lib.hid hres
      have HRBX := Lib.hid ((hrb4).more HBX.out.size)
      clear hres
      refine (macsum_any A4 (N + L) c4 key B M d bs w4 (HT.out.all HBX.out) HROW.out hc4 HDM.out (by omega) HRBX.out hMd HD.out (by omega)).mono ?_
      rintro e w5 ⟨rfl, hb5⟩
      rw [← HRES.out]
      have HW5 := Lib.hid (HBX.out.trans (hb5.mono HBX.out.size))
      have HR5 := Lib.hid ((HROW.out.below hb5).more hb5.size)
      have HRB5 := Lib.hid ((HRBX.out.below hb5).more hb5.size)
      clear hb5
      go_wp2_with fail
      refine (refmac_any A4 (N + L) c4 key B M d bs w5 HR5.out hc4 HDM.out (by omega) HRB5.out (by omega)).mono ?_
      rintro e w6 ⟨rfl, hb6⟩
      rw [← HRES.out]
      have HW6 := Lib.hid (HW5.out.trans (hb6.mono HW5.out.size))
      clear hb6
      go_wp2_with fail
      go_ret
      exact ⟨rfl, HW6.out⟩
    · go_wp2_with fail
      have hrow := Row.own HO3.out
      obtain ⟨key, hkey⟩ : ∃ key, key = ys := ⟨_, rfl⟩
      rw [← hkey] at hrow
      have HROW := Lib.hid hrow
      have HBX : Hid (Below w.heap.size w w3) := HB3.out
      have HDM : Hid (c3 ≤ maxLen) := HC3.out
      clear hrow hkey
      obtain ⟨res, hres⟩ : ∃ res, res = (bvs (hmac key bs)).toArray := ⟨_, rfl⟩
      have heq := eq_same hres (hmac_length _ _)
      have HRES := Lib.hid hres
      have HRBX := Lib.hid ((HRB.out w3 HB3.out).more HBX.out.size)
      clear hres
      refine (macsum_any A3 N c3 key B M d bs w3 (HT.out.all HBX.out) HROW.out hc3 HDM.out (by omega) HRBX.out hMd HD.out (by omega)).mono ?_
      rintro e w5 ⟨rfl, hb5⟩
      rw [← HRES.out]
      have HW5 := Lib.hid (HBX.out.trans (hb5.mono HBX.out.size))
      have HR5 := Lib.hid ((HROW.out.below hb5).more hb5.size)
      have HRB5 := Lib.hid ((HRBX.out.below hb5).more hb5.size)
      clear hb5
      go_wp2_with fail
      refine (refmac_any A3 N c3 key B M d bs w5 HR5.out hc3 HDM.out (by omega) HRB5.out (by omega)).mono ?_
      rintro e w6 ⟨rfl, hb6⟩
      rw [← HRES.out]
      have HW6 := Lib.hid (HW5.out.trans (hb6.mono HW5.out.size))
      clear hb6
      go_wp2_with fail
      go_ret
      exact ⟨rfl, HW6.out⟩
  · go_wp2_with fail
    have hrow := Row.own HO3.out
    obtain ⟨key, hkey⟩ : ∃ key, key = ys := ⟨_, rfl⟩
    rw [← hkey] at hrow
    have HROW := Lib.hid hrow
    have HBX : Hid (Below w.heap.size w w3) := HB3.out
    have HDM : Hid (c3 ≤ maxLen) := HC3.out
    clear hrow hkey
    obtain ⟨res, hres⟩ : ∃ res, res = (bvs (hmac key bs)).toArray := ⟨_, rfl⟩
    have heq := eq_same hres (hmac_length _ _)
    have HRES := Lib.hid hres
    have HRBX := Lib.hid ((HRB.out w3 HB3.out).more HBX.out.size)
    clear hres
    refine (macsum_any A3 N c3 key B M d bs w3 (HT.out.all HBX.out) HROW.out hc3 HDM.out (by omega) HRBX.out hMd HD.out (by omega)).mono ?_
    rintro e w5 ⟨rfl, hb5⟩
    rw [← HRES.out]
    have HW5 := Lib.hid (HBX.out.trans (hb5.mono HBX.out.size))
    have HR5 := Lib.hid ((HROW.out.below hb5).more hb5.size)
    have HRB5 := Lib.hid ((HRBX.out.below hb5).more hb5.size)
    clear hb5
    go_wp2_with fail
    refine (refmac_any A3 N c3 key B M d bs w5 HR5.out hc3 HDM.out (by omega) HRB5.out (by omega)).mono ?_
    rintro e w6 ⟨rfl, hb6⟩
    rw [← HRES.out]
    have HW6 := Lib.hid (HW5.out.trans (hb6.mono HW5.out.size))
    clear hb6
    go_wp2_with fail
    go_ret
    exact ⟨rfl, HW6.out⟩
end Go.Proofs.YtllbdeniigakkaaDoor.Sha
