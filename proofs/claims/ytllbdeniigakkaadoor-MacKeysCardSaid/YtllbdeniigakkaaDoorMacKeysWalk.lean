/-
  Proved: the walk of MacKeys of package stillroomlaw3: it returns true and changes nothing that was there.
  Conditions: the numbers lie in their types; the slice reads as bytes; the tables sha.start and sha.rounds hold their words.
-/
import Derived.Test.YtllbdeniigakkaaDoorMacBase
import Derived.Test.YtllbdeniigakkaaDoorMacRef
import Derived.Test.YtllbdeniigakkaaDoorZeros
import Derived.Deep.DeepCutAuto
import Derived.Deep.RegionHeld3
namespace Go.Proofs.YtllbdeniigakkaaDoor.Sha
open Go.RowKit

set_option linter.unusedSimpArgs false in
set_option maxHeartbeats 4000000 in
theorem macKeys_walk (n x : Int) (B : Option Addr) (m d : Nat) (bs : List UInt8) (w : World) (hT : Tables w) (hn : -9223372036854775808 ≤ n ∧ n ≤ 9223372036854775807) (hx : (Lit.int .u8 x).wf = true)
    (hB : Row w w.heap.size B m (bvs bs)) (hm : m ≤ d) (hd : d ≤ maxLen) :
    Calls Tryd.prog 5 #[.int .i64 n, .int .u8 x, .slice B m d] w fun e w' => e = .returned (.bool true) ∧ Below w.heap.size w w' := by
  obtain ⟨hn1, hn2⟩ := hn
  have hx0 : 0 ≤ x ∧ x ≤ 255 := bounds_u8 hx
  obtain ⟨hx1, hx2⟩ := hx0
  have hgd := eq_guard
  have hzero' := zero_sum
  have hml : m ≤ 9223372036854775807 := by unfold maxLen at hd; omega
  obtain ⟨i8, hi8, hz8⟩ := Option.map_eq_some_iff.1 u8_info'
  simp only [Prod.mk.injEq] at hz8
  have HI8 := Lib.hid hi8
  have HZ8 := Lib.hid hz8
  have HT := Lib.hid hT
  have HB := Lib.hid hB
  have HD := Lib.hid hd
  clear hT hx hi8 hz8 hB hd
  by_cases h0 : n < 0
  · go_enter Tryd.func5, Tryd.ntmps5
    go_wp2_with fail
    refine (begun3_any w HT.out).mono ?_
    rintro e w1 ⟨rfl, hb1⟩
    have HB1 := Lib.hid hb1
    clear hb1
    go_wp2_with fail
    go_ret
    exact ⟨rfl, HB1.out⟩
  by_cases h3 : 150 < n
  · go_enter Tryd.func5, Tryd.ntmps5
    go_wp2_with fail
    refine (begun3_any w HT.out).mono ?_
    rintro e w1 ⟨rfl, hb1⟩
    have HB1 := Lib.hid hb1
    clear hb1
    go_wp2_with fail
    go_ret
    exact ⟨rfl, HB1.out⟩
  by_cases h4 : 100 < m
  · go_enter Tryd.func5, Tryd.ntmps5
    go_wp2_with fail
    refine (begun3_any w HT.out).mono ?_
    rintro e w1 ⟨rfl, hb1⟩
    have HB1 := Lib.hid hb1
    clear hb1
    go_wp2_with fail
    go_ret
    exact ⟨rfl, HB1.out⟩
  go_enter Tryd.func5, Tryd.ntmps5
  go_wp2_with fail
  refine (begun3_any w HT.out).mono ?_
  rintro e w1 ⟨rfl, hb1⟩
  have HB1 := Lib.hid hb1
  have hz1 := hb1.size
  clear hb1
  obtain ⟨N, rfl⟩ : ∃ N : Nat, n = (N : Int) := ⟨n.toNat, by omega⟩
  have HBY : Hid (i8.bytes * N ≤ 281474976710656) := by
    show _ ≤ _
    rw [HZ8.out.2.2]
    omega
  have HM : Hid (N ≤ maxLen) := by show N ≤ maxLen; unfold maxLen; omega
  go_wp2_with (at_make; refine wpList_make_row _ rfl _ _ 22 rfl 5 i8 (.int .u8 0) Tryd.underlying22 HI8.out HZ8.out.1 HZ8.out.2.1 rfl .i64 .i64 N rfl rfl HBY.out (by omega) ?_)
  rw [bvs_made]
  have hst : Hid (Blk (w1.alloc (.cells (bvs (List.replicate N 0)).toArray 5)) w1.heap.size 5 (bvs (List.replicate N 0)).toArray ∧ Below w.heap.size w (w1.alloc (.cells (bvs (List.replicate N 0)).toArray 5))) := ⟨heap_alloc_new w1 _, HB1.out.alloc HB1.out.size _⟩
  go_loopw [9] (fun i wr => ∃ k : Nat, k ≤ N ∧ i = .int .i64 (k : Int) ∧ Hid (∃ l : List UInt8, l.length = N ∧ Blk wr w1.heap.size 5 (bvs l).toArray ∧ Below w.heap.size w wr)) (fun i _ => N - (intOf i).toNat)
  case atStart => exact ⟨0, Nat.zero_le _, rfl, _, by simp, hst.out.1, hst.out.2⟩
  case round =>
    clear hst
    obtain ⟨k, hk, rfl, HI⟩ := hrel
    obtain ⟨l, hl, hbk, hbw⟩ := HI.out
    by_cases hlt : k < N
    · obtain ⟨v0, f0⟩ : ∃ v0, wr.cell? ⟨w1.heap.size, k, none⟩ = some v0 := ⟨_, (hbk.cell k).trans (Array.getElem?_eq_getElem (by rw [List.size_toArray, bvs_length]; omega))⟩
      have f1 : wr.frozen? ⟨w1.heap.size, k, none⟩ = false := hbk.free k
      have HL := Lib.hid hl
      have HK := Lib.hid hbk
      have HW := Lib.hid hbw
      clear HI hl hbk hbw
      go_wp2_with fail
      go_roundw
      case rel =>
        obtain ⟨cx, hcx⟩ := byte_value hx1 hx2
        refine ⟨k + 1, by omega, by go_num, l.set k cx, by rw [List.length_set]; exact HL.out, ?_, HW.out.setCell hz1 _⟩
        rw [← bvs_set, hcx]
        exact HK.out.put k _
      case measure => simp [intOf]; omega
    · obtain rfl : k = N := by omega
      have hrow := blk_row hbk hl
      have HR := Lib.hid hrow
      have HW := Lib.hid hbw
      have HKB := Lib.hid hbk
      have HL := Lib.hid hl
      obtain ⟨tl, htl⟩ : ∃ tl, tl = bvs (hmac l bs) := ⟨_, rfl⟩
      obtain ⟨ul, hul⟩ : ∃ ul, ul = bvs (hmac (l ++ [0]) bs) := ⟨_, rfl⟩
      have hcase : 64 ≤ k ∨ ul = tl := by
        rcases Nat.lt_or_ge k 64 with h | h
        · exact .inr (by rw [hul, htl, hmac_nought l bs (by omega)])
        · exact .inl h
      have HTL := Lib.hid htl
      have HUL := Lib.hid hul
      have HT1 : Hid (tl.toArray.all (·.oneCell') = true) := by show _ = _; rw [htl]; exact bvs_all' _
      have HU1 : Hid (ul.toArray.all (·.oneCell') = true) := by show _ = _; rw [hul]; exact bvs_all' _
      have ht32 : tl.length = 32 := by rw [htl, bvs_length, hmac_length]
      have hu32 : ul.length = 32 := by rw [hul, bvs_length, hmac_length]
      have HT32 := Lib.hid ht32
      have HTS : Hid (tl.toArray.size = 32) := by show tl.toArray.size = 32; rw [List.size_toArray]; exact ht32
      have HUS : Hid (ul.toArray.size = 32) := by show ul.toArray.size = 32; rw [List.size_toArray]; exact hu32
      have HU32 := Lib.hid hu32
      clear HI hl hbk hbw hrow htl hul ht32 hu32 HI8 HZ8 HBY
      go_wp2_with fail
      have hrb : Row wr wr.heap.size B m (bvs bs) := (HB.out.below HW.out).more HW.out.size
      refine (macsum_any _ k k l B m d bs wr (HT.out.all HW.out) HR.out (Nat.le_refl _) HM.out (by omega) hrb hm HD.out (by omega)).mono ?_
      rintro e w4 ⟨rfl, hb4⟩
      rw [← HTL.out]
      clear hrb
      have HW4 := Lib.hid (HW.out.trans (hb4.mono HW.out.size))
      have HK4 := Lib.hid ((hb4.block _ (blk_lt HKB.out)).trans HKB.out)
      have hz4 : w1.heap.size < w4.heap.size := Nat.lt_of_lt_of_le (blk_lt HKB.out) hb4.size
      clear hb4 HW HKB HR
      have E2 : Hid (0 + k ≤ maxLen) := by show 0 + k ≤ maxLen; unfold maxLen; omega
      have E3 : Hid ((0 + k) * 1 ≤ 140737488355328) := by show (0 + k) * 1 ≤ 140737488355328; omega
      have E4 : Hid (k + 1 ≤ maxLen) := by show k + 1 ≤ maxLen; unfold maxLen; omega
      have E5 : Hid ((k + 1) * 1 ≤ 140737488355328) := by show (k + 1) * 1 ≤ 140737488355328; omega
      have O2 : Hid (∀ u ∈ [Value.int .u8 0], u.oneCell' = true) := fun u hu => by rw [List.mem_singleton.1 hu]; rfl
      go_wp2_with (first
        | (refine wpList_store_blk rfl 25 (.tmp 10) (.tmp 39) rfl w4.heap.size tl.toArray rfl rfl 25 zeroSum (heap_alloc_new _ _) (by rw [HTS.out]; kernel_rfl) (by rw [HTS.out]; rfl) HT1.out ?_
           intro w5 G1 G2
           have hz5 : w4.heap.size + 1 ≤ w5.heap.size := by have := (only_hid G2).size; simpa using this
           have HW5 : Hid (Below w.heap.size w w5) := below_only (HW4.out.alloc (by omega) _) (only_hid G2) (by omega) (by simp; omega)
           have HK5 : Hid (Blk w5 w1.heap.size 5 (bvs l).toArray) := (G2.out.block _ (by simp; omega) (by intro e; injection e; omega)).trans ((Below.heap_alloc w4 _ _ hz4).trans HK4.out)
           have HR5 : Hid (Row w5 w5.heap.size (some ⟨w1.heap.size, 0, none⟩) k (bvs l)) := blk_row HK5.out HL.out)
        | (at_builtin; refine wpList_append_reads rfl (.const (.slice none 0 0)) (.tmp 40) _ rfl w5.heap.size 5 (.int .u8 0) 1 Tryd.underlying22 u8_info' rfl (.slice none 0 0) 0 [] rfl (World.ownsRow_nil _ _ _ _) w5.heap.size (some ⟨w1.heap.size, 0, none⟩) k k (bvs l) rfl HR5.out (bvs_one _) E2.out E3.out (Nat.le_refl _) ?_
           intro v2 w6 ho6 hg6
           rw [Nat.zero_add, List.nil_append] at ho6
           obtain ⟨A6, c6, rfl, hc6, hm6⟩ := own_form ho6
           have hz6 : w5.heap.size ≤ w6.heap.size := hg6.size
           have HB6 : Hid (Below w5.heap.size w5 w6) := own_below (World.ownsRow_nil w5 w5.heap.size 5 1) (Below.refl _ _) (Nat.le_refl _) (Nat.le_refl _) hg6
           have HO6 := Lib.hid ho6
           clear ho6 hg6 hm6)
        | (at_builtin; refine wpList_append_reads rfl (.tmp 41) (.tmp 42) _ rfl w5.heap.size 5 (.int .u8 0) 1 Tryd.underlying22 u8_info' rfl (.slice A6 k c6) k (bvs l) rfl (HO6.out.alloc _) (w6.heap.size + 1) (some ⟨w6.heap.size, 0, none⟩) 1 1 [.int .u8 0] rfl (Row.fresh w6 5 (0, 0) _) O2.out E4.out E5.out (Nat.le_trans hz6 (by simp)) ?_
           intro v3 w7 ho7 hg7
           rw [show [Value.int .u8 0] = bvs [0] from rfl, bvs_append] at ho7
           obtain ⟨A7, c7, rfl, hc7, hm7⟩ := own_form ho7
           have HB7 : Hid (Below w5.heap.size w5 w7) := own_below (HO6.out.alloc _) (HB6.out.alloc hz6 _) (Nat.le_refl _) (Nat.le_trans hz6 (by simp)) hg7
           have HR7 : Hid (Row w7 w7.heap.size A7 (k + 1) (bvs (l ++ [0]))) := Row.own ho7
           have HM7 : Hid (c7 ≤ maxLen) := hm7
           clear ho7 hg7 hm7))
      have HW7 : Hid (Below w.heap.size w w7) := HW5.out.trans (HB7.out.mono HW5.out.size)
      have hrb7 : Row w7 w7.heap.size B m (bvs bs) := (HB.out.below HW7.out).more HW7.out.size
      refine (macsum_any A7 (k + 1) c7 (l ++ [0]) B m d bs w7 (HT.out.all HW7.out) HR7.out hc7 HM7.out (by omega) hrb7 hm HD.out (by omega)).mono ?_
      rintro e w8 ⟨rfl, hb8⟩
      rw [← HUL.out]
      have hz7 : w5.heap.size ≤ w7.heap.size := HB7.out.size
      have hz8 : w7.heap.size ≤ w8.heap.size := hb8.size
      have HB8 : Hid (Below w5.heap.size w5 w8) := HB7.out.trans (hb8.mono hz7)
      clear hb8 hrb7
      go_wp2_with (first
        | (refine wpList_store_blk rfl 25 (.tmp 11) (.tmp 45) rfl w8.heap.size ul.toArray rfl rfl 25 zeroSum (heap_alloc_new _ _) (by rw [HUS.out]; kernel_rfl) (by rw [HUS.out]; rfl) HU1.out ?_
           intro w9 G3 G4))
      have hz9 : w8.heap.size + 1 ≤ w9.heap.size := by have := (only_hid G4).size; simpa using this
      have HB9 : Hid (Below w5.heap.size w5 w9) := below_only (HB8.out.alloc (by omega) _) (only_hid G4) (by omega) (by simp; omega)
      have HW9 : Hid (Below w.heap.size w w9) := HW5.out.trans (HB9.out.mono HW5.out.size)
      have GT : Hid (Blk w9 w4.heap.size 25 tl.toArray) := (HB9.out.block _ (by omega)).trans G1.out
      have GK : Hid (Blk w9 w1.heap.size 5 (bvs l).toArray) := (HB9.out.block _ (by omega)).trans HK5.out
      have GU : Hid (Blk w9 w8.heap.size 25 ul.toArray) := G3.out
      clear G1 G2 G3 G4 HB9 HW5 HK5 HR5 HB6 HO6 HB7 HR7 HM7 HW7 HB8 HK4 HW4 hc6 hc7
      have hu25 := Tryd.underlying25
      have HB0 : Hid (Below w9.heap.size w9 w9.drew) := (Below.refl _ _).drew
      have HRK : Hid (Row w9.drew w9.drew.heap.size (some ⟨w1.heap.size, 0, none⟩) k (bvs l)) := blk_row (show Blk w9.drew w1.heap.size 5 (bvs l).toArray from GK.out) HL.out
      have HKN : Hid (∀ W, Below w9.heap.size w9 W → ∀ j u, (bvs l)[j]? = some u → W.cell? ((⟨w1.heap.size, 0, none⟩ : Addr).add j) = some u) := fun W h => row_news ((blk_row GK.out HL.out).below h)
      have HRB : Hid (∀ W, Below w9.heap.size w9 W → Row W W.heap.size B m (bvs bs)) := fun W h => (HB.out.below (HW9.out.trans (h.mono HW9.out.size))).more (Nat.le_trans HW9.out.size h.size)
      have HLL : Hid ((bvs l).length = k) := by show _ = _; rw [bvs_length]; exact HL.out
      have heqt := eq_same (res := tl.toArray) (by rw [HTL.out]) (hmac_length l bs)
      by_cases h64 : 64 ≤ k
      · have hdec : decide ((64 : Int) ≤ (k : Int)) = true := decide_eq_true (by omega)
        have hequ := eq_same (res := ul.toArray) (by rw [HUL.out]) (hmac_length (l ++ [0]) bs)
        have hit : (Tryd.prog.info? 25).map (·.size) = some tl.length := by rw [HT32.out]; kernel_rfl
        have hiu : (Tryd.prog.info? 25).map (·.size) = some ul.length := by rw [HU32.out]; kernel_rfl
        have HS : Hid (∀ W, Below w9.heap.size w9 W → W.rangeAt w4.heap.size 0 tl ∧ W.rangeAt w8.heap.size 0 ul ∧ Hid (Below w9.heap.size w9 W)) := fun W h =>
          ⟨fun j v hj => (h.cell (show w4.heap.size < w9.heap.size by omega)).trans ((Blk.cell GT.out _).trans (by simpa using hj)), fun j v hj => (h.cell (show w8.heap.size < w9.heap.size by omega)).trans ((Blk.cell GU.out _).trans (by simpa using hj)), h⟩
        clear hcase GT GU GK
        refine wp_region_noPanic ?_
        refine wp_region_held_drew (S := fun w' => w'.rangeAt w4.heap.size 0 tl ∧ w'.rangeAt w8.heap.size 0 ul ∧ Hid (Below w9.heap.size w9 w')) (by kernel_rfl) (HS.out _ HB0.out) (fun h9 => ?_)
        refine held_take 0 (v := .agg (List.toArray tl)) (d := (some 46)) rfl rfl (by kernel_rfl) (by kernel_rfl) (by kernel_rfl) (fun _ _ _ h => h) (yieldsIf_load_mid (by rfl) _ _ rfl w4.heap.size 0 rfl tl _ (fun _ h => h.1) hu25 rfl hit) h9 ?_
        try simp only [Act.put, List.setIfInBounds_toArray, List.set_cons_zero, List.set_cons_succ]
        refine held_take 1 (v := ?_) (d := (some 47)) rfl rfl (by kernel_rfl) (by kernel_rfl) (by kernel_rfl) (fun _ _ _ h => h) (Or.inl ⟨by rfl, ?_⟩) h9 ?_
        rotate_left
        · intro _ _; go_simp; (try with_reducible rfl)
        try simp only [Act.put, List.setIfInBounds_toArray, List.set_cons_zero, List.set_cons_succ]
        refine held_take 2 (v := ?_) (d := (some 48)) rfl rfl (by kernel_rfl) (by kernel_rfl) (by kernel_rfl) (fun _ _ _ h => h) (Or.inl ⟨by rfl, ?_⟩) h9 ?_
        rotate_left
        · intro _ _; go_simp; (try with_reducible rfl)
        try simp only [Act.put, List.setIfInBounds_toArray, List.set_cons_zero, List.set_cons_succ]
        refine wpAnyH_ready (rs := [3]) (by kernel_rfl) (by simp) (AllReadyH.cons rfl (fun K hK => ?_) AllReadyH.nil)
        go_simp
        have hq := refmac_any (some ⟨w1.heap.size, 0, none⟩) k k l B m d bs w9.drew HRK.out (Nat.le_refl _) HM.out (by omega) (HRB.out _ HB0.out) (by omega)
        rw [← HTL.out] at hq
        with_reducible refine hq.mono ?_
        clear hq
        rintro e w10 ⟨rfl, hb10⟩
        have HB10 : Hid (Below w9.heap.size w9 w10) := HB0.out.trans (hb10.mono HB0.out.size)
        clear hb10
        refine hK.out _ _ (HS.out _ HB10.out) (fun h10 => ?_)
        clear hK K
        try simp only [Act.put, List.setIfInBounds_toArray, List.set_cons_zero, List.set_cons_succ]
        refine held_take 4 (v := ?_) (d := (some 50)) rfl rfl (by kernel_rfl) (by kernel_rfl) (by kernel_rfl) (fun _ _ _ h => h) (Or.inl ⟨by rfl, ?_⟩) h10 ?_
        rotate_left
        · intro _ _; go_simp; (try with_reducible rfl)
        try simp only [Act.put, List.setIfInBounds_toArray, List.set_cons_zero, List.set_cons_succ]
        refine held_take 5 (v := ?_) (d := (some 51)) rfl rfl (by kernel_rfl) (by kernel_rfl) (by kernel_rfl) (fun _ _ _ h => h) (Or.inl ⟨by rfl, ?_⟩) h10 ?_
        rotate_left
        · intro _ _; go_simp; (try with_reducible rfl)
        try simp only [Act.put, List.setIfInBounds_toArray, List.set_cons_zero, List.set_cons_succ]
        refine held_take 6 (v := .agg (List.toArray ul)) (d := (some 52)) rfl rfl (by kernel_rfl) (by kernel_rfl) (by kernel_rfl) (fun _ _ _ h => h) (yieldsIf_load_mid (by rfl) _ _ rfl w8.heap.size 0 rfl ul _ (fun _ h => h.2.1) hu25 rfl hiu) h10 ?_
        try simp only [Act.put, List.setIfInBounds_toArray, List.set_cons_zero, List.set_cons_succ]
        refine held_take 7 (v := ?_) (d := (some 53)) rfl rfl (by kernel_rfl) (by kernel_rfl) (by kernel_rfl) (fun _ _ _ h => h) (Or.inl ⟨by rfl, ?_⟩) h10 ?_
        rotate_left
        · intro _ _; go_simp; (try with_reducible rfl)
        try simp only [Act.put, List.setIfInBounds_toArray, List.set_cons_zero, List.set_cons_succ]
        refine held_take 11 (v := ?_) (d := (some 57)) rfl rfl (by kernel_rfl) (by kernel_rfl) (by kernel_rfl) (fun _ _ _ h => h) (Or.inl ⟨by rfl, ?_⟩) h10 ?_
        rotate_left
        · intro _ _; go_simp; (try with_reducible rfl)
        try simp only [Act.put, List.setIfInBounds_toArray, List.set_cons_zero, List.set_cons_succ]
        refine wpAnyH_ready (rs := [8, 9]) (by kernel_rfl) (by simp) (AllReadyH.cons rfl (fun K hK => ?_) (AllReadyH.cons rfl (fun K hK => ?_) AllReadyH.nil))
        · refine want_append_own (d := some 54) (by rfl) (.const (.slice none 0 0)) (.tmp 53) 22 rfl rfl w9.heap.size 5 (.int .u8 0) 1 Tryd.underlying22 u8_info' rfl (.slice none 0 0) 0 [] rfl (World.ownsRow_nil _ _ _ _) ⟨w1.heap.size, 0, none⟩ k k (bvs l) rfl HLL.out (HKN.out w10 HB10.out) (bvs_one _) E2.out E3.out HB10.out.size ?_
          intro v11 w11 ho11 hg11
          have HO11 : Hid (w11.ownsRow w9.heap.size 5 1 v11 k (bvs l)) := by have := ho11.out; rw [Nat.zero_add, List.nil_append] at this; exact this
          have HB11 : Hid (Below w9.heap.size w9 w11) := own_below (World.ownsRow_nil w10 w9.heap.size 5 1) (HB10.out) (Nat.le_refl _) (HB10.out).size hg11.out
          clear ho11 hg11
          refine hK.out _ _ (HS.out _ HB11.out) (fun h11 => ?_)
          clear hK K
          try simp only [Act.put, List.setIfInBounds_toArray, List.set_cons_zero, List.set_cons_succ]
          refine wpAnyH_ready (rs := [9]) (by kernel_rfl) (by simp) (AllReadyH.cons rfl (fun K hK => ?_) AllReadyH.nil)
          go_simp
          refine hK.out _ _ (HS.out _ (HB11.out.alloc HB11.out.size _)) (fun h11a => ?_)
          clear hK K
          try simp only [Act.put, List.setIfInBounds_toArray, List.set_cons_zero, List.set_cons_succ]
          refine wpAnyH_ready (rs := [10]) (by kernel_rfl) (by simp) (AllReadyH.cons rfl (fun K hK => ?_) AllReadyH.nil)
          refine want_append_own (d := some 56) (by rfl) (.tmp 54) (.tmp 55) 22 rfl rfl w9.heap.size 5 (.int .u8 0) 1 Tryd.underlying22 u8_info' rfl v11 k (bvs l) rfl (HO11.out.alloc _) ⟨w11.heap.size, 0, none⟩ 1 1 [.int .u8 0] rfl rfl (row_news (Row.fresh w11 5 (0, 0) #[.int .u8 0])) O2.out E4.out E5.out (HB11.out.alloc HB11.out.size _).size ?_
          intro v12 w12 ho12 hg12
          obtain ⟨A12, c12, rfl, hc12, hm12⟩ := own_form ho12.out
          have HR12 : Hid (Row w12 w12.heap.size A12 (k + 1) (bvs (l ++ [0]))) := by have := Row.own ho12.out; rw [show [Value.int .u8 0] = bvs [0] from rfl, bvs_append] at this; exact this
          have HM12 : Hid (c12 ≤ maxLen) := hm12
          have HB12 : Hid (Below w9.heap.size w9 w12) := own_below (HO11.out.alloc _) (HB11.out.alloc HB11.out.size _) (Nat.le_refl _) (HB11.out.alloc HB11.out.size _).size hg12.out
          clear ho12 hg12 hm12
          refine hK.out _ _ (HS.out _ HB12.out) (fun h12 => ?_)
          clear hK K
          try simp only [Act.put, List.setIfInBounds_toArray, List.set_cons_zero, List.set_cons_succ]
          refine wpAnyH_ready (rs := [12]) (by kernel_rfl) (by simp) (AllReadyH.cons rfl (fun K hK => ?_) AllReadyH.nil)
          go_simp
          have hq := refmac_any A12 (k + 1) c12 (l ++ [0]) B m d bs w12 HR12.out hc12 HM12.out (by omega) (HRB.out _ HB12.out) (by omega)
          rw [← HUL.out] at hq
          with_reducible refine hq.mono ?_
          clear hq
          rintro e w13 ⟨rfl, hb13⟩
          have HB13 : Hid (Below w9.heap.size w9 w13) := HB12.out.trans (hb13.mono HB12.out.size)
          clear hb13
          refine hK.out _ _ (HS.out _ HB13.out) (fun h13 => ?_)
          clear hK K
          try simp only [Act.put, List.setIfInBounds_toArray, List.set_cons_zero, List.set_cons_succ]
          refine held_take 13 (v := ?_) (d := (some 59)) rfl rfl (by kernel_rfl) (by kernel_rfl) (by kernel_rfl) (fun _ _ _ h => h) (Or.inl ⟨by rfl, ?_⟩) h13 ?_
          rotate_left
          · intro _ _; go_simp; (try with_reducible rfl)
          try simp only [Act.put, List.setIfInBounds_toArray, List.set_cons_zero, List.set_cons_succ]
          refine held_take 14 (v := ?_) (d := (some 60)) rfl rfl (by kernel_rfl) (by kernel_rfl) (by kernel_rfl) (fun _ _ _ h => h) (Or.inl ⟨by rfl, ?_⟩) h13 ?_
          rotate_left
          · intro _ _; go_simp; (try with_reducible rfl)
          try simp only [Act.put, List.setIfInBounds_toArray, List.set_cons_zero, List.set_cons_succ]
          refine held_take 15 (v := ?_) (d := (some 61)) rfl rfl (by kernel_rfl) (by kernel_rfl) (by kernel_rfl) (fun _ _ _ h => h) (Or.inl ⟨by rfl, ?_⟩) h13 ?_
          rotate_left
          · intro _ _; go_simp; (try with_reducible rfl)
          try simp only [Act.put, List.setIfInBounds_toArray, List.set_cons_zero, List.set_cons_succ]
          refine held_take 16 (v := ?_) (d := (some 62)) rfl rfl (by kernel_rfl) (by kernel_rfl) (by kernel_rfl) (fun _ _ _ h => h) (Or.inl ⟨by rfl, ?_⟩) h13 ?_
          rotate_left
          · intro _ _; go_simp; (try with_reducible rfl)
          try simp only [Act.put, List.setIfInBounds_toArray, List.set_cons_zero, List.set_cons_succ]
          refine held_take 17 (v := ?_) (d := (some 63)) rfl rfl (by kernel_rfl) (by kernel_rfl) (by kernel_rfl) (fun _ _ _ h => h) (Or.inl ⟨by rfl, ?_⟩) h13 ?_
          rotate_left
          · intro _ _; go_simp; (try with_reducible rfl)
          try simp only [Act.put, List.setIfInBounds_toArray, List.set_cons_zero, List.set_cons_succ]
          refine held_take 18 (v := ?_) (d := (some 64)) rfl rfl (by kernel_rfl) (by kernel_rfl) (by kernel_rfl) (fun _ _ _ h => h) (Or.inl ⟨by rfl, ?_⟩) h13 ?_
          rotate_left
          · intro _ _; go_simp; (try with_reducible rfl)
          try simp only [Act.put, List.setIfInBounds_toArray, List.set_cons_zero, List.set_cons_succ]
          refine held_take 19 (v := undef) (d := (some 65)) rfl rfl (by kernel_rfl) (by kernel_rfl) (by kernel_rfl) (fun _ _ _ h => h) (Or.inr ⟨by rfl, rfl⟩) h13 ?_
          try simp only [Act.put, List.setIfInBounds_toArray, List.set_cons_zero, List.set_cons_succ]
          refine held_take 20 (v := undef) (d := (some 66)) rfl rfl (by kernel_rfl) (by kernel_rfl) (by kernel_rfl) (fun _ _ _ h => h) (Or.inr ⟨by rfl, rfl⟩) h13 ?_
          try simp only [Act.put, List.setIfInBounds_toArray, List.set_cons_zero, List.set_cons_succ]
          refine held_take 21 (v := undef) (d := (some 67)) rfl rfl (by kernel_rfl) (by kernel_rfl) (by kernel_rfl) (fun _ _ _ h => h) (Or.inr ⟨by rfl, rfl⟩) h13 ?_
          try simp only [Act.put, List.setIfInBounds_toArray, List.set_cons_zero, List.set_cons_succ]
          refine held_take 22 (v := ?_) (d := (some 68)) rfl rfl (by kernel_rfl) (by kernel_rfl) (by kernel_rfl) (fun _ _ _ h => h) (Or.inl ⟨by rfl, ?_⟩) h13 ?_
          rotate_left
          · intro _ _; go_simp; (try with_reducible rfl)
          try simp only [Act.put, List.setIfInBounds_toArray, List.set_cons_zero, List.set_cons_succ]
          refine held_take 23 (v := ?_) (d := (some 69)) rfl rfl (by kernel_rfl) (by kernel_rfl) (by kernel_rfl) (fun _ _ _ h => h) (Or.inl ⟨by rfl, ?_⟩) h13 ?_
          rotate_left
          · intro _ _; go_simp; (try with_reducible rfl)
          try simp only [Act.put, List.setIfInBounds_toArray, List.set_cons_zero, List.set_cons_succ]
          refine held_take 24 (v := ?_) (d := (some 6)) rfl rfl (by kernel_rfl) (by kernel_rfl) (by kernel_rfl) (fun _ _ _ h => h) (Or.inl ⟨by rfl, ?_⟩) h13 ?_
          rotate_left
          · intro _ _; go_simp; (try with_reducible rfl)
          try simp only [Act.put, List.setIfInBounds_toArray, List.set_cons_zero, List.set_cons_succ]
          refine wpAnyH_done (by kernel_rfl) ?_ _
          refine NoPanic.normal ?_
          go_wp2_with fail
          go_ret
          exact ⟨rfl, HW9.out.trans (HB13.out.mono HW9.out.size)⟩
        · go_simp
          refine hK.out _ _ (HS.out _ (HB10.out.alloc HB10.out.size _)) (fun h10a => ?_)
          clear hK K
          try simp only [Act.put, List.setIfInBounds_toArray, List.set_cons_zero, List.set_cons_succ]
          refine wpAnyH_ready (rs := [8]) (by kernel_rfl) (by simp) (AllReadyH.cons rfl (fun K hK => ?_) AllReadyH.nil)
          refine want_append_own (d := some 54) (by rfl) (.const (.slice none 0 0)) (.tmp 53) 22 rfl rfl w9.heap.size 5 (.int .u8 0) 1 Tryd.underlying22 u8_info' rfl (.slice none 0 0) 0 [] rfl (World.ownsRow_nil _ _ _ _) ⟨w1.heap.size, 0, none⟩ k k (bvs l) rfl HLL.out (HKN.out (w10.alloc (.cells #[.int .u8 0] 5)) (HB10.out.alloc HB10.out.size _)) (bvs_one _) E2.out E3.out (HB10.out.alloc HB10.out.size _).size ?_
          intro v11 w11 ho11 hg11
          have HO11 : Hid (w11.ownsRow w9.heap.size 5 1 v11 k (bvs l)) := by have := ho11.out; rw [Nat.zero_add, List.nil_append] at this; exact this
          have HB11 : Hid (Below w9.heap.size w9 w11) := own_below (World.ownsRow_nil (w10.alloc (.cells #[.int .u8 0] 5)) w9.heap.size 5 1) (HB10.out.alloc HB10.out.size _) (Nat.le_refl _) (HB10.out.alloc HB10.out.size _).size hg11.out
          have HZ11 : Hid (∀ j u, [Value.int .u8 0][j]? = some u → w11.cell? ((⟨w10.heap.size, 0, none⟩ : Addr).add j) = some u) := row_news ((Row.fresh w10 5 (0, 0) #[.int .u8 0]).below (own_below (World.ownsRow_nil (w10.alloc (.cells #[.int .u8 0] 5)) (w10.heap.size + 1) 5 1) (Below.refl _ _) (Nat.le_refl _) (by simp) hg11.out))
          clear ho11 hg11
          refine hK.out _ _ (HS.out _ HB11.out) (fun h11 => ?_)
          clear hK K
          try simp only [Act.put, List.setIfInBounds_toArray, List.set_cons_zero, List.set_cons_succ]
          refine wpAnyH_ready (rs := [10]) (by kernel_rfl) (by simp) (AllReadyH.cons rfl (fun K hK => ?_) AllReadyH.nil)
          refine want_append_own (d := some 56) (by rfl) (.tmp 54) (.tmp 55) 22 rfl rfl w9.heap.size 5 (.int .u8 0) 1 Tryd.underlying22 u8_info' rfl v11 k (bvs l) rfl HO11.out ⟨w10.heap.size, 0, none⟩ 1 1 [.int .u8 0] rfl rfl HZ11.out O2.out E4.out E5.out (HB11.out).size ?_
          intro v12 w12 ho12 hg12
          obtain ⟨A12, c12, rfl, hc12, hm12⟩ := own_form ho12.out
          have HR12 : Hid (Row w12 w12.heap.size A12 (k + 1) (bvs (l ++ [0]))) := by have := Row.own ho12.out; rw [show [Value.int .u8 0] = bvs [0] from rfl, bvs_append] at this; exact this
          have HM12 : Hid (c12 ≤ maxLen) := hm12
          have HB12 : Hid (Below w9.heap.size w9 w12) := own_below HO11.out (HB11.out) (Nat.le_refl _) (HB11.out).size hg12.out
          clear ho12 hg12 hm12
          refine hK.out _ _ (HS.out _ HB12.out) (fun h12 => ?_)
          clear hK K
          try simp only [Act.put, List.setIfInBounds_toArray, List.set_cons_zero, List.set_cons_succ]
          refine wpAnyH_ready (rs := [12]) (by kernel_rfl) (by simp) (AllReadyH.cons rfl (fun K hK => ?_) AllReadyH.nil)
          go_simp
          have hq := refmac_any A12 (k + 1) c12 (l ++ [0]) B m d bs w12 HR12.out hc12 HM12.out (by omega) (HRB.out _ HB12.out) (by omega)
          rw [← HUL.out] at hq
          with_reducible refine hq.mono ?_
          clear hq
          rintro e w13 ⟨rfl, hb13⟩
          have HB13 : Hid (Below w9.heap.size w9 w13) := HB12.out.trans (hb13.mono HB12.out.size)
          clear hb13
          refine hK.out _ _ (HS.out _ HB13.out) (fun h13 => ?_)
          clear hK K
          try simp only [Act.put, List.setIfInBounds_toArray, List.set_cons_zero, List.set_cons_succ]
          refine held_take 13 (v := ?_) (d := (some 59)) rfl rfl (by kernel_rfl) (by kernel_rfl) (by kernel_rfl) (fun _ _ _ h => h) (Or.inl ⟨by rfl, ?_⟩) h13 ?_
          rotate_left
          · intro _ _; go_simp; (try with_reducible rfl)
          try simp only [Act.put, List.setIfInBounds_toArray, List.set_cons_zero, List.set_cons_succ]
          refine held_take 14 (v := ?_) (d := (some 60)) rfl rfl (by kernel_rfl) (by kernel_rfl) (by kernel_rfl) (fun _ _ _ h => h) (Or.inl ⟨by rfl, ?_⟩) h13 ?_
          rotate_left
          · intro _ _; go_simp; (try with_reducible rfl)
          try simp only [Act.put, List.setIfInBounds_toArray, List.set_cons_zero, List.set_cons_succ]
          refine held_take 15 (v := ?_) (d := (some 61)) rfl rfl (by kernel_rfl) (by kernel_rfl) (by kernel_rfl) (fun _ _ _ h => h) (Or.inl ⟨by rfl, ?_⟩) h13 ?_
          rotate_left
          · intro _ _; go_simp; (try with_reducible rfl)
          try simp only [Act.put, List.setIfInBounds_toArray, List.set_cons_zero, List.set_cons_succ]
          refine held_take 16 (v := ?_) (d := (some 62)) rfl rfl (by kernel_rfl) (by kernel_rfl) (by kernel_rfl) (fun _ _ _ h => h) (Or.inl ⟨by rfl, ?_⟩) h13 ?_
          rotate_left
          · intro _ _; go_simp; (try with_reducible rfl)
          try simp only [Act.put, List.setIfInBounds_toArray, List.set_cons_zero, List.set_cons_succ]
          refine held_take 17 (v := ?_) (d := (some 63)) rfl rfl (by kernel_rfl) (by kernel_rfl) (by kernel_rfl) (fun _ _ _ h => h) (Or.inl ⟨by rfl, ?_⟩) h13 ?_
          rotate_left
          · intro _ _; go_simp; (try with_reducible rfl)
          try simp only [Act.put, List.setIfInBounds_toArray, List.set_cons_zero, List.set_cons_succ]
          refine held_take 18 (v := ?_) (d := (some 64)) rfl rfl (by kernel_rfl) (by kernel_rfl) (by kernel_rfl) (fun _ _ _ h => h) (Or.inl ⟨by rfl, ?_⟩) h13 ?_
          rotate_left
          · intro _ _; go_simp; (try with_reducible rfl)
          try simp only [Act.put, List.setIfInBounds_toArray, List.set_cons_zero, List.set_cons_succ]
          refine held_take 19 (v := undef) (d := (some 65)) rfl rfl (by kernel_rfl) (by kernel_rfl) (by kernel_rfl) (fun _ _ _ h => h) (Or.inr ⟨by rfl, rfl⟩) h13 ?_
          try simp only [Act.put, List.setIfInBounds_toArray, List.set_cons_zero, List.set_cons_succ]
          refine held_take 20 (v := undef) (d := (some 66)) rfl rfl (by kernel_rfl) (by kernel_rfl) (by kernel_rfl) (fun _ _ _ h => h) (Or.inr ⟨by rfl, rfl⟩) h13 ?_
          try simp only [Act.put, List.setIfInBounds_toArray, List.set_cons_zero, List.set_cons_succ]
          refine held_take 21 (v := undef) (d := (some 67)) rfl rfl (by kernel_rfl) (by kernel_rfl) (by kernel_rfl) (fun _ _ _ h => h) (Or.inr ⟨by rfl, rfl⟩) h13 ?_
          try simp only [Act.put, List.setIfInBounds_toArray, List.set_cons_zero, List.set_cons_succ]
          refine held_take 22 (v := ?_) (d := (some 68)) rfl rfl (by kernel_rfl) (by kernel_rfl) (by kernel_rfl) (fun _ _ _ h => h) (Or.inl ⟨by rfl, ?_⟩) h13 ?_
          rotate_left
          · intro _ _; go_simp; (try with_reducible rfl)
          try simp only [Act.put, List.setIfInBounds_toArray, List.set_cons_zero, List.set_cons_succ]
          refine held_take 23 (v := ?_) (d := (some 69)) rfl rfl (by kernel_rfl) (by kernel_rfl) (by kernel_rfl) (fun _ _ _ h => h) (Or.inl ⟨by rfl, ?_⟩) h13 ?_
          rotate_left
          · intro _ _; go_simp; (try with_reducible rfl)
          try simp only [Act.put, List.setIfInBounds_toArray, List.set_cons_zero, List.set_cons_succ]
          refine held_take 24 (v := ?_) (d := (some 6)) rfl rfl (by kernel_rfl) (by kernel_rfl) (by kernel_rfl) (fun _ _ _ h => h) (Or.inl ⟨by rfl, ?_⟩) h13 ?_
          rotate_left
          · intro _ _; go_simp; (try with_reducible rfl)
          try simp only [Act.put, List.setIfInBounds_toArray, List.set_cons_zero, List.set_cons_succ]
          refine wpAnyH_done (by kernel_rfl) ?_ _
          refine NoPanic.normal ?_
          go_wp2_with fail
          go_ret
          exact ⟨rfl, HW9.out.trans (HB13.out.mono HW9.out.size)⟩
      · obtain rfl := hcase.resolve_left h64
        have hdec : decide ((64 : Int) ≤ (k : Int)) = false := decide_eq_false (by omega)
        have hit : (Tryd.prog.info? 25).map (·.size) = some ul.length := by rw [HT32.out]; kernel_rfl
        have HS : Hid (∀ W, Below w9.heap.size w9 W → W.rangeAt w4.heap.size 0 ul ∧ W.rangeAt w8.heap.size 0 ul ∧ Hid (Below w9.heap.size w9 W)) := fun W h =>
          ⟨fun j v hj => (h.cell (show w4.heap.size < w9.heap.size by omega)).trans ((Blk.cell GT.out _).trans (by simpa using hj)), fun j v hj => (h.cell (show w8.heap.size < w9.heap.size by omega)).trans ((Blk.cell GU.out _).trans (by simpa using hj)), h⟩
        clear hcase GT GU GK
        refine wp_region_noPanic ?_
        refine wp_region_held_drew (S := fun w' => w'.rangeAt w4.heap.size 0 ul ∧ w'.rangeAt w8.heap.size 0 ul ∧ Hid (Below w9.heap.size w9 w')) (by kernel_rfl) (HS.out _ HB0.out) (fun h9 => ?_)
        refine held_take 0 (v := .agg (List.toArray ul)) (d := (some 46)) rfl rfl (by kernel_rfl) (by kernel_rfl) (by kernel_rfl) (fun _ _ _ h => h) (yieldsIf_load_mid (by rfl) _ _ rfl w4.heap.size 0 rfl ul _ (fun _ h => h.1) hu25 rfl hit) h9 ?_
        try simp only [Act.put, List.setIfInBounds_toArray, List.set_cons_zero, List.set_cons_succ]
        refine held_take 1 (v := ?_) (d := (some 47)) rfl rfl (by kernel_rfl) (by kernel_rfl) (by kernel_rfl) (fun _ _ _ h => h) (Or.inl ⟨by rfl, ?_⟩) h9 ?_
        rotate_left
        · intro _ _; go_simp; (try with_reducible rfl)
        try simp only [Act.put, List.setIfInBounds_toArray, List.set_cons_zero, List.set_cons_succ]
        refine held_take 2 (v := ?_) (d := (some 48)) rfl rfl (by kernel_rfl) (by kernel_rfl) (by kernel_rfl) (fun _ _ _ h => h) (Or.inl ⟨by rfl, ?_⟩) h9 ?_
        rotate_left
        · intro _ _; go_simp; (try with_reducible rfl)
        try simp only [Act.put, List.setIfInBounds_toArray, List.set_cons_zero, List.set_cons_succ]
        refine wpAnyH_ready (rs := [3]) (by kernel_rfl) (by simp) (AllReadyH.cons rfl (fun K hK => ?_) AllReadyH.nil)
        go_simp
        have hq := refmac_any (some ⟨w1.heap.size, 0, none⟩) k k l B m d bs w9.drew HRK.out (Nat.le_refl _) HM.out (by omega) (HRB.out _ HB0.out) (by omega)
        rw [← HTL.out] at hq
        with_reducible refine hq.mono ?_
        clear hq
        rintro e w10 ⟨rfl, hb10⟩
        have HB10 : Hid (Below w9.heap.size w9 w10) := HB0.out.trans (hb10.mono HB0.out.size)
        clear hb10
        refine hK.out _ _ (HS.out _ HB10.out) (fun h10 => ?_)
        clear hK K
        try simp only [Act.put, List.setIfInBounds_toArray, List.set_cons_zero, List.set_cons_succ]
        refine held_take 4 (v := ?_) (d := (some 50)) rfl rfl (by kernel_rfl) (by kernel_rfl) (by kernel_rfl) (fun _ _ _ h => h) (Or.inl ⟨by rfl, ?_⟩) h10 ?_
        rotate_left
        · intro _ _; go_simp; (try with_reducible rfl)
        try simp only [Act.put, List.setIfInBounds_toArray, List.set_cons_zero, List.set_cons_succ]
        refine held_take 5 (v := ?_) (d := (some 51)) rfl rfl (by kernel_rfl) (by kernel_rfl) (by kernel_rfl) (fun _ _ _ h => h) (Or.inl ⟨by rfl, ?_⟩) h10 ?_
        rotate_left
        · intro _ _; go_simp; (try with_reducible rfl)
        try simp only [Act.put, List.setIfInBounds_toArray, List.set_cons_zero, List.set_cons_succ]
        refine held_take 6 (v := .agg (List.toArray ul)) (d := (some 52)) rfl rfl (by kernel_rfl) (by kernel_rfl) (by kernel_rfl) (fun _ _ _ h => h) (yieldsIf_load_mid (by rfl) _ _ rfl w8.heap.size 0 rfl ul _ (fun _ h => h.2.1) hu25 rfl hit) h10 ?_
        try simp only [Act.put, List.setIfInBounds_toArray, List.set_cons_zero, List.set_cons_succ]
        refine held_take 7 (v := ?_) (d := (some 53)) rfl rfl (by kernel_rfl) (by kernel_rfl) (by kernel_rfl) (fun _ _ _ h => h) (Or.inl ⟨by rfl, ?_⟩) h10 ?_
        rotate_left
        · intro _ _; go_simp; (try with_reducible rfl)
        try simp only [Act.put, List.setIfInBounds_toArray, List.set_cons_zero, List.set_cons_succ]
        refine held_take 11 (v := ?_) (d := (some 57)) rfl rfl (by kernel_rfl) (by kernel_rfl) (by kernel_rfl) (fun _ _ _ h => h) (Or.inl ⟨by rfl, ?_⟩) h10 ?_
        rotate_left
        · intro _ _; go_simp; (try with_reducible rfl)
        try simp only [Act.put, List.setIfInBounds_toArray, List.set_cons_zero, List.set_cons_succ]
        refine wpAnyH_ready (rs := [8, 9]) (by kernel_rfl) (by simp) (AllReadyH.cons rfl (fun K hK => ?_) (AllReadyH.cons rfl (fun K hK => ?_) AllReadyH.nil))
        · refine want_append_own (d := some 54) (by rfl) (.const (.slice none 0 0)) (.tmp 53) 22 rfl rfl w9.heap.size 5 (.int .u8 0) 1 Tryd.underlying22 u8_info' rfl (.slice none 0 0) 0 [] rfl (World.ownsRow_nil _ _ _ _) ⟨w1.heap.size, 0, none⟩ k k (bvs l) rfl HLL.out (HKN.out w10 HB10.out) (bvs_one _) E2.out E3.out HB10.out.size ?_
          intro v11 w11 ho11 hg11
          have HO11 : Hid (w11.ownsRow w9.heap.size 5 1 v11 k (bvs l)) := by have := ho11.out; rw [Nat.zero_add, List.nil_append] at this; exact this
          have HB11 : Hid (Below w9.heap.size w9 w11) := own_below (World.ownsRow_nil w10 w9.heap.size 5 1) (HB10.out) (Nat.le_refl _) (HB10.out).size hg11.out
          clear ho11 hg11
          refine hK.out _ _ (HS.out _ HB11.out) (fun h11 => ?_)
          clear hK K
          try simp only [Act.put, List.setIfInBounds_toArray, List.set_cons_zero, List.set_cons_succ]
          refine wpAnyH_ready (rs := [9]) (by kernel_rfl) (by simp) (AllReadyH.cons rfl (fun K hK => ?_) AllReadyH.nil)
          go_simp
          refine hK.out _ _ (HS.out _ (HB11.out.alloc HB11.out.size _)) (fun h11a => ?_)
          clear hK K
          try simp only [Act.put, List.setIfInBounds_toArray, List.set_cons_zero, List.set_cons_succ]
          refine wpAnyH_ready (rs := [10]) (by kernel_rfl) (by simp) (AllReadyH.cons rfl (fun K hK => ?_) AllReadyH.nil)
          refine want_append_own (d := some 56) (by rfl) (.tmp 54) (.tmp 55) 22 rfl rfl w9.heap.size 5 (.int .u8 0) 1 Tryd.underlying22 u8_info' rfl v11 k (bvs l) rfl (HO11.out.alloc _) ⟨w11.heap.size, 0, none⟩ 1 1 [.int .u8 0] rfl rfl (row_news (Row.fresh w11 5 (0, 0) #[.int .u8 0])) O2.out E4.out E5.out (HB11.out.alloc HB11.out.size _).size ?_
          intro v12 w12 ho12 hg12
          obtain ⟨A12, c12, rfl, hc12, hm12⟩ := own_form ho12.out
          have HR12 : Hid (Row w12 w12.heap.size A12 (k + 1) (bvs (l ++ [0]))) := by have := Row.own ho12.out; rw [show [Value.int .u8 0] = bvs [0] from rfl, bvs_append] at this; exact this
          have HM12 : Hid (c12 ≤ maxLen) := hm12
          have HB12 : Hid (Below w9.heap.size w9 w12) := own_below (HO11.out.alloc _) (HB11.out.alloc HB11.out.size _) (Nat.le_refl _) (HB11.out.alloc HB11.out.size _).size hg12.out
          clear ho12 hg12 hm12
          refine hK.out _ _ (HS.out _ HB12.out) (fun h12 => ?_)
          clear hK K
          try simp only [Act.put, List.setIfInBounds_toArray, List.set_cons_zero, List.set_cons_succ]
          refine wpAnyH_ready (rs := [12]) (by kernel_rfl) (by simp) (AllReadyH.cons rfl (fun K hK => ?_) AllReadyH.nil)
          go_simp
          have hq := refmac_any A12 (k + 1) c12 (l ++ [0]) B m d bs w12 HR12.out hc12 HM12.out (by omega) (HRB.out _ HB12.out) (by omega)
          rw [← HUL.out] at hq
          with_reducible refine hq.mono ?_
          clear hq
          rintro e w13 ⟨rfl, hb13⟩
          have HB13 : Hid (Below w9.heap.size w9 w13) := HB12.out.trans (hb13.mono HB12.out.size)
          clear hb13
          refine hK.out _ _ (HS.out _ HB13.out) (fun h13 => ?_)
          clear hK K
          try simp only [Act.put, List.setIfInBounds_toArray, List.set_cons_zero, List.set_cons_succ]
          refine held_take 13 (v := ?_) (d := (some 59)) rfl rfl (by kernel_rfl) (by kernel_rfl) (by kernel_rfl) (fun _ _ _ h => h) (Or.inl ⟨by rfl, ?_⟩) h13 ?_
          rotate_left
          · intro _ _; go_simp; (try with_reducible rfl)
          try simp only [Act.put, List.setIfInBounds_toArray, List.set_cons_zero, List.set_cons_succ]
          refine held_take 14 (v := ?_) (d := (some 60)) rfl rfl (by kernel_rfl) (by kernel_rfl) (by kernel_rfl) (fun _ _ _ h => h) (Or.inl ⟨by rfl, ?_⟩) h13 ?_
          rotate_left
          · intro _ _; go_simp; (try with_reducible rfl)
          try simp only [Act.put, List.setIfInBounds_toArray, List.set_cons_zero, List.set_cons_succ]
          refine held_take 15 (v := ?_) (d := (some 61)) rfl rfl (by kernel_rfl) (by kernel_rfl) (by kernel_rfl) (fun _ _ _ h => h) (Or.inl ⟨by rfl, ?_⟩) h13 ?_
          rotate_left
          · intro _ _; go_simp; (try with_reducible rfl)
          try simp only [Act.put, List.setIfInBounds_toArray, List.set_cons_zero, List.set_cons_succ]
          refine held_take 16 (v := ?_) (d := (some 62)) rfl rfl (by kernel_rfl) (by kernel_rfl) (by kernel_rfl) (fun _ _ _ h => h) (Or.inl ⟨by rfl, ?_⟩) h13 ?_
          rotate_left
          · intro _ _; go_simp; (try with_reducible rfl)
          try simp only [Act.put, List.setIfInBounds_toArray, List.set_cons_zero, List.set_cons_succ]
          refine held_take 17 (v := ?_) (d := (some 63)) rfl rfl (by kernel_rfl) (by kernel_rfl) (by kernel_rfl) (fun _ _ _ h => h) (Or.inl ⟨by rfl, ?_⟩) h13 ?_
          rotate_left
          · intro _ _; go_simp; (try with_reducible rfl)
          try simp only [Act.put, List.setIfInBounds_toArray, List.set_cons_zero, List.set_cons_succ]
          refine held_take 18 (v := ?_) (d := (some 64)) rfl rfl (by kernel_rfl) (by kernel_rfl) (by kernel_rfl) (fun _ _ _ h => h) (Or.inl ⟨by rfl, ?_⟩) h13 ?_
          rotate_left
          · intro _ _; go_simp; (try with_reducible rfl)
          try simp only [Act.put, List.setIfInBounds_toArray, List.set_cons_zero, List.set_cons_succ]
          refine held_take 19 (v := .agg (List.toArray ul)) (d := (some 65)) rfl rfl (by kernel_rfl) (by kernel_rfl) (by kernel_rfl) (fun _ _ _ h => h) (yieldsIf_load_mid (by rfl) _ _ rfl w8.heap.size 0 rfl ul _ (fun _ h => h.2.1) hu25 rfl hit) h13 ?_
          try simp only [Act.put, List.setIfInBounds_toArray, List.set_cons_zero, List.set_cons_succ]
          refine held_take 20 (v := .agg (List.toArray ul)) (d := (some 66)) rfl rfl (by kernel_rfl) (by kernel_rfl) (by kernel_rfl) (fun _ _ _ h => h) (yieldsIf_load_mid (by rfl) _ _ rfl w4.heap.size 0 rfl ul _ (fun _ h => h.1) hu25 rfl hit) h13 ?_
          try simp only [Act.put, List.setIfInBounds_toArray, List.set_cons_zero, List.set_cons_succ]
          refine held_take 21 (v := ?_) (d := (some 67)) rfl rfl (by kernel_rfl) (by kernel_rfl) (by kernel_rfl) (fun _ _ _ h => h) (Or.inl ⟨by rfl, ?_⟩) h13 ?_
          rotate_left
          · intro _ _; go_simp; (try with_reducible rfl)
          try simp only [Act.put, List.setIfInBounds_toArray, List.set_cons_zero, List.set_cons_succ]
          refine held_take 22 (v := ?_) (d := (some 68)) rfl rfl (by kernel_rfl) (by kernel_rfl) (by kernel_rfl) (fun _ _ _ h => h) (Or.inl ⟨by rfl, ?_⟩) h13 ?_
          rotate_left
          · intro _ _; go_simp; (try with_reducible rfl)
          try simp only [Act.put, List.setIfInBounds_toArray, List.set_cons_zero, List.set_cons_succ]
          refine held_take 23 (v := ?_) (d := (some 69)) rfl rfl (by kernel_rfl) (by kernel_rfl) (by kernel_rfl) (fun _ _ _ h => h) (Or.inl ⟨by rfl, ?_⟩) h13 ?_
          rotate_left
          · intro _ _; go_simp; (try with_reducible rfl)
          try simp only [Act.put, List.setIfInBounds_toArray, List.set_cons_zero, List.set_cons_succ]
          refine held_take 24 (v := ?_) (d := (some 6)) rfl rfl (by kernel_rfl) (by kernel_rfl) (by kernel_rfl) (fun _ _ _ h => h) (Or.inl ⟨by rfl, ?_⟩) h13 ?_
          rotate_left
          · intro _ _; go_simp; (try with_reducible rfl)
          try simp only [Act.put, List.setIfInBounds_toArray, List.set_cons_zero, List.set_cons_succ]
          refine wpAnyH_done (by kernel_rfl) ?_ _
          refine NoPanic.normal ?_
          go_wp2_with fail
          go_ret
          exact ⟨rfl, HW9.out.trans (HB13.out.mono HW9.out.size)⟩
        · go_simp
          refine hK.out _ _ (HS.out _ (HB10.out.alloc HB10.out.size _)) (fun h10a => ?_)
          clear hK K
          try simp only [Act.put, List.setIfInBounds_toArray, List.set_cons_zero, List.set_cons_succ]
          refine wpAnyH_ready (rs := [8]) (by kernel_rfl) (by simp) (AllReadyH.cons rfl (fun K hK => ?_) AllReadyH.nil)
          refine want_append_own (d := some 54) (by rfl) (.const (.slice none 0 0)) (.tmp 53) 22 rfl rfl w9.heap.size 5 (.int .u8 0) 1 Tryd.underlying22 u8_info' rfl (.slice none 0 0) 0 [] rfl (World.ownsRow_nil _ _ _ _) ⟨w1.heap.size, 0, none⟩ k k (bvs l) rfl HLL.out (HKN.out (w10.alloc (.cells #[.int .u8 0] 5)) (HB10.out.alloc HB10.out.size _)) (bvs_one _) E2.out E3.out (HB10.out.alloc HB10.out.size _).size ?_
          intro v11 w11 ho11 hg11
          have HO11 : Hid (w11.ownsRow w9.heap.size 5 1 v11 k (bvs l)) := by have := ho11.out; rw [Nat.zero_add, List.nil_append] at this; exact this
          have HB11 : Hid (Below w9.heap.size w9 w11) := own_below (World.ownsRow_nil (w10.alloc (.cells #[.int .u8 0] 5)) w9.heap.size 5 1) (HB10.out.alloc HB10.out.size _) (Nat.le_refl _) (HB10.out.alloc HB10.out.size _).size hg11.out
          have HZ11 : Hid (∀ j u, [Value.int .u8 0][j]? = some u → w11.cell? ((⟨w10.heap.size, 0, none⟩ : Addr).add j) = some u) := row_news ((Row.fresh w10 5 (0, 0) #[.int .u8 0]).below (own_below (World.ownsRow_nil (w10.alloc (.cells #[.int .u8 0] 5)) (w10.heap.size + 1) 5 1) (Below.refl _ _) (Nat.le_refl _) (by simp) hg11.out))
          clear ho11 hg11
          refine hK.out _ _ (HS.out _ HB11.out) (fun h11 => ?_)
          clear hK K
          try simp only [Act.put, List.setIfInBounds_toArray, List.set_cons_zero, List.set_cons_succ]
          refine wpAnyH_ready (rs := [10]) (by kernel_rfl) (by simp) (AllReadyH.cons rfl (fun K hK => ?_) AllReadyH.nil)
          refine want_append_own (d := some 56) (by rfl) (.tmp 54) (.tmp 55) 22 rfl rfl w9.heap.size 5 (.int .u8 0) 1 Tryd.underlying22 u8_info' rfl v11 k (bvs l) rfl HO11.out ⟨w10.heap.size, 0, none⟩ 1 1 [.int .u8 0] rfl rfl HZ11.out O2.out E4.out E5.out (HB11.out).size ?_
          intro v12 w12 ho12 hg12
          obtain ⟨A12, c12, rfl, hc12, hm12⟩ := own_form ho12.out
          have HR12 : Hid (Row w12 w12.heap.size A12 (k + 1) (bvs (l ++ [0]))) := by have := Row.own ho12.out; rw [show [Value.int .u8 0] = bvs [0] from rfl, bvs_append] at this; exact this
          have HM12 : Hid (c12 ≤ maxLen) := hm12
          have HB12 : Hid (Below w9.heap.size w9 w12) := own_below HO11.out (HB11.out) (Nat.le_refl _) (HB11.out).size hg12.out
          clear ho12 hg12 hm12
          refine hK.out _ _ (HS.out _ HB12.out) (fun h12 => ?_)
          clear hK K
          try simp only [Act.put, List.setIfInBounds_toArray, List.set_cons_zero, List.set_cons_succ]
          refine wpAnyH_ready (rs := [12]) (by kernel_rfl) (by simp) (AllReadyH.cons rfl (fun K hK => ?_) AllReadyH.nil)
          go_simp
          have hq := refmac_any A12 (k + 1) c12 (l ++ [0]) B m d bs w12 HR12.out hc12 HM12.out (by omega) (HRB.out _ HB12.out) (by omega)
          rw [← HUL.out] at hq
          with_reducible refine hq.mono ?_
          clear hq
          rintro e w13 ⟨rfl, hb13⟩
          have HB13 : Hid (Below w9.heap.size w9 w13) := HB12.out.trans (hb13.mono HB12.out.size)
          clear hb13
          refine hK.out _ _ (HS.out _ HB13.out) (fun h13 => ?_)
          clear hK K
          try simp only [Act.put, List.setIfInBounds_toArray, List.set_cons_zero, List.set_cons_succ]
          refine held_take 13 (v := ?_) (d := (some 59)) rfl rfl (by kernel_rfl) (by kernel_rfl) (by kernel_rfl) (fun _ _ _ h => h) (Or.inl ⟨by rfl, ?_⟩) h13 ?_
          rotate_left
          · intro _ _; go_simp; (try with_reducible rfl)
          try simp only [Act.put, List.setIfInBounds_toArray, List.set_cons_zero, List.set_cons_succ]
          refine held_take 14 (v := ?_) (d := (some 60)) rfl rfl (by kernel_rfl) (by kernel_rfl) (by kernel_rfl) (fun _ _ _ h => h) (Or.inl ⟨by rfl, ?_⟩) h13 ?_
          rotate_left
          · intro _ _; go_simp; (try with_reducible rfl)
          try simp only [Act.put, List.setIfInBounds_toArray, List.set_cons_zero, List.set_cons_succ]
          refine held_take 15 (v := ?_) (d := (some 61)) rfl rfl (by kernel_rfl) (by kernel_rfl) (by kernel_rfl) (fun _ _ _ h => h) (Or.inl ⟨by rfl, ?_⟩) h13 ?_
          rotate_left
          · intro _ _; go_simp; (try with_reducible rfl)
          try simp only [Act.put, List.setIfInBounds_toArray, List.set_cons_zero, List.set_cons_succ]
          refine held_take 16 (v := ?_) (d := (some 62)) rfl rfl (by kernel_rfl) (by kernel_rfl) (by kernel_rfl) (fun _ _ _ h => h) (Or.inl ⟨by rfl, ?_⟩) h13 ?_
          rotate_left
          · intro _ _; go_simp; (try with_reducible rfl)
          try simp only [Act.put, List.setIfInBounds_toArray, List.set_cons_zero, List.set_cons_succ]
          refine held_take 17 (v := ?_) (d := (some 63)) rfl rfl (by kernel_rfl) (by kernel_rfl) (by kernel_rfl) (fun _ _ _ h => h) (Or.inl ⟨by rfl, ?_⟩) h13 ?_
          rotate_left
          · intro _ _; go_simp; (try with_reducible rfl)
          try simp only [Act.put, List.setIfInBounds_toArray, List.set_cons_zero, List.set_cons_succ]
          refine held_take 18 (v := ?_) (d := (some 64)) rfl rfl (by kernel_rfl) (by kernel_rfl) (by kernel_rfl) (fun _ _ _ h => h) (Or.inl ⟨by rfl, ?_⟩) h13 ?_
          rotate_left
          · intro _ _; go_simp; (try with_reducible rfl)
          try simp only [Act.put, List.setIfInBounds_toArray, List.set_cons_zero, List.set_cons_succ]
          refine held_take 19 (v := .agg (List.toArray ul)) (d := (some 65)) rfl rfl (by kernel_rfl) (by kernel_rfl) (by kernel_rfl) (fun _ _ _ h => h) (yieldsIf_load_mid (by rfl) _ _ rfl w8.heap.size 0 rfl ul _ (fun _ h => h.2.1) hu25 rfl hit) h13 ?_
          try simp only [Act.put, List.setIfInBounds_toArray, List.set_cons_zero, List.set_cons_succ]
          refine held_take 20 (v := .agg (List.toArray ul)) (d := (some 66)) rfl rfl (by kernel_rfl) (by kernel_rfl) (by kernel_rfl) (fun _ _ _ h => h) (yieldsIf_load_mid (by rfl) _ _ rfl w4.heap.size 0 rfl ul _ (fun _ h => h.1) hu25 rfl hit) h13 ?_
          try simp only [Act.put, List.setIfInBounds_toArray, List.set_cons_zero, List.set_cons_succ]
          refine held_take 21 (v := ?_) (d := (some 67)) rfl rfl (by kernel_rfl) (by kernel_rfl) (by kernel_rfl) (fun _ _ _ h => h) (Or.inl ⟨by rfl, ?_⟩) h13 ?_
          rotate_left
          · intro _ _; go_simp; (try with_reducible rfl)
          try simp only [Act.put, List.setIfInBounds_toArray, List.set_cons_zero, List.set_cons_succ]
          refine held_take 22 (v := ?_) (d := (some 68)) rfl rfl (by kernel_rfl) (by kernel_rfl) (by kernel_rfl) (fun _ _ _ h => h) (Or.inl ⟨by rfl, ?_⟩) h13 ?_
          rotate_left
          · intro _ _; go_simp; (try with_reducible rfl)
          try simp only [Act.put, List.setIfInBounds_toArray, List.set_cons_zero, List.set_cons_succ]
          refine held_take 23 (v := ?_) (d := (some 69)) rfl rfl (by kernel_rfl) (by kernel_rfl) (by kernel_rfl) (fun _ _ _ h => h) (Or.inl ⟨by rfl, ?_⟩) h13 ?_
          rotate_left
          · intro _ _; go_simp; (try with_reducible rfl)
          try simp only [Act.put, List.setIfInBounds_toArray, List.set_cons_zero, List.set_cons_succ]
          refine held_take 24 (v := ?_) (d := (some 6)) rfl rfl (by kernel_rfl) (by kernel_rfl) (by kernel_rfl) (fun _ _ _ h => h) (Or.inl ⟨by rfl, ?_⟩) h13 ?_
          rotate_left
          · intro _ _; go_simp; (try with_reducible rfl)
          try simp only [Act.put, List.setIfInBounds_toArray, List.set_cons_zero, List.set_cons_succ]
          refine wpAnyH_done (by kernel_rfl) ?_ _
          refine NoPanic.normal ?_
          go_wp2_with fail
          go_ret
          exact ⟨rfl, HW9.out.trans (HB13.out.mono HW9.out.size)⟩
end Go.Proofs.YtllbdeniigakkaaDoor.Sha
