/-
  Proved: what Check of package mac returns: whether the tag is just that.
  Conditions: the slices read as bytes; the tables sha.start and sha.rounds hold their words.
-/
import Derived.Test.YtllbdeniigakkaaDoorMacSum
namespace Go.Proofs.YtllbdeniigakkaaDoor.Sha
open Go.RowKit

theorem or_xor_zero (d x y : UInt8) : d ||| (x ^^^ y) = 0 ↔ d = 0 ∧ x = y := by
  rw [UInt8.or_eq_zero_iff, UInt8.xor_eq_zero_iff]
theorem u8_or_bv (x y : UInt8) : bits .or .u8 (x.toNat : Int) (y.toNat : Int) = ((x ||| y).toNat : Int) := by rw [u8_or_nat _ _ x.toNat_lt y.toNat_lt, UInt8.toNat_or]

set_option maxHeartbeats 1000000 in
theorem maccheck_any (A : Option Addr) (n c : Nat) (ks : List UInt8) (B : Option Addr) (m d : Nat) (bs : List UInt8) (C : Option Addr) (k f : Nat) (ts : List UInt8) (w : World) (hT : Tables w)
    (hA : Row w w.heap.size A n (bvs ks)) (hn : n ≤ c) (hc : c ≤ maxLen) (hl : n < 288230376151711744) (hB : Row w w.heap.size B m (bvs bs)) (hm : m ≤ d) (hd : d ≤ maxLen) (hk : m < 288230376151711744)
    (hC : Row w w.heap.size C k (bvs ts)) (hkf : k ≤ f) (hf : f ≤ maxLen) :
    Calls Tryd.prog 10 #[.slice A n c, .slice B m d, .slice C k f] w fun e w' => e = .returned (.bool (decide (ts = hmac ks bs))) ∧ Below w.heap.size w w' := by
  have hzero' := zero_sum
  obtain ⟨tag, htag⟩ : ∃ tag, tag = hmac ks bs := ⟨_, rfl⟩
  obtain ⟨res, hres⟩ : ∃ res, res = (bvs tag).toArray := ⟨_, rfl⟩
  have htl : tag.length = 32 := by rw [htag, hmac_length]
  have hr32 : res.size = 32 := by rw [hres, bvs_toArray_size, htl]
  have hr1 : res.all (·.oneCell') = true := by rw [hres]; exact bvs_all' _
  have hsum := macsum_any A n c ks B m d bs w hT hA hn hc hl hB hm hd hk
  rw [← htag, ← hres] at hsum
  rw [← htag]
  have HSUM := Lib.hid hsum
  have HRES := Lib.hid hres
  have HTL := Lib.hid htl
  have HR32 := Lib.hid hr32
  have HR1 := Lib.hid hr1
  have HC := Lib.hid hC
  have HF := Lib.hid hf
  have hkl : k ≤ 9223372036854775807 := by unfold maxLen at hf; omega
  clear hT hA hc hl hB hm hd hk hC htag hres htl hr32 hr1 hsum hn hf
  have hixs : ∀ (k : Nat), k < 32 → ∀ w : World, (Instr.index 25 (.agg res) (.int .i64 (k : Int))).run Tryd.prog w = .ok (.int .u8 ((tag.getD k 0).toNat : Int)) w := fun k hk w =>
    run_index_agg Tryd.underlying25 Tryd.underlying5 (by kernel_rfl) res k _ hk (by rw [HRES.out, List.getElem?_toArray, bvs, List.getElem?_map, List.getD_eq_getElem?_getD, List.getElem?_eq_getElem (by rw [HTL.out]; exact hk)]; rfl) .i64 w
  have HIX := Lib.hid hixs
  clear hixs
  by_cases h32 : k = 32
  · subst h32
    go_enter Tryd.func10, Tryd.ntmps10
    go_wp2_with fail
    refine HSUM.out.mono ?_
    rintro e w1 ⟨rfl, hb1⟩
    have HB1 := Lib.hid hb1
    clear hb1
    go_wp2_with (first
      | (refine wpList_store_blk rfl 25 (.tmp 7) (.tmp 13) rfl w1.heap.size res rfl rfl 25 zeroSum (heap_alloc_new _ _) (by rw [HR32.out]; kernel_rfl) (by rw [HR32.out]; rfl) HR1.out ?_
         intro w2 G1 G2)
      | (refine wpList_load_row rfl 25 (.tmp 7) rfl w1.heap.size rfl 25 res (0, 0) _ G1.out Tryd.underlying25 rfl (by rw [HR32.out]; kernel_rfl) ?_))
    have HB2 : Hid (Below w.heap.size w w2) := below_only (HB1.out.alloc HB1.out.size _) (only_hid G2) HB1.out.size (Nat.le_trans HB1.out.size (by simp))
    obtain ⟨b, o, rfl, hbl, hcell⟩ := (HC.out.below HB2.out).byte (by omega)
    have HCELL := Lib.hid hcell
    have HTSL := Lib.hid HC.out.size
    clear hcell G1 G2 HB1 HC HSUM
    go_loopw [8, 18] (fun v i wr => ∃ (j : Nat) (x : UInt8), j ≤ 32 ∧ v = .int .u8 (x.toNat : Int) ∧ i = .int .i64 j ∧ wr = w2 ∧ Hid (x = 0 ↔ ∀ q, q < j → tag.getD q 0 = ts.getD q 0)) (fun _ i _ => 32 - (intOf i).toNat)
    case atStart => exact ⟨0, 0, by omega, rfl, rfl, rfl, ⟨fun _ q hq => absurd hq (by omega), fun _ => rfl⟩⟩
    case round =>
      obtain ⟨j, x, hj, rfl, rfl, rfl, HI⟩ := hrel
      by_cases hlt : j < 32
      · obtain ⟨y, hy⟩ : ∃ y, y = tag.getD j 0 := ⟨_, rfl⟩
        obtain ⟨z, hz⟩ : ∃ z, z = ts.getD j 0 := ⟨_, rfl⟩
        have hix := HIX.out j hlt
        have hcj := HCELL.out j hlt
        rw [← hy] at hix
        rw [← hz] at hcj
        have HY := Lib.hid hy
        have HZ := Lib.hid hz
        have GX := Lib.hid (u8_xor_bv y z)
        have GO := Lib.hid (u8_or_bv x (y ^^^ z))
        have hyl := y.toNat_lt
        have hzl := z.toNat_lt
        have hxl := x.toNat_lt
        clear hy hz
        go_wp2_with fail
        go_roundw
        case rel =>
          refine ⟨j + 1, x ||| (y ^^^ z), by omega, by rw [← GO.out, ← GX.out], by go_num, by first | rfl | trivial, ?_⟩
          show _ ↔ _
          rw [or_xor_zero, HI.out]
          constructor
          · rintro ⟨h1, h2⟩ q hq
            by_cases hqj : q = j
            · subst hqj; rw [← HY.out, ← HZ.out]; exact h2
            · exact h1 q (by omega)
          · intro h1
            exact ⟨fun q hq => h1 q (by omega), by rw [HY.out, HZ.out]; exact h1 j (by omega)⟩
        case measure => simp [intOf]; omega
      · obtain rfl : j = 32 := by omega
        go_wp2_with fail
        have hw2 := HB2.out
        have he : (((x.toNat : Int) == 0) : Bool) = decide (ts = tag) := by
          rw [Bool.eq_iff_iff, beq_iff_eq, decide_eq_true_eq, show ((x.toNat : Int) = 0 ↔ x = 0) from ⟨fun h => UInt8.toNat_inj.1 (by rw [UInt8.toNat_zero]; omega), fun h => by rw [h]; rfl⟩, HI.out]
          constructor
          · intro h
            exact (list_getD_ext (by rw [HTL.out, HTSL.out]) fun q hq => h q (by rw [HTL.out] at hq; exact hq)).symm
          · rintro rfl q _
            rfl
        go_ret
        exact ⟨by rw [he]; rfl, hw2⟩
  · go_enter Tryd.func10, Tryd.ntmps10
    go_wp2_with fail
    refine HSUM.out.mono ?_
    rintro e w1 ⟨rfl, hb1⟩
    have HB1 := Lib.hid hb1
    clear hb1
    go_wp2_with (refine wpList_store_blk rfl 25 (.tmp 7) (.tmp 13) rfl w1.heap.size res rfl rfl 25 zeroSum (heap_alloc_new _ _) (by rw [HR32.out]; kernel_rfl) (by rw [HR32.out]; rfl) HR1.out ?_; intro w2 G1 G2)
    have he : decide (ts = tag) = false := by
      rw [decide_eq_false_iff_not]
      rintro rfl
      exact h32 (by rw [← HC.out.size, HTL.out])
    go_ret
    exact ⟨by rw [he]; rfl, below_only (HB1.out.alloc HB1.out.size _) (only_hid G2) HB1.out.size (Nat.le_trans HB1.out.size (by simp))⟩
end Go.Proofs.YtllbdeniigakkaaDoor.Sha
