/-
  Proved: what blockOf, digest, Sum and Check of package mac return.
  Conditions: the slices read as bytes; the tables sha.start and sha.rounds hold their words.
-/
import Derived.Test.YtllbdeniigakkaaDoorMacLeaf
import Derived.Test.YtllbdeniigakkaaDoorRefDigest
namespace Go.Proofs.YtllbdeniigakkaaDoor.Sha
open Go.RowKit

theorem keyBlock_long (k : List UInt8) (h : 64 < k.length) : splice (bvs (List.replicate 64 0)) 0 (bvs (digest k)) = bvs (keyBlock k) := by
  rw [bvs_splice, keyBlock, keyOf, if_pos h, digest_length]
  rfl
theorem keyBlock_short (k : List UInt8) (h : k.length ≤ 64) : splice (bvs (List.replicate 64 0)) 0 (bvs k) = bvs (keyBlock k) := by
  rw [bvs_splice, keyBlock, keyOf, if_neg (by omega), List.drop_replicate]

set_option maxHeartbeats 1000000 in
theorem blockOf_any (A : Option Addr) (n c : Nat) (bs : List UInt8) (w : World) (hT : Tables w) (hR : Row w w.heap.size A n (bvs bs)) (hn : n ≤ c) (hc : c ≤ maxLen) (hl : n < 576460752303423488) :
    Calls Tryd.prog 12 #[.slice A n c] w fun e w' => e = .returned (.agg (bvs (keyBlock bs)).toArray) ∧ Below w.heap.size w w' := by
  have hzero := zero_block
  have hzero' := zero_sum
  have hlen := hR.size
  obtain ⟨res, hres⟩ : ∃ res, res = (bvs (keyBlock bs)).toArray := ⟨_, rfl⟩
  have hr64 : res.size = 64 := by rw [hres, bvs_toArray_size, keyBlock_length]
  have hr1 : res.all (·.oneCell') = true := by rw [hres]; exact bvs_all' _
  rw [← hres]
  have HRES := Lib.hid hres
  have HR64 := Lib.hid hr64
  have HR1 := Lib.hid hr1
  have HT := Lib.hid hT
  have HR := Lib.hid hR
  have HC := Lib.hid hc
  have HN := Lib.hid (two_news w zeroBlock zeroBlock 32 32)
  have HLEN := Lib.hid hlen
  clear hT hR hc hlen hres hr64 hr1
  by_cases hlong : 64 < n
  · go_enter Tryd.func12, Tryd.ntmps12
    go_upto_if 7 with fail
    generalize (w.alloc (Obj.cells zeroBlock 32)).alloc (Obj.cells zeroBlock 32) = w1 at *
    have hz1 : w1.heap.size = w.heap.size + 2 := HN.out.2.2.2
    go_wp2_with fail
    refine (sum_any A n c bs w1 (HT.out.all HN.out.2.2.1) ((HR.out.below HN.out.2.2.1).more (by omega)) hn HC.out hl).mono ?_
    rintro e w2 ⟨rfl, hb2⟩
    have hz2 := hb2.size
    obtain ⟨dg, hdg⟩ : ∃ dg, dg = (bvs (digest bs)).toArray := ⟨_, rfl⟩
    have hd32 : dg.size = 32 := by rw [hdg, bvs_toArray_size, digest_length]
    have hd1 : dg.all (·.oneCell') = true := by rw [hdg]; exact bvs_all' _
    rw [← hdg]
    have HDG := Lib.hid hdg
    have HD32 := Lib.hid hd32
    have HD1 := Lib.hid hd1
    have M1 := Lib.hid ((hb2.block w.heap.size (by omega)).trans HN.out.1)
    have M2 := Lib.hid ((hb2.block (w.heap.size + 1) (by omega)).trans HN.out.2.1)
    have M3 := Lib.hid (HN.out.2.2.1.trans (hb2.mono (by omega)))
    clear hdg hd32 hd1 hb2
    have E1 : Hid ((bvs (digest bs)).length = Nat.min 32 64) := by
      show _ = _
      rw [bvs_length, digest_length]
      rfl
    have E3 : Hid (0 + (bvs (digest bs)).length ≤ (bvs (List.replicate 64 0)).length) := by
      show _ ≤ _
      rw [bvs_length, digest_length, bvs_length, List.length_replicate]
      omega
    have E4 : Hid (splice (bvs (List.replicate 64 0)) 0 (bvs (digest bs)) = bvs (keyBlock bs)) := keyBlock_long bs (by rw [HLEN.out]; omega)
    go_wp2_with (first
      | (refine wpList_store_blk rfl 25 (.tmp 4) (.tmp 9) rfl w2.heap.size dg rfl rfl 25 zeroSum (heap_alloc_new _ _) (by rw [HD32.out]; kernel_rfl) (by rw [HD32.out]; rfl) HD1.out ?_
         intro w3 G1 G2))
    have hz3 := (only_hid G2).size
    rw [World.size_alloc] at hz3
    have M4 : Hid (Blk w3 (w.heap.size + 1) 32 (bvs (List.replicate 64 0)).toArray) := (G2.out.block _ (by simp; omega) (by intro e; injection e; omega)).trans ((Below.heap_alloc w2 _ _ (by omega)).trans M2.out)
    have M5 : Hid (∀ j v, (bvs (digest bs))[j]? = some v → w3.drew.cell? ⟨w2.heap.size, 0 + j, none⟩ = some v) := fun j v hv => by
      have := G1.out
      rw [HDG.out] at this
      rw [Nat.zero_add]
      exact (blk_cell this j).trans hv
    have M6 : Hid (Below w.heap.size w w3) := below_only (M3.out.alloc (by omega) _) (only_hid G2) (by omega) (by simp; omega)
    have M7 : Hid (Blk w3 w.heap.size 32 zeroBlock) := (G2.out.block _ (by simp; omega) (by intro e; injection e; omega)).trans ((Below.heap_alloc w2 _ _ (by omega)).trans M1.out)
    go_region_law (first
      | (refine step_copy_blk rfl (.tmp 10) (.tmp 11) 22 22 rfl 5 Tryd.underlying22 (by kernel_rfl) (w.heap.size + 1) 0 64 64 w2.heap.size 0 32 32 rfl rfl 32 (bvs (List.replicate 64 0)) M4.out (bvs (digest bs)) E1.out M5.out E3.out (bvs_one _) ?_; intro w5 G5 G6))
    all_goals
      rw [E4.out, ← HRES.out] at G5
      have hz5 : w3.heap.size ≤ w5.heap.size := (only_hid G6).size
      go_wp2_with (first
        | (refine wpList_load_row rfl 32 (.tmp 3) rfl (w.heap.size + 1) rfl 32 res (0, 0) _ G5.out Tryd.underlying32 rfl (by rw [HR64.out]; kernel_rfl) ?_)
        | (refine wpList_store_blk rfl 32 (.tmp 2) (.tmp 13) rfl w.heap.size res rfl rfl 32 zeroBlock ((G6.out.block w.heap.size (by show w.heap.size < w3.heap.size; omega) (by intro e; injection e; omega)).trans M7.out) (by rw [HR64.out]; kernel_rfl) (by rw [HR64.out]; rfl) HR1.out ?_
           intro w6 G7 G8))
      refine bodyPost_ret (v := .agg res) (results_cell_row rfl _ _ w.heap.size 32 _ (0, 0) _ rfl G7.out Tryd.underlying32 rfl (by rw [HR64.out]; kernel_rfl)) rfl ?_
      exact ⟨rfl, below_only (below_only (below_drewN M6.out 1) (only_hid G6) (by omega) M6.out.size) (only_hid G8) (Nat.le_refl _) (by omega)⟩
  · go_enter Tryd.func12, Tryd.ntmps12
    go_upto_if 7 with fail
    generalize (w.alloc (Obj.cells zeroBlock 32)).alloc (Obj.cells zeroBlock 32) = w1 at *
    have hz1 : w1.heap.size = w.heap.size + 2 := HN.out.2.2.2
    have E1 : Hid ((bvs bs).length = Nat.min n 64) := by
      show _ = _
      rw [bvs_length, HLEN.out]
      exact (Nat.min_eq_left (by omega)).symm
    have E2 : Hid (0 < (bvs bs).length → ∃ b i, A = some ⟨b, i, none⟩ ∧ ∀ j v, (bvs bs)[j]? = some v → w1.cell? ⟨b, i + j, none⟩ = some v) := fun hp => by
      have hr := HR.out.below HN.out.2.2.1
      obtain ⟨b, i, e, _, q⟩ := hr.2 (by rw [← hr.1]; exact hp)
      exact ⟨b, i, e, q⟩
    have E3 : Hid (0 + (bvs bs).length ≤ (bvs (List.replicate 64 0)).length) := by
      show _ ≤ _
      rw [bvs_length, HLEN.out, bvs_length, List.length_replicate]
      omega
    have E4 : Hid (splice (bvs (List.replicate 64 0)) 0 (bvs bs) = bvs (keyBlock bs)) := keyBlock_short bs (by rw [HLEN.out]; omega)
    go_wp2_with (first
      | (refine wpList_copy_blk rfl (.tmp 14) (.tmp 15) 22 22 rfl 5 Tryd.underlying22 (by kernel_rfl) (w.heap.size + 1) 0 64 64 A n c rfl rfl 32 (bvs (List.replicate 64 0)) HN.out.2.1 (bvs bs) E1.out E2.out E3.out (bvs_one _) ?_
         intro w5 G5 G6
         rw [E4.out, ← HRES.out] at G5)
      | (refine wpList_load_row rfl 32 (.tmp 3) rfl (w.heap.size + 1) rfl 32 res (0, 0) _ G5.out Tryd.underlying32 rfl (by rw [HR64.out]; kernel_rfl) ?_)
      | (refine wpList_store_blk rfl 32 (.tmp 2) (.tmp 17) rfl w.heap.size res rfl rfl 32 zeroBlock ((G6.out.block w.heap.size (by omega) (by intro e; injection e; omega)).trans HN.out.1) (by rw [HR64.out]; kernel_rfl) (by rw [HR64.out]; rfl) HR1.out ?_
         intro w6 G7 G8))
    refine bodyPost_ret (v := .agg res) (results_cell_row rfl _ _ w.heap.size 32 _ (0, 0) _ rfl G7.out Tryd.underlying32 rfl (by rw [HR64.out]; kernel_rfl)) rfl ?_
    exact ⟨rfl, below_only (below_only HN.out.2.2.1 (only_hid G6) (by omega) (by omega)) (only_hid G8) (Nat.le_refl _) (Nat.le_trans (by omega) (only_hid G6).size)⟩

set_option maxHeartbeats 1000000 in
theorem tagdig_any (bl : List UInt8) (A : Option Addr) (n c : Nat) (bs : List UInt8) (w : World) (hT : Tables w) (h64 : bl.length = 64) (hR : Row w w.heap.size A n (bvs bs)) (hn : n ≤ c) (hc : c ≤ maxLen) (hl : n < 288230376151711744) :
    Calls Tryd.prog 13 #[.agg (bvs bl).toArray, .slice A n c] w fun e w' => e = .returned (.agg (bvs (digest (bl ++ bs))).toArray) ∧ Below w.heap.size w w' := by
  have hzero' := zero_sum
  have hlen := hR.size
  obtain ⟨blk, hblk⟩ : ∃ blk, blk = (bvs bl).toArray := ⟨_, rfl⟩
  obtain ⟨res, hres⟩ : ∃ res, res = (bvs (digest (bl ++ bs))).toArray := ⟨_, rfl⟩
  have hr32 : res.size = 32 := by rw [hres, bvs_toArray_size, digest_length]
  have hr1 : res.all (·.oneCell') = true := by rw [hres]; exact bvs_all' _
  rw [← hblk, ← hres]
  have HRES := Lib.hid hres
  have HR32 := Lib.hid hr32
  have HR1 := Lib.hid hr1
  have HBLK := Lib.hid hblk
  have HT := Lib.hid hT
  have HGT := Lib.hid hT.2.2
  have HR := Lib.hid hR
  have HC := Lib.hid hc
  have H64 := Lib.hid h64
  have HLEN := Lib.hid hlen
  have HN := Lib.hid (two_news w blk zeroSum 32 25)
  clear hT hR hc hlen hres hr32 hr1 hblk h64
  go_enter Tryd.func13, Tryd.ntmps13
  go_wp2_with fail
  generalize (w.alloc (Obj.cells blk 32)).alloc (Obj.cells zeroSum 25) = w1 at *
  have hz1 : w1.heap.size = w.heap.size + 2 := HN.out.2.2.2
  refine (new_any w1).mono ?_
  rintro e w2 ⟨rfl, hh2, hz2, hb2⟩
  rw [hz1] at hh2 hz2 hb2 ⊢
  have G1 := Lib.hid ((hb2.block w.heap.size (by omega)).trans HN.out.1)
  have G2 := Lib.hid ((hb2.block (w.heap.size + 1) (by omega)).trans HN.out.2.1)
  have G3 := Lib.hid (HN.out.2.2.1.trans (hb2.mono (by omega)))
  have G4 := Lib.hid hh2
  have hlt := HGT.out
  have hgt : 1 < w.heap.size + 2 ∧ 0 < w.heap.size + 2 := ⟨by have := HGT.out.1; omega, by have := HGT.out.2; omega⟩
  have HGT1 := Lib.hid hgt
  clear hb2 hh2 hlt hgt
  go_wp2_with fail
  have e1 : Src w2 (w.heap.size + 2) (some ⟨w.heap.size, 0, none⟩) 64 (bvs bl) := blk_src (by have := G1.out; rw [HBLK.out] at this; exact this) (by omega) H64.out
  have hw := write_any (w.heap.size + 2) [] (some ⟨w.heap.size, 0, none⟩) 64 64 bl w2 (HT.out.all G3.out) HGT1.out G4.out e1 (Nat.le_refl _) (by unfold maxLen; omega) (by rw [List.length_nil]; omega)
  with_reducible refine hw.mono ?_
  rintro e w3 ⟨rfl, hh3, hg3⟩
  rw [List.nil_append] at hh3
  have J2 := Lib.hid ((hg3.block (w.heap.size + 1) (by omega) (by intro e; injection e; omega)).trans G2.out)
  have J3 := Lib.hid (below_only G3.out hg3 (by omega) G3.out.size)
  have J4 := Lib.hid hh3
  have hz3 := hg3.size
  clear hg3 hh3 e1 hw
  go_wp2_with fail
  refine (write_any (w.heap.size + 2) bl A n c bs w3 (HT.out.all J3.out) HGT1.out J4.out ((HR.out.below J3.out).src J3.out.size (by omega)) hn HC.out (by rw [H64.out]; omega)).mono ?_
  rintro e w4 ⟨rfl, hh4, hg4⟩
  have K2 := Lib.hid ((hg4.block (w.heap.size + 1) (by omega) (by intro e; injection e; omega)).trans J2.out)
  have K3 := Lib.hid (below_only J3.out hg4 (by omega) J3.out.size)
  have K4 := Lib.hid hh4
  have hz4 := hg4.size
  clear hg4 hh4
  go_wp2_with fail
  refine (hsum_any (w.heap.size + 2) (bl ++ bs) w4 (HT.out.all K3.out) K4.out (by rw [List.length_append, H64.out, HLEN.out]; omega)).mono ?_
  rintro e w5 ⟨rfl, hb5⟩
  rw [← HRES.out]
  have L2 := Lib.hid ((hb5.block (w.heap.size + 1) (by omega)).trans K2.out)
  have L3 := Lib.hid (K3.out.trans (hb5.mono K3.out.size))
  clear hb5
  go_wp2_with (refine wpList_store_blk rfl 25 (.tmp 4) (.tmp 14) rfl (w.heap.size + 1) res rfl rfl 25 zeroSum L2.out (by rw [HR32.out]; kernel_rfl) (by rw [HR32.out]; rfl) HR1.out ?_; intro w6 G5 G6)
  refine bodyPost_ret (v := .agg res) (results_cell_row rfl _ _ (w.heap.size + 1) 25 _ (0, 0) _ rfl G5.out Tryd.underlying25 rfl (by rw [HR32.out]; kernel_rfl)) rfl ?_
  exact ⟨rfl, below_only L3.out (only_hid G6) (by omega) L3.out.size⟩
end Go.Proofs.YtllbdeniigakkaaDoor.Sha
