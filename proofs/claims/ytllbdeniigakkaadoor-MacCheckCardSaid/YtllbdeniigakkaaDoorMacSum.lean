/-
  Proved: what Sum of package mac returns: the tag.
  Conditions: the slices read as bytes; the tables sha.start and sha.rounds hold their words.
-/
import Derived.Test.YtllbdeniigakkaaDoorMacBlock
import Derived.Test.YtllbdeniigakkaaDoorDraw
namespace Go.Proofs.YtllbdeniigakkaaDoor.Sha
open Go.RowKit

set_option maxHeartbeats 1000000 in
theorem macsum_any (A : Option Addr) (n c : Nat) (ks : List UInt8) (B : Option Addr) (m d : Nat) (bs : List UInt8) (w : World) (hT : Tables w)
    (hA : Row w w.heap.size A n (bvs ks)) (hn : n ≤ c) (hc : c ≤ maxLen) (hl : n < 288230376151711744) (hB : Row w w.heap.size B m (bvs bs)) (hm : m ≤ d) (hd : d ≤ maxLen) (hk : m < 288230376151711744) :
    Calls Tryd.prog 8 #[.slice A n c, .slice B m d] w fun e w' => e = .returned (.agg (bvs (hmac ks bs)).toArray) ∧ Below w.heap.size w w' := by
  have hzero := zero_block
  have hzero' := zero_sum
  obtain ⟨res, hres⟩ : ∃ res, res = (bvs (hmac ks bs)).toArray := ⟨_, rfl⟩
  have hr32 : res.size = 32 := by rw [hres, bvs_toArray_size, hmac_length]
  have hr1 : res.all (·.oneCell') = true := by rw [hres]; exact bvs_all' _
  obtain ⟨kb, hkb⟩ : ∃ kb, kb = (bvs (keyBlock ks)).toArray := ⟨_, rfl⟩
  have hb64 : kb.size = 64 := by rw [hkb, bvs_toArray_size, keyBlock_length]
  have hb1 : kb.all (·.oneCell') = true := by rw [hkb]; exact bvs_all' _
  obtain ⟨inn, hin⟩ : ∃ inn, inn = (bvs (digest (keyPad ks 0x36 ++ bs))).toArray := ⟨_, rfl⟩
  have hi32 : inn.size = 32 := by rw [hin, bvs_toArray_size, digest_length]
  have hi1 : inn.all (·.oneCell') = true := by rw [hin]; exact bvs_all' _
  rw [← hres]
  have HRES := Lib.hid hres
  have HR32 := Lib.hid hr32
  have HR1 := Lib.hid hr1
  have HKB := Lib.hid hkb
  have HB64 := Lib.hid hb64
  have HB1 := Lib.hid hb1
  have HIN := Lib.hid hin
  have HI32 := Lib.hid hi32
  have HI1 := Lib.hid hi1
  have HT := Lib.hid hT
  have HA := Lib.hid hA
  have HC := Lib.hid hc
  have HB := Lib.hid hB
  have HD := Lib.hid hd
  obtain ⟨p1, hp1⟩ : ∃ p, p = (bvs (keyPad ks 0x36)).toArray := ⟨_, rfl⟩
  obtain ⟨p2, hp2⟩ : ∃ p, p = (bvs (keyPad ks 0x5c)).toArray := ⟨_, rfl⟩
  have MK1 := Lib.hid (fun W : World => by
    have h := masked_any (keyBlock ks) 0x36 W (keyBlock_length ks)
    rw [keyPad_block, ← hkb, ← hp1] at h
    exact h)
  have MK2 := Lib.hid (fun W : World => by
    have h := masked_any (keyBlock ks) 0x5c W (keyBlock_length ks)
    rw [keyPad_block, ← hkb, ← hp2] at h
    exact h)
  have DG1 := Lib.hid (fun (W : World) (hT : Tables W) (hR : Row W W.heap.size B m (bvs bs)) => by
    have h := tagdig_any (keyPad ks 0x36) B m d bs W hT (keyPad_length _ _) hR hm hd hk
    rw [← hp1, ← hin] at h
    exact h)
  have DG2 := Lib.hid (fun (W : World) (g : Nat) (hT : Tables W) (hR : Blk W g 25 inn) => by
    have h := tagdig_any (keyPad ks 0x5c) (some ⟨g, 0, none⟩) 32 32 (digest (keyPad ks 0x36 ++ bs)) W hT (keyPad_length _ _) (blk_row (by rw [hin] at hR; exact hR) (digest_length _)) (Nat.le_refl _) (by unfold maxLen; omega) (by omega)
    rw [← hp2, show digest (keyPad ks 92 ++ digest (keyPad ks 54 ++ bs)) = hmac ks bs from rfl, ← hres] at h
    exact h)
  clear hT hA hc hB hd hres hr32 hr1 hkb hb64 hb1 hin hi32 hi1 hp1 hp2
  go_enter Tryd.func8, Tryd.ntmps8
  go_wp2_with fail
  obtain ⟨w1, hw1⟩ : ∃ w1, w1 = w.alloc (.cells zeroSum 25) := ⟨_, rfl⟩
  have F1 : Hid (Blk w1 w.heap.size 25 zeroSum) := by rw [hw1]; exact heap_alloc_new _ _
  have F2 : Hid (Below w.heap.size w w1) := by rw [hw1]; exact (Below.refl _ _).alloc (Nat.le_refl _) _
  have hz1 : w.heap.size < w1.heap.size := by rw [hw1]; simp
  rw [← hw1]
  clear hw1
  refine (blockOf_any A n c ks w1 (HT.out.all F2.out) ((HA.out.below F2.out).more (by omega)) hn HC.out (by omega)).mono ?_
  rintro e w2 ⟨rfl, hb2⟩
  rw [← HKB.out]
  have hz2 := hb2.size
  have F3 := Lib.hid ((hb2.block w.heap.size hz1).trans F1.out)
  have F4 := Lib.hid (F2.out.trans (hb2.mono (Nat.le_of_lt hz1)))
  clear hb2
  go_wp2_with (first
    | (refine wpList_store_blk rfl 32 (.tmp 5) (.tmp 8) rfl w2.heap.size kb rfl rfl 32 zeroBlock (heap_alloc_new _ _) (by rw [HB64.out]; kernel_rfl) (by rw [HB64.out]; rfl) HB1.out ?_
       intro w3 G1 G2)
    | (refine wpList_load_row rfl 32 (.tmp 5) rfl w2.heap.size rfl 32 kb (0, 0) _ G1.out Tryd.underlying32 rfl (by rw [HB64.out]; kernel_rfl) ?_))
  have hz3 := (only_hid G2).size
  rw [World.size_alloc] at hz3
  have F5 : Hid (Below w.heap.size w w3) := below_only (F4.out.alloc (by omega) _) (only_hid G2) (by omega) (by simp; omega)
  have F6 : Hid (Blk w3 w.heap.size 25 zeroSum) := (G2.out.block _ (by simp; omega) (by intro e; injection e; omega)).trans ((Below.heap_alloc w2 _ _ (by omega)).trans F3.out)
  refine (MK1.out w3).mono ?_
  rintro e w4 ⟨rfl, hb4⟩
  have hz4 := hb4.size
  have F7 := Lib.hid (F5.out.trans (hb4.mono (by omega)))
  have F8 := Lib.hid ((hb4.block _ (by omega)).trans F6.out)
  have F9 : Hid (Blk w4 w2.heap.size 32 kb) := (hb4.block _ (by omega)).trans G1.out
  clear hb4 G1 G2
  go_wp2_with fail
  refine (DG1.out w4 (HT.out.all F7.out) ((HB.out.below F7.out).more (by omega))).mono ?_
  rintro e w5 ⟨rfl, hb5⟩
  have hz5 := hb5.size
  have F10 := Lib.hid (F7.out.trans (hb5.mono (by omega)))
  have F11 := Lib.hid ((hb5.block _ (by omega)).trans F8.out)
  have F12 : Hid (Blk w5 w2.heap.size 32 kb) := (hb5.block _ (by omega)).trans F9.out
  clear hb5
  go_wp2_with (first
    | (refine wpList_store_blk rfl 25 (.tmp 6) (.tmp 12) rfl w5.heap.size inn rfl rfl 25 zeroSum (heap_alloc_new _ _) (by rw [HI32.out]; kernel_rfl) (by rw [HI32.out]; rfl) HI1.out ?_
       intro w6 G3 G4))
  have hz6 := (only_hid G4).size
  rw [World.size_alloc] at hz6
  have F13 : Hid (Below w.heap.size w w6) := below_only (F10.out.alloc (by omega) _) (only_hid G4) (by omega) (by simp; omega)
  have F14 : Hid (Blk w6 w.heap.size 25 zeroSum) := (G4.out.block _ (by simp; omega) (by intro e; injection e; omega)).trans ((Below.heap_alloc w5 _ _ (by omega)).trans F11.out)
  have F15 : Hid (Blk w6 w2.heap.size 32 kb) := (G4.out.block _ (by simp; omega) (by intro e; injection e; omega)).trans ((Below.heap_alloc w5 _ _ (by omega)).trans F12.out)
  refine wp_region_any (by kernel_rfl) ?_
  change wpAny _ _ _ _ _ _ _ (World.drew _)
  refine wpAny_take (i := 2) (v := .slice (some ⟨w5.heap.size, 0, none⟩) 32 32) rfl (by kernel_rfl) (by kernel_rfl) (by kernel_rfl) (fun _ _ _ h => h) (Or.inl ⟨by rfl, ?_⟩) ?_
  · intro w; go_simp
  refine any_load 0 rfl (by kernel_rfl) rfl 32 (.tmp 5) rfl w2.heap.size rfl 32 kb F15.out Tryd.underlying32 (by rw [HB64.out]; kernel_rfl) ?_
  refine any_one 1 rfl (by kernel_rfl) rfl fun K hK => ?_
  go_simp
  refine (MK2.out w6.drew).mono ?_
  rintro e w7 ⟨rfl, hb7⟩
  have hz7 : w6.heap.size ≤ w7.heap.size := hb7.size
  have F16 : Hid (Below w.heap.size w w7) := F13.out.drew.trans (hb7.mono F13.out.size)
  have F17 : Hid (Blk w7 w5.heap.size 25 inn) := (hb7.block w5.heap.size (by show w5.heap.size < w6.heap.size; omega)).trans G3.out
  have F18 : Hid (Blk w7 w.heap.size 25 zeroSum) := (hb7.block w.heap.size (by show w.heap.size < w6.heap.size; omega)).trans F14.out
  clear hb7
  refine hK _ _ ?_
  clear hK K
  refine any_one 3 rfl (by kernel_rfl) rfl fun K hK => ?_
  go_simp
  refine (DG2.out w7 w5.heap.size (HT.out.all F16.out) F17.out).mono ?_
  rintro e w8 ⟨rfl, hb8⟩
  refine hK _ _ ?_
  clear hK K
  refine any_store 4 rfl (by kernel_rfl) rfl 25 (.tmp 4) (.tmp 16) rfl w.heap.size res rfl rfl 25 zeroSum ((hb8.block w.heap.size (by omega)).trans F18.out) (by rw [HR32.out]; kernel_rfl) (by rw [HR32.out]; rfl) HR1.out ?_
  intro w9 G5 G6
  refine wpAny_done (by kernel_rfl) ?_ _
  have F19 : Hid (Below w.heap.size w w8) := F16.out.trans (hb8.mono F16.out.size)
  clear hb8
  go_wp2_with fail
  refine bodyPost_ret (v := .agg res) (results_cell_row rfl _ _ w.heap.size 25 _ (0, 0) _ rfl G5.out Tryd.underlying25 rfl (by rw [HR32.out]; kernel_rfl)) rfl ?_
  exact ⟨rfl, below_only F19.out (only_hid G6) (Nat.le_refl _) F19.out.size⟩
end Go.Proofs.YtllbdeniigakkaaDoor.Sha
