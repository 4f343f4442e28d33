/-
  Proved: what spread and mix of package sha return: the words of a block, and what a state becomes of a block.
  Conditions: the slice reads as at least 64 bytes; the table sha.rounds holds its 64 words.
-/
import Derived.Test.YtllbdeniigakkaaDoorShaLeaf
namespace Go.Proofs.YtllbdeniigakkaaDoor.Sha
open Go.RowKit

/-- A word as the model holds it. -/
def uv (x : BitVec 32) : Value := .int .u32 (x.toNat : Int)
def uvs (l : List (BitVec 32)) : List Value := l.map uv
theorem uvs_get {l : List (BitVec 32)} {i : Nat} (h : i < l.length) : (uvs l)[i]? = some (uv (l.getD i 0)) := by
  rw [uvs, List.getElem?_map, List.getD_eq_getElem?_getD, List.getElem?_eq_getElem h]
  rfl
theorem uvs_one (l : List (BitVec 32)) : (uvs l).toArray.all (·.oneCell') = true := by
  rw [Array.all_eq_true_iff_forall_mem]
  intro v hv
  rw [List.mem_toArray] at hv
  obtain ⟨x, _, rfl⟩ := List.mem_map.1 hv
  rfl
theorem word_at {w wr : World} {B n : Nat} {b o : Nat} {bs : List UInt8} (hR : Row w B (some ⟨b, o, none⟩) n (bvs bs)) (hn : 64 ≤ n) (hw : Below B w wr) (i c : Nat) (hi : i < 16) :
    Calls Tryd.prog 30 #[.slice (some ⟨b, o + 4 * i, none⟩) (n - 4 * i) c] wr fun e w' => e = .returned (uv (wordAt bs i)) ∧ ∃ q, w' = wr.drewN q := by
  have h := (hR.below hw).drop (k := 4 * i) (by omega)
  rw [bvs_drop] at h
  refine (word_any _ _ c _ B wr h (by omega)).mono fun e w' hh => ⟨?_, hh.2⟩
  rw [hh.1]
  simp [wordAt, uv, List.getD_eq_getElem?_getD, List.getElem?_drop]
theorem u32_add_bv (x y : BitVec 32) : ((x.toNat : Int) + (y.toNat : Int)) % 4294967296 = ((x + y).toNat : Int) := by
  rw [BitVec.toNat_add, Int.natCast_emod, Int.natCast_add]
  rfl
theorem u32_shr_bv (x : BitVec 32) (k : Nat) : (x.toNat : Int) / ((2 ^ k : Nat) : Int) = ((x >>> k).toNat : Int) := by
  rw [BitVec.toNat_ushiftRight, Nat.shiftRight_eq_div_pow, Int.natCast_ediv]

theorem words_next (bs : List UInt8) (k : Nat) (h1 : 16 ≤ k) (h2 : k < 64) :
    uv (low1 ((words bs 64).getD (k - 2) 0) + (words bs 64).getD (k - 7) 0 + low0 ((words bs 64).getD (k - 15) 0) + (words bs 64).getD (k - 16) 0) = uv ((words bs 64).getD k 0) := by
  rw [words_getD bs k 64 h2, if_neg (by omega), nextWord, words_length]
  rw [words_getD_any bs (k - 2) 64 k (by omega) (by omega), words_getD_any bs (k - 7) 64 k (by omega) (by omega), words_getD_any bs (k - 15) 64 k (by omega) (by omega), words_getD_any bs (k - 16) 64 k (by omega) (by omega)]
theorem word_sum (x y z u : BitVec 32) :
    Value.int .u32 ((bits .xor .u32 (bits .xor .u32 ((rotr x 17).toNat : Int) ((rotr x 19).toNat : Int)) ((x.toNat : Int) / 1024) + (y.toNat : Int) +
      bits .xor .u32 (bits .xor .u32 ((rotr z 7).toNat : Int) ((rotr z 18).toNat : Int)) ((z.toNat : Int) / 8) + (u.toNat : Int)) % 4294967296) = uv (low1 x + y + low0 z + u) := by
  have e1 : (x.toNat : Int) / (1024 : Int) = ((x >>> 10).toNat : Int) := u32_shr_bv x 10
  have e2 : (z.toNat : Int) / (8 : Int) = ((z >>> 3).toNat : Int) := u32_shr_bv z 3
  rw [e1, e2, u32_xor_bv, u32_xor_bv, u32_xor_bv, u32_xor_bv]
  unfold uv
  rw [← u32_add_bv, ← u32_add_bv, ← u32_add_bv]
  simp only [Int.emod_add_emod]
  rfl

set_option maxRecDepth 100000 in
set_option maxHeartbeats 400000 in
theorem spread_any (A : Option Addr) (n c : Nat) (bs : List UInt8) (B : Nat) (w : World) (hR : Row w B A n (bvs bs)) (hn : 64 ≤ n) (hB : B ≤ w.heap.size) (hc : n ≤ c) (hm : c ≤ maxLen) :
    Calls Tryd.prog 28 #[.slice A n c] w fun e w' => e = .returned (.agg (uvs (words bs 64)).toArray) ∧ Below w.heap.size w w' := by
  unfold maxLen at hm
  obtain ⟨b, o, rfl, hb, _⟩ := hR.byte (by omega)
  have HR := Lib.hid hR
  have HN := Lib.hid hn
  clear hR
  go_enter Tryd.func28, Tryd.ntmps28
  go_wp2_with fail
  go_loopw [8] (fun i wr => ∃ k : Nat, ∃ arr old : Array Value, k ≤ 16 ∧ i = .int .i64 k ∧ Hid (Blk wr w.heap.size 43 old ∧ old.size = 64 ∧ Blk wr (w.heap.size + 1) 43 arr ∧ arr.size = 64 ∧ (∀ j, j < k → arr[j]? = some (uv ((words bs 64).getD j 0))) ∧ Below w.heap.size w wr)) (fun i _ => 16 - (intOf i).toNat)
  case atStart =>
    exact ⟨0, _, _, Nat.zero_le _, rfl, heap_alloc2_old _ _ _, rfl, heap_alloc2_new _ _ _, rfl, fun j hj => absurd hj (by omega), ((Below.refl _ _).alloc (Nat.le_refl _) _).alloc (by simp) _⟩
  case round =>
    obtain ⟨k, arr, old, hk, rfl, HI⟩ := hrel
    by_cases hlt : k < 16
    · have hbl : Below B w wr := HI.out.2.2.2.2.2.mono hB
      go_wp2_with fail
      refine (word_at HR.out HN.out hbl k (c - 4 * k) hlt).mono ?_
      rintro e w1 ⟨rfl, q, rfl⟩
      have hsz : k < arr.size := by rw [HI.out.2.2.2.1]; omega
      obtain ⟨v0, f1⟩ : ∃ v0, wr.cell? ⟨w.heap.size + 1, k, none⟩ = some v0 := ⟨_, (HI.out.2.2.1.cell k).trans (Array.getElem?_eq_getElem hsz)⟩
      have f2 : wr.frozen? ⟨w.heap.size + 1, k, none⟩ = false := HI.out.2.2.1.free k
      unfold uv
      have hsz' := Lib.hid hsz
      clear hbl hsz
      go_wp2_with fail
      go_roundw
      case rel =>
        obtain ⟨i1, i2, i3, i4, i5, i6⟩ := HI.out
        refine ⟨k + 1, arr.setIfInBounds k (uv (wordAt bs k)), old, by omega, by go_num, ?_⟩
        refine ⟨(Below.heap_setCell (wr.drewN q) ⟨w.heap.size + 1, k, none⟩ _ w.heap.size (by simp)).trans i1, i2, (show Blk (wr.drewN q) (w.heap.size + 1) _ arr from i3).put k _, by simp [i4], fun j hj => ?_, (below_drewN i6 q).setCell (by simp) _⟩
        by_cases hjk : j = k
        · subst hjk
          rw [Array.getElem?_setIfInBounds_self_of_lt hsz'.out, words_getD bs j 64 (by omega), if_pos hlt]
        · rw [Array.getElem?_setIfInBounds_ne (by omega)]
          exact i5 j (by omega)
      case measure => simp [intOf]; omega
    · obtain rfl : k = 16 := by omega
      go_wp2_with fail
      clear hk hlt
      rw [show ((16 : Nat) : Int) = 16 from rfl]
      go_loopw [5] (fun i wr => ∃ k : Nat, ∃ arr old : Array Value, 16 ≤ k ∧ k ≤ 64 ∧ i = .int .i64 k ∧ Hid (Blk wr w.heap.size 43 old ∧ old.size = 64 ∧ Blk wr (w.heap.size + 1) 43 arr ∧ arr.size = 64 ∧ (∀ j, j < k → arr[j]? = some (uv ((words bs 64).getD j 0))) ∧ Below w.heap.size w wr)) (fun i _ => 64 - (intOf i).toNat)
      case atStart => exact ⟨16, arr, old, by omega, by omega, rfl, HI⟩
      case round =>
        clear HI
        obtain ⟨k, arr, old, hk1, hk2, rfl, HI⟩ := hrel
        by_cases hlt : k < 64
        · obtain ⟨x2, HX2⟩ : ∃ x, Hid (x = (words bs 64).getD (k - 2) 0) := ⟨_, rfl⟩
          obtain ⟨x15, HX15⟩ : ∃ x, Hid (x = (words bs 64).getD (k - 15) 0) := ⟨_, rfl⟩
          obtain ⟨x7, HX7⟩ : ∃ x, Hid (x = (words bs 64).getD (k - 7) 0) := ⟨_, rfl⟩
          obtain ⟨x16, HX16⟩ : ∃ x, Hid (x = (words bs 64).getD (k - 16) 0) := ⟨_, rfl⟩
          have f2 : wr.cell? ⟨w.heap.size + 1, k - 2, none⟩ = some (.int .u32 (x2.toNat : Int)) := by rw [HX2.out]; exact (HI.out.2.2.1.cell _).trans (HI.out.2.2.2.2.1 (k - 2) (by omega))
          have f15 : wr.cell? ⟨w.heap.size + 1, k - 15, none⟩ = some (.int .u32 (x15.toNat : Int)) := by rw [HX15.out]; exact (HI.out.2.2.1.cell _).trans (HI.out.2.2.2.2.1 (k - 15) (by omega))
          have f7 : wr.cell? ⟨w.heap.size + 1, k - 7, none⟩ = some (.int .u32 (x7.toNat : Int)) := by rw [HX7.out]; exact (HI.out.2.2.1.cell _).trans (HI.out.2.2.2.2.1 (k - 7) (by omega))
          have f16 : wr.cell? ⟨w.heap.size + 1, k - 16, none⟩ = some (.int .u32 (x16.toNat : Int)) := by rw [HX16.out]; exact (HI.out.2.2.1.cell _).trans (HI.out.2.2.2.2.1 (k - 16) (by omega))
          have hsz : k < arr.size := by rw [HI.out.2.2.2.1]; omega
          obtain ⟨v0, f1⟩ : ∃ v0, wr.cell? ⟨w.heap.size + 1, k, none⟩ = some v0 := ⟨_, (HI.out.2.2.1.cell k).trans (Array.getElem?_eq_getElem hsz)⟩
          have f3 : wr.frozen? ⟨w.heap.size + 1, k, none⟩ = false := HI.out.2.2.1.free k
          have hsz' := Lib.hid hsz
          clear hsz
          go_wp2_with fail
          go_quiet (fail)
          go_wp2_with fail
          refine (rot17 x2 _).mono ?_
          rintro e w' ⟨rfl, rfl⟩
          go_wp2_with fail
          refine (rot19 x2 _).mono ?_
          rintro e w' ⟨rfl, rfl⟩
          go_wp2_with fail
          refine (rot7 x15 _).mono ?_
          rintro e w' ⟨rfl, rfl⟩
          go_wp2_with fail
          refine (rot18 x15 _).mono ?_
          rintro e w' ⟨rfl, rfl⟩
          go_wp2_with fail
          go_region
          go_wp2_with fail
          go_roundw
          case rel =>
            obtain ⟨i1, i2, i3, i4, i5, i6⟩ := HI.out
            rw [word_sum x2 x7 x15 x16]
            refine ⟨k + 1, arr.setIfInBounds k (uv (low1 x2 + x7 + low0 x15 + x16)), old, by omega, by omega, by go_num, ?_⟩
            refine ⟨(Below.heap_setCell (wr.drewN (nq + 1)) ⟨w.heap.size + 1, k, none⟩ _ w.heap.size (by simp)).trans i1, i2, (show Blk (wr.drewN (nq + 1)) (w.heap.size + 1) _ arr from i3).put k _, by simp [i4], fun j hj => ?_, (below_drewN i6 _).setCell (by simp) _⟩
            by_cases hjk : j = k
            · subst hjk
              rw [Array.getElem?_setIfInBounds_self_of_lt hsz'.out]
              rw [HX2.out, HX7.out, HX15.out, HX16.out, words_next bs j hk1 hlt]
            · rw [Array.getElem?_setIfInBounds_ne (by omega)]
              exact i5 j (by omega)
          case measure => simp [intOf]; omega
        · obtain rfl : k = 64 := by omega
          obtain ⟨i1, i2, i3, i4, i5, i6⟩ := HI.out
          have ha : arr = (uvs (words bs 64)).toArray := by
            apply Array.ext'
            apply List.ext_getElem?
            intro j
            rw [Array.getElem?_toList]
            by_cases hj : j < 64
            · rw [i5 j hj, uvs_get (by rw [words_length]; exact hj)]
            · rw [Array.getElem?_eq_none (by omega), List.getElem?_eq_none (by rw [uvs, List.length_map, words_length]; omega)]
          have h1 : arr.all (·.oneCell') = true := by
            rw [ha]
            exact uvs_one _
          have H1 := Lib.hid i1
          have H3 := Lib.hid i3
          have H6 := Lib.hid i6
          have HA := Lib.hid ha
          have HS := Lib.hid i2
          have HZ := Lib.hid i4
          have HO := Lib.hid h1
          clear HI i1 i2 i3 i4 i5 i6 h1 ha hk1 hk2 hlt
          go_wp2_with (first
            | (refine wpList_load_row rfl 43 (.tmp 3) rfl (w.heap.size + 1) rfl 43 arr (0, 0) _ H3.out Tryd.underlying43 rfl (by rw [HZ.out]; kernel_rfl) ?_)
            | (refine wpList_store_row rfl 43 (.tmp 2) (.tmp 62) rfl w.heap.size arr rfl rfl 43 old H1.out (by rw [HZ.out]; kernel_rfl) (by rw [HZ.out]; exact HS.out) HO.out ?_))
          refine bodyPost_ret (v := .agg arr) (results_cell_row rfl _ _ w.heap.size 43 arr (0, 0) _ rfl (setRow_heap _ _ _ _ _ _ H1.out) Tryd.underlying43 rfl (by rw [HZ.out]; kernel_rfl)) rfl ?_
          exact ⟨by rw [HA.out], below_only H6.out (only_setRow _ _ _) (Nat.le_refl _) H6.out.size⟩
end Go.Proofs.YtllbdeniigakkaaDoor.Sha
