/-
  Proved: what masked and blockOf of package mac return.
  Conditions: the slice reads as bytes; the tables sha.start and sha.rounds hold their words.
-/
import Derived.Test.YtllbdeniigakkaaDoorShaSum
import Derived.Test.YtllbdeniigakkaaDoorMacMath
import Derived.Test.YtllbdeniigakkaaDoorAgg2

namespace Go.Proofs.YtllbdeniigakkaaDoor.Sha
open Go.RowKit

/-- A key's block: noughts behind its own bytes. -/
def keyBlock (k : List UInt8) : List UInt8 := keyOf k ++ List.replicate (64 - (keyOf k).length) 0
theorem keyBlock_length (k : List UInt8) : (keyBlock k).length = 64 := by
  have := keyOf_length k
  simp [keyBlock]
  omega
theorem keyBlock_get (k : List UInt8) (i : Nat) (h : i < 64) : (keyBlock k)[i]? = some ((keyOf k).getD i 0) := by
  rw [keyBlock, List.getD_eq_getElem?_getD]
  by_cases hi : i < (keyOf k).length
  · rw [List.getElem?_append_left hi, List.getElem?_eq_getElem hi]
    rfl
  · rw [List.getElem?_append_right (by omega), List.getElem?_eq_none (by omega : (keyOf k).length ≤ i), List.getElem?_replicate, if_pos (by omega)]
    rfl
theorem keyPad_block (k : List UInt8) (x : UInt8) : (keyBlock k).map (· ^^^ x) = keyPad k x := by
  apply List.ext_getElem?
  intro i
  by_cases h : i < 64
  · rw [List.getElem?_map, keyBlock_get k i h, keyPad, List.getElem?_map, List.getElem?_range h]
    rfl
  · rw [List.getElem?_eq_none (by rw [List.length_map, keyBlock_length]; omega), List.getElem?_eq_none (by rw [keyPad_length]; omega)]
theorem list_getD_ext {a b : List UInt8} (hl : a.length = b.length) (h : ∀ j, j < a.length → a.getD j 0 = b.getD j 0) : a = b := by
  apply List.ext_getElem hl
  intro i h1 h2
  have := h i h1
  simpa [List.getD_eq_getElem?_getD, List.getElem?_eq_getElem h1, List.getElem?_eq_getElem h2] using this
theorem bvs_put (l : List UInt8) (i : Nat) (c : UInt8) : (bvs l).toArray.setIfInBounds i (.int .u8 (c.toNat : Int)) = (bvs (l.set i c)).toArray := by
  simp [bvs, bv]
theorem getD_put (l : List UInt8) (i j : Nat) (c : UInt8) (hi : i < l.length) : (l.set i c).getD j 0 = if j = i then c else l.getD j 0 := by
  rw [List.getD_eq_getElem?_getD, List.getD_eq_getElem?_getD, List.getElem?_set]
  by_cases h : i = j
  · subst h
    rw [if_pos rfl, if_pos hi, if_pos rfl]
    rfl
  · rw [if_neg h, if_neg (fun e => h e.symm)]
theorem blk_byte {w : World} {g : Nat} {t : TypeId} {bs : List UInt8} (h : Blk w g t (bvs bs).toArray) (i : Nat) (hi : i < bs.length) : w.cell? ⟨g, i, none⟩ = some (.int .u8 ((bs.getD i 0).toNat : Int)) := by
  rw [blk_cell h, bvs, List.getElem?_map, List.getD_eq_getElem?_getD, List.getElem?_eq_getElem hi]
  rfl
theorem bvs_all' (bs : List UInt8) : (bvs bs).toArray.all (·.oneCell') = true := by
  rw [Array.all_eq_true_iff_forall_mem]
  intro v hv
  exact bvs_one _ v (by simpa using hv)
theorem bvs_toArray_size (bs : List UInt8) : (bvs bs).toArray.size = bs.length := by rw [List.size_toArray, bvs_length]
theorem u8_xor_bv (x y : UInt8) : bits .xor .u8 (x.toNat : Int) (y.toNat : Int) = ((x ^^^ y).toNat : Int) := by rw [u8_xor_nat _ _ x.toNat_lt y.toNat_lt, UInt8.toNat_xor]
theorem bvs_splice (l : List UInt8) (bs : List UInt8) : splice (bvs l) 0 (bvs bs) = bvs (bs ++ l.drop bs.length) := by
  simp [splice, bvs]

theorem blk_row {w : World} {g : Nat} {t : TypeId} {bs : List UInt8} {n : Nat} (h : Blk w g t (bvs bs).toArray) (hn : bs.length = n) : Row w w.heap.size (some ⟨g, 0, none⟩) n (bvs bs) := by
  have e : (bvs bs).toArray.size = n := by rw [bvs_toArray_size, hn]
  rw [← e]
  exact Blk.row h
def zeroBlock : Array Value := (bvs (List.replicate 64 0)).toArray
theorem zero_block (w : World) : (zeroValue 32).run Tryd.prog w = .ok (.agg zeroBlock) w := by kernel_rfl
theorem zeroBlock_size : zeroBlock.size = 64 := by kernel_rfl
theorem two_news (w : World) (a b : Array Value) (s t : TypeId) : Blk ((w.alloc (.cells a s)).alloc (.cells b t)) w.heap.size s a ∧ Blk ((w.alloc (.cells a s)).alloc (.cells b t)) (w.heap.size + 1) t b ∧
    Below w.heap.size w ((w.alloc (.cells a s)).alloc (.cells b t)) ∧ ((w.alloc (.cells a s)).alloc (.cells b t)).heap.size = w.heap.size + 2 :=
  ⟨heap_alloc2_old _ _ _, heap_alloc2_new _ _ _, ((Below.refl _ _).alloc (Nat.le_refl _) _).alloc (by simp) _, by simp⟩

set_option maxHeartbeats 1000000 in
theorem masked_any (bs : List UInt8) (m : UInt8) (w : World) (h64 : bs.length = 64) :
    Calls Tryd.prog 14 #[.agg (bvs bs).toArray, .int .u8 (m.toNat : Int)] w fun e w' => e = .returned (.agg (bvs (bs.map (· ^^^ m))).toArray) ∧ Below w.heap.size w w' := by
  have hzero := zero_block
  obtain ⟨blk, hblk⟩ : ∃ blk, blk = (bvs bs).toArray := ⟨_, rfl⟩
  rw [← hblk]
  have HN := Lib.hid (two_news w blk zeroBlock 32 32)
  have HBLK := Lib.hid hblk
  have H64 := Lib.hid h64
  clear hblk h64
  go_enter Tryd.func14, Tryd.ntmps14
  go_wp2_with fail
  generalize (w.alloc (Obj.cells blk 32)).alloc (Obj.cells zeroBlock 32) = w1 at *
  go_loopw [6] (fun i wr => ∃ k : Nat, k ≤ 64 ∧ i = .int .i64 k ∧ Hid (∃ l : List UInt8, l.length = 64 ∧ Blk wr w.heap.size 32 (bvs l).toArray ∧ Blk wr (w.heap.size + 1) 32 zeroBlock ∧ Below w.heap.size w wr ∧ ∀ j, l.getD j 0 = if j < k then bs.getD j 0 ^^^ m else bs.getD j 0)) (fun i _ => 64 - (intOf i).toNat)
  case atStart => exact ⟨0, by omega, rfl, bs, H64.out, by rw [← HBLK.out]; exact HN.out.1, HN.out.2.1, HN.out.2.2.1, fun j => by rw [if_neg (by omega)]⟩
  case round =>
    obtain ⟨k, hk, rfl, HI⟩ := hrel
    obtain ⟨l, i1, i2, i3, i4, i5⟩ := HI.out
    by_cases hlt : k < 64
    · obtain ⟨x, hx⟩ : ∃ x, x = bs.getD k 0 := ⟨_, rfl⟩
      have f0 : wr.cell? ⟨w.heap.size, k, none⟩ = some (.int .u8 (x.toNat : Int)) := by
        rw [blk_byte i2 k (by omega), i5 k, if_neg (by omega), hx]
      have f1 : wr.frozen? ⟨w.heap.size, k, none⟩ = false := i2.free k
      have hxl := x.toNat_lt
      have hml := m.toNat_lt
      have HX := Lib.hid hx
      have I1 := Lib.hid i1
      have I2 := Lib.hid i2
      have I3 := Lib.hid i3
      have I4 := Lib.hid i4
      have I5 := Lib.hid i5
      have GX := Lib.hid (u8_xor_bv x m)
      clear HI i1 i2 i3 i4 i5 hx HN
      go_wp2_with fail
      go_roundw
      case rel =>
        refine ⟨k + 1, by omega, by go_num, l.set k (x ^^^ m), by rw [List.length_set]; exact I1.out, ?_, (Below.heap_setCell _ _ _ _ (by show w.heap.size + 1 ≠ w.heap.size; omega)).trans I3.out, I4.out.setCell (Nat.le_refl _) _, fun j => ?_⟩
        · rw [GX.out, ← bvs_put]
          exact I2.out.put k _
        · rw [getD_put l k j _ (by rw [I1.out]; exact hlt), I5.out j]
          by_cases hjk : j = k
          · subst hjk
            rw [if_pos rfl, if_pos (by omega), HX.out]
          · rw [if_neg hjk]
            by_cases hj : j < k
            · rw [if_pos hj, if_pos (by omega)]
            · rw [if_neg hj, if_neg (by omega)]
      case measure => simp [intOf]; omega
    · obtain rfl : k = 64 := by omega
      obtain ⟨res, hres⟩ : ∃ res, res = (bvs (bs.map (· ^^^ m))).toArray := ⟨_, rfl⟩
      have hl : l = bs.map (· ^^^ m) := by
        refine list_getD_ext (by rw [i1, List.length_map, H64.out]) fun j hj => ?_
        rw [i5 j, if_pos (by omega), List.getD_eq_getElem?_getD, List.getD_eq_getElem?_getD, List.getElem?_map, List.getElem?_eq_getElem (by rw [H64.out]; omega)]
        rfl
      have hr64 : res.size = 64 := by rw [hres, bvs_toArray_size, List.length_map, H64.out]
      have hr1 : res.all (·.oneCell') = true := by rw [hres]; exact bvs_all' _
      rw [hl, ← hres] at i2
      have HRES := Lib.hid hres
      have HR64 := Lib.hid hr64
      have HR1 := Lib.hid hr1
      have I2 := Lib.hid i2
      have I3 := Lib.hid i3
      have I4 := Lib.hid i4
      clear HI i1 i2 i3 i4 i5 hl hres hr64 hr1 HN
      go_wp2_with (first
        | (refine wpList_load_row rfl 32 (.tmp 2) rfl w.heap.size rfl 32 res (0, 0) _ I2.out Tryd.underlying32 rfl (by rw [HR64.out]; kernel_rfl) ?_)
        | (refine wpList_store_blk rfl 32 (.tmp 4) (.tmp 16) rfl (w.heap.size + 1) res rfl rfl 32 zeroBlock I3.out (by rw [HR64.out]; kernel_rfl) (by rw [HR64.out]; rfl) HR1.out ?_
           intro w5 G5 G6))
      refine bodyPost_ret (v := .agg res) (results_cell_row rfl _ _ (w.heap.size + 1) 32 _ (0, 0) _ rfl G5.out Tryd.underlying32 rfl (by rw [HR64.out]; kernel_rfl)) rfl ?_
      exact ⟨by rw [HRES.out], below_only I4.out (only_hid G6) (by omega) I4.out.size⟩
end Go.Proofs.YtllbdeniigakkaaDoor.Sha
