/-
  Proved: how a Hash of package sha lies in memory; what New, mixed and padding of package sha return.
  Conditions: the block of the Hash is known whole; the tables sha.start and sha.rounds hold their words.
-/
import Derived.Test.YtllbdeniigakkaaDoorShaBlock
namespace Go.Proofs.YtllbdeniigakkaaDoor.Sha
open Go.RowKit

/-- The cells of a Hash. -/
def hashCells (st : List (BitVec 32)) (rest : List UInt8) (n : Nat) : List Value := uvs st ++ (bvs rest ++ [Value.int .u64 (n : Int)])
/-- The Hash at block g is one of the text bs. -/
def HashAt (w : World) (g : Nat) (bs : List UInt8) : Prop := ∃ (st : List (BitVec 32)) (rest : List UInt8), st.length = 8 ∧ rest.length = 64 ∧
  Blk w g 48 (hashCells st rest bs.length).toArray ∧ rest.take (bs.length % 64) = bs.drop (64 * (bs.length / 64)) ∧ (64 ≤ bs.length → st = (stateOf bs).list)

theorem uvs_length (l : List (BitVec 32)) : (uvs l).length = l.length := by simp [uvs]
theorem hashCells_length {st : List (BitVec 32)} {rest : List UInt8} (n : Nat) (h8 : st.length = 8) (h64 : rest.length = 64) : (hashCells st rest n).length = 73 := by
  simp [hashCells, uvs_length, bvs_length, h8, h64]
theorem hash_state {st : List (BitVec 32)} {rest : List UInt8} (n : Nat) (h8 : st.length = 8) (i : Nat) (hi : i < 8) : (hashCells st rest n)[i]? = some (.int .u32 ((st.getD i 0).toNat : Int)) := by
  rw [hashCells, List.getElem?_append_left (by rw [uvs_length]; omega)]
  exact uvs_get (by omega)
theorem hash_rest {st : List (BitVec 32)} {rest : List UInt8} (n : Nat) (h8 : st.length = 8) (h64 : rest.length = 64) (j : Nat) (hj : j < 64) : (hashCells st rest n)[8 + j]? = some (bv (rest.getD j 0)) := by
  rw [hashCells, List.getElem?_append_right (by rw [uvs_length]; omega), uvs_length, h8, show 8 + j - 8 = j by omega, List.getElem?_append_left (by rw [bvs_length]; omega), bvs, List.getElem?_map,
    List.getD_eq_getElem?_getD, List.getElem?_eq_getElem (by omega)]
  rfl
theorem hash_length {st : List (BitVec 32)} {rest : List UInt8} (n : Nat) (h8 : st.length = 8) (h64 : rest.length = 64) : (hashCells st rest n)[72]? = some (.int .u64 (n : Int)) := by
  rw [hashCells, List.getElem?_append_right (by rw [uvs_length]; omega), uvs_length, h8, List.getElem?_append_right (by rw [bvs_length]; omega), bvs_length, h64]
  rfl
theorem blk_cell {w : World} {g : Nat} {t : TypeId} {l : List Value} (h : Blk w g t l.toArray) (i : Nat) : w.cell? ⟨g, i, none⟩ = l[i]? := by
  rw [h.cell, List.getElem?_toArray]
theorem blk_lt {w : World} {g : Nat} {t : TypeId} {cs : Array Value} (h : Blk w g t cs) : g < w.heap.size := by
  rcases Nat.lt_or_ge g w.heap.size with hh | hh
  · exact hh
  · unfold Blk at h; rw [Array.getElem?_eq_none hh] at h; cases h
theorem HashAt.lt {w : World} {g : Nat} {bs : List UInt8} (h : HashAt w g bs) : g < w.heap.size := by
  obtain ⟨_, _, _, _, hb, _⟩ := h
  exact blk_lt hb
theorem HashAt.keep {w w' : World} {g : Nat} {bs : List UInt8} (h : HashAt w g bs) (hb : w'.heap[g]? = w.heap[g]?) : HashAt w' g bs := by
  obtain ⟨st, rest, h8, h64, hk, h1, h2⟩ := h
  exact ⟨st, rest, h8, h64, hb.trans hk, h1, h2⟩
theorem HashAt.below {w w' : World} {B g : Nat} {bs : List UInt8} (h : HashAt w g bs) (hb : Below B w w') (hg : g < B) : HashAt w' g bs := h.keep (hb.block g hg)
theorem HashAt.only {w w' : World} {g k : Nat} {bs : List UInt8} (h : HashAt w g bs) (hb : w.grownBy w' (some k)) (hg : g ≠ k) : HashAt w' g bs :=
  h.keep (hb.block g h.lt (by intro e; injection e with e; exact hg e))
/-- The cells of a new Hash. -/
def zeroCells : Array Value := #[Value.int .u32 0, Value.int .u32 0, Value.int .u32 0, Value.int .u32 0, Value.int .u32 0, Value.int .u32 0, Value.int .u32 0, Value.int .u32 0, Value.int .u8 0, Value.int .u8 0, Value.int .u8 0, Value.int .u8 0, Value.int .u8 0, Value.int .u8 0, Value.int .u8 0, Value.int .u8 0, Value.int .u8 0, Value.int .u8 0, Value.int .u8 0, Value.int .u8 0, Value.int .u8 0, Value.int .u8 0, Value.int .u8 0, Value.int .u8 0, Value.int .u8 0, Value.int .u8 0, Value.int .u8 0, Value.int .u8 0, Value.int .u8 0, Value.int .u8 0, Value.int .u8 0, Value.int .u8 0, Value.int .u8 0, Value.int .u8 0, Value.int .u8 0, Value.int .u8 0, Value.int .u8 0, Value.int .u8 0, Value.int .u8 0, Value.int .u8 0, Value.int .u8 0, Value.int .u8 0, Value.int .u8 0, Value.int .u8 0, Value.int .u8 0, Value.int .u8 0, Value.int .u8 0, Value.int .u8 0, Value.int .u8 0, Value.int .u8 0, Value.int .u8 0, Value.int .u8 0, Value.int .u8 0, Value.int .u8 0, Value.int .u8 0, Value.int .u8 0, Value.int .u8 0, Value.int .u8 0, Value.int .u8 0, Value.int .u8 0, Value.int .u8 0, Value.int .u8 0, Value.int .u8 0, Value.int .u8 0, Value.int .u8 0, Value.int .u8 0, Value.int .u8 0, Value.int .u8 0, Value.int .u8 0, Value.int .u8 0, Value.int .u8 0, Value.int .u8 0, Value.int .u64 0]
theorem zero_cells : zeroCells = (hashCells (List.replicate 8 0#32) (List.replicate 64 0) 0).toArray := by kernel_rfl
theorem hash_new (w : World) : HashAt (w.alloc (.cells zeroCells 48)) w.heap.size [] := by
  refine ⟨List.replicate 8 0#32, List.replicate 64 0, by simp, by simp, ?_, by simp, fun h => by simp at h⟩
  rw [List.length_nil, ← zero_cells]
  exact heap_alloc_new w _

theorem zero_hash (w : World) : (zeroValue 48).run Tryd.prog w = .ok (.agg zeroCells) w := by kernel_rfl
theorem new_any (w : World) : Calls Tryd.prog 17 #[] w fun e w' => e = .returned (.pointer (some ⟨w.heap.size, 0, none⟩)) ∧ HashAt w' w.heap.size [] ∧ w'.heap.size = w.heap.size + 1 ∧ Below w.heap.size w w' := by
  have hzero := zero_hash
  go_enter Tryd.func17, Tryd.ntmps17
  go_wp2_with fail
  go_ret
  exact ⟨rfl, hash_new w, by simp, (Below.refl _ _).alloc (Nat.le_refl _) _⟩

set_option maxRecDepth 100000 in
set_option maxHeartbeats 400000 in
theorem mixed_any (g : Nat) (bs : List UInt8) (w : World) (hT : Tables w) (hH : HashAt w g bs) (hn : bs.length < 1152921504606846976) :
    Calls Tryd.prog 21 #[.pointer (some ⟨g, 0, none⟩)] w fun e w' => e = .returned (.agg (uvs (stateOf bs).list).toArray) ∧ Below w.heap.size w w' := by
  obtain ⟨st, rest, h8, h64, hk, h1, h2⟩ := hH
  have hlen : w.cell? ⟨g, 72, none⟩ = some (.int .u64 (bs.length : Int)) := (blk_cell hk 72).trans (hash_length _ h8 h64)
  have hg := blk_lt hk
  by_cases hlt : bs.length < 64
  · have HS : Hid (stateOf bs = start) := stateOf_short bs hlt
    obtain ⟨t0, fr0, hT0⟩ := hT.2.1
    have HT := Lib.hid hT0
    have hg0 : 0 < w.heap.size := hT.2.2.2
    clear hT hT0 h1 h2 hk
    go_enter Tryd.func21, Tryd.ntmps21
    go_wp2_with (first
      | (refine wpList_load_row rfl 44 (.global 0) rfl 0 rfl t0 (uvs start.list).toArray fr0 _ ((Below.heap_alloc w _ _ hg0).trans HT.out) Tryd.underlying44 rfl (by kernel_rfl) ?_)
      | (refine wpList_store_blk rfl 44 (.tmp 2) (.tmp 8) rfl w.heap.size (uvs start.list).toArray rfl rfl 44 _ (heap_alloc_new _ _) (by kernel_rfl) rfl (uvs_one _) ?_; intro w1 G1 G2))
    refine bodyPost_ret (v := .agg (uvs start.list).toArray) (results_cell_row rfl _ _ w.heap.size 44 _ (0, 0) _ rfl G1.out Tryd.underlying44 rfl (by kernel_rfl)) rfl ?_
    exact ⟨by rw [HS.out], below_only ((Below.refl _ _).alloc (Nat.le_refl _) _) (only_hid G2) (Nat.le_refl _) (by simp)⟩
  · have hst := h2 (by omega)
    have c : ∀ i, i < 8 → w.cell? ⟨g, i, none⟩ = some (.int .u32 (((stateOf bs).list.getD i 0).toNat : Int)) := fun i hi => by rw [← hst]; exact (blk_cell hk i).trans (hash_state _ h8 i hi)
    have c0 := c 0 (by omega)
    have c1 := c 1 (by omega)
    have c2 := c 2 (by omega)
    have c3 := c 3 (by omega)
    have c4 := c 4 (by omega)
    have c5 := c 5 (by omega)
    have c6 := c 6 (by omega)
    have c7 := c 7 (by omega)
    generalize hS : (stateOf bs) = S at *
    have HS := Lib.hid hS
    simp only [St.list, List.getD_cons_zero, List.getD_cons_succ] at c0 c1 c2 c3 c4 c5 c6 c7
    clear hT h1 h2 hk c hst hS
    unfold uvs St.list uv
    go_enter Tryd.func21, Tryd.ntmps21
    go_wp2_with (refine wpList_store_blk rfl 44 (.tmp 2) (.tmp 12) rfl w.heap.size #[Value.int .u32 S.a.toNat, Value.int .u32 S.b.toNat, Value.int .u32 S.c.toNat, Value.int .u32 S.d.toNat, Value.int .u32 S.e.toNat, Value.int .u32 S.f.toNat, Value.int .u32 S.g.toNat, Value.int .u32 S.h.toNat] rfl rfl 44 _ (heap_alloc_new _ _) (by kernel_rfl) rfl (by simp [Value.oneCell']) ?_; intro w1 G1 G2)
    refine bodyPost_ret (v := .agg _) (results_cell_row rfl _ _ w.heap.size 44 _ (0, 0) _ rfl G1.out Tryd.underlying44 rfl (by kernel_rfl)) rfl ?_
    exact ⟨rfl, below_only ((Below.refl _ _).alloc (Nat.le_refl _) _) (only_hid G2) (Nat.le_refl _) (by simp)⟩
end Go.Proofs.YtllbdeniigakkaaDoor.Sha
