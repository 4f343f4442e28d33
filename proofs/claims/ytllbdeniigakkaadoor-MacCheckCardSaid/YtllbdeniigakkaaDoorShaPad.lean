/-
  Proved: what padding of package sha returns: the bytes that fill a text's last block.
  Conditions: the text has fewer than 2 to the 60th bytes.
-/
import Derived.Test.YtllbdeniigakkaaDoorShaHash
import Derived.Deep.OwnRows
import Derived.Test.YtllbdeniigakkaaDoorOwn
namespace Go.Proofs.YtllbdeniigakkaaDoor.Sha
open Go.RowKit

theorem u8_info : (Tryd.prog.info? 5).map (fun i => (i.zero, i.size, i.bytes)) = some (some (.int .u8 0), 1, 1) := by kernel_rfl
theorem putWord_at (g o n c : Nat) (v : Int) (x : BitVec 32) (hv : v = (x.toNat : Int)) (t : TypeId) (cs : Array Value) (w : World) (hg : Blk w g t cs) (ho : o + 4 ≤ cs.size) (h4 : 4 ≤ n) :
    Calls Tryd.prog 24 #[.slice (some ⟨g, o, none⟩) n c, .int .u32 v] w fun e w' => e = .returned undef ∧ Blk w' g t (put4 cs.toList o x).toArray ∧ w.grownBy w' (some g) := by
  subst hv
  exact putWord_any g o n c x t cs w hg ho h4

theorem pad_bytes (n : Nat) (hn : n < 1152921504606846976) : bytes64 (8 * n) = bytes32 (BitVec.ofNat 32 (n * 8 / 4294967296)) ++ bytes32 (BitVec.ofNat 32 (n * 8)) := by
  have e1 : (BitVec.ofNat 32 (n * 8 / 4294967296)).toNat = n * 8 / 4294967296 := by rw [BitVec.toNat_ofNat, Nat.mod_eq_of_lt (by omega)]
  have e2 : (BitVec.ofNat 32 (n * 8)).toNat = n * 8 % 4294967296 := by rw [BitVec.toNat_ofNat]
  unfold bytes64 bytes32
  rw [e1, e2]
  simp only [List.cons_append, List.nil_append, List.cons.injEq, and_true, ← UInt8.toNat_inj, UInt8.toNat_ofNat']
  omega
theorem put4_at (a b c : List Value) (o : Nat) (x : BitVec 32) (ha : a.length = o) (hb : b.length = 4) : put4 (a ++ (b ++ c)) o x = a ++ (bvs (bytes32 x) ++ c) := by
  unfold put4
  rw [List.take_append_of_le_length (by omega), List.take_of_length_le (by omega), ← List.append_assoc a b c, List.drop_append, List.drop_eq_nil_of_le (by rw [List.length_append]; omega), List.nil_append]
  congr 2
  rw [List.length_append, ha, hb, Nat.sub_self, List.drop_zero]
theorem put4_length (l : List Value) (o : Nat) (x : BitVec 32) (h : o + 4 ≤ l.length) : (put4 l o x).length = l.length := by
  simp [put4, bvs_length, bytes32]
  omega
theorem replicate_bv (k : Nat) : List.replicate k (Value.int .u8 0) = bvs (List.replicate k 0) := by simp [bvs, bv]
theorem pad_cells (n Z : Nat) (hn : n < 1152921504606846976) (hZ : Z = noughts n) :
    put4 (put4 ((madeCells #[Value.int .u8 0] (Z + 9)).setIfInBounds 0 (.int .u8 128)).toList (1 + Z) (BitVec.ofNat 32 (n * 8 / 4294967296))).toArray.toList (1 + Z + 4) (BitVec.ofNat 32 (n * 8)) = bvs (pad n) := by
  have e0 : ((madeCells #[Value.int .u8 0] (Z + 9)).setIfInBounds 0 (.int .u8 128)).toList = (Value.int .u8 128 :: List.replicate Z (.int .u8 0)) ++ (List.replicate 4 (.int .u8 0) ++ List.replicate 4 (.int .u8 0)) := by
    rw [Array.toList_setIfInBounds, toList_madeCells_one, show Z + 9 = (Z + 8) + 1 by omega, List.replicate_succ, List.set_cons_zero, List.cons_append, List.replicate_append_replicate, List.replicate_append_replicate]
  rw [e0, put4_at _ _ _ _ _ (by simp; omega) (by simp)]
  rw [show ∀ (a b c : List Value), a ++ (b ++ c) = (a ++ b) ++ (c ++ []) by simp]
  rw [put4_at _ _ _ _ _ (by simp [bvs_length, bytes32]; omega) (by simp)]
  rw [pad, pad_bytes n hn, List.append_nil, hZ, replicate_bv]
  simp [bvs, bv]

set_option maxHeartbeats 400000 in
theorem padding_any (n : Nat) (w : World) (hn : n < 1152921504606846976) :
    Calls Tryd.prog 23 #[.int .u64 (n : Int)] w fun e w' => e = .returned (.slice (some ⟨w.heap.size, 0, none⟩) (pad n).length (pad n).length) ∧ Blk w' w.heap.size 5 (bvs (pad n)).toArray ∧ Below w.heap.size w w' := by
  obtain ⟨Z, hZ⟩ : ∃ Z, Z = noughts n := ⟨_, rfl⟩
  have hz : (119 - (n : Int) % 64) % 64 = (Z : Int) := by rw [hZ, noughts]; omega
  have hl : (pad n).length = Z + 9 := by rw [pad_length, hZ]
  have hZ64 : Z < 64 := by rw [hZ]; exact noughts_lt n
  have hmk : ∀ w, (Instr.makeSlice 22 (.int .u64 (1 + (Z : Int) + 8)) (.int .u64 (1 + (Z : Int) + 8))).run Tryd.prog w = .ok (.slice (some ⟨w.heap.size, 0, none⟩) (Z + 9) (Z + 9)) (w.alloc (.cells (madeCells #[.int .u8 0] (Z + 9)) 5)) := by
    intro w
    have := Go.run_make_row' (P := Tryd.prog) 22 5 (.int .u8 0) 1 Tryd.underlying22 u8_info rfl .u64 .u64 (Z + 9) (by omega) (by omega) w
    rwa [show (((Z + 9 : Nat) : Int)) = 1 + (Z : Int) + 8 by omega] at this
  have h0 : (madeCells #[Value.int .u8 0] (Z + 9))[0]? = some (.int .u8 0) := by rw [← Array.getElem?_toList, toList_madeCells_one]; simp
  have HL := Lib.hid hl
  have HZ := Lib.hid hZ
  clear hl hZ
  go_enter Tryd.func23, Tryd.ntmps23
  go_wp2_with fail
  refine (putWord_at w.heap.size (1 + Z) (Z + 9 - (1 + Z)) (Z + 9 - (1 + Z)) ((n : Int) * 8 / 4294967296) (BitVec.ofNat 32 (n * 8 / 4294967296)) (by rw [BitVec.toNat_ofNat, Nat.mod_eq_of_lt (by omega)]; omega) 5 ((madeCells #[Value.int .u8 0] (Z + 9)).setIfInBounds 0 (.int .u8 128)) _ (Blk.new w _ _) (by rw [Array.size_setIfInBounds, size_madeCells]; omega) (by omega)).mono ?_
  rintro e w1 ⟨rfl, hb1, hg1⟩
  have H1 := Lib.hid hb1
  have HG := Lib.hid hg1
  clear hb1 hg1
  go_wp2_with fail
  refine (putWord_at w.heap.size (1 + Z + 4) (Z + 5 - (1 + Z)) (Z + 5 - (1 + Z)) ((n : Int) * 8 % 4294967296) (BitVec.ofNat 32 (n * 8)) (by rw [BitVec.toNat_ofNat]; omega) 5 _ w1 H1.out (by rw [List.size_toArray, put4_length _ _ _ (by rw [Array.length_toList, Array.size_setIfInBounds, size_madeCells]; omega), Array.length_toList, Array.size_setIfInBounds, size_madeCells]; omega) (by omega)).mono ?_
  rintro e w2 ⟨rfl, hb2, hg2⟩
  rw [pad_cells n Z hn HZ.out] at hb2
  have H2 := Lib.hid hb2
  have HG2 := Lib.hid hg2
  clear hb2 hg2
  go_wp2_with fail
  go_ret
  exact ⟨by rw [HL.out]; rfl, H2.out, below_only (below_only ((Below.refl _ _).alloc (Nat.le_refl _) _) HG.out (Nat.le_refl _) (by simp)) HG2.out (Nat.le_refl _) (Nat.le_trans (by simp) HG.out.size)⟩
end Go.Proofs.YtllbdeniigakkaaDoor.Sha
