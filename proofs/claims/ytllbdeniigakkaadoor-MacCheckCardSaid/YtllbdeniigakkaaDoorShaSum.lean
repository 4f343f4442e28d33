/-
  Proved: what Sum of a Hash, and Sum, of package sha return: the digest of the text CrcMath's sister ShaMath.
  Conditions: the block of the Hash is known whole; the slice reads as bytes; the tables sha.start and sha.rounds hold their words; the text has fewer than 2 to the 59th bytes.
-/
import Derived.Test.YtllbdeniigakkaaDoorShaWrite
import Derived.Test.YtllbdeniigakkaaDoorShaPad
import Derived.Test.YtllbdeniigakkaaDoorAgg2
namespace Go.Proofs.YtllbdeniigakkaaDoor.Sha
open Go.RowKit

theorem zero_hash_size : zeroCells.size = 73 := by kernel_rfl
theorem zero_hash_one : zeroCells.all (·.oneCell') = true := by simp [zeroCells, Value.oneCell']
theorem hashCells_one {st : List (BitVec 32)} {rest : List UInt8} (n : Nat) : (hashCells st rest n).toArray.all (·.oneCell') = true := by
  rw [Array.all_eq_true_iff_forall_mem]
  intro v hv
  rw [List.mem_toArray, hashCells, List.mem_append, List.mem_append] at hv
  rcases hv with hv | hv | hv
  · obtain ⟨x, _, rfl⟩ := List.mem_map.1 hv; rfl
  · obtain ⟨x, _, rfl⟩ := List.mem_map.1 hv; rfl
  · rw [List.mem_singleton] at hv; subst hv; rfl
theorem blk_src {w : World} {g k : Nat} {t : TypeId} {bs : List UInt8} {n : Nat} (h : Blk w g t (bvs bs).toArray) (hk : g ≠ k) (hn : bs.length = n) : Src w k (some ⟨g, 0, none⟩) n (bvs bs) := by
  refine ⟨by rw [bvs_length, hn], fun _ => ⟨g, 0, rfl, hk, blk_lt h, fun i v hv => ?_⟩⟩
  rw [Nat.zero_add, blk_cell h, hv]
theorem hash_done {w : World} {g : Nat} {bs : List UInt8} (h : HashAt w g (bs ++ pad bs.length)) :
    let s := stateOf (bs ++ pad bs.length)
    w.cell? ⟨g, 0, none⟩ = some (.int .u32 s.a.toNat) ∧ w.cell? ⟨g, 1, none⟩ = some (.int .u32 s.b.toNat) ∧ w.cell? ⟨g, 2, none⟩ = some (.int .u32 s.c.toNat) ∧ w.cell? ⟨g, 3, none⟩ = some (.int .u32 s.d.toNat) ∧
    w.cell? ⟨g, 4, none⟩ = some (.int .u32 s.e.toNat) ∧ w.cell? ⟨g, 5, none⟩ = some (.int .u32 s.f.toNat) ∧ w.cell? ⟨g, 6, none⟩ = some (.int .u32 s.g.toNat) ∧ w.cell? ⟨g, 7, none⟩ = some (.int .u32 s.h.toNat) := by
  obtain ⟨st, rest, h8, h64, hk, _, h2⟩ := h
  have hp := pad_whole bs.length
  have hl : 64 ≤ (bs ++ pad bs.length).length := by
    rw [List.length_append]
    have := pad_length bs.length
    omega
  have hst := h2 hl
  subst hst
  have c : ∀ i, i < 8 → w.cell? ⟨g, i, none⟩ = some (.int .u32 (((stateOf (bs ++ pad bs.length)).list.getD i 0).toNat : Int)) := fun i hi => (blk_cell hk i).trans (hash_state _ h8 i hi)
  exact ⟨c 0 (by omega), c 1 (by omega), c 2 (by omega), c 3 (by omega), c 4 (by omega), c 5 (by omega), c 6 (by omega), c 7 (by omega)⟩
/-- The cells of a new digest. -/
def zeroSum : Array Value := #[Value.int .u8 0, Value.int .u8 0, Value.int .u8 0, Value.int .u8 0, Value.int .u8 0, Value.int .u8 0, Value.int .u8 0, Value.int .u8 0, Value.int .u8 0, Value.int .u8 0, Value.int .u8 0, Value.int .u8 0, Value.int .u8 0, Value.int .u8 0, Value.int .u8 0, Value.int .u8 0, Value.int .u8 0, Value.int .u8 0, Value.int .u8 0, Value.int .u8 0, Value.int .u8 0, Value.int .u8 0, Value.int .u8 0, Value.int .u8 0, Value.int .u8 0, Value.int .u8 0, Value.int .u8 0, Value.int .u8 0, Value.int .u8 0, Value.int .u8 0, Value.int .u8 0, Value.int .u8 0]
theorem zero_sum (w : World) : (zeroValue 25).run Tryd.prog w = .ok (.agg zeroSum) w := by kernel_rfl
/-- The first k words of a digest, and noughts behind them. -/
def part (s : St) (k : Nat) : List Value := bvs ((s.list.take k).flatMap bytes32) ++ List.replicate (32 - 4 * k) (.int .u8 0)
theorem flat_length (l : List (BitVec 32)) : (l.flatMap bytes32).length = 4 * l.length := by
  induction l with
  | nil => rfl
  | cons x l ih => rw [List.flatMap_cons, List.length_append, ih, List.length_cons]; simp [bytes32]; omega
theorem part_length (s : St) (k : Nat) (hk : k ≤ 8) : (part s k).length = 32 := by
  rw [part, List.length_append, bvs_length, flat_length, List.length_take, St.list_length, List.length_replicate]
  omega
theorem part_put (s : St) (k : Nat) (hk : k < 8) : put4 (part s k) (4 * k) (s.list.getD k 0) = part s (k + 1) := by
  have e : List.replicate (32 - 4 * k) (Value.int .u8 0) = List.replicate 4 (.int .u8 0) ++ List.replicate (32 - 4 * (k + 1)) (.int .u8 0) := by
    rw [List.replicate_append_replicate]
    congr 1
    omega
  rw [part, e, put4_at _ _ _ _ _ (by rw [bvs_length, flat_length, List.length_take, St.list_length]; omega) (by simp), part, List.take_succ_eq_append_getElem (by rw [St.list_length]; exact hk), List.flatMap_append, ← bvs_append, List.append_assoc,
    List.getD_eq_getElem?_getD, List.getElem?_eq_getElem (by rw [St.list_length]; exact hk)]
  simp
theorem part_none (s : St) : (part s 0).toArray = zeroSum := by
  unfold part zeroSum
  rfl
theorem part_full (s : St) : part s 8 = bvs s.bytes := by
  rw [part, show 32 - 4 * 8 = 0 from rfl, List.replicate_zero, List.append_nil]
  rfl

set_option maxRecDepth 100000 in
set_option maxHeartbeats 1000000 in
theorem hsum_any (g : Nat) (bs : List UInt8) (w : World) (hT : Tables w) (hH : HashAt w g bs) (hl : bs.length < 576460752303423488) :
    Calls Tryd.prog 19 #[.pointer (some ⟨g, 0, none⟩)] w fun e w' => e = .returned (.agg (bvs (digest bs)).toArray) ∧ Below w.heap.size w w' := by
  obtain ⟨st, rest, h8, h64, hk, hr, hst⟩ := hH
  have hgw := blk_lt hk
  have hzero := zero_hash
  have hzero' := zero_sum
  have H8 := Lib.hid h8
  have H64 := Lib.hid h64
  have HK := Lib.hid hk
  have HR := Lib.hid hr
  have HST := Lib.hid hst
  have HT := Lib.hid hT
  have HGT := Lib.hid hT.2.2
  obtain ⟨cells, hcells⟩ : ∃ cells, cells = (hashCells st rest bs.length).toArray := ⟨_, rfl⟩
  have hcs : cells.size = 73 := by rw [hcells, List.size_toArray, hashCells_length _ h8 h64]
  have hc1 : cells.all (·.oneCell') = true := by rw [hcells]; exact hashCells_one _
  have HC := Lib.hid hcells
  have HCS := Lib.hid hcs
  have HC1 := Lib.hid hc1
  clear h8 h64 hk hr hst hT hcells hcs hc1
  have hK0 : Blk w g 48 cells := by rw [HC.out]; exact HK.out
  have HK0 := Lib.hid hK0
  clear hK0
  go_enter Tryd.func19, Tryd.ntmps19
  have hb2 : ∀ A B : Obj, Below w.heap.size w ((w.alloc A).alloc B) := fun A B => ((Below.refl _ _).alloc (Nat.le_refl _) _).alloc (by simp) _
  have HB2 := Lib.hid hb2
  clear hb2
  go_wp2_with (first
    | (refine wpList_load_row rfl 48 (.tmp 10) rfl g rfl 48 cells (0, 0) _ (((HB2.out _ _).block g hgw).trans HK0.out) Tryd.underlying48 rfl (by rw [HCS.out]; kernel_rfl) ?_)
    | (refine wpList_store_blk rfl 48 (.tmp 3) (.tmp 11) rfl (w.heap.size + 1) cells rfl rfl 48 zeroCells (heap_alloc2_new _ _ _) (by rw [HCS.out]; kernel_rfl) (by rw [HCS.out]; exact zero_hash_size) HC1.out ?_
       intro w1 G1 G2
       have hh1 : HashAt w1 (w.heap.size + 1) bs := ⟨st, rest, H8.out, H64.out, by rw [← HC.out]; exact G1.out, HR.out, HST.out⟩
       have f72 : w1.cell? ⟨w.heap.size + 1, 72, none⟩ = some (.int .u64 (bs.length : Int)) := by
         have h := G1.out
         rw [HC.out] at h
         exact (blk_cell h 72).trans (hash_length _ H8.out H64.out)
       have hs1 : Blk w1 w.heap.size 25 zeroSum := ((only_hid (row := some (w.heap.size + 1)) G2).block w.heap.size (by simp; omega) (by intro e; injection e; omega)).trans (heap_alloc2_old _ _ _)
       have hb1 : Below w.heap.size w w1 := below_only (HB2.out _ _) (only_hid G2) (by omega) (by simp; omega)
       have hz1 : w.heap.size + 1 < w1.heap.size := blk_lt G1.out
       have HH1 := Lib.hid hh1
       have HS1 := Lib.hid hs1
       have HB1 := Lib.hid hb1
       clear hh1 hs1 hb1 G1 G2))
  refine (padding_any bs.length w1 (by omega)).mono ?_
  rintro e w2 ⟨rfl, hp2, hb2⟩
  have HP2 := Lib.hid hp2
  have HB2 := Lib.hid hb2
  clear hp2 hb2
  go_wp2_with fail
  have hw := write_any (w.heap.size + 1) bs (some ⟨w1.heap.size, 0, none⟩) (pad bs.length).length (pad bs.length).length (pad bs.length) w2 ((HT.out.all HB1.out).all HB2.out) ⟨Nat.lt_succ_of_lt HGT.out.1, Nat.lt_succ_of_lt HGT.out.2⟩ (HH1.out.below HB2.out hz1)
    (blk_src HP2.out (by omega) rfl) (Nat.le_refl _) (by have := noughts_lt bs.length; rw [pad_length]; unfold maxLen; omega) (by have := noughts_lt bs.length; rw [pad_length]; omega)
  refine hw.mono ?_
  rintro e w3 ⟨rfl, hh3, hg3⟩
  have HH3 := Lib.hid hh3
  have hs3 : Blk w3 w.heap.size 25 zeroSum := (hg3.block w.heap.size (Nat.lt_of_lt_of_le (by omega) HB2.out.size) (by intro e; injection e; omega)).trans ((HB2.out.block w.heap.size (by omega)).trans HS1.out)
  have hb3 : Below w.heap.size w w3 := below_only (HB1.out.trans (HB2.out.mono HB1.out.size)) hg3 (by omega) (Nat.le_trans HB1.out.size HB2.out.size)
  have hz3 : w.heap.size + 1 < w3.heap.size := blk_lt (hh3.choose_spec.choose_spec.2.2.1)
  obtain ⟨c0, c1, c2, c3, c4, c5, c6, c7⟩ := hash_done hh3
  obtain ⟨S, hS⟩ : ∃ S, S = stateOf (bs ++ pad bs.length) := ⟨_, rfl⟩
  rw [← hS] at c0 c1 c2 c3 c4 c5 c6 c7
  have HSS := Lib.hid hS
  have HS3 := Lib.hid hs3
  have HB3 := Lib.hid hb3
  clear hh3 hg3 hs3 hb3 hS hw
  go_wp2_with fail
  clear c0 c1 c2 c3 c4 c5 c6 c7
  go_loopw [18] (fun i wr => ∃ k : Nat, k ≤ 8 ∧ i = .int .i64 k ∧ Hid (Blk wr w3.heap.size 25 (part S k).toArray ∧ Blk wr w.heap.size 25 zeroSum ∧ Below w.heap.size w wr)) (fun i _ => 8 - (intOf i).toNat)
  case atStart => exact ⟨0, by omega, rfl, by rw [part_none]; exact heap_alloc_new _ _, (Below.heap_alloc w3 _ _ (by omega)).trans HS3.out, HB3.out.alloc HB3.out.size _⟩
  case round =>
    obtain ⟨k, hk, rfl, HI⟩ := hrel
    by_cases hlt : k < 8
    · obtain ⟨x, HX⟩ : ∃ x, Hid (x = S.list.getD k 0) := ⟨_, rfl⟩
      have hix : ∀ w : World, (Instr.index 44 (.agg #[.int .u32 S.a.toNat, .int .u32 S.b.toNat, .int .u32 S.c.toNat, .int .u32 S.d.toNat, .int .u32 S.e.toNat, .int .u32 S.f.toNat, .int .u32 S.g.toNat, .int .u32 S.h.toNat]) (.int .i64 (k : Int))).run Tryd.prog w = .ok (.int .u32 (x.toNat : Int)) w := fun w =>
        run_index_agg Tryd.underlying44 Tryd.underlying42 (by kernel_rfl) _ k _ hlt (by rw [HX.out]; show (uvs S.list).toArray[k]? = _; rw [List.getElem?_toArray]; exact (uvs_get (l := S.list) hlt)) .i64 w
      have hsl : ∀ w : World, (Instr.sliceAt 25 (.pointer (some ⟨w3.heap.size, 0, none⟩)) (some (.int .i64 ((4 : Int) * (k : Int)))) none none).run Tryd.prog w = .ok (.slice (some ⟨w3.heap.size, 4 * k, none⟩) (32 - 4 * k) (32 - 4 * k)) w := fun w => by
        have := run_sliceAt_arr (P := Tryd.prog) Tryd.underlying25 (by kernel_rfl) w3.heap.size 0 (4 * k) (by omega) ((4 : Int) * (k : Int)) (by omega) w
        rwa [Nat.zero_add] at this
      go_wp2_with fail
      refine (putWord_any w3.heap.size (4 * k) (32 - 4 * k) (32 - 4 * k) x 25 _ wr HI.out.1 (by rw [List.size_toArray, part_length _ _ hk]; omega) (by omega)).mono ?_
      rintro e w4 ⟨rfl, hb4, hg4⟩
      have HB4 := Lib.hid hb4
      have HG4 := Lib.hid hg4
      clear hb4 hg4
      go_wp2_with fail
      go_roundw
      case rel =>
        obtain ⟨i1, i2, i3⟩ := HI.out
        refine ⟨k + 1, by omega, by go_num, ?_, ?_, below_only i3 HG4.out (by omega) i3.size⟩
        · have := HB4.out
          rw [HX.out] at this
          rw [← part_put S k hlt]
          exact this
        · exact (HG4.out.block w.heap.size (blk_lt i2) (by intro e; injection e; omega)).trans i2
      case measure => simp [intOf]; omega
    · obtain rfl : k = 8 := by omega
      obtain ⟨i1, i2, i3⟩ := HI.out
      rw [part_full] at i1
      have HI1 := Lib.hid i1
      have HI2 := Lib.hid i2
      have HI3 := Lib.hid i3
      obtain ⟨res, hres⟩ : ∃ res, res = (bvs S.bytes).toArray := ⟨_, rfl⟩
      have hr32 : res.size = 32 := by rw [hres, List.size_toArray, bvs_length]; rfl
      have hr1 : res.all (·.oneCell') = true := by
        rw [hres, Array.all_eq_true_iff_forall_mem]
        intro v hv
        exact bvs_one _ v (by simpa using hv)
      have hd : res = (bvs (digest bs)).toArray := by rw [hres, HSS.out]; rfl
      have HRES := Lib.hid hres
      have HR32 := Lib.hid hr32
      have HR1 := Lib.hid hr1
      have HD := Lib.hid hd
      clear HI i1 i2 i3 hres hr32 hr1 hd
      go_wp2_with (first
        | (refine wpList_load_row rfl 25 (.tmp 4) rfl w3.heap.size rfl 25 res (0, 0) _ (by rw [HRES.out]; exact HI1.out) Tryd.underlying25 rfl (by rw [HR32.out]; kernel_rfl) ?_)
        | (refine wpList_store_blk rfl 25 (.tmp 2) (.tmp 28) rfl w.heap.size res rfl rfl 25 zeroSum HI2.out (by rw [HR32.out]; kernel_rfl) (by rw [HR32.out]; rfl) HR1.out ?_
           intro w5 G5 G6))
      refine bodyPost_ret (v := .agg res) (results_cell_row rfl _ _ w.heap.size 25 _ (0, 0) _ rfl G5.out Tryd.underlying25 rfl (by rw [HR32.out]; kernel_rfl)) rfl ?_
      exact ⟨by rw [HD.out], below_only HI3.out (only_hid G6) (Nat.le_refl _) HI3.out.size⟩
set_option maxRecDepth 100000 in
set_option maxHeartbeats 1000000 in
theorem hsum_nil (w : World) (hT : Tables w) :
    Calls Tryd.prog 19 #[.pointer none] w fun e w' => e = .returned (.agg (bvs (digest [])).toArray) ∧ Below w.heap.size w w' := by
  have hzero := zero_hash
  have hzero' := zero_sum
  have hz72 : zeroCells[72]? = some (.int .u64 0) := by kernel_rfl
  have HT := Lib.hid hT
  have HGT := Lib.hid hT.2.2
  have HH1 : Hid (HashAt ((w.alloc (.cells zeroSum 25)).alloc (.cells zeroCells 48)) (w.heap.size + 1) []) := by
    have h := hash_new (w.alloc (.cells zeroSum 25))
    show HashAt _ _ _
    simpa using h
  have HS1 : Hid (Blk ((w.alloc (.cells zeroSum 25)).alloc (.cells zeroCells 48)) w.heap.size 25 zeroSum) := heap_alloc2_old _ _ _
  have HB1 : Hid (Below w.heap.size w ((w.alloc (.cells zeroSum 25)).alloc (.cells zeroCells 48))) := ((Below.refl _ _).alloc (Nat.le_refl _) _).alloc (by simp) _
  have hz1 : w.heap.size + 1 < ((w.alloc (.cells zeroSum 25)).alloc (.cells zeroCells 48)).heap.size := by simp
  have HZ1 := Lib.hid hz1
  clear hT hz1
  go_enter Tryd.func19, Tryd.ntmps19
  go_wp2_with fail
  generalize (w.alloc (Obj.cells zeroSum 25)).alloc (Obj.cells zeroCells 48) = w1 at *
  have hz1 := HZ1.out
  refine (padding_any 0 w1 (by omega)).mono ?_
  rintro e w2 ⟨rfl, hp2, hb2⟩
  have HP2 := Lib.hid hp2
  have HB2 := Lib.hid hb2
  clear hp2 hb2
  go_wp2_with fail
  have hw := write_any (w.heap.size + 1) [] (some ⟨w1.heap.size, 0, none⟩) (pad ([] : List UInt8).length).length (pad ([] : List UInt8).length).length (pad ([] : List UInt8).length) w2 ((HT.out.all HB1.out).all HB2.out) ⟨Nat.lt_succ_of_lt HGT.out.1, Nat.lt_succ_of_lt HGT.out.2⟩ (HH1.out.below HB2.out hz1)
    (blk_src HP2.out (by omega) rfl) (Nat.le_refl _) (by have := noughts_lt 0; rw [List.length_nil, pad_length]; unfold maxLen; omega) (by have := noughts_lt 0; rw [List.length_nil, pad_length]; omega)
  refine hw.mono ?_
  rintro e w3 ⟨rfl, hh3, hg3⟩
  have HH3 := Lib.hid hh3
  have hs3 : Blk w3 w.heap.size 25 zeroSum := (hg3.block w.heap.size (Nat.lt_of_lt_of_le (by omega) HB2.out.size) (by intro e; injection e; omega)).trans ((HB2.out.block w.heap.size (by omega)).trans HS1.out)
  have hb3 : Below w.heap.size w w3 := below_only (HB1.out.trans (HB2.out.mono HB1.out.size)) hg3 (by omega) (Nat.le_trans HB1.out.size HB2.out.size)
  have hz3 : w.heap.size + 1 < w3.heap.size := blk_lt (hh3.choose_spec.choose_spec.2.2.1)
  obtain ⟨c0, c1, c2, c3, c4, c5, c6, c7⟩ := hash_done (bs := []) hh3
  obtain ⟨S, hS⟩ : ∃ S, S = stateOf (([] : List UInt8) ++ pad ([] : List UInt8).length) := ⟨_, rfl⟩
  rw [← hS] at c0 c1 c2 c3 c4 c5 c6 c7
  have HSS := Lib.hid hS
  have HS3 := Lib.hid hs3
  have HB3 := Lib.hid hb3
  clear hh3 hg3 hs3 hb3 hS hw
  go_wp2_with fail
  clear c0 c1 c2 c3 c4 c5 c6 c7
  go_loopw [18] (fun i wr => ∃ k : Nat, k ≤ 8 ∧ i = .int .i64 k ∧ Hid (Blk wr w3.heap.size 25 (part S k).toArray ∧ Blk wr w.heap.size 25 zeroSum ∧ Below w.heap.size w wr)) (fun i _ => 8 - (intOf i).toNat)
  case atStart => exact ⟨0, by omega, rfl, by rw [part_none]; exact heap_alloc_new _ _, (Below.heap_alloc w3 _ _ (by omega)).trans HS3.out, HB3.out.alloc HB3.out.size _⟩
  case round =>
    obtain ⟨k, hk, rfl, HI⟩ := hrel
    by_cases hlt : k < 8
    · obtain ⟨x, HX⟩ : ∃ x, Hid (x = S.list.getD k 0) := ⟨_, rfl⟩
      have hix : ∀ w : World, (Instr.index 44 (.agg #[.int .u32 S.a.toNat, .int .u32 S.b.toNat, .int .u32 S.c.toNat, .int .u32 S.d.toNat, .int .u32 S.e.toNat, .int .u32 S.f.toNat, .int .u32 S.g.toNat, .int .u32 S.h.toNat]) (.int .i64 (k : Int))).run Tryd.prog w = .ok (.int .u32 (x.toNat : Int)) w := fun w =>
        run_index_agg Tryd.underlying44 Tryd.underlying42 (by kernel_rfl) _ k _ hlt (by rw [HX.out]; show (uvs S.list).toArray[k]? = _; rw [List.getElem?_toArray]; exact (uvs_get (l := S.list) hlt)) .i64 w
      have hsl : ∀ w : World, (Instr.sliceAt 25 (.pointer (some ⟨w3.heap.size, 0, none⟩)) (some (.int .i64 ((4 : Int) * (k : Int)))) none none).run Tryd.prog w = .ok (.slice (some ⟨w3.heap.size, 4 * k, none⟩) (32 - 4 * k) (32 - 4 * k)) w := fun w => by
        have := run_sliceAt_arr (P := Tryd.prog) Tryd.underlying25 (by kernel_rfl) w3.heap.size 0 (4 * k) (by omega) ((4 : Int) * (k : Int)) (by omega) w
        rwa [Nat.zero_add] at this
      go_wp2_with fail
      refine (putWord_any w3.heap.size (4 * k) (32 - 4 * k) (32 - 4 * k) x 25 _ wr HI.out.1 (by rw [List.size_toArray, part_length _ _ hk]; omega) (by omega)).mono ?_
      rintro e w4 ⟨rfl, hb4, hg4⟩
      have HB4 := Lib.hid hb4
      have HG4 := Lib.hid hg4
      clear hb4 hg4
      go_wp2_with fail
      go_roundw
      case rel =>
        obtain ⟨i1, i2, i3⟩ := HI.out
        refine ⟨k + 1, by omega, by go_num, ?_, ?_, below_only i3 HG4.out (by omega) i3.size⟩
        · have := HB4.out
          rw [HX.out] at this
          rw [← part_put S k hlt]
          exact this
        · exact (HG4.out.block w.heap.size (blk_lt i2) (by intro e; injection e; omega)).trans i2
      case measure => simp [intOf]; omega
    · obtain rfl : k = 8 := by omega
      obtain ⟨i1, i2, i3⟩ := HI.out
      rw [part_full] at i1
      have HI1 := Lib.hid i1
      have HI2 := Lib.hid i2
      have HI3 := Lib.hid i3
      obtain ⟨res, hres⟩ : ∃ res, res = (bvs S.bytes).toArray := ⟨_, rfl⟩
      have hr32 : res.size = 32 := by rw [hres, List.size_toArray, bvs_length]; rfl
      have hr1 : res.all (·.oneCell') = true := by
        rw [hres, Array.all_eq_true_iff_forall_mem]
        intro v hv
        exact bvs_one _ v (by simpa using hv)
      have hd : res = (bvs (digest [])).toArray := by rw [hres, HSS.out]; rfl
      have HRES := Lib.hid hres
      have HR32 := Lib.hid hr32
      have HR1 := Lib.hid hr1
      have HD := Lib.hid hd
      clear HI i1 i2 i3 hres hr32 hr1 hd
      go_wp2_with (first
        | (refine wpList_load_row rfl 25 (.tmp 4) rfl w3.heap.size rfl 25 res (0, 0) _ (by rw [HRES.out]; exact HI1.out) Tryd.underlying25 rfl (by rw [HR32.out]; kernel_rfl) ?_)
        | (refine wpList_store_blk rfl 25 (.tmp 2) (.tmp 28) rfl w.heap.size res rfl rfl 25 zeroSum HI2.out (by rw [HR32.out]; kernel_rfl) (by rw [HR32.out]; rfl) HR1.out ?_
           intro w5 G5 G6))
      refine bodyPost_ret (v := .agg res) (results_cell_row rfl _ _ w.heap.size 25 _ (0, 0) _ rfl G5.out Tryd.underlying25 rfl (by rw [HR32.out]; kernel_rfl)) rfl ?_
      exact ⟨by rw [HD.out], below_only HI3.out (only_hid G6) (Nat.le_refl _) HI3.out.size⟩

/-- Sum of package sha. -/
theorem sum_any (A : Option Addr) (n c : Nat) (bs : List UInt8) (w : World) (hT : Tables w) (hR : Row w w.heap.size A n (bvs bs)) (hn : n ≤ c) (hc : c ≤ maxLen) (hl : n < 576460752303423488) :
    Calls Tryd.prog 16 #[.slice A n c] w fun e w' => e = .returned (.agg (bvs (digest bs)).toArray) ∧ Below w.heap.size w w' := by
  have hzero := zero_hash
  have hzero' := zero_sum
  have hlen := hR.size
  have HL := Lib.hid hlen
  have HT := Lib.hid hT
  have HGT := Lib.hid hT.2.2
  have HH1 : Hid (HashAt ((w.alloc (.cells zeroSum 25)).alloc (.cells zeroCells 48)) (w.heap.size + 1) []) := by
    have h := hash_new (w.alloc (.cells zeroSum 25))
    show HashAt _ _ _
    simpa using h
  have HS1 : Hid (Blk ((w.alloc (.cells zeroSum 25)).alloc (.cells zeroCells 48)) w.heap.size 25 zeroSum) := heap_alloc2_old _ _ _
  have HB1 : Hid (Below w.heap.size w ((w.alloc (.cells zeroSum 25)).alloc (.cells zeroCells 48))) := ((Below.refl _ _).alloc (Nat.le_refl _) _).alloc (by simp) _
  have HZ1 : Hid (((w.alloc (.cells zeroSum 25)).alloc (.cells zeroCells 48)).heap.size = w.heap.size + 1 + 1) := by show _ = _; simp
  have HR := Lib.hid hR
  have HC := Lib.hid hc
  clear hT hlen hR hc
  go_enter Tryd.func16, Tryd.ntmps16
  go_wp2_with fail
  generalize (w.alloc (Obj.cells zeroSum 25)).alloc (Obj.cells zeroCells 48) = w1 at *
  have hz1 := HZ1.out
  refine (write_any (w.heap.size + 1) [] A n c bs w1 (HT.out.all HB1.out) ⟨by have := HGT.out.1; omega, by have := HGT.out.2; omega⟩ HH1.out ((HR.out.below HB1.out).src (by omega) (by omega)) hn HC.out (by rw [List.length_nil]; omega)).mono ?_
  rintro e w2 ⟨rfl, hh2, hg2⟩
  rw [List.nil_append] at hh2
  have hs2 : Blk w2 w.heap.size 25 zeroSum := (hg2.block w.heap.size (by omega) (by intro e; injection e; omega)).trans HS1.out
  have hb2 : Below w.heap.size w w2 := below_only HB1.out hg2 (by omega) (by omega)
  have hz2 := hg2.size
  have HH2 := Lib.hid hh2
  have HS2 := Lib.hid hs2
  have HB2 := Lib.hid hb2
  clear hh2 hs2 hb2 hg2 hz1
  go_wp2_with fail
  refine (hsum_any (w.heap.size + 1) bs w2 (HT.out.all HB2.out) HH2.out (by rw [HL.out]; exact hl)).mono ?_
  rintro e w3 ⟨rfl, hb3⟩
  have HB3 := Lib.hid hb3
  have hs3 : Blk w3 w.heap.size 25 zeroSum := (hb3.block w.heap.size (blk_lt HS2.out)).trans HS2.out
  have HS3 := Lib.hid hs3
  clear hb3 hs3
  obtain ⟨res, hres⟩ : ∃ res, res = (bvs (digest bs)).toArray := ⟨_, rfl⟩
  have hr32 : res.size = 32 := by rw [hres, List.size_toArray, bvs_length]; rfl
  have hr1 : res.all (·.oneCell') = true := by
    rw [hres, Array.all_eq_true_iff_forall_mem]
    intro v hv
    exact bvs_one _ v (by simpa using hv)
  rw [← hres]
  have HRES := Lib.hid hres
  have HR32 := Lib.hid hr32
  have HR1 := Lib.hid hr1
  clear hres hr32 hr1
  go_wp2_with (refine wpList_store_blk rfl 25 (.tmp 2) (.tmp 6) rfl w.heap.size res rfl rfl 25 zeroSum HS3.out (by rw [HR32.out]; kernel_rfl) (by rw [HR32.out]; rfl) HR1.out ?_; intro w5 G5 G6)
  refine bodyPost_ret (v := .agg res) (results_cell_row rfl _ _ w.heap.size 25 _ (0, 0) _ rfl G5.out Tryd.underlying25 rfl (by rw [HR32.out]; kernel_rfl)) rfl ?_
  have hb5 := HB2.out.trans (HB3.out.mono HB2.out.size)
  exact ⟨by rw [HRES.out], below_only hb5 (only_hid G6) (Nat.le_refl _) hb5.size⟩
end Go.Proofs.YtllbdeniigakkaaDoor.Sha
