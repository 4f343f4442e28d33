/-
  Proved: what Write of a Hash of package sha does: the Hash is one of the longer text, and nothing else has turned.
  Conditions: the block of the Hash is known whole; the slice reads as bytes that lie elsewhere; the tables sha.start and sha.rounds hold their words; the text has fewer than 2 to the 60th bytes.
-/
import Derived.Test.YtllbdeniigakkaaDoorShaHash
import Derived.Test.YtllbdeniigakkaaDoorOwn
import Derived.StillTailTactics
import Derived.Lib.MinMax
namespace Go.Proofs.YtllbdeniigakkaaDoor.Sha
open Go.RowKit

theorem hash_splice (st : List (BitVec 32)) (rest ys : List UInt8) (N f : Nat) (h8 : st.length = 8) (hf : f + ys.length ≤ rest.length) :
    splice (hashCells st rest N) (8 + f) (bvs ys) = hashCells st (splice rest f ys) N := by
  have hu : (uvs st).length = 8 := by rw [uvs_length, h8]
  unfold splice hashCells
  rw [List.take_append, hu, List.take_of_length_le (by omega), List.take_append_of_le_length (by rw [bvs_length]; omega), List.drop_append, List.drop_eq_nil_of_le (by omega), hu, List.nil_append, bvs_length,
    List.drop_append_of_le_length (by rw [bvs_length]; omega), bvs_take, bvs_drop, show 8 + f - 8 = f by omega, show 8 + f + ys.length - 8 = f + ys.length by omega]
  simp [bvs]
theorem hash_put_len (st : List (BitVec 32)) (rest : List UInt8) (n m : Nat) (h8 : st.length = 8) (h64 : rest.length = 64) (v : Value) (hv : v = .int .u64 (m : Int)) :
    (hashCells st rest n).toArray.setIfInBounds 72 v = (hashCells st rest m).toArray := by
  subst hv
  apply Array.ext'
  rw [Array.toList_setIfInBounds]
  show (uvs st ++ (bvs rest ++ [_])).set 72 _ = uvs st ++ (bvs rest ++ [_])
  rw [List.set_append_right _ _ (by rw [uvs_length]; omega), uvs_length, List.set_append_right _ _ (by rw [bvs_length]; omega), bvs_length, h8, h64]
  rfl
theorem hash_put_state (st st' : List (BitVec 32)) (rest : List UInt8) (N : Nat) (h8 : st.length = 8) (h8' : st'.length = 8) : splice (hashCells st rest N) 0 (uvs st') = hashCells st' rest N := by
  unfold splice hashCells
  rw [List.take_zero, List.nil_append, uvs_length, h8', Nat.zero_add, List.drop_append_of_le_length (by rw [uvs_length]; omega), List.drop_eq_nil_of_le (by rw [uvs_length]; omega), List.nil_append]
theorem splice_length (l ys : List UInt8) (f : Nat) (h : f + ys.length ≤ l.length) : (splice l f ys).length = l.length := length_splice l f ys h
theorem rest_row {w : World} {g : Nat} {st : List (BitVec 32)} {rest : List UInt8} {N : Nat} {t : TypeId} (h : Blk w g t (hashCells st rest N).toArray) (h8 : st.length = 8) (h64 : rest.length = 64) :
    Row w w.heap.size (some ⟨g, 8, none⟩) 64 (bvs rest) := by
  refine ⟨by rw [bvs_length, h64], fun _ => ⟨g, 8, rfl, blk_lt h, fun i v hv => ?_⟩⟩
  have hi : i < 64 := by
    have := (List.getElem?_eq_some_iff.1 hv).1
    rwa [bvs_length, h64] at this
  rw [blk_cell h, hash_rest N h8 h64 i hi, ← hv, bvs, List.getElem?_map, List.getD_eq_getElem?_getD, List.getElem?_eq_getElem (by omega)]
  rfl

theorem mix_at (s : St) (A : Option Addr) (n c : Nat) (bs : List UInt8) (B : Nat) (w : World) (hT : Tables w) (hR : Row w B A n (bvs bs)) (hn : 64 ≤ n) (hB : B ≤ w.heap.size) (hc : n ≤ c) (hm : c ≤ maxLen) :
    Calls Tryd.prog 22 #[.agg #[.int .u32 s.a.toNat, .int .u32 s.b.toNat, .int .u32 s.c.toNat, .int .u32 s.d.toNat, .int .u32 s.e.toNat, .int .u32 s.f.toNat, .int .u32 s.g.toNat, .int .u32 s.h.toNat], .slice A n c] w
      fun e w' => e = .returned (.agg (uvs (block s bs).list).toArray) ∧ Below w.heap.size w w' := mix_any s A n c bs B w hT hR hn hB hc hm
/-- What holds at the head of the loop of Write: k bytes have been mixed in. -/
def Mid (w wr : World) (g T : Nat) (bs xs : List UInt8) (n k : Nat) (A : Option Addr) : Prop :=
  k ≤ n ∧ (bs.length + k) % 64 = 0 ∧ w.heap.size ≤ T ∧ Src w g A (n - k) (bvs (xs.drop k)) ∧ w.grownBy wr (some g) ∧ Blk wr T 44 (uvs (stateOf (bs ++ xs.take k)).list).toArray ∧
    ∃ st rest, st.length = 8 ∧ rest.length = 64 ∧ Blk wr g 48 (hashCells st rest (bs.length + n)).toArray
theorem mid_next {w wr w3 w4 : World} {g T : Nat} {bs xs : List UInt8} {n k : Nat} {A A' : Option Addr} (hg : g < w.heap.size) (i2 : (bs.length + k) % 64 = 0) (i3 : w.heap.size ≤ T) (hk : k + 64 ≤ n)
    (i4 : Src w g A (n - k) (bvs (xs.drop k))) (i5 : w.grownBy wr (some g)) (i7 : ∃ st rest, st.length = 8 ∧ rest.length = 64 ∧ Blk wr g 48 (hashCells st rest (bs.length + n)).toArray)
    (hb : Below wr.drew.heap.size wr.drew w3) (h4 : Blk w4 T 44 (uvs (block (stateOf (bs ++ xs.take k)) ((xs.drop k).take 64)).list).toArray) (hw : w3.grownBy w4 (some T))
    (hs : Src w g A' (n - (k + 64)) (bvs (xs.drop (k + 64)))) : Mid w w4 g T bs xs n (k + 64) A' := by
  have hx : xs.length - k = n - k := by have := i4.1; rwa [bvs_length, List.length_drop] at this
  have hgr : g < wr.heap.size := Nat.lt_of_lt_of_le hg i5.size
  have hkeep : w4.heap[g]? = wr.heap[g]? := (hw.block g (Nat.lt_of_lt_of_le hgr hb.size) (by intro e; injection e; omega)).trans (hb.block g hgr)
  refine ⟨hk, by omega, i3, hs, only_new (only_below (only_drewN i5 1) (hb.mono i5.size)) i3 hw, ?_, ?_⟩
  · have e : bs ++ xs.take (k + 64) = (bs ++ xs.take k) ++ (xs.drop k).take 64 := by rw [List.take_add, List.append_assoc]
    rw [e, stateOf_block _ _ (by rw [List.length_append, List.length_take]; omega) (by rw [List.length_take, List.length_drop]; omega)]
    exact h4
  · obtain ⟨st, rest, h8, h64, hb⟩ := i7
    exact ⟨st, rest, h8, h64, hkeep.trans hb⟩
theorem hash_end {w : World} {g : Nat} {bs xs : List UInt8} {n k : Nat} {st : List (BitVec 32)} {rest : List UInt8} (h2 : (bs.length + k) % 64 = 0) (hx : (xs.drop k).length = n - k) (hk : k ≤ n ∧ n - k < 64) (h8 : st.length = 8) (h64 : rest.length = 64)
    (h : Blk w g 48 (splice (hashCells st (splice rest 0 (xs.drop k)) (bs.length + n)) 0 (uvs (stateOf (bs ++ xs.take k)).list).toArray.toList).toArray) (hn : xs.length = n) : HashAt w g (bs ++ xs) := by
  have hl : (bs ++ xs).length = bs.length + n := by rw [List.length_append, hn]
  have hr : (splice rest 0 (xs.drop k)).length = 64 := by rw [splice_length _ _ _ (by omega)]; exact h64
  refine ⟨(stateOf (bs ++ xs.take k)).list, splice rest 0 (xs.drop k), rfl, hr, ?_, ?_, fun _ => ?_⟩
  · rw [hl]
    have e := hash_put_state st (stateOf (bs ++ xs.take k)).list (splice rest 0 (xs.drop k)) (bs.length + n) h8 rfl
    rw [← e]
    exact h
  · rw [hl, show (bs.length + n) % 64 = n - k by omega, show 64 * ((bs.length + n) / 64) = bs.length + k by omega]
    rw [show (bs ++ xs).drop (bs.length + k) = xs.drop k by simp [List.drop_append]]
    unfold splice
    rw [List.take_zero, List.nil_append, List.take_append_of_le_length (by omega), List.take_of_length_le (by omega)]
  · have e : bs ++ xs = (bs ++ xs.take k) ++ xs.drop k := by rw [List.append_assoc, List.take_append_drop]
    rw [e, stateOf_same (bs ++ xs.take k) (xs.drop k) (by rw [List.length_append, List.length_take]; omega)]
/-- What is written fills no block. -/
theorem hash_front {w : World} {g : Nat} {bs xs : List UInt8} {n L F : Nat} {st : List (BitVec 32)} {rest : List UInt8} (h8 : st.length = 8) (h64 : rest.length = 64) (hx : xs.length = n) (hL : L = bs.length) (hF : F = L % 64) (hf : F + n < 64)
    (hr : rest.take F = bs.drop (64 * (L / 64))) (hst : 64 ≤ L → st = (stateOf bs).list) (h : Blk w g 48 (splice (hashCells st rest (L + n)) (8 + F) (bvs xs)).toArray) : HashAt w g (bs ++ xs) := by
  subst hL
  have hl : (bs ++ xs).length = bs.length + n := by rw [List.length_append, hx]
  rw [hash_splice st rest xs _ F h8 (by omega)] at h
  refine ⟨st, splice rest F xs, h8, by rw [splice_length _ _ _ (by omega)]; exact h64, ?_, ?_, fun hh => ?_⟩
  · rw [hl]; exact h
  · rw [hl, show (bs.length + n) % 64 = F + n by omega, show (bs.length + n) / 64 = bs.length / 64 by omega, List.drop_append_of_le_length (by omega), ← hr]
    unfold splice
    have h1 : (rest.take F).length = F := by rw [List.length_take]; omega
    rw [← List.append_assoc, List.take_append_of_le_length (by rw [List.length_append]; omega), List.take_of_length_le (by rw [List.length_append]; omega)]
  · rw [hl] at hh
    rw [hst (by omega), stateOf_same bs xs (by omega)]
theorem mid_first {w w5 w6 w7 : World} {g T : Nat} {bs xs : List UInt8} {n L F : Nat} {A' : Option Addr} (hg : g < w.heap.size) (hL : L = bs.length) (hF : F = L % 64) (h0 : 0 < F) (i3 : w.heap.size ≤ T) (hk : 64 - F ≤ n) (hx : xs.length = n)
    (i5 : w.grownBy w5 (some g)) (i7 : ∃ st rest, st.length = 8 ∧ rest.length = 64 ∧ Blk w5 g 48 (hashCells st rest (L + n)).toArray)
    (hb : Below w5.drew.heap.size w5.drew w6) (h4 : Blk w7 T 44 (uvs (block (stateOf bs) (bs.drop (64 * (L / 64)) ++ xs.take (64 - F))).list).toArray) (hw : w6.grownBy w7 (some T))
    (hs : Src w g A' (n - (64 - F)) (bvs (xs.drop (64 - F)))) : Mid w w7 g T bs xs n (64 - F) A' := by
  subst hL
  have hgr : g < w5.heap.size := Nat.lt_of_lt_of_le hg i5.size
  have hkeep : w7.heap[g]? = w5.heap[g]? := (hw.block g (Nat.lt_of_lt_of_le hgr hb.size) (by intro e; injection e; omega)).trans (hb.block g hgr)
  refine ⟨hk, by omega, i3, hs, only_new (only_below (only_drewN i5 1) (hb.mono i5.size)) i3 hw, ?_, ?_⟩
  · rw [stateOf_fill bs (xs.take (64 - F)) (by rw [List.length_take]; omega)]
    exact h4
  · obtain ⟨st, rest, h8, h64, hb⟩ := i7
    exact ⟨st, rest, h8, h64, hkeep.trans hb⟩
theorem blk_state {w : World} {T : Nat} {t : TypeId} {s : St} (h : Blk w T t (uvs s.list).toArray) :
    w.cell? ⟨T, 0, none⟩ = some (.int .u32 s.a.toNat) ∧ w.cell? ⟨T, 1, none⟩ = some (.int .u32 s.b.toNat) ∧ w.cell? ⟨T, 2, none⟩ = some (.int .u32 s.c.toNat) ∧ w.cell? ⟨T, 3, none⟩ = some (.int .u32 s.d.toNat) ∧
    w.cell? ⟨T, 4, none⟩ = some (.int .u32 s.e.toNat) ∧ w.cell? ⟨T, 5, none⟩ = some (.int .u32 s.f.toNat) ∧ w.cell? ⟨T, 6, none⟩ = some (.int .u32 s.g.toNat) ∧ w.cell? ⟨T, 7, none⟩ = some (.int .u32 s.h.toNat) :=
  ⟨h.cell 0, h.cell 1, h.cell 2, h.cell 3, h.cell 4, h.cell 5, h.cell 6, h.cell 7⟩

set_option maxRecDepth 100000 in
set_option maxHeartbeats 1000000 in
theorem write_short (g : Nat) (bs : List UInt8) (A : Option Addr) (n c : Nat) (xs : List UInt8) (w : World) (hT : Tables w) (hG : 1 < g ∧ 0 < g) (hH : HashAt w g bs) (hS : Src w g A n (bvs xs)) (hn : n ≤ c) (hc : c ≤ maxLen)
    (hl : bs.length + n < 1152921504606846976) (hc0 : 0 < bs.length % 64 ∧ bs.length % 64 + n < 64) :
    Calls Tryd.prog 18 #[.pointer (some ⟨g, 0, none⟩), .slice A n c] w fun e w' => e = .returned undef ∧ HashAt w' g (bs ++ xs) ∧ w.grownBy w' (some g) := by
  have hM := mixed_any g bs w hT hH (by omega)
  obtain ⟨st, rest, h8, h64, hk, hr, hst⟩ := hH
  obtain ⟨L, hL⟩ : ∃ L, L = bs.length := ⟨_, rfl⟩
  rw [← hL] at hk hr hst hl
  obtain ⟨F, hF⟩ : ∃ F, F = L % 64 := ⟨_, rfl⟩
  rw [← hF] at hr
  have hgw := blk_lt hk
  have hF' : ((L : Int) % 64) = (F : Int) := by omega
  have hF64 : F < 64 := by omega
  have HM := Lib.hid hM
  have HT := Lib.hid hT
  have HG := Lib.hid hG
  have HK := Lib.hid hk
  have HS := Lib.hid hS
  have HL := Lib.hid hL
  have HF := Lib.hid hF
  have H8 := Lib.hid h8
  have H64 := Lib.hid h64
  have HR := Lib.hid hr
  have HST := Lib.hid hst
  have hcm : c ≤ 9223372036854775807 := by unfold maxLen at hc; omega
  have HC := Lib.hid hc
  clear hM hT hG hk hS hL hF h8 h64 hr hst hc
  have S8 : (uvs (stateOf bs).list).toArray.size = 8 := rfl
  have HS8 := Lib.hid S8
  clear S8
  have h0 : 0 < F := by rw [HF.out, HL.out]; exact hc0.1
  have hfull : F + n < 64 := by rw [HF.out, HL.out]; exact hc0.2
  clear hc0
  have hd0 : decide (0 < (F : Int)) = true := by simp; omega
  have hFi : (F : Int) ≤ 64 := by omega
  have hxl : xs.length = n := by have := HS.out.1; rwa [bvs_length] at this
  have e1 : (bvs xs).length = Nat.min n (64 - F) := by rw [bvs_length, hxl]; exact (Nat.min_eq_left (by omega)).symm
  have hbl : (bvs xs).length = n := by rw [bvs_length, hxl]
  have hd1 : decide ((F : Int) + (n : Int) < 64) = true := by simp; omega
  have e3 : 8 + F + (bvs xs).length ≤ (hashCells st rest (L + n)).length := by rw [hashCells_length _ H8.out H64.out, bvs_length, hxl]; omega
  have E1 := Lib.hid e1
  have E3 := Lib.hid e3
  have HX := Lib.hid hxl
  clear hxl e1 e3
  go_enter Tryd.func18, Tryd.ntmps18
  go_wp2_with fail
  refine HM.out.mono ?_
  rintro e w1 ⟨rfl, hb1⟩
  have HB1 := Lib.hid hb1
  have hz1 := hb1.size
  clear hb1
  go_wp2_with (first
    | (refine wpList_store_blk rfl 44 (.tmp 4) (.tmp 10) rfl w1.heap.size (uvs (stateOf bs).list).toArray rfl rfl 44 _ (heap_alloc_new _ _) (by rw [HS8.out]; kernel_rfl) (by rw [HS8.out]; rfl) (uvs_one _) ?_
       intro w2 G1 G2
       have hk2 : Blk w2 g 48 (hashCells st rest L).toArray := ((only_hid (row := some w1.heap.size) G2).block g (by simp; omega) (by intro e; injection e; omega)).trans ((Below.heap_alloc w1 _ g (by omega)).trans ((HB1.out.block g hgw).trans HK.out))
       have f72 : w2.cell? ⟨g, 72, none⟩ = some (.int .u64 (L : Int)) := (blk_cell hk2 72).trans (hash_length _ H8.out H64.out)
       have f72' : w2.frozen? ⟨g, 72, none⟩ = false := hk2.free 72
       have hk3 : Blk (w2.setCell ⟨g, 72, none⟩ (.int .u64 ((L : Int) + (n : Int)))) g 48 (hashCells st rest (L + n)).toArray := by
         have h := hk2.put 72 (.int .u64 ((L : Int) + (n : Int)))
         rw [hash_put_len st rest L (L + n) H8.out H64.out _ (by rw [Int.natCast_add])] at h
         exact h
       have hw3 : w.grownBy (w2.setCell ⟨g, 72, none⟩ (.int .u64 ((L : Int) + (n : Int)))) (some g) :=
         only_trans (only_new (only_below (only_refl w _) (HB1.out.alloc hz1 _)) hz1 (only_hid G2)) (only_setCell _ _ _)
       have ht3 : Blk (w2.setCell ⟨g, 72, none⟩ (.int .u64 ((L : Int) + (n : Int)))) w1.heap.size 44 (uvs (stateOf bs).list).toArray := (Below.heap_setCell w2 ⟨g, 72, none⟩ _ w1.heap.size (by show w1.heap.size ≠ g; omega)).trans G1.out
       have HK3 := Lib.hid hk3
       have HW3 := Lib.hid hw3
       have HT3 := Lib.hid ht3
       clear hk2 hk3 hw3 ht3 G1 G2)
    | (refine wpList_copy_blk rfl (.tmp 33) (.tmp 34) 22 22 rfl 5 Tryd.underlying22 (by kernel_rfl) g (8 + F) (64 - F) (64 - F) A n c rfl rfl 48 (hashCells st rest (L + n)) HK3.out (bvs xs) E1.out (fun hp => by obtain ⟨b, o, e, _, _, q⟩ := (HS.out.cells HW3.out).2 (by rw [bvs_length, HX.out] at hp; exact hp); exact ⟨b, o, e, q⟩) E3.out (bvs_one _) ?_
       intro w5 G5 G6))
  refine bodyPost_ret (results_none rfl _ _ _) rfl ?_
  exact ⟨rfl, hash_front H8.out H64.out HX.out HL.out HF.out hfull HR.out HST.out G5.out, only_trans HW3.out (only_hid G6)⟩
set_option maxRecDepth 100000 in
set_option maxHeartbeats 1000000 in
theorem write_none (g : Nat) (bs : List UInt8) (A : Option Addr) (n c : Nat) (xs : List UInt8) (w : World) (hT : Tables w) (hG : 1 < g ∧ 0 < g) (hH : HashAt w g bs) (hS : Src w g A n (bvs xs)) (hn : n ≤ c) (hc : c ≤ maxLen)
    (hl : bs.length + n < 1152921504606846976) (hc0 : bs.length % 64 = 0) :
    Calls Tryd.prog 18 #[.pointer (some ⟨g, 0, none⟩), .slice A n c] w fun e w' => e = .returned undef ∧ HashAt w' g (bs ++ xs) ∧ w.grownBy w' (some g) := by
  have hM := mixed_any g bs w hT hH (by omega)
  obtain ⟨st, rest, h8, h64, hk, hr, hst⟩ := hH
  obtain ⟨L, hL⟩ : ∃ L, L = bs.length := ⟨_, rfl⟩
  rw [← hL] at hk hr hst hl
  obtain ⟨F, hF⟩ : ∃ F, F = L % 64 := ⟨_, rfl⟩
  rw [← hF] at hr
  have hgw := blk_lt hk
  have hF' : ((L : Int) % 64) = (F : Int) := by omega
  have hF64 : F < 64 := by omega
  have HM := Lib.hid hM
  have HT := Lib.hid hT
  have HG := Lib.hid hG
  have HK := Lib.hid hk
  have HS := Lib.hid hS
  have HL := Lib.hid hL
  have HF := Lib.hid hF
  have H8 := Lib.hid h8
  have H64 := Lib.hid h64
  have HR := Lib.hid hr
  have HST := Lib.hid hst
  have hcm : c ≤ 9223372036854775807 := by unfold maxLen at hc; omega
  have HC := Lib.hid hc
  clear hM hT hG hk hS hL hF h8 h64 hr hst hc
  have S8 : (uvs (stateOf bs).list).toArray.size = 8 := rfl
  have HS8 := Lib.hid S8
  clear S8
  have h0 : ¬ 0 < F := by rw [HF.out, HL.out]; omega
  clear hc0
  have hd0 : decide (0 < (F : Int)) = false := by simp; omega
  go_enter Tryd.func18, Tryd.ntmps18
  go_wp2_with fail
  refine HM.out.mono ?_
  rintro e w1 ⟨rfl, hb1⟩
  have HB1 := Lib.hid hb1
  have hz1 := hb1.size
  clear hb1
  go_wp2_with (
       refine wpList_store_blk rfl 44 (.tmp 4) (.tmp 10) rfl w1.heap.size (uvs (stateOf bs).list).toArray rfl rfl 44 _ (heap_alloc_new _ _) (by rw [HS8.out]; kernel_rfl) (by rw [HS8.out]; rfl) (uvs_one _) ?_
       intro w2 G1 G2
       have hk2 : Blk w2 g 48 (hashCells st rest L).toArray := ((only_hid (row := some w1.heap.size) G2).block g (by simp; omega) (by intro e; injection e; omega)).trans ((Below.heap_alloc w1 _ g (by omega)).trans ((HB1.out.block g hgw).trans HK.out))
       have f72 : w2.cell? ⟨g, 72, none⟩ = some (.int .u64 (L : Int)) := (blk_cell hk2 72).trans (hash_length _ H8.out H64.out)
       have f72' : w2.frozen? ⟨g, 72, none⟩ = false := hk2.free 72
       have hk3 : Blk (w2.setCell ⟨g, 72, none⟩ (.int .u64 ((L : Int) + (n : Int)))) g 48 (hashCells st rest (L + n)).toArray := by
         have h := hk2.put 72 (.int .u64 ((L : Int) + (n : Int)))
         rw [hash_put_len st rest L (L + n) H8.out H64.out _ (by rw [Int.natCast_add])] at h
         exact h
       have hw3 : w.grownBy (w2.setCell ⟨g, 72, none⟩ (.int .u64 ((L : Int) + (n : Int)))) (some g) :=
         only_trans (only_new (only_below (only_refl w _) (HB1.out.alloc hz1 _)) hz1 (only_hid G2)) (only_setCell _ _ _)
       have ht3 : Blk (w2.setCell ⟨g, 72, none⟩ (.int .u64 ((L : Int) + (n : Int)))) w1.heap.size 44 (uvs (stateOf bs).list).toArray := (Below.heap_setCell w2 ⟨g, 72, none⟩ _ w1.heap.size (by show w1.heap.size ≠ g; omega)).trans G1.out
       have HK3 := Lib.hid hk3
       have HW3 := Lib.hid hw3
       have HT3 := Lib.hid ht3
       clear hk2 hk3 hw3 ht3 G1 G2)
  go_loopw [1] (fun v wr => ∃ (k : Nat) (A' : Option Addr), k ≤ n ∧ v = .slice A' (n - k) (c - k) ∧ Hid (Mid w wr g w1.heap.size bs xs n k A')) (fun v _ => match v with | .slice _ m _ => m | _ => 0)
  case atStart =>
    refine ⟨0, A, Nat.zero_le _, rfl, Nat.zero_le _, ?_, hz1, HS.out, HW3.out, ?_, st, rest, H8.out, H64.out, ?_⟩
    · have := HL.out; have := HF.out; omega
    · rw [List.take_zero, List.append_nil]; exact HT3.out
    · rw [← HL.out]; exact HK3.out
  case round =>
    obtain ⟨k, A', hk, rfl, HI⟩ := hrel
    by_cases h64 : 64 ≤ n - k
    · obtain ⟨i1, i2, i3, i4, i5, i6, i7⟩ := HI.out
      obtain ⟨b, o, rfl, _, _⟩ := i4.2 (by omega)
      obtain ⟨s, hs⟩ : ∃ s, s = stateOf (bs ++ xs.take k) := ⟨_, rfl⟩
      rw [← hs] at i6
      obtain ⟨c0, c1, c2, c3, c4, c5, c6, c7⟩ := blk_state i6
      have I4 := Lib.hid i4
      have I5 := Lib.hid i5
      have I6 := Lib.hid i6
      have I7 := Lib.hid i7
      have I2 := Lib.hid i2
      have HSS := Lib.hid hs
      clear i1 i2 i3 i4 i5 i6 i7 hs
      go_wp2_with fail
      have hck : (64 : Int) ≤ ((c - k : Nat) : Int) := by omega
      have hck' : 64 ≤ c - k := by omega
      go_still_tail 3, (by kernel_rfl)
      change wpList _ _ _ _ _ wr.drew
      have hI4 := (I4.out.cells I5.out).row.take (k := 64) (by omega)
      rw [bvs_take] at hI4
      have MX := Lib.hid (mix_at s (some ⟨b, o, none⟩) 64 (c - k) ((xs.drop k).take 64) wr.drew.heap.size wr.drew (HT.out.only (only_drewN I5.out 1) HG.out.1 HG.out.2) hI4 (Nat.le_refl _) (Nat.le_refl _) hck' (Nat.le_trans (Nat.sub_le _ _) HC.out))
      clear hI4
      go_wp2_with fail
      refine MX.out.mono ?_
      rintro e w3 ⟨rfl, hb3⟩
      have HB3 := Lib.hid hb3
      clear hb3 MX
      have hI6 : Blk w3 w1.heap.size 44 (uvs s.list).toArray := (HB3.out.block w1.heap.size (blk_lt I6.out)).trans I6.out
      have HI6 := Lib.hid hI6
      clear hI6 I6
      obtain ⟨res, hres⟩ : ∃ res, res = (uvs (block s ((xs.drop k).take 64)).list).toArray := ⟨_, rfl⟩
      have hr8 : res.size = 8 := by rw [hres]; rfl
      have hr1 : res.all (·.oneCell') = true := by rw [hres]; exact uvs_one _
      rw [← hres]
      have HRES := Lib.hid hres
      have HR8 := Lib.hid hr8
      have HR1 := Lib.hid hr1
      clear hres hr8 hr1 c0 c1 c2 c3 c4 c5 c6 c7
      go_wp2_with (
        refine wpList_store_blk rfl 44 (.tmp 4) (.tmp 55) rfl w1.heap.size res rfl rfl 44 _ HI6.out (by rw [HR8.out]; kernel_rfl) (by rw [HR8.out]; rfl) HR1.out ?_
        intro w4 G3 G4)
      all_goals
        refine ⟨⟨k + 64, by omega, _, ⟨rfl, by omega, by omega⟩, ?_⟩, by omega⟩
        refine mid_next hgw I2.out hz1 (by omega) I4.out I5.out I7.out HB3.out (by rw [← HSS.out, ← HRES.out]; exact G3.out) G4.out ?_
      · exact ⟨by rw [bvs_length, List.length_drop]; have := I4.out.1; rw [bvs_length, List.length_drop] at this; omega, fun hh => by omega⟩
      · have := I4.out.drop (k := 64) h64
        rw [bvs_drop, List.drop_drop] at this
        rw [show n - (k + 64) = n - k - 64 by omega]
        exact this
    · obtain ⟨i1, i2, i3, i4, i5, i6, st', rest', h8', h64', i7⟩ := HI.out
      have hx := i4.1
      rw [bvs_length] at hx
      have I2 := Lib.hid i2
      have I4 := Lib.hid (i4.cells i5)
      have I5 := Lib.hid i5
      have I6 := Lib.hid i6
      have I7 := Lib.hid i7
      have J8 := Lib.hid h8'
      have J64 := Lib.hid h64'
      have HX := Lib.hid hx
      clear HI i1 i2 i3 i4 i5 i6 i7 h8' h64' hx
      obtain ⟨res, hres⟩ : ∃ res, res = (uvs (stateOf (bs ++ xs.take k)).list).toArray := ⟨_, rfl⟩
      have hr8 : res.size = 8 := by rw [hres]; rfl
      have hr1 : res.all (·.oneCell') = true := by rw [hres]; exact uvs_one _
      have HRES := Lib.hid hres
      have HR8 := Lib.hid hr8
      have HR1 := Lib.hid hr1
      clear hres hr8 hr1
      have e1 : (bvs (xs.drop k)).length = Nat.min (n - k) 64 := by rw [bvs_length, HX.out]; exact (Nat.min_eq_left (by omega)).symm
      have e2 : 0 < (bvs (xs.drop k)).length → ∃ b i, A' = some ⟨b, i, none⟩ ∧ ∀ j v, (bvs (xs.drop k))[j]? = some v → wr.cell? ⟨b, i + j, none⟩ = some v := fun hp => by
        obtain ⟨b, o, e, _, _, q⟩ := I4.out.2 (by rw [bvs_length, HX.out] at hp; exact hp)
        exact ⟨b, o, e, q⟩
      have e3 : 8 + (bvs (xs.drop k)).length ≤ (hashCells st' rest' (bs.length + n)).length := by rw [hashCells_length _ J8.out J64.out, bvs_length, HX.out]; omega
      have E1 := Lib.hid e1
      have E2 := Lib.hid e2
      have E3 := Lib.hid e3
      clear e1 e2 e3
      go_wp2_with (first
        | (refine wpList_copy_blk rfl (.tmp 61) (.tmp 62) 22 22 rfl 5 Tryd.underlying22 (by kernel_rfl) g 8 64 64 A' (n - k) (c - k) rfl rfl 48 (hashCells st' rest' (bs.length + n)) I7.out (bvs (xs.drop k)) E1.out E2.out E3.out (bvs_one _) ?_
           intro w5 G5 G6
           have h5 : Blk w5 g 48 (hashCells st' (splice rest' 0 (xs.drop k)) (bs.length + n)).toArray := by rw [← hash_splice st' rest' (xs.drop k) (bs.length + n) 0 J8.out (by rw [HX.out, J64.out]; omega)]; exact G5.out
           have h6 : Blk w5 w1.heap.size 44 res := by rw [HRES.out]; exact ((only_hid (row := some g) G6).block w1.heap.size (blk_lt I6.out) (by intro e; injection e; omega)).trans I6.out
           have H5 := Lib.hid h5
           have H6 := Lib.hid h6
           clear h5 h6 G5)
        | (refine wpList_load_row rfl 44 (.tmp 4) rfl w1.heap.size rfl 44 res (0, 0) _ H6.out Tryd.underlying44 rfl (by rw [HR8.out]; kernel_rfl) ?_)
        | (refine wpList_store_at rfl 44 (.tmp 67) (.tmp 65) rfl g 0 res rfl rfl 48 (hashCells st' (splice rest' 0 (xs.drop k)) (bs.length + n)) H5.out (by rw [HR8.out]; kernel_rfl) (by rw [HR8.out, hashCells_length _ J8.out (by rw [splice_length _ _ _ (by rw [HX.out, J64.out]; omega)]; exact J64.out)]; omega) HR1.out ?_
           intro w6 G7 G8))
      go_end0
      exact ⟨rfl, hash_end I2.out HX.out (by omega) J8.out J64.out (by have := G7.out; rw [HRES.out] at this; exact this) (by have := HS.out.1; rwa [bvs_length] at this), only_trans (only_trans I5.out (only_hid G6)) (only_hid G8)⟩
set_option maxRecDepth 100000 in
set_option maxHeartbeats 1000000 in
theorem write_full (g : Nat) (bs : List UInt8) (A : Option Addr) (n c : Nat) (xs : List UInt8) (w : World) (hT : Tables w) (hG : 1 < g ∧ 0 < g) (hH : HashAt w g bs) (hS : Src w g A n (bvs xs)) (hn : n ≤ c) (hc : c ≤ maxLen)
    (hl : bs.length + n < 1152921504606846976) (hc0 : 0 < bs.length % 64 ∧ 64 ≤ bs.length % 64 + n) :
    Calls Tryd.prog 18 #[.pointer (some ⟨g, 0, none⟩), .slice A n c] w fun e w' => e = .returned undef ∧ HashAt w' g (bs ++ xs) ∧ w.grownBy w' (some g) := by
  have hM := mixed_any g bs w hT hH (by omega)
  obtain ⟨st, rest, h8, h64, hk, hr, hst⟩ := hH
  obtain ⟨L, hL⟩ : ∃ L, L = bs.length := ⟨_, rfl⟩
  rw [← hL] at hk hr hst hl
  obtain ⟨F, hF⟩ : ∃ F, F = L % 64 := ⟨_, rfl⟩
  rw [← hF] at hr
  have hgw := blk_lt hk
  have hF' : ((L : Int) % 64) = (F : Int) := by omega
  have hF64 : F < 64 := by omega
  have HM := Lib.hid hM
  have HT := Lib.hid hT
  have HG := Lib.hid hG
  have HK := Lib.hid hk
  have HS := Lib.hid hS
  have HL := Lib.hid hL
  have HF := Lib.hid hF
  have H8 := Lib.hid h8
  have H64 := Lib.hid h64
  have HR := Lib.hid hr
  have HST := Lib.hid hst
  have hcm : c ≤ 9223372036854775807 := by unfold maxLen at hc; omega
  have HC := Lib.hid hc
  clear hM hT hG hk hS hL hF h8 h64 hr hst hc
  have S8 : (uvs (stateOf bs).list).toArray.size = 8 := rfl
  have HS8 := Lib.hid S8
  clear S8
  have h0 : 0 < F := by rw [HF.out, HL.out]; exact hc0.1
  have hfull : ¬ F + n < 64 := by rw [HF.out, HL.out]; have := hc0.2; omega
  clear hc0
  have hd0 : decide (0 < (F : Int)) = true := by simp; omega
  have hFi : (F : Int) ≤ 64 := by omega
  obtain ⟨b, o, rfl, _, _⟩ := HS.out.2 (by omega)
  have hxl : xs.length = n := by have := HS.out.1; rwa [bvs_length] at this
  obtain ⟨cs, hcs⟩ : ∃ cs, cs = xs.take (64 - F) := ⟨_, rfl⟩
  have hcl : cs.length = 64 - F := by rw [hcs, List.length_take]; omega
  have e1 : (bvs cs).length = Nat.min n (64 - F) := by rw [bvs_length, hcl]; exact (Nat.min_eq_right (by omega)).symm
  have hbl : (bvs cs).length = 64 - F := by rw [bvs_length, hcl]
  have hd1 : decide ((F : Int) + ((64 - F : Nat) : Int) < 64) = false := by simp; omega
  have e3 : 8 + F + (bvs cs).length ≤ (hashCells st rest (L + n)).length := by rw [hashCells_length _ H8.out H64.out, bvs_length, hcl]; omega
  have E1 := Lib.hid e1
  have E3 := Lib.hid e3
  have HX := Lib.hid hxl
  have HC2 := Lib.hid hcs
  have HCL := Lib.hid hcl
  have HS1 := Lib.hid (HS.out.take (k := 64 - F) (by omega))
  have hrw : splice rest F cs = bs.drop (64 * (L / 64)) ++ cs := by
    unfold splice
    rw [HR.out, show List.drop (F + cs.length) rest = [] from List.drop_eq_nil_of_le (by rw [hcl, H64.out]; omega), List.append_nil]
  have HRW := Lib.hid hrw
  clear hxl e1 e3 hcs hcl hrw
  go_enter Tryd.func18, Tryd.ntmps18
  go_wp2_with fail
  refine HM.out.mono ?_
  rintro e w1 ⟨rfl, hb1⟩
  have HB1 := Lib.hid hb1
  have hz1 := hb1.size
  clear hb1
  go_wp2_with (first
    | (refine wpList_store_blk rfl 44 (.tmp 4) (.tmp 10) rfl w1.heap.size (uvs (stateOf bs).list).toArray rfl rfl 44 _ (heap_alloc_new _ _) (by rw [HS8.out]; kernel_rfl) (by rw [HS8.out]; rfl) (uvs_one _) ?_
       intro w2 G1 G2
       have hk2 : Blk w2 g 48 (hashCells st rest L).toArray := ((only_hid (row := some w1.heap.size) G2).block g (by simp; omega) (by intro e; injection e; omega)).trans ((Below.heap_alloc w1 _ g (by omega)).trans ((HB1.out.block g hgw).trans HK.out))
       have f72 : w2.cell? ⟨g, 72, none⟩ = some (.int .u64 (L : Int)) := (blk_cell hk2 72).trans (hash_length _ H8.out H64.out)
       have f72' : w2.frozen? ⟨g, 72, none⟩ = false := hk2.free 72
       have hk3 : Blk (w2.setCell ⟨g, 72, none⟩ (.int .u64 ((L : Int) + (n : Int)))) g 48 (hashCells st rest (L + n)).toArray := by
         have h := hk2.put 72 (.int .u64 ((L : Int) + (n : Int)))
         rw [hash_put_len st rest L (L + n) H8.out H64.out _ (by rw [Int.natCast_add])] at h
         exact h
       have hw3 : w.grownBy (w2.setCell ⟨g, 72, none⟩ (.int .u64 ((L : Int) + (n : Int)))) (some g) :=
         only_trans (only_new (only_below (only_refl w _) (HB1.out.alloc hz1 _)) hz1 (only_hid G2)) (only_setCell _ _ _)
       have ht3 : Blk (w2.setCell ⟨g, 72, none⟩ (.int .u64 ((L : Int) + (n : Int)))) w1.heap.size 44 (uvs (stateOf bs).list).toArray := (Below.heap_setCell w2 ⟨g, 72, none⟩ _ w1.heap.size (by show w1.heap.size ≠ g; omega)).trans G1.out
       have HK3 := Lib.hid hk3
       have HW3 := Lib.hid hw3
       have HT3 := Lib.hid ht3
       clear hk2 hk3 hw3 ht3 G1 G2)
    | (refine wpList_copy_blk rfl (.tmp 33) (.tmp 34) 22 22 rfl 5 Tryd.underlying22 (by kernel_rfl) g (8 + F) (64 - F) (64 - F) (some ⟨b, o, none⟩) n c rfl rfl 48 (hashCells st rest (L + n)) HK3.out (bvs cs) E1.out (fun hp => by obtain ⟨b, o, e, _, _, q⟩ := (HS1.out.cells HW3.out).2 (by omega); exact ⟨b, o, e, by rw [HC2.out, ← bvs_take]; exact q⟩) E3.out (bvs_one _) ?_
       intro w5 G5 G6))
  have hh5 : Blk w5 g 48 (hashCells st (splice rest F cs) (L + n)).toArray := by rw [← hash_splice st rest cs (L + n) F H8.out (by rw [HCL.out, H64.out]; omega)]; exact G5.out
  have hr5 : (splice rest F cs).length = 64 := by rw [splice_length _ _ _ (by rw [HCL.out, H64.out]; omega)]; exact H64.out
  have ht5 : Blk w5 w1.heap.size 44 (uvs (stateOf bs).list).toArray := ((only_hid (row := some g) G6).block w1.heap.size (blk_lt HT3.out) (by intro e; injection e; omega)).trans HT3.out
  have hw5 : w.grownBy w5 (some g) := only_trans HW3.out (only_hid G6)
  obtain ⟨s, hs⟩ : ∃ s, s = stateOf bs := ⟨_, rfl⟩
  rw [← hs] at ht5
  obtain ⟨c0, c1, c2, c3, c4, c5, c6, c7⟩ := blk_state ht5
  have MX := Lib.hid (mix_at s (some ⟨g, 8, none⟩) 64 64 (splice rest F cs) w5.drew.heap.size w5.drew (HT.out.only (only_drewN hw5 1) HG.out.1 HG.out.2) (rest_row hh5 H8.out hr5) (Nat.le_refl _) (Nat.le_refl _) (Nat.le_refl _) (by decide))
  have HH5 := Lib.hid hh5
  have HR5 := Lib.hid hr5
  have HT5 := Lib.hid ht5
  have HW5 := Lib.hid hw5
  have HSS := Lib.hid hs
  clear hh5 hr5 ht5 hw5 hs
  go_still_tail 5, (by kernel_rfl)
  change wpList _ _ _ _ _ w5.drew
  go_wp2_with fail
  refine MX.out.mono ?_
  rintro e w6 ⟨rfl, hb6⟩
  have HB6 := Lib.hid hb6
  have ht6 : Blk w6 w1.heap.size 44 (uvs s.list).toArray := (HB6.out.block w1.heap.size (blk_lt HT5.out)).trans HT5.out
  have HT6 := Lib.hid ht6
  obtain ⟨res, hres⟩ : ∃ res, res = (uvs (block s (splice rest F cs)).list).toArray := ⟨_, rfl⟩
  have hr8 : res.size = 8 := by rw [hres]; rfl
  have hr1 : res.all (·.oneCell') = true := by rw [hres]; exact uvs_one _
  rw [← hres]
  have HRES := Lib.hid hres
  have HR8 := Lib.hid hr8
  have HR1 := Lib.hid hr1
  clear hres hr8 hr1 c0 c1 c2 c3 c4 c5 c6 c7 hb6 MX ht6
  go_wp2_with (
    refine wpList_store_blk rfl 44 (.tmp 4) (.tmp 45) rfl w1.heap.size res rfl rfl 44 _ HT6.out (by rw [HR8.out]; kernel_rfl) (by rw [HR8.out]; rfl) HR1.out ?_
    intro w7 G7 G8)
  · go_loopw [1] (fun v wr => ∃ (k : Nat) (A' : Option Addr), k ≤ n ∧ v = .slice A' (n - k) (c - k) ∧ Hid (Mid w wr g w1.heap.size bs xs n k A')) (fun v _ => match v with | .slice _ m _ => m | _ => 0)
    case atStart =>
      refine ⟨64 - F, _, by omega, (by first | rfl | (rw [show c - (64 - F) = 0 by omega])), ?_⟩
      refine mid_first hgw HL.out HF.out h0 hz1 (by omega) HX.out HW5.out ⟨_, _, H8.out, HR5.out, HH5.out⟩ HB6.out (by rw [← HC2.out, ← HRW.out, ← HSS.out, ← HRES.out]; exact G7.out) G8.out ?_
      rw [show n - (64 - F) = 0 by omega]
      exact ⟨by rw [bvs_length, List.length_drop, HX.out]; omega, fun hh => absurd hh (by omega)⟩
    case round =>
      obtain ⟨k, A', hk, rfl, HI⟩ := hrel
      have h64 : ¬ 64 ≤ n - k := by omega
      obtain ⟨i1, i2, i3, i4, i5, i6, st', rest', h8', h64', i7⟩ := HI.out
      have hx := i4.1
      rw [bvs_length] at hx
      have I2 := Lib.hid i2
      have I4 := Lib.hid (i4.cells i5)
      have I5 := Lib.hid i5
      have I6 := Lib.hid i6
      have I7 := Lib.hid i7
      have J8 := Lib.hid h8'
      have J64 := Lib.hid h64'
      have HX := Lib.hid hx
      clear HI i1 i2 i3 i4 i5 i6 i7 h8' h64' hx
      obtain ⟨res, hres⟩ : ∃ res, res = (uvs (stateOf (bs ++ xs.take k)).list).toArray := ⟨_, rfl⟩
      have hr8 : res.size = 8 := by rw [hres]; rfl
      have hr1 : res.all (·.oneCell') = true := by rw [hres]; exact uvs_one _
      have HRES := Lib.hid hres
      have HR8 := Lib.hid hr8
      have HR1 := Lib.hid hr1
      clear hres hr8 hr1
      have e1 : (bvs (xs.drop k)).length = Nat.min (n - k) 64 := by rw [bvs_length, HX.out]; exact (Nat.min_eq_left (by omega)).symm
      have e2 : 0 < (bvs (xs.drop k)).length → ∃ b i, A' = some ⟨b, i, none⟩ ∧ ∀ j v, (bvs (xs.drop k))[j]? = some v → wr.cell? ⟨b, i + j, none⟩ = some v := fun hp => by
        obtain ⟨b, o, e, _, _, q⟩ := I4.out.2 (by rw [bvs_length, HX.out] at hp; exact hp)
        exact ⟨b, o, e, q⟩
      have e3 : 8 + (bvs (xs.drop k)).length ≤ (hashCells st' rest' (bs.length + n)).length := by rw [hashCells_length _ J8.out J64.out, bvs_length, HX.out]; omega
      have E1 := Lib.hid e1
      have E2 := Lib.hid e2
      have E3 := Lib.hid e3
      clear e1 e2 e3
      go_wp2_with (first
        | (refine wpList_copy_blk rfl (.tmp 61) (.tmp 62) 22 22 rfl 5 Tryd.underlying22 (by kernel_rfl) g 8 64 64 A' (n - k) (c - k) rfl rfl 48 (hashCells st' rest' (bs.length + n)) I7.out (bvs (xs.drop k)) E1.out E2.out E3.out (bvs_one _) ?_
           intro w5 G5 G6
           have h5 : Blk w5 g 48 (hashCells st' (splice rest' 0 (xs.drop k)) (bs.length + n)).toArray := by rw [← hash_splice st' rest' (xs.drop k) (bs.length + n) 0 J8.out (by rw [HX.out, J64.out]; omega)]; exact G5.out
           have h6 : Blk w5 w1.heap.size 44 res := by rw [HRES.out]; exact ((only_hid (row := some g) G6).block w1.heap.size (blk_lt I6.out) (by intro e; injection e; omega)).trans I6.out
           have H5 := Lib.hid h5
           have H6 := Lib.hid h6
           clear h5 h6 G5)
        | (refine wpList_load_row rfl 44 (.tmp 4) rfl w1.heap.size rfl 44 res (0, 0) _ H6.out Tryd.underlying44 rfl (by rw [HR8.out]; kernel_rfl) ?_)
        | (refine wpList_store_at rfl 44 (.tmp 67) (.tmp 65) rfl g 0 res rfl rfl 48 (hashCells st' (splice rest' 0 (xs.drop k)) (bs.length + n)) H5.out (by rw [HR8.out]; kernel_rfl) (by rw [HR8.out, hashCells_length _ J8.out (by rw [splice_length _ _ _ (by rw [HX.out, J64.out]; omega)]; exact J64.out)]; omega) HR1.out ?_
           intro w6 G7 G8))
      go_end0
      exact ⟨rfl, hash_end I2.out HX.out (by omega) J8.out J64.out (by have := G7.out; rw [HRES.out] at this; exact this) (by have := HS.out.1; rwa [bvs_length] at this), only_trans (only_trans I5.out (only_hid G6)) (only_hid G8)⟩
  · go_loopw [1] (fun v wr => ∃ (k : Nat) (A' : Option Addr), k ≤ n ∧ v = .slice A' (n - k) (c - k) ∧ Hid (Mid w wr g w1.heap.size bs xs n k A')) (fun v _ => match v with | .slice _ m _ => m | _ => 0)
    case atStart =>
      refine ⟨64 - F, _, by omega, (by first | rfl | (rw [show c - (64 - F) = 0 by omega])), ?_⟩
      refine mid_first hgw HL.out HF.out h0 hz1 (by omega) HX.out HW5.out ⟨_, _, H8.out, HR5.out, HH5.out⟩ HB6.out (by rw [← HC2.out, ← HRW.out, ← HSS.out, ← HRES.out]; exact G7.out) G8.out ?_
      have := HS.out.drop (k := 64 - F) (by omega)
      rw [bvs_drop] at this
      exact this
    case round =>
      obtain ⟨k, A', hk, rfl, HI⟩ := hrel
      by_cases h64 : 64 ≤ n - k
      · obtain ⟨i1, i2, i3, i4, i5, i6, i7⟩ := HI.out
        obtain ⟨b, o, rfl, _, _⟩ := i4.2 (by omega)
        obtain ⟨s, hs⟩ : ∃ s, s = stateOf (bs ++ xs.take k) := ⟨_, rfl⟩
        rw [← hs] at i6
        obtain ⟨c0, c1, c2, c3, c4, c5, c6, c7⟩ := blk_state i6
        have I4 := Lib.hid i4
        have I5 := Lib.hid i5
        have I6 := Lib.hid i6
        have I7 := Lib.hid i7
        have I2 := Lib.hid i2
        have HSS := Lib.hid hs
        clear i1 i2 i3 i4 i5 i6 i7 hs
        go_wp2_with fail
        have hck : (64 : Int) ≤ ((c - k : Nat) : Int) := by omega
        have hck' : 64 ≤ c - k := by omega
        go_still_tail 3, (by kernel_rfl)
        change wpList _ _ _ _ _ wr.drew
        have hI4 := (I4.out.cells I5.out).row.take (k := 64) (by omega)
        rw [bvs_take] at hI4
        have MX := Lib.hid (mix_at s (some ⟨b, o, none⟩) 64 (c - k) ((xs.drop k).take 64) wr.drew.heap.size wr.drew (HT.out.only (only_drewN I5.out 1) HG.out.1 HG.out.2) hI4 (Nat.le_refl _) (Nat.le_refl _) hck' (Nat.le_trans (Nat.sub_le _ _) HC.out))
        clear hI4
        go_wp2_with fail
        refine MX.out.mono ?_
        rintro e w3 ⟨rfl, hb3⟩
        have HB3 := Lib.hid hb3
        clear hb3 MX
        have hI6 : Blk w3 w1.heap.size 44 (uvs s.list).toArray := (HB3.out.block w1.heap.size (blk_lt I6.out)).trans I6.out
        have HI6 := Lib.hid hI6
        clear hI6 I6
        obtain ⟨res, hres⟩ : ∃ res, res = (uvs (block s ((xs.drop k).take 64)).list).toArray := ⟨_, rfl⟩
        have hr8 : res.size = 8 := by rw [hres]; rfl
        have hr1 : res.all (·.oneCell') = true := by rw [hres]; exact uvs_one _
        rw [← hres]
        have HRES := Lib.hid hres
        have HR8 := Lib.hid hr8
        have HR1 := Lib.hid hr1
        clear hres hr8 hr1 c0 c1 c2 c3 c4 c5 c6 c7
        go_wp2_with (
          refine wpList_store_blk rfl 44 (.tmp 4) (.tmp 55) rfl w1.heap.size res rfl rfl 44 _ HI6.out (by rw [HR8.out]; kernel_rfl) (by rw [HR8.out]; rfl) HR1.out ?_
          intro w4 G3 G4)
        by_cases hcc : c - k = 64
        · refine ⟨⟨k + 64, some ⟨b, o, none⟩, by omega, by rw [if_pos hcc, show n - (k + 64) = n - k - 64 by omega, show c - (k + 64) = c - k - 64 by omega], ?_⟩, show n - k - 64 < n - k by omega⟩
          refine mid_next hgw I2.out hz1 (by omega) I4.out I5.out I7.out HB3.out (by rw [← HSS.out, ← HRES.out]; exact G3.out) G4.out ?_
          exact ⟨by rw [bvs_length, List.length_drop]; have := I4.out.1; rw [bvs_length, List.length_drop] at this; omega, fun hh => by omega⟩
        · refine ⟨⟨k + 64, some ⟨b, o + 64, none⟩, by omega, by rw [if_neg hcc, show n - (k + 64) = n - k - 64 by omega, show c - (k + 64) = c - k - 64 by omega], ?_⟩, show n - k - 64 < n - k by omega⟩
          refine mid_next hgw I2.out hz1 (by omega) I4.out I5.out I7.out HB3.out (by rw [← HSS.out, ← HRES.out]; exact G3.out) G4.out ?_
          have := I4.out.drop (k := 64) h64
          rw [bvs_drop, List.drop_drop] at this
          rw [show n - (k + 64) = n - k - 64 by omega]
          exact this
      · obtain ⟨i1, i2, i3, i4, i5, i6, st', rest', h8', h64', i7⟩ := HI.out
        have hx := i4.1
        rw [bvs_length] at hx
        have I2 := Lib.hid i2
        have I4 := Lib.hid (i4.cells i5)
        have I5 := Lib.hid i5
        have I6 := Lib.hid i6
        have I7 := Lib.hid i7
        have J8 := Lib.hid h8'
        have J64 := Lib.hid h64'
        have HX := Lib.hid hx
        clear HI i1 i2 i3 i4 i5 i6 i7 h8' h64' hx
        obtain ⟨res, hres⟩ : ∃ res, res = (uvs (stateOf (bs ++ xs.take k)).list).toArray := ⟨_, rfl⟩
        have hr8 : res.size = 8 := by rw [hres]; rfl
        have hr1 : res.all (·.oneCell') = true := by rw [hres]; exact uvs_one _
        have HRES := Lib.hid hres
        have HR8 := Lib.hid hr8
        have HR1 := Lib.hid hr1
        clear hres hr8 hr1
        have e1 : (bvs (xs.drop k)).length = Nat.min (n - k) 64 := by rw [bvs_length, HX.out]; exact (Nat.min_eq_left (by omega)).symm
        have e2 : 0 < (bvs (xs.drop k)).length → ∃ b i, A' = some ⟨b, i, none⟩ ∧ ∀ j v, (bvs (xs.drop k))[j]? = some v → wr.cell? ⟨b, i + j, none⟩ = some v := fun hp => by
          obtain ⟨b, o, e, _, _, q⟩ := I4.out.2 (by rw [bvs_length, HX.out] at hp; exact hp)
          exact ⟨b, o, e, q⟩
        have e3 : 8 + (bvs (xs.drop k)).length ≤ (hashCells st' rest' (bs.length + n)).length := by rw [hashCells_length _ J8.out J64.out, bvs_length, HX.out]; omega
        have E1 := Lib.hid e1
        have E2 := Lib.hid e2
        have E3 := Lib.hid e3
        clear e1 e2 e3
        go_wp2_with (first
          | (refine wpList_copy_blk rfl (.tmp 61) (.tmp 62) 22 22 rfl 5 Tryd.underlying22 (by kernel_rfl) g 8 64 64 A' (n - k) (c - k) rfl rfl 48 (hashCells st' rest' (bs.length + n)) I7.out (bvs (xs.drop k)) E1.out E2.out E3.out (bvs_one _) ?_
             intro w5 G5 G6
             have h5 : Blk w5 g 48 (hashCells st' (splice rest' 0 (xs.drop k)) (bs.length + n)).toArray := by rw [← hash_splice st' rest' (xs.drop k) (bs.length + n) 0 J8.out (by rw [HX.out, J64.out]; omega)]; exact G5.out
             have h6 : Blk w5 w1.heap.size 44 res := by rw [HRES.out]; exact ((only_hid (row := some g) G6).block w1.heap.size (blk_lt I6.out) (by intro e; injection e; omega)).trans I6.out
             have H5 := Lib.hid h5
             have H6 := Lib.hid h6
             clear h5 h6 G5)
          | (refine wpList_load_row rfl 44 (.tmp 4) rfl w1.heap.size rfl 44 res (0, 0) _ H6.out Tryd.underlying44 rfl (by rw [HR8.out]; kernel_rfl) ?_)
          | (refine wpList_store_at rfl 44 (.tmp 67) (.tmp 65) rfl g 0 res rfl rfl 48 (hashCells st' (splice rest' 0 (xs.drop k)) (bs.length + n)) H5.out (by rw [HR8.out]; kernel_rfl) (by rw [HR8.out, hashCells_length _ J8.out (by rw [splice_length _ _ _ (by rw [HX.out, J64.out]; omega)]; exact J64.out)]; omega) HR1.out ?_
             intro w6 G7 G8))
        go_end0
        exact ⟨rfl, hash_end I2.out HX.out (by omega) J8.out J64.out (by have := G7.out; rw [HRES.out] at this; exact this) (by have := HS.out.1; rwa [bvs_length] at this), only_trans (only_trans I5.out (only_hid G6)) (only_hid G8)⟩
theorem write_any (g : Nat) (bs : List UInt8) (A : Option Addr) (n c : Nat) (xs : List UInt8) (w : World) (hT : Tables w) (hG : 1 < g ∧ 0 < g) (hH : HashAt w g bs) (hS : Src w g A n (bvs xs)) (hn : n ≤ c) (hc : c ≤ maxLen)
    (hl : bs.length + n < 1152921504606846976) :
    Calls Tryd.prog 18 #[.pointer (some ⟨g, 0, none⟩), .slice A n c] w fun e w' => e = .returned undef ∧ HashAt w' g (bs ++ xs) ∧ w.grownBy w' (some g) := by
  by_cases h0 : bs.length % 64 = 0
  · exact write_none g bs A n c xs w hT hG hH hS hn hc hl h0
  · by_cases h1 : bs.length % 64 + n < 64
    · exact write_short g bs A n c xs w hT hG hH hS hn hc hl ⟨by omega, h1⟩
    · exact write_full g bs A n c xs w hT hG hH hS hn hc hl ⟨by omega, by omega⟩
end Go.Proofs.YtllbdeniigakkaaDoor.Sha
