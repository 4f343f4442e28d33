/-
  Proved: what digest of package stillroomref1 returns, of the constants of SHA-256.
  Conditions: the slice reads as bytes, fewer than 2 to the 45th.
-/
import Derived.Test.YtllbdeniigakkaaDoorRefLeaf
import Derived.Test.YtllbdeniigakkaaDoorShaSum
import Derived.Deep.DeepCutAuto
import Derived.Deep.RegionLaw
namespace Go.Proofs.YtllbdeniigakkaaDoor.Sha
open Go.RowKit

theorem noughts_end {n z : Nat} (hz : z ≤ noughts n) (h : (n + 1 + z) % 64 = 56) : z = noughts n := by
  have h1 := noughts_lt n
  unfold noughts at *
  omega
theorem noughts_more {n z : Nat} (hz : z ≤ noughts n) (h : ¬ (n + 1 + z) % 64 = 56) : z + 1 ≤ noughts n := by
  have h1 := noughts_lt n
  have h2 : (n + 1 + noughts n) % 64 = 56 := by unfold noughts; omega
  rcases Nat.lt_or_ge z (noughts n) with hh | hh
  · exact hh
  · exfalso
    have : z = noughts n := by omega
    subst this
    exact h h2
/-- The text with the bit of 1 and so many noughts. -/
def front (bs : List UInt8) (z : Nat) : List UInt8 := bs ++ 128 :: List.replicate z 0
theorem front_length (bs : List UInt8) (z : Nat) : (front bs z).length = bs.length + 1 + z := by simp [front]; omega
theorem front_snoc (bs : List UInt8) (z : Nat) : front bs z ++ [0] = front bs (z + 1) := by
  rw [front, front, List.replicate_succ', List.append_assoc]
  rfl
theorem front_pad (bs : List UInt8) : front bs (noughts bs.length) ++ bytes64 (8 * bs.length) = bs ++ pad bs.length := by simp [front, pad]
/-- The constants as a value. -/
def kCells : Array Value := (uvs ((List.range 64).map k32)).toArray
theorem kCells_size : kCells.size = 64 := by simp [kCells, uvs]
theorem kCells_get (i : Nat) (h : i < 64) : kCells[i]? = some (.int .u32 ((k32 i).toNat : Int)) := by
  rw [kCells, List.getElem?_toArray, uvs, List.getElem?_map, List.getElem?_map, List.getElem?_range h]
  rfl

def zero64 : Array Value := #[Value.int .u32 0, Value.int .u32 0, Value.int .u32 0, Value.int .u32 0, Value.int .u32 0, Value.int .u32 0, Value.int .u32 0, Value.int .u32 0, Value.int .u32 0, Value.int .u32 0, Value.int .u32 0, Value.int .u32 0, Value.int .u32 0, Value.int .u32 0, Value.int .u32 0, Value.int .u32 0, Value.int .u32 0, Value.int .u32 0, Value.int .u32 0, Value.int .u32 0, Value.int .u32 0, Value.int .u32 0, Value.int .u32 0, Value.int .u32 0, Value.int .u32 0, Value.int .u32 0, Value.int .u32 0, Value.int .u32 0, Value.int .u32 0, Value.int .u32 0, Value.int .u32 0, Value.int .u32 0, Value.int .u32 0, Value.int .u32 0, Value.int .u32 0, Value.int .u32 0, Value.int .u32 0, Value.int .u32 0, Value.int .u32 0, Value.int .u32 0, Value.int .u32 0, Value.int .u32 0, Value.int .u32 0, Value.int .u32 0, Value.int .u32 0, Value.int .u32 0, Value.int .u32 0, Value.int .u32 0, Value.int .u32 0, Value.int .u32 0, Value.int .u32 0, Value.int .u32 0, Value.int .u32 0, Value.int .u32 0, Value.int .u32 0, Value.int .u32 0, Value.int .u32 0, Value.int .u32 0, Value.int .u32 0, Value.int .u32 0, Value.int .u32 0, Value.int .u32 0, Value.int .u32 0, Value.int .u32 0]
theorem zero_64 (w : World) : (zeroValue 43).run Tryd.prog w = .ok (.agg zero64) w := by kernel_rfl
theorem zero64_size : zero64.size = 64 := by kernel_rfl
theorem get_word {w7 wr : World} {B gm L q i c : Nat} {M : List UInt8} (hR : Row w7 B (some ⟨gm, 0, none⟩) L (bvs M)) (hL : 64 * (q + 1) ≤ L) (hi : i < 16) (hk : wr.heap[gm]? = w7.heap[gm]?) :
    Calls Tryd.prog 26 #[.slice (some ⟨gm, 64 * q + 4 * i, none⟩) 4 c] wr fun e' w' => e' = .returned (.int .u64 ((wordAt ((M.drop (64 * q)).take 64) i).toNat : Int)) ∧ wr = w' := by
  have hl := hR.size
  have h1 := (hR.drop (k := 64 * q + 4 * i) (by omega)).take (k := 4) (by omega)
  have e : ((bvs M).drop (64 * q + 4 * i)).take 4 = bvs [((M.drop (64 * q)).take 64).getD (4 * i) 0, ((M.drop (64 * q)).take 64).getD (4 * i + 1) 0, ((M.drop (64 * q)).take 64).getD (4 * i + 2) 0, ((M.drop (64 * q)).take 64).getD (4 * i + 3) 0] := by
    have hg : ∀ j, j < 4 → ((M.drop (64 * q)).take 64).getD (4 * i + j) 0 = M.getD (64 * q + 4 * i + j) 0 := by
      intro j hj
      rw [List.getD_eq_getElem?_getD, List.getD_eq_getElem?_getD, List.getElem?_take, if_pos (by omega), List.getElem?_drop, Nat.add_assoc]
    have h0 := hg 0 (by omega)
    rw [Nat.add_zero, Nat.add_zero] at h0
    rw [h0, hg 1 (by omega), hg 2 (by omega), hg 3 (by omega), bvs_drop, bvs_take]
    congr 1
    apply List.ext_getElem?
    intro j
    rw [List.getElem?_take, List.getElem?_drop]
    have hd : ∀ t, t < L → M[t]? = some (M.getD t 0) := fun t ht => by rw [List.getD_eq_getElem?_getD, List.getElem?_eq_getElem (by omega)]; rfl
    rcases j with _ | _ | _ | _ | j
    · rw [if_pos (by omega)]; exact hd _ (by omega)
    · rw [if_pos (by omega)]; exact hd _ (by omega)
    · rw [if_pos (by omega)]; exact hd _ (by omega)
    · rw [if_pos (by omega)]; exact hd _ (by omega)
    · rw [if_neg (by omega)]; rfl
  rw [e, Nat.zero_add] at h1
  have h2 : Row wr B (some ⟨gm, 64 * q + 4 * i, none⟩) 4 (bvs [((M.drop (64 * q)).take 64).getD (4 * i) 0, ((M.drop (64 * q)).take 64).getD (4 * i + 1) 0, ((M.drop (64 * q)).take 64).getD (4 * i + 2) 0, ((M.drop (64 * q)).take 64).getD (4 * i + 3) 0]) := by
    refine ⟨h1.1, fun h0 => ?_⟩
    obtain ⟨b, o, e, hb, hc⟩ := h1.2 h0
    injection e with e
    injection e with e1 e2
    subst e1 e2
    exact ⟨_, _, rfl, hb, fun j v hv => (World.cell?_of_block (a := ⟨gm, 64 * q + 4 * i + j, none⟩) hk).trans (hc j v hv)⟩
  exact get_any _ c _ _ _ _ B wr h2
theorem word_sum2 (x y z u : BitVec 32) :
    Value.int .u32 (((u.toNat : Int) + bits .xor .u32 (bits .xor .u32 ((rotr z 7).toNat : Int) ((rotr z 18).toNat : Int)) ((z.toNat : Int) / 8) + (y.toNat : Int) +
      bits .xor .u32 (bits .xor .u32 ((rotr x 17).toNat : Int) ((rotr x 19).toNat : Int)) ((x.toNat : Int) / 1024)) % 4294967296) = uv (low1 x + y + low0 z + u) := by
  have e1 : (x.toNat : Int) / (1024 : Int) = ((x >>> 10).toNat : Int) := u32_shr_bv x 10
  have e2 : (z.toNat : Int) / (8 : Int) = ((z >>> 3).toNat : Int) := u32_shr_bv z 3
  have e3 : low1 x + y + low0 z + u = u + low0 z + y + low1 x := by ac_rfl
  rw [e1, e2, u32_xor_bv, u32_xor_bv, u32_xor_bv, u32_xor_bv, e3]
  unfold uv
  rw [← u32_add_bv, ← u32_add_bv, ← u32_add_bv]
  simp only [Int.emod_add_emod]
  rfl
theorem ref_a (a b c e f g h y x : BitVec 32) :
    ((h.toNat : Int) + bits .xor .u32 (bits .xor .u32 ((rotr e 6).toNat : Int) ((rotr e 11).toNat : Int)) ((rotr e 25).toNat : Int) +
      bits .xor .u32 (bits .and .u32 (e.toNat : Int) (f.toNat : Int)) (bits .and .u32 (bits .xor .u32 IntKind.u32.max (e.toNat : Int)) (g.toNat : Int)) + (y.toNat : Int) + (x.toNat : Int) +
      (bits .xor .u32 (bits .xor .u32 ((rotr a 2).toNat : Int) ((rotr a 13).toNat : Int)) ((rotr a 22).toNat : Int) +
      bits .xor .u32 (bits .xor .u32 (bits .and .u32 (a.toNat : Int) (b.toNat : Int)) (bits .and .u32 (a.toNat : Int) (c.toNat : Int))) (bits .and .u32 (b.toNat : Int) (c.toNat : Int)))) % 4294967296 =
      ((h + big1 e + pick e f g + y + x + big0 a + most a b c).toNat : Int) := by
  rw [u32_not_bv, BitVec.add_assoc (h + big1 e + pick e f g + y + x)]
  simp only [u32_xor_bv, u32_and_bv]
  simp only [← u32_add_bv, Int.emod_add_emod, Int.add_emod_emod]
  rfl
theorem ref_e (e f g h d y x : BitVec 32) :
    ((d.toNat : Int) + ((h.toNat : Int) + bits .xor .u32 (bits .xor .u32 ((rotr e 6).toNat : Int) ((rotr e 11).toNat : Int)) ((rotr e 25).toNat : Int) +
      bits .xor .u32 (bits .and .u32 (e.toNat : Int) (f.toNat : Int)) (bits .and .u32 (bits .xor .u32 IntKind.u32.max (e.toNat : Int)) (g.toNat : Int)) + (y.toNat : Int) + (x.toNat : Int))) % 4294967296 =
      ((d + (h + big1 e + pick e f g + y + x)).toNat : Int) := by
  rw [u32_not_bv, u32_xor_bv, u32_xor_bv, u32_and_bv, u32_and_bv, u32_xor_bv]
  simp only [← u32_add_bv, Int.emod_add_emod, Int.add_emod_emod]
  rfl
/-- What is left to add into a state behind k words. -/
def part8 (s t : St) (k : Nat) : List (BitVec 32) := (List.range 8).map fun j => if j < k then s.list.getD j 0 + t.list.getD j 0 else s.list.getD j 0
theorem part8_length (s t : St) (k : Nat) : (part8 s t k).length = 8 := by simp [part8]
theorem part8_get (s t : St) (k j : Nat) (hj : j < 8) : (part8 s t k).getD j 0 = if j < k then s.list.getD j 0 + t.list.getD j 0 else s.list.getD j 0 := by
  rw [List.getD_eq_getElem?_getD, part8, List.getElem?_map, List.getElem?_range hj]
  rfl
theorem part8_zero (s t : St) : part8 s t 0 = s.list := by simp [part8, List.range_succ, St.list]
theorem part8_full (s t : St) : part8 s t 8 = (s.add t).list := by simp [part8, List.range_succ, St.list, St.add]
theorem part8_put (s t : St) (k : Nat) (hk : k < 8) : (uvs (part8 s t k)).toArray.setIfInBounds k (uv (s.list.getD k 0 + t.list.getD k 0)) = (uvs (part8 s t (k + 1))).toArray := by
  apply Array.ext'
  apply List.ext_getElem?
  intro j
  rw [Array.getElem?_toList, Array.getElem?_setIfInBounds]
  by_cases hj : j < 8
  · rw [uvs_get (by rw [part8_length]; exact hj), part8_get s t (k + 1) j hj]
    by_cases hjk : k = j
    · subst hjk
      rw [if_pos rfl, if_pos (by simp [uvs_length, part8_length]; exact hk), if_pos (by omega)]
    · rw [if_neg hjk, List.getElem?_toArray, uvs_get (by rw [part8_length]; exact hj), part8_get s t k j hj]
      by_cases hlt : j < k
      · rw [if_pos hlt, if_pos (by omega)]
      · rw [if_neg hlt, if_neg (by omega)]
  · rw [if_neg (by omega), List.getElem?_toArray, List.getElem?_eq_none (by rw [uvs_length, part8_length]; omega), List.getElem?_eq_none (by simp [uvs_length, part8_length]; omega)]
theorem turn_quiet (x : BitVec 32) (k : Nat) (v : Int) (w : World) (hv : v = (k : Int)) (h1 : 1 ≤ k) (hk : k ≤ 31) (q : Nat) :
    Calls Tryd.prog 27 #[.int .u32 (x.toNat : Int), .int .i64 v] (w.drewN q) fun e w' => e = .returned (.int .u32 ((rotr x k).toNat : Int)) ∧ ∃ m, w' = w.drewN m :=
  (turn_any x k v (w.drewN q) hv h1 hk).mono fun _ _ h => ⟨h.1, q, h.2.symm⟩
theorem turn_quiet2 (x : BitVec 32) (k : Nat) (v : Int) (w : World) (hv : v = (k : Int)) (h1 : 1 ≤ k) (hk : k ≤ 31) (a q : Nat) :
    Calls Tryd.prog 27 #[.int .u32 (x.toNat : Int), .int .i64 v] (w.drewN (a + q)) fun e w' => e = .returned (.int .u32 ((rotr x k).toNat : Int)) ∧ ∃ m, w' = w.drewN (a + m) :=
  (turn_any x k v (w.drewN (a + q)) hv h1 hk).mono fun _ _ h => ⟨h.1, q, h.2.symm⟩

theorem step_copy_blk {P : Program} {ops : Array Oper} {o : Oper} {a : Act} {w : World} {K : Act → World → Prop} {Q : Exit → Act → World → Prop} {E : Prop} (hgd : o.guard = none) (d s : Operand) (dT sT : TypeId)
    (ho : o.op = Op.call { callee := Callee.builtin Builtin.copy, args := #[d, s], argTypes := #[dT, sT] }) (elem : TypeId) (hu : P.underlying dT = some (.slice elem)) (hsz : (P.info? elem).map (·.size) = some 1)
    (g off dLen dCap b i sLen sCap : Nat) (hd : a.eval d = .slice (some ⟨g, off, none⟩) dLen dCap) (hs : a.eval s = .slice (some ⟨b, i, none⟩) sLen sCap)
    (t : TypeId) (cur : List Value) (hg : Blk w g t cur.toArray) (cs : List Value) (hn : cs.length = Nat.min sLen dLen)
    (hsrc : ∀ j v, cs[j]? = some v → w.cell? ⟨b, i + j, none⟩ = some v) (hfit : off + cs.length ≤ cur.length) (h1 : ∀ v ∈ cs, v.oneCell' = true)
    (hK : ∀ w', Hid (Blk w' g t (splice cur off cs).toArray) → Hid (w.grownBy w' (some g)) → K (a.put o.dst (goInt cs.length)) w') :
    if Region.wanted o (yielded ops a.tmps) = true then Oper.wp P o a w K Q else E := by
  have hw : Region.wanted o (yielded ops a.tmps) = true := by simp [Region.wanted, hgd]
  rw [if_pos hw]
  have hrun := run_copy_row (P := P) w dT sT o.type elem g off dLen dCap ⟨b, i, none⟩ sLen sCap cur.toArray t cs hu hsz hg hn (fun j v hv => by
    have := hsrc j v hv
    unfold Addr.add
    split
    · rename_i hj; subst hj; exact this
    · exact this) (by simpa using hfit) h1
  unfold Oper.wp
  simp [execOp, ho, resolve, invoke, builtin, hd, hs, hrun, Result.andThen]
  exact hK _ (show Blk _ g t _ from by simpa [splice, Blk] using setRow_heap w g _ _ t (0, 0) hg) (only_setRow w g _)

set_option maxRecDepth 100000 in
set_option maxHeartbeats 4000000 in
theorem refdigest_any (A : Option Addr) (n c : Nat) (bs : List UInt8) (w : World) (hR : Row w w.heap.size A n (bvs bs)) (hl : n < 35184372088832) :
    Calls Tryd.prog 20 #[.slice A n c, .agg kCells, .agg (uvs start.list).toArray] w fun e w' => e = .returned (.agg (bvs (digest bs)).toArray) ∧ Below w.heap.size w w' := by
  have hzero' := zero_sum
  have hzero64 := zero_64
  have HR := Lib.hid hR
  have HL := Lib.hid hR.size
  have HK : Hid (kCells.size = 64) := kCells_size
  clear hR
  obtain ⟨st, hst⟩ : ∃ st, st = (uvs start.list).toArray := ⟨_, rfl⟩
  rw [← hst]
  have HST := Lib.hid hst
  clear hst
  go_enter Tryd.func20, Tryd.ntmps20
  have E0 : Hid (Below w.heap.size w (((w.alloc (.cells kCells 43)).alloc (.cells st 44)).alloc (.cells zeroSum 25))) := (((Below.refl _ _).alloc (Nat.le_refl _) _).alloc (by simp) _).alloc (by simp; omega) _
  have E1 : Hid (Blk (((w.alloc (.cells kCells 43)).alloc (.cells st 44)).alloc (.cells zeroSum 25)) w.heap.size 43 kCells) := (Below.heap_alloc _ _ _ (by simp; omega)).trans (heap_alloc2_old _ _ _)
  have E2 : Hid (Blk (((w.alloc (.cells kCells 43)).alloc (.cells st 44)).alloc (.cells zeroSum 25)) (w.heap.size + 1) 44 st) := (Below.heap_alloc _ _ _ (by simp)).trans (heap_alloc2_new _ _ _)
  have E3 : Hid (Blk (((w.alloc (.cells kCells 43)).alloc (.cells st 44)).alloc (.cells zeroSum 25)) (w.heap.size + 2) 25 zeroSum) := by
    have h := heap_alloc_new ((w.alloc (.cells kCells 43)).alloc (.cells st 44)) (.cells zeroSum 25)
    have e : ((w.alloc (.cells kCells 43)).alloc (.cells st 44)).heap.size = w.heap.size + 2 := by simp
    rw [e] at h
    exact h
  have E4 : Hid ((((w.alloc (.cells kCells 43)).alloc (.cells st 44)).alloc (.cells zeroSum 25)).heap.size = w.heap.size + 3) := by show _ = _; simp
  have N1 : Hid (0 + n ≤ maxLen) := by show 0 + n ≤ maxLen; unfold maxLen; omega
  have N2 : Hid ((0 + n) * 1 ≤ 140737488355328) := by show (0 + n) * 1 ≤ 140737488355328; omega
  have N3 : Hid (0 + n + 1 ≤ maxLen) := by show 0 + n + 1 ≤ maxLen; unfold maxLen; omega
  have N4 : Hid ((0 + n + 1) * 1 ≤ 140737488355328) := by show (0 + n + 1) * 1 ≤ 140737488355328; omega
  have O1 : Hid (∀ u ∈ [Value.int .u8 128], u.oneCell' = true) := fun u hu => by rw [List.mem_singleton.1 hu]; rfl
  go_wp2_with (first
    | (at_builtin
       refine wpList_append_reads rfl (.const (.slice none 0 0)) (.tmp 24) _ rfl (w.heap.size + 3) 5 (.int .u8 0) 1 Tryd.underlying22 u8_info' rfl (.slice none 0 0) 0 [] rfl (World.ownsRow_nil _ _ _ _) w.heap.size A n c (bvs bs) rfl (HR.out.below E0.out) (bvs_one _) N1.out N2.out (Nat.le_of_eq E4.out.symm) ?_
       intro v1 w4 ho1 hg1)
    | (at_builtin
       refine wpList_append_reads rfl (.tmp 25) (.tmp 26) _ rfl (w.heap.size + 3) 5 (.int .u8 0) 1 Tryd.underlying22 u8_info' rfl v1 (0 + n) ([] ++ bvs bs) rfl (ho1.alloc _) (w4.heap.size + 1) (some ⟨w4.heap.size, 0, none⟩) 1 1 [.int .u8 128] rfl (Row.fresh w4 5 (0, 0) _) O1.out N3.out N4.out (Nat.le_trans (Nat.le_of_eq E4.out.symm) (Nat.le_trans hg1.size (by simp))) ?_
       intro v2 w5 ho2 hg2))
  have hb5 : Below (w.heap.size + 3) (((w.alloc (.cells kCells 43)).alloc (.cells st 44)).alloc (.cells zeroSum 25)) w5 := by
    have h1 := own_below (B := w.heap.size + 3) (World.ownsRow_nil _ (w.heap.size + 3) 5 1) (Below.refl _ _) (Nat.le_refl _) (Nat.le_of_eq E4.out.symm) hg1
    exact own_below (ho1.alloc _) (h1.alloc (Nat.le_trans (Nat.le_of_eq E4.out.symm) hg1.size) _) (Nat.le_refl _) (Nat.le_trans (Nat.le_of_eq E4.out.symm) (Nat.le_trans hg1.size (by simp))) hg2
  have hz5 : w.heap.size + 3 ≤ w5.heap.size := Nat.le_trans (Nat.le_of_eq E4.out.symm) hb5.size
  have F0 : Hid (Below w.heap.size w w5) := E0.out.trans (hb5.mono (by omega))
  have F1 : Hid (Blk w5 w.heap.size 43 kCells) := (hb5.block _ (by omega)).trans E1.out
  have F2 : Hid (Blk w5 (w.heap.size + 1) 44 st) := (hb5.block _ (by omega)).trans E2.out
  have F3 : Hid (Blk w5 (w.heap.size + 2) 25 zeroSum) := (hb5.block _ (by omega)).trans E3.out
  have ho : w5.ownsRow (w.heap.size + 3) 5 1 v2 (n + 1 + 0) (bvs (front bs 0)) := by
    rw [List.nil_append, Nat.zero_add] at ho2
    have e : bvs (front bs 0) = bvs bs ++ [.int .u8 128] := by simp [front, bvs, bv]
    rw [e]
    exact ho2
  have HO := Lib.hid ho
  clear E0 E1 E2 E3 E4 N1 N2 N3 N4 ho1 hg1 ho2 hg2 hb5 ho
  go_loopw [7] (fun v wr => ∃ z : Nat, z ≤ noughts n ∧ Hid (wr.ownsRow (w.heap.size + 3) 5 1 v (n + 1 + z) (bvs (front bs z)) ∧ Below (w.heap.size + 3) w5 wr)) (fun v _ => match v with | .slice _ m _ => 64 + n - m | _ => 0)
  case atStart => exact ⟨0, Nat.zero_le _, HO.out, Below.refl _ _⟩
  case round =>
    obtain ⟨z, hz, HI⟩ := hrel
    obtain ⟨A2, c2, rfl, hc2, hm2⟩ := own_form HI.out.1
    have hz64 := noughts_lt n
    by_cases hend : (n + 1 + z) % 64 = 56
    · have hne : ((((n + 1 + z : Nat) : Int) % 64) != 56) = false := by simp; omega
      have hzn := noughts_end hz hend
      have hq : (n + 1 + z + 8) % 64 = 0 := by omega
      have HZN := Lib.hid hzn
      have HQ := Lib.hid hq
      have HO2 := Lib.hid HI.out.1
      have HB2 := Lib.hid HI.out.2
      have PT : Hid (∀ W : World, Calls Tryd.prog 25 #[.int .u64 ((n : Int) * 8), .int .i64 8] W fun e w' => ∃ u, e = .returned u ∧ w'.ownsRow W.heap.size 5 1 u 8 (bvs (bytes64 (8 * n))) ∧ Below W.heap.size W w') := fun W => by
        have h := put_any (8 * n) 8 8 W rfl ⟨by omega, by omega⟩ (by omega)
        rw [beL_eight, show ((8 * n : Nat) : Int) = (n : Int) * 8 by omega] at h
        exact h
      have N1 : Hid (n + 1 + z + 8 ≤ maxLen) := by show n + 1 + z + 8 ≤ maxLen; unfold maxLen; omega
      have N2 : Hid ((n + 1 + z + 8) * 1 ≤ 140737488355328) := by show (n + 1 + z + 8) * 1 ≤ 140737488355328; omega
      clear HI hend hzn hq
      go_wp2_with fail
      refine (PT.out wr).mono ?_
      rintro e w6 ⟨u, rfl, hu6, hb6⟩
      obtain ⟨A6, c6, rfl, _, _⟩ := own_form hu6
      have hz6 : w.heap.size + 3 ≤ w6.heap.size := Nat.le_trans hz5 (Nat.le_trans HB2.out.size hb6.size)
      have HU := Lib.hid (Row.own hu6)
      have HO6 := Lib.hid (HO2.out.kept (row := none) ⟨hb6.os, hb6.tape, hb6.output, hb6.size, fun k hk _ => hb6.block k hk⟩ (by cases A2 with | none => exact .inl rfl | some a => exact .inr (by simp [Value.ownBlock])))
      have HB6 := Lib.hid (HB2.out.trans (hb6.mono (Nat.le_trans hz5 HB2.out.size)))
      clear hu6 hb6
      go_wp2_with (at_builtin; refine wpList_append_reads rfl (.tmp 35) (.tmp 40) _ rfl (w.heap.size + 3) 5 (.int .u8 0) 1 Tryd.underlying22 u8_info' rfl (.slice A2 (n + 1 + z) c2) (n + 1 + z) (bvs (front bs z)) rfl HO6.out w6.heap.size A6 8 c6 (bvs (bytes64 (8 * n))) rfl HU.out (bvs_one _) N1.out N2.out hz6 ?_; intro v3 w7 ho7 hg7)
      have hb7 : Below (w.heap.size + 3) w5 w7 := own_below HO6.out HB6.out (Nat.le_refl _) hz6 hg7
      obtain ⟨L, hL⟩ : ∃ L, L = n + 1 + z + 8 := ⟨_, rfl⟩
      obtain ⟨M, hM⟩ : ∃ M, M = bs ++ pad n := ⟨_, rfl⟩
      rw [bvs_append, HZN.out, ← HL.out, front_pad, HL.out, ← hM, ← HZN.out, ← hL] at ho7
      obtain ⟨gm, cm, cur, rfl, hgm, hblk, hLc, hcm, _, _⟩ := own_block ho7 (by omega)
      have hrow := Row.own ho7
      obtain ⟨Q, hQ⟩ : ∃ Q, L = 64 * Q := ⟨L / 64, by have := HQ.out; omega⟩
      have hml : M.length = L := hrow.size
      have G0 := Lib.hid (F0.out.trans (hb7.mono (by omega)))
      have G1 := Lib.hid ((hb7.block _ (by omega)).trans F1.out)
      have G2 := Lib.hid ((hb7.block _ (by omega)).trans F2.out)
      have G3 := Lib.hid ((hb7.block _ (by omega)).trans F3.out)
      have HROW := Lib.hid hrow
      have HML := Lib.hid hml
      have HM := Lib.hid hM
      have HQQ := Lib.hid hQ
      have HCM : Hid (cm ≤ maxLen) := hcm
      have hz7 : w.heap.size + 3 ≤ w7.heap.size := Nat.le_trans hz5 hb7.size
      have hgm7 : gm < w7.heap.size := blk_lt hblk
      have hcm' : cm ≤ 9223372036854775807 := by unfold maxLen at hcm; exact hcm
      have hLQ : (L : Int) = 64 * (Q : Int) := by omega
      have hLl : (L : Int) ≤ 35184372088832 + 100 := by omega
      clear HO2 HB2 HO6 HB6 HU F0 F1 F2 F3 N1 N2 PT ho7 hg7 hblk hrow hml hM hcm hb7 HZN HQ hne hz6 HO O1 hL hQ
      go_wp2_with fail
      go_loopw [8] (fun i wr => ∃ q : Nat, q ≤ Q ∧ i = .int .i64 (64 * (q : Int)) ∧ Hid (w7.grownBy wr (some (w.heap.size + 1)) ∧ Blk wr (w.heap.size + 1) 44 (uvs (blocks start M q).list).toArray)) (fun i _ => Q - (intOf i).toNat / 64)
      case atStart => exact ⟨0, Nat.zero_le _, by simp, only_refl _ _, by have := G2.out; rw [HST.out] at this; exact this⟩
      case round =>
        clear hz
        obtain ⟨q, hq, rfl, HI⟩ := hrel
        by_cases hlt : q < Q
        · obtain ⟨wo, rfl⟩ : ∃ wo : World, wo = wr := ⟨_, rfl⟩
          obtain ⟨bl, hbl⟩ : ∃ bl, bl = (M.drop (64 * q)).take 64 := ⟨_, rfl⟩
          have HBL := Lib.hid hbl
          have hgmo : gm < wo.heap.size := Nat.lt_of_lt_of_le hgm7 HI.out.1.size
          have hgk : wo.heap[gm]? = w7.heap[gm]? := HI.out.1.block gm hgm7 (by intro e; injection e; omega)
          have HGK := Lib.hid hgk
          clear hbl hgk
          go_wp2_with fail
          go_loopw [10] (fun i wr => ∃ (k : Nat) (arr : Array Value), k ≤ 16 ∧ i = .int .i64 k ∧ Hid (Blk wr wo.heap.size 43 arr ∧ arr.size = 64 ∧ (∀ j, j < k → arr[j]? = some (uv ((words bl 64).getD j 0))) ∧ Below wo.heap.size wo wr)) (fun i _ => 16 - (intOf i).toNat)
          case atStart => exact ⟨0, zero64, Nat.zero_le _, rfl, heap_alloc_new _ _, zero64_size, fun j hj => absurd hj (by omega), (Below.refl _ _).alloc (Nat.le_refl _) _⟩
          case round =>
            obtain ⟨k, arr, hk, rfl, HJ⟩ := hrel
            by_cases hkt : k < 16
            · obtain ⟨x, hx⟩ : ∃ x, x = wordAt bl k := ⟨_, rfl⟩
              have GW := Lib.hid (get_word (c := cm - (64 * q + 4 * k)) HROW.out (by omega : 64 * (q + 1) ≤ L) hkt ((HJ.out.2.2.2.block gm hgmo).trans HGK.out))
              rw [← HBL.out, ← hx] at GW
              have HX := Lib.hid hx
              have hxl : x.toNat < 4294967296 := x.isLt
              have hsz : k < arr.size := by rw [HJ.out.2.1]; omega
              obtain ⟨v0, f1⟩ : ∃ v0, wr.cell? ⟨wo.heap.size, k, none⟩ = some v0 := ⟨_, (HJ.out.1.cell k).trans (Array.getElem?_eq_getElem hsz)⟩
              have f2 : wr.frozen? ⟨wo.heap.size, k, none⟩ = false := HJ.out.1.free k
              have HSZ := Lib.hid hsz
              have hb1 : (64 : Int) * (q : Int) + 4 * (k : Int) + 4 ≤ 64 * (Q : Int) := by omega
              have hqb : (64 : Int) * (q : Int) ≤ 35184372088932 := by omega
              clear hx hsz
              go_wp2_with fail
              refine GW.out.mono ?_
              rintro e w8 ⟨rfl, rfl⟩
              go_wp2_with fail
              go_roundw
              case rel =>
                obtain ⟨j1, j2, j3, j4⟩ := HJ.out
                refine ⟨k + 1, arr.setIfInBounds k (uv x), by omega, by go_num, j1.put k _, by simp [j2], fun j hj => ?_, j4.setCell (Nat.le_refl _) _⟩
                by_cases hjk : j = k
                · subst hjk
                  rw [Array.getElem?_setIfInBounds_self_of_lt HSZ.out, words_getD bl j 64 (by omega), if_pos hkt, HX.out]
                · rw [Array.getElem?_setIfInBounds_ne (by omega)]
                  exact j3 j (by omega)
              case measure => simp [intOf]; omega
            · obtain rfl : k = 16 := by omega
              clear hk hkt
              go_wp2_with fail
              rw [show ((16 : Nat) : Int) = 16 from rfl]
              go_loopw [11] (fun i wr => ∃ (k : Nat) (arr : Array Value), 16 ≤ k ∧ k ≤ 64 ∧ i = .int .i64 k ∧ Hid (Blk wr wo.heap.size 43 arr ∧ arr.size = 64 ∧ (∀ j, j < k → arr[j]? = some (uv ((words bl 64).getD j 0))) ∧ Below wo.heap.size wo wr)) (fun i _ => 64 - (intOf i).toNat)
              case atStart => exact ⟨16, arr, by omega, by omega, rfl, HJ.out⟩
              case round =>
                clear HJ
                obtain ⟨k, arr, hk1, hk2, rfl, HJ⟩ := hrel
                by_cases hkt : k < 64
                · obtain ⟨x2, HX2⟩ : ∃ x, Hid (x = (words bl 64).getD (k - 2) 0) := ⟨_, rfl⟩
                  obtain ⟨x15, HX15⟩ : ∃ x, Hid (x = (words bl 64).getD (k - 15) 0) := ⟨_, rfl⟩
                  obtain ⟨x7, HX7⟩ : ∃ x, Hid (x = (words bl 64).getD (k - 7) 0) := ⟨_, rfl⟩
                  obtain ⟨x16, HX16⟩ : ∃ x, Hid (x = (words bl 64).getD (k - 16) 0) := ⟨_, rfl⟩
                  have f2 : wr.cell? ⟨wo.heap.size, k - 2, none⟩ = some (.int .u32 (x2.toNat : Int)) := by rw [HX2.out]; exact (HJ.out.1.cell _).trans (HJ.out.2.2.1 (k - 2) (by omega))
                  have f15 : wr.cell? ⟨wo.heap.size, k - 15, none⟩ = some (.int .u32 (x15.toNat : Int)) := by rw [HX15.out]; exact (HJ.out.1.cell _).trans (HJ.out.2.2.1 (k - 15) (by omega))
                  have f7 : wr.cell? ⟨wo.heap.size, k - 7, none⟩ = some (.int .u32 (x7.toNat : Int)) := by rw [HX7.out]; exact (HJ.out.1.cell _).trans (HJ.out.2.2.1 (k - 7) (by omega))
                  have f16 : wr.cell? ⟨wo.heap.size, k - 16, none⟩ = some (.int .u32 (x16.toNat : Int)) := by rw [HX16.out]; exact (HJ.out.1.cell _).trans (HJ.out.2.2.1 (k - 16) (by omega))
                  have hsz : k < arr.size := by rw [HJ.out.2.1]; omega
                  obtain ⟨v0, f1⟩ : ∃ v0, wr.cell? ⟨wo.heap.size, k, none⟩ = some v0 := ⟨_, (HJ.out.1.cell k).trans (Array.getElem?_eq_getElem hsz)⟩
                  have f3 : wr.frozen? ⟨wo.heap.size, k, none⟩ = false := HJ.out.1.free k
                  have HSZ := Lib.hid hsz
                  clear hsz
                  go_wp2_with fail
                  go_quiet ((first
                    | (go_at_call 27; with_reducible exact turn_quiet x15 7 7 _ rfl (by decide) (by decide) _)
                    | (go_at_call 27; with_reducible exact turn_quiet x15 18 18 _ rfl (by decide) (by decide) _)))
                  go_wp2_with fail
                  go_quiet ((first
                    | (go_at_call 27; with_reducible exact turn_quiet2 x2 17 17 wr rfl (by decide) (by decide) _ _)
                    | (go_at_call 27; with_reducible exact turn_quiet2 x2 19 19 wr rfl (by decide) (by decide) _ _)))
                  go_wp2_with fail
                  go_region
                  go_wp2_with fail
                  go_roundw
                  case rel =>
                    rw [word_sum2 x2 x7 x15 x16]
                    obtain ⟨j1, j2, j3, j4⟩ := HJ.out
                    refine ⟨k + 1, arr.setIfInBounds k (uv (low1 x2 + x7 + low0 x15 + x16)), by omega, by omega, by go_num, Blk.put (w := wr.drewN _) j1 k _, by simp [j2], fun j hj => ?_, (below_drewN j4 _).setCell (Nat.le_refl _) _⟩
                    by_cases hjk : j = k
                    · subst hjk
                      rw [Array.getElem?_setIfInBounds_self_of_lt HSZ.out]
                      rw [HX2.out, HX7.out, HX15.out, HX16.out, words_next bl j hk1 hkt]
                    · rw [Array.getElem?_setIfInBounds_ne (by omega)]
                      exact j3 j (by omega)
                  case measure => simp [intOf]; omega
                · obtain rfl : k = 64 := by omega
                  obtain ⟨j1, j2, j3, j4⟩ := HJ.out
                  have ha : arr = (uvs (words bl 64)).toArray := by
                    apply Array.ext'
                    apply List.ext_getElem?
                    intro j
                    rw [Array.getElem?_toList]
                    by_cases hj : j < 64
                    · rw [j3 j hj, uvs_get (by rw [words_length]; exact hj)]
                    · rw [Array.getElem?_eq_none (by omega), List.getElem?_eq_none (by rw [uvs, List.length_map, words_length]; omega)]
                  subst ha
                  have hT5o : w.heap.size + 1 < wo.heap.size := blk_lt HI.out.2
                  obtain ⟨s0, hs0⟩ : ∃ s0, s0 = blocks start M q := ⟨_, rfl⟩
                  have hi2 := HI.out.2
                  rw [← hs0] at hi2
                  have k5 : Blk wr (w.heap.size + 1) 44 (uvs s0.list).toArray := (j4.block _ hT5o).trans hi2
                  have W9 := Lib.hid j1
                  have WB := Lib.hid j4
                  have K5 := Lib.hid k5
                  have HS0 := Lib.hid hs0
                  obtain ⟨r0, hr0⟩ : ∃ r0, r0 = (uvs s0.list).toArray := ⟨_, rfl⟩
                  have R8 : Hid (r0.size = 8) := by show r0.size = 8; rw [hr0]; rfl
                  have R1 : Hid (r0.all (·.oneCell') = true) := by show r0.all (·.oneCell') = true; rw [hr0]; exact uvs_one _
                  have R0 := Lib.hid hr0
                  clear HJ j1 j2 j3 j4 hs0 hi2 k5 hr0 hk1 hk2 hkt
                  go_wp2_with (first
                    | (refine wpList_load_row rfl 44 (.tmp 5) rfl (w.heap.size + 1) rfl 44 r0 (0, 0) _ (by rw [R0.out]; exact K5.out) Tryd.underlying44 rfl (by rw [R8.out]; kernel_rfl) ?_)
                    | (refine wpList_store_blk rfl 44 (.tmp 14) (.tmp 120) rfl wr.heap.size r0 rfl rfl 44 _ (heap_alloc_new _ _) (by rw [R8.out]; kernel_rfl) (by rw [R8.out]; rfl) R1.out ?_
                       intro w9 P1 P2))
                  obtain ⟨we, rfl⟩ : ∃ we : World, we = wr := ⟨_, rfl⟩
                  have hzo : wo.heap.size < we.heap.size := blk_lt W9.out
                  have hT4o : w.heap.size < wo.heap.size := by omega
                  have q9 : Blk w9 wo.heap.size 43 (uvs (words bl 64)).toArray := ((only_hid (row := some we.heap.size) P2).block _ (by simp; omega) (by intro e; injection e; omega)).trans ((Below.heap_alloc we _ _ hzo).trans W9.out)
                  have qb : Below wo.heap.size wo w9 := below_only (WB.out.alloc WB.out.size _) (only_hid P2) WB.out.size (by simp; omega)
                  have q4 : Blk w9 w.heap.size 43 kCells := (qb.block _ hT4o).trans ((HI.out.1.block _ (by omega) (by intro e; injection e; omega)).trans G1.out)
                  have q14 : Blk w9 we.heap.size 44 (uvs s0.list).toArray := by rw [← R0.out]; exact P1.out
                  have Q9 := Lib.hid q9
                  have QB := Lib.hid qb
                  have Q4 := Lib.hid q4
                  have Q14 := Lib.hid q14
                  have hz9 : we.heap.size < w9.heap.size := blk_lt q14
                  have hzw : w.heap.size < w9.heap.size := by omega
                  clear q9 qb q4 q14 W9 WB P1 P2
                  go_loopw [15] (fun i wr => ∃ (k : Nat) (s : St), k ≤ 64 ∧ i = .int .i64 k ∧ Hid (s = rounds (words bl 64) s0 k ∧ Blk wr we.heap.size 44 (uvs s.list).toArray ∧ w9.grownBy wr (some we.heap.size))) (fun i _ => 64 - (intOf i).toNat)
                  case atStart => exact ⟨0, s0, Nat.zero_le _, rfl, rfl, Q14.out, only_refl _ _⟩
                  case round =>
                    obtain ⟨k, ⟨a, b, c', d, e, f, g, hh⟩, hk, rfl, HJ⟩ := hrel
                    by_cases hkt : k < 64
                    · obtain ⟨x, HX⟩ : ∃ x, Hid (x = (words bl 64).getD k 0) := ⟨_, rfl⟩
                      obtain ⟨y, HY⟩ : ∃ y, Hid (y = k32 k) := ⟨_, rfl⟩
                      obtain ⟨c0, c1, c2, c3, c4, c5, c6, c7⟩ := blk_state HJ.out.2.1
                      have cx : wr.cell? ⟨wo.heap.size, k, none⟩ = some (.int .u32 (x.toNat : Int)) := by
                        rw [HX.out]
                        exact (World.cell?_of_block (a := ⟨wo.heap.size, k, none⟩) (HJ.out.2.2.block wo.heap.size (by omega) (by intro e; injection e; omega))).trans ((blk_cell Q9.out k).trans (uvs_get (by rw [words_length]; exact hkt)))
                      have cy : wr.cell? ⟨w.heap.size, k, none⟩ = some (.int .u32 (y.toNat : Int)) := by
                        rw [HY.out]
                        exact (World.cell?_of_block (a := ⟨w.heap.size, k, none⟩) (HJ.out.2.2.block w.heap.size hzw (by intro e; injection e; omega))).trans ((Q4.out.cell k).trans (kCells_get k hkt))
                      have HJB := Lib.hid HJ.out.2.1
                      go_wp2_with fail
                      go_quiet ((first
                        | (go_at_call 27; with_reducible exact turn_quiet e 6 6 _ rfl (by decide) (by decide) _)
                        | (go_at_call 27; with_reducible exact turn_quiet e 11 11 _ rfl (by decide) (by decide) _)
                        | (go_at_call 27; with_reducible exact turn_quiet e 25 25 _ rfl (by decide) (by decide) _)))
                      go_wp2_with fail
                      go_quiet (fail)
                      go_wp2_with fail
                      go_quiet ((first
                        | (go_at_call 27; with_reducible exact turn_quiet2 a 2 2 wr rfl (by decide) (by decide) _ _)
                        | (go_at_call 27; with_reducible exact turn_quiet2 a 13 13 wr rfl (by decide) (by decide) _ _)
                        | (go_at_call 27; with_reducible exact turn_quiet2 a 22 22 wr rfl (by decide) (by decide) _ _)))
                      go_wp2_with (
                        refine wpList_store_blk rfl 44 (.tmp 14) (.tmp 211) rfl we.heap.size _ rfl rfl 44 (uvs (St.list ⟨a, b, c', d, e, f, g, hh⟩)).toArray HJB.out ?_ ?_ ?_ ?_
                        · kernel_rfl
                        · rfl
                        · simp [Value.oneCell']
                        intro w10 P3 P4)
                      have p3 := P3.out
                      rw [ref_a, ref_e] at p3
                      refine ⟨⟨k + 1, rnd ⟨a, b, c', d, e, f, g, hh⟩ y x, by omega, by go_num, ?_, p3, only_trans (only_drewN HJ.out.2.2 _) (only_hid P4)⟩, by simp [intOf]; omega⟩
                      rw [rounds, ← HJ.out.1, HX.out, HY.out]
                    · obtain rfl : k = 64 := by omega
                      obtain ⟨t, ht⟩ : ∃ t : St, t = ⟨a, b, c', d, e, f, g, hh⟩ := ⟨_, rfl⟩
                      rw [← ht] at HJ
                      have hT5o : w.heap.size + 1 < wo.heap.size := blk_lt HI.out.2
                      have hj5 : Blk wr (w.heap.size + 1) 44 (uvs (part8 s0 t 0)).toArray := by
                        rw [part8_zero, HS0.out]
                        exact (HJ.out.2.2.block _ (by omega) (by intro e; injection e; omega)).trans ((QB.out.block _ hT5o).trans HI.out.2)
                      have hjw : w7.grownBy wr (some (w.heap.size + 1)) := only_new (only_below HI.out.1 (QB.out.mono HI.out.1.size)) (by have := HI.out.1.size; omega) HJ.out.2.2
                      have J5 := Lib.hid hj5
                      have JW := Lib.hid hjw
                      have JT := Lib.hid HJ.out.2.1
                      have JE := Lib.hid HJ.out.1
                      have hzr : we.heap.size < wr.heap.size := blk_lt HJ.out.2.1
                      clear ht HJ hj5 hjw hk hkt
                      go_wp2_with fail
                      obtain ⟨wf, rfl⟩ : ∃ wf : World, wf = wr := ⟨_, rfl⟩
                      go_loopw [21] (fun i wr => ∃ k : Nat, k ≤ 8 ∧ i = .int .i64 k ∧ Hid (Blk wr (w.heap.size + 1) 44 (uvs (part8 s0 t k)).toArray ∧ wf.grownBy wr (some (w.heap.size + 1)))) (fun i _ => 8 - (intOf i).toNat)
                      case atStart => exact ⟨0, Nat.zero_le _, rfl, J5.out, only_refl _ _⟩
                      case round =>
                        obtain ⟨k, hk, rfl, HF⟩ := hrel
                        by_cases hkt : k < 8
                        · obtain ⟨x, HX⟩ : ∃ x, Hid (x = s0.list.getD k 0) := ⟨_, rfl⟩
                          obtain ⟨y, HY⟩ : ∃ y, Hid (y = t.list.getD k 0) := ⟨_, rfl⟩
                          have cx : wr.cell? ⟨w.heap.size + 1, k, none⟩ = some (.int .u32 (x.toNat : Int)) := by
                            rw [HX.out]
                            refine (blk_cell HF.out.1 k).trans ((uvs_get (by rw [part8_length]; exact hkt)).trans ?_)
                            rw [part8_get s0 t k k hkt, if_neg (by omega)]
                            rfl
                          have cf : wr.frozen? ⟨w.heap.size + 1, k, none⟩ = false := HF.out.1.free k
                          have cy : wr.cell? ⟨we.heap.size, k, none⟩ = some (.int .u32 (y.toNat : Int)) := by
                            rw [HY.out]
                            exact (World.cell?_of_block (a := ⟨we.heap.size, k, none⟩) (HF.out.2.block we.heap.size hzr (by intro e; injection e; omega))).trans ((blk_cell JT.out k).trans (uvs_get hkt))
                          go_wp2_with fail
                          go_region
                          go_wp2_with fail
                          refine ⟨⟨k + 1, by omega, by go_num, ?_, ?_⟩, by simp [intOf]; omega⟩
                          · rw [u32_add_bv, ← part8_put s0 t k hkt, ← HX.out, ← HY.out]
                            exact HF.out.1.put k (uv (x + y))
                          · exact only_drewN (only_trans HF.out.2 (only_setCell wr ⟨w.heap.size + 1, k, none⟩ _)) 1
                        · obtain rfl : k = 8 := by omega
                          have hb := HF.out.1
                          rw [part8_full] at hb
                          have HBB := Lib.hid hb
                          have HFF := Lib.hid (only_trans JW.out HF.out.2)
                          clear hb HF
                          go_wp2_with fail
                          refine ⟨⟨q + 1, by omega, by rw [show (64 : Int) * (q : Int) + 64 = 64 * ((q + 1 : Nat) : Int) by omega], HFF.out, ?_⟩, by simp [intOf]; omega⟩
                          rw [blocks, ← HBL.out, block, ← HS0.out, ← JE.out]
                          exact HBB.out
        · obtain rfl : q = Q := by omega
          obtain ⟨S, hS⟩ : ∃ S, S = blocks start M q := ⟨_, rfl⟩
          have hi := HI.out.2
          rw [← hS] at hi
          have hst : (digest bs) = S.bytes := by
            rw [hS, digest, HL.out, ← HM.out, stateOf, HML.out, HQQ.out, Nat.mul_div_cancel_left q (by decide)]
          have hb6 : Blk wr (w.heap.size + 2) 25 zeroSum := (HI.out.1.block _ (by omega) (by intro e; injection e; omega)).trans G3.out
          have hbw : Below w.heap.size w wr := below_only G0.out HI.out.1 (by omega) G0.out.size
          have hzr : w.heap.size + 2 < wr.heap.size := blk_lt hb6
          have B5 := Lib.hid hi
          have B6 := Lib.hid hb6
          have BW := Lib.hid hbw
          have HD := Lib.hid hst
          have HS := Lib.hid hS
          obtain ⟨wl, rfl⟩ : ∃ wl : World, wl = wr := ⟨_, rfl⟩
          clear HI hi hb6 hbw hst hS
          go_wp2_with fail
          go_loopw [23] (fun i wr => ∃ k : Nat, k ≤ 8 ∧ i = .int .i64 k ∧ Hid (Blk wr wl.heap.size 25 (part S k).toArray ∧ (wl.alloc (.cells zeroSum 25)).grownBy wr (some wl.heap.size))) (fun i _ => 8 - (intOf i).toNat)
          case atStart => exact ⟨0, by omega, rfl, by rw [part_none]; exact heap_alloc_new _ _, only_refl _ _⟩
          case round =>
            obtain ⟨k, hk, rfl, HJ⟩ := hrel
            have hkeep : ∀ g, g < wl.heap.size → wr.heap[g]? = wl.heap[g]? := fun g hg => (HJ.out.2.block g (by simp; omega) (by intro e; injection e; omega)).trans (Below.heap_alloc wl _ g hg)
            have KP := Lib.hid hkeep
            clear hkeep
            by_cases hkt : k < 8
            · obtain ⟨x, HX⟩ : ∃ x, Hid (x = S.list.getD k 0) := ⟨_, rfl⟩
              have cx : wr.cell? ⟨w.heap.size + 1, k, none⟩ = some (.int .u32 (x.toNat : Int)) := by
                rw [HX.out]
                exact (World.cell?_of_block (a := ⟨w.heap.size + 1, k, none⟩) (KP.out (w.heap.size + 1) (by omega))).trans ((blk_cell B5.out k).trans (uvs_get hkt))
              have hsl : ∀ w : World, (Instr.sliceAt 25 (.pointer (some ⟨wl.heap.size, 0, none⟩)) (some (.int .i64 ((4 : Int) * (k : Int)))) none none).run Tryd.prog w = .ok (.slice (some ⟨wl.heap.size, 4 * k, none⟩) (32 - 4 * k) (32 - 4 * k)) w := fun w => by
                have := run_sliceAt_arr (P := Tryd.prog) Tryd.underlying25 (by kernel_rfl) wl.heap.size 0 (4 * k) (by omega) ((4 : Int) * (k : Int)) (by omega) w
                rwa [Nat.zero_add] at this
              have hxl : x.toNat < 4294967296 := x.isLt
              have PT : Hid (∀ W : World, Calls Tryd.prog 25 #[.int .u64 (IntKind.u64.wrap (x.toNat : Int)), .int .i64 4] W fun e w' => ∃ b i c, e = .returned (.slice (some ⟨b, i, none⟩) 4 c) ∧ (∀ j v, (bvs (bytes32 x))[j]? = some v → w'.cell? ⟨b, i + j, none⟩ = some v) ∧ Below W.heap.size W w') := fun W => by
                rw [show IntKind.u64.wrap (x.toNat : Int) = (x.toNat : Int) by rw [IntKind.wrap_u64]; omega]
                refine (put_any x.toNat 4 4 W rfl ⟨by omega, by omega⟩ (by omega)).mono fun e w' ⟨u, he, ho, hb⟩ => ?_
                rw [beL_four] at ho
                obtain ⟨A8, c8, rfl, _, _⟩ := own_form ho
                obtain ⟨b, i, rfl, _, hc⟩ := (Row.own ho).2 (by omega)
                exact ⟨b, i, c8, he, hc, hb⟩
              have hsw : ∀ w : World, (Instr.sliceAt 25 (.pointer (some ⟨wl.heap.size, 0, none⟩)) (some (.int .i64 (IntKind.i64.wrap ((4 : Int) * (k : Int))))) none none).run Tryd.prog w = .ok (.slice (some ⟨wl.heap.size, 4 * k, none⟩) (32 - 4 * k) (32 - 4 * k)) w := fun w => by
                rw [show IntKind.i64.wrap ((4 : Int) * (k : Int)) = (4 : Int) * (k : Int) by rw [IntKind.wrap_i64]; omega]
                exact hsl w
              have HLT : Hid (wl.heap.size < wr.drew.heap.size) := blk_lt (show Blk wr wl.heap.size _ _ from HJ.out.1)
              have HBK : Hid (Blk wr.drew wl.heap.size 25 (part S k).toArray) := HJ.out.1
              have HN0 : Hid ((bvs (bytes32 x)).length = Nat.min 4 (32 - 4 * k)) := by
                show _ = _
                rw [bvs_length]
                show 4 = Nat.min 4 _
                exact (Nat.min_eq_left (by omega)).symm
              have HFIT : Hid (4 * k + (bvs (bytes32 x)).length ≤ (part S k).length) := by
                show _ ≤ _
                rw [bvs_length, show (bytes32 x).length = 4 from rfl, part_length S k hk]
                omega
              clear hl hzero' hzero64 HR HL HK HST G0 G1 G2 G3 HROW HML HM HQQ HCM hgm7 hcm' hLQ hLl B5 B6 BW HD HS KP
              go_wp2_with fail
              go_region_law (first
                | (go_simp; go_at_call 25; with_reducible refine (PT.out _).mono ?_; rintro e w8 ⟨b8, i8, c8, rfl, hc8, hb8⟩)
                | (refine step_copy_blk rfl (.tmp 230) (.tmp 235) 22 22 rfl 5 Tryd.underlying22 (by kernel_rfl) wl.heap.size (4 * k) (32 - 4 * k) (32 - 4 * k) b8 i8 4 c8 rfl rfl 25 (part S k) ((hb8.block wl.heap.size HLT.out).trans HBK.out) (bvs (bytes32 x)) HN0.out hc8 HFIT.out (bvs_one _) ?_; intro w9 G1 G2))
              all_goals
                have HG1 := Lib.hid G1.out
                have HG2 : Hid ((wl.alloc (.cells zeroSum 25)).grownBy w9 (some wl.heap.size)) := only_trans (only_below (only_drewN HJ.out.2 1) (hb8.mono (Nat.le_trans HJ.out.2.size (Nat.le_refl _)))) (only_hid G2)
                clear G1 G2 hb8 hc8
                go_wp2_with fail
                go_roundw
                case rel =>
                  refine ⟨k + 1, by omega, by go_num, ?_, HG2.out⟩
                  have e : splice (part S k) (4 * k) (bvs (bytes32 x)) = part S (k + 1) := by
                    rw [← part_put S k hkt, ← HX.out]
                    simp [splice, put4, bvs_length, bytes32]
                  rw [← e]
                  exact HG1.out
                case measure => simp [intOf]; omega
            · obtain rfl : k = 8 := by omega
              obtain ⟨i1, i2⟩ := HJ.out
              rw [part_full] at i1
              obtain ⟨res, hres⟩ : ∃ res, res = (bvs (digest bs)).toArray := ⟨_, rfl⟩
              have hr32 : res.size = 32 := by rw [hres, List.size_toArray, bvs_length]; rfl
              have hr1 : res.all (·.oneCell') = true := by
                rw [hres, Array.all_eq_true_iff_forall_mem]
                intro v hv
                exact bvs_one _ v (by simpa using hv)
              rw [← HD.out, ← hres] at i1
              have hb6 : Blk wr (w.heap.size + 2) 25 zeroSum := (KP.out _ hzr).trans B6.out
              have hbw : Below w.heap.size w wr := below_only (BW.out.alloc BW.out.size _) i2 BW.out.size (Nat.le_trans BW.out.size (by simp))
              have HRES := Lib.hid hres
              have HR32 := Lib.hid hr32
              have HR1 := Lib.hid hr1
              have HI1 := Lib.hid i1
              have HI2 := Lib.hid hb6
              have HI3 := Lib.hid hbw
              clear HJ i1 i2 hres hr32 hr1 hb6 hbw KP B5 B6 BW HD
              go_wp2_with (first
                | (refine wpList_load_row rfl 25 (.tmp 22) rfl wl.heap.size rfl 25 res (0, 0) _ HI1.out Tryd.underlying25 rfl (by rw [HR32.out]; kernel_rfl) ?_)
                | (refine wpList_store_blk rfl 25 (.tmp 6) (.tmp 237) rfl (w.heap.size + 2) res rfl rfl 25 zeroSum HI2.out (by rw [HR32.out]; kernel_rfl) (by rw [HR32.out]; rfl) HR1.out ?_
                   intro w5 G5 G6))
              refine bodyPost_ret (v := .agg res) (results_cell_row rfl _ _ (w.heap.size + 2) 25 _ (0, 0) _ rfl G5.out Tryd.underlying25 rfl (by rw [HR32.out]; kernel_rfl)) rfl ?_
              exact ⟨by rw [HRES.out], below_only HI3.out (only_hid G6) (by omega) HI3.out.size⟩
    · have hne : ((((n + 1 + z : Nat) : Int) % 64) != 56) = true := by simp; omega
      have HMORE := Lib.hid (noughts_more hz hend)
      have HO2 := Lib.hid (HI.out.1.alloc (.cells #[.int .u8 0] 5))
      have HB2 := Lib.hid HI.out.2
      have N1 : Hid (n + 1 + z + 1 ≤ maxLen) := by show n + 1 + z + 1 ≤ maxLen; unfold maxLen; omega
      have N2 : Hid ((n + 1 + z + 1) * 1 ≤ 140737488355328) := by show (n + 1 + z + 1) * 1 ≤ 140737488355328; omega
      have N3 : Hid (w.heap.size + 3 ≤ (wr.alloc (.cells #[.int .u8 0] 5)).heap.size) := by
        show _ ≤ _
        have := HB2.out.size
        simp
        omega
      have O2 : Hid (∀ u ∈ [Value.int .u8 0], u.oneCell' = true) := fun u hu => by rw [List.mem_singleton.1 hu]; rfl
      clear HI hend
      go_wp2_with (at_builtin; refine wpList_append_reads rfl (.tmp 32) (.tmp 33) _ rfl (w.heap.size + 3) 5 (.int .u8 0) 1 Tryd.underlying22 u8_info' rfl (.slice A2 (n + 1 + z) c2) (n + 1 + z) (bvs (front bs z)) rfl HO2.out (wr.heap.size + 1) (some ⟨wr.heap.size, 0, none⟩) 1 1 [.int .u8 0] rfl (Row.fresh wr 5 (0, 0) _) O2.out N1.out N2.out N3.out ?_; intro v3 w6 ho3 hg3)
      have hb6 : Below (w.heap.size + 3) w5 w6 := own_below HO2.out (HB2.out.alloc (Nat.le_trans hz5 HB2.out.size) _) (Nat.le_refl _) N3.out hg3
      obtain ⟨A3, c3, rfl, _, _⟩ := own_form ho3
      rw [show [Value.int .u8 0] = bvs [0] from rfl, bvs_append, front_snoc] at ho3
      have HO3 := Lib.hid ho3
      have HB6 := Lib.hid hb6
      clear ho3 hg3 hb6
      go_wp2_with fail
      exact ⟨⟨z + 1, HMORE.out, HO3.out, HB6.out⟩, show 64 + n - (n + 1 + z + 1) < 64 + n - (n + 1 + z) by have := HMORE.out; omega⟩
end Go.Proofs.YtllbdeniigakkaaDoor.Sha
