/-
  Proved: what Put and Get of package num, and Put and Get of package stillroomref1, return: a number's bytes, and the number that bytes make.
  Conditions: sizes of one to eight bytes.
-/
import Derived.Test.YtnhhoodmmefjdaaDoorRecMath
import Derived.Test.YtnhhoodmmefjdaaDoorCrcWalks
import Derived.Test.YtnhhoodmmefjdaaDoorOwn
import Derived.Laws.ShiftsVarLaws
import Derived.LoopN
namespace Go.Proofs.YtnhhoodmmefjdaaDoor.Rec
open Go.RowKit
set_option linter.unusedVariables false
set_option linter.unusedSimpArgs false

theorem ret_int {k : IntKind} {a b : Int} (h : a = b) : Ending.returned (.int k a) = .returned (.int k b) := by rw [h]
theorem byte_pow (n m : Nat) : Value.int .u8 ((n : Int) / 2 ^ m % 256) = bv (UInt8.ofNat (n / 2 ^ m)) := by
  unfold bv
  rw [UInt8.toNat_ofNat', Int.natCast_emod, Int.natCast_ediv, Int.natCast_pow]
  rfl
theorem bvs_one_list (c : UInt8) : bvs [c] = [bv c] := rfl
theorem u8_info : (Tryd.prog.info? 5).map (fun i => (i.zero, i.size, i.bytes)) = some (some (.int .u8 0), 1, 1) := by kernel_rfl
theorem u8_info3 : ∃ i, Tryd.prog.info? 5 = some i ∧ i.zero = some (.int .u8 0) ∧ i.size = 1 ∧ i.bytes = 1 := by
  obtain ⟨i, hi, h⟩ := Option.map_eq_some_iff.1 u8_info
  simp only [Prod.mk.injEq] at h
  exact ⟨i, hi, h.1, h.2.1, h.2.2⟩

set_option maxHeartbeats 400000 in
theorem refput_any (n size : Nat) (v : Int) (w : World) (hv : v = (size : Int)) (hs : 1 ≤ size ∧ size ≤ 8) (hn : n < 18446744073709551616) :
    Calls Tryd.prog 21 #[.int .u64 (n : Int), .int .i64 v] w fun e w' => ∃ u, e = .returned u ∧ w'.ownsRow w.heap.size 5 1 u size (bvs (be n size)) ∧ Below w.heap.size w w' := by
  subst hv
  obtain ⟨hs1, hs2⟩ := hs
  have HN := Lib.hid hn
  clear hn
  go_enter Tryd.func21, Tryd.ntmps21
  go_wp2_with fail
  go_loopw [5, 6] (fun u i wr => ∃ t : Nat, t ≤ size ∧ i = .int .i64 ((size : Int) - 1 - (t : Int)) ∧ Hid (wr.ownsRow w.heap.size 5 1 u t (bvs (beL n size t)) ∧ Below w.heap.size w wr)) (fun _ i _ => (intOf i + 1).toNat)
  case atStart => exact ⟨0, Nat.zero_le _, by simp, World.ownsRow_nil _ _ _ _, Below.refl _ _⟩
  case round =>
    obtain ⟨t, ht, rfl, HI⟩ := hrel
    by_cases hlt : t < size
    · have HO := Lib.hid (HI.out.1.alloc (.cells #[.int .u8 ((n : Int) / 2 ^ (8 * (size - 1 - t)) % 256)] 5))
      have HB := Lib.hid HI.out.2
      have HRF : Hid (Row (wr.alloc (.cells #[.int .u8 ((n : Int) / 2 ^ (8 * (size - 1 - t)) % 256)] 5)) (wr.heap.size + 1) (some ⟨wr.heap.size, 0, none⟩) 1 [.int .u8 ((n : Int) / 2 ^ (8 * (size - 1 - t)) % 256)]) := Row.fresh wr 5 (0, 0) _
      have E1 : Hid (∀ u ∈ [Value.int .u8 ((n : Int) / 2 ^ (8 * (size - 1 - t)) % 256)], u.oneCell' = true) := fun u hu => by rw [List.mem_singleton.1 hu]; rfl
      have E2 : Hid (t + 1 ≤ maxLen) := by show t + 1 ≤ maxLen; unfold maxLen; omega
      have E3 : Hid ((t + 1) * 1 ≤ 140737488355328) := by show (t + 1) * 1 ≤ 140737488355328; omega
      have E4 : Hid (w.heap.size ≤ (wr.alloc (.cells #[.int .u8 ((n : Int) / 2 ^ (8 * (size - 1 - t)) % 256)] 5)).heap.size) := by
        show _ ≤ _
        have := HB.out.size
        simp
        omega
      clear HI
      go_wp2_with (at_builtin; refine wpList_append_reads rfl (.tmp 19) (.tmp 26) _ rfl w.heap.size 5 (.int .u8 0) 1 Tryd.underlying28 u8_info rfl u5 t (bvs (beL n size t)) rfl HO.out (wr.heap.size + 1) (some ⟨wr.heap.size, 0, none⟩) 1 1 _ rfl HRF.out E1.out E2.out E3.out E4.out ?_; intro v2 w2 ho2 hg2)
      rw [byte_pow, ← bvs_one_list, bvs_append, ← beL_snoc] at ho2
      have hb2 : Below w.heap.size w w2 := (HB.out.alloc HB.out.size _).grown hg2 E4.out (fun q hq => (HO.out.lt q hq).1)
      have HO2 := Lib.hid ho2
      have HB2 := Lib.hid hb2
      clear ho2 hg2 hb2
      go_wp2_with fail
      go_roundw
      case rel => exact ⟨t + 1, by omega, by go_num, HO2.out, HB2.out⟩
      case measure => simp [intOf]; omega
    · obtain rfl : t = size := by omega
      go_wp2_with fail
      go_ret
      exact ⟨u5, rfl, HI.out.1, HI.out.2⟩

theorem be_at (n size p : Nat) (h : p < size) : (bvs (be n size))[p]? = some (bv (UInt8.ofNat (n / 2 ^ (8 * (size - 1 - p))))) := by
  simp [bvs, be, beL, h]
theorem made_size (k : Nat) : (madeCells (Value.int .u8 0).cells (k * 1)).size = k := by simp [madeCells, Value.cells]
set_option maxHeartbeats 400000 in
theorem put_any (n size : Nat) (v : Int) (w : World) (hv : v = (size : Int)) (hs : 1 ≤ size ∧ size ≤ 8) (hn : n < 18446744073709551616) :
    Calls Tryd.prog 19 #[.int .u64 (n : Int), .int .i64 v] w fun e w' => ∃ u, e = .returned u ∧ w'.ownsRow w.heap.size 5 1 u size (bvs (be n size)) ∧ Below w.heap.size w w' := by
  subst hv
  obtain ⟨hs1, hs2⟩ := hs
  have HN := Lib.hid hn
  obtain ⟨i0, hi, hz0, hz1, hz2⟩ := u8_info3
  have HI := Lib.hid hi
  have HZ0 := Lib.hid hz0
  have HZ1 := Lib.hid hz1
  have HB : Hid (i0.bytes * size ≤ 281474976710656 ∧ size ≤ maxLen) := ⟨by rw [hz2]; omega, by unfold maxLen; omega⟩
  clear hn hi hz0 hz1 hz2
  go_enter Tryd.func19, Tryd.ntmps19
  go_wp2_with (at_make; refine wpList_make_full _ rfl _ _ 28 rfl w.heap.size 5 i0 (.int .u8 0) 1 Tryd.underlying28 HI.out HZ0.out HZ1.out _ _ _ _ size rfl rfl rfl rfl HB.out.1 HB.out.2 (Nat.le_refl _) ?_; intro w1 ho1 hg1)
  obtain ⟨g, cap, cur, hv, hbg, hblk, hnc, hcm, hsz, _⟩ := own_block ho1 (by omega)
  injection hv with h1 h2 h3
  subst h3
  injection h1 with h1
  injection h1 with h1
  subst h1
  have hb1 : Below w.heap.size w w1 := (Below.refl _ _).grown hg1 (Nat.le_refl _) (fun k hk => by cases hk)
  have H1 := Lib.hid hblk
  have H2 := Lib.hid hsz
  have H3 := Lib.hid hb1
  clear ho1 hg1 hb1 hblk hsz h2
  go_wp2_with fail
  go_loopw [17] (fun i wr => ∃ k : Nat, ∃ cs : Array Value, k ≤ size ∧ i = .int .i64 (k : Int) ∧ Hid (Blk wr w.heap.size 5 cs ∧ cs.size = size ∧ (∀ j, j < k → cs[size - 1 - j]? = some (bv (UInt8.ofNat (n / 2 ^ (8 * j))))) ∧ Below w.heap.size w wr)) (fun i _ => size - (intOf i).toNat)
  case atStart => exact ⟨0, cur, Nat.zero_le _, rfl, H1.out, H2.out, fun j hj => absurd hj (by omega), H3.out⟩
  case round =>
    obtain ⟨k, cs, hk, rfl, HC⟩ := hrel
    by_cases hlt : k < size
    · obtain ⟨m, hm⟩ : ∃ m, size = k + 1 + m := ⟨size - 1 - k, by omega⟩
      have hmi : (size : Int) - 1 - (k : Int) = (m : Int) := by omega
      have hc : wr.cell? ⟨w.heap.size, m, none⟩ = some (cs.getD m (.int .u8 0)) := by
        rw [HC.out.1.cell m, Array.getD_eq_getD_getElem?, Array.getElem?_eq_getElem (by rw [HC.out.2.1]; omega)]
        rfl
      have hf : wr.frozen? ⟨w.heap.size, m, none⟩ = false := HC.out.1.free m
      have hM := Lib.hid hm
      clear hm
      go_wp2_with fail
      go_roundw
      case rel =>
        refine ⟨k + 1, cs.setIfInBounds m (bv (UInt8.ofNat (n / 2 ^ (8 * k)))), by omega, by go_num, ?_, ?_, ?_, ?_⟩
        · rw [← byte_pow, Nat.mul_comm 8 k]
          exact HC.out.1.put m _
        · simpa using HC.out.2.1
        · intro j hj
          have hM' := hM.out
          by_cases hjk : j = k
          · subst hjk
            rw [show size - 1 - j = m by omega, Array.getElem?_setIfInBounds_self_of_lt (by rw [HC.out.2.1]; omega)]
          · rw [Array.getElem?_setIfInBounds_ne (by omega)]
            exact HC.out.2.2.1 j (by omega)
        · exact HC.out.2.2.2.setCell (Nat.le_refl _) _
      case measure => simp [intOf]; omega
    · obtain rfl : k = size := by omega
      go_wp2_with fail
      go_ret
      refine ⟨_, rfl, ⟨by rw [bvs_length]; simp, .inr ⟨w.heap.size, k, cs, rfl, Nat.le_refl _, HC.out.1, Nat.le_refl _, HB.out.2, by rw [HC.out.2.1]; simp, ?_⟩⟩, HC.out.2.2.2⟩
      apply List.ext_getElem?
      intro p
      by_cases hp : p < k
      · rw [be_at n k p hp, List.getElem?_take, if_pos (by omega), Array.getElem?_toList]
        have := HC.out.2.2.1 (k - 1 - p) (by omega)
        rwa [show k - 1 - (k - 1 - p) = p by omega] at this
      · rw [List.getElem?_eq_none (by rw [List.length_take]; omega), List.getElem?_eq_none (by rw [bvs_length]; simp; omega)]
end Go.Proofs.YtnhhoodmmefjdaaDoor.Rec
