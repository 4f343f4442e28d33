/-
  Proved: what Put of package stillroomref1 returns: a number's bytes.
  Conditions: sizes of one to eight bytes.
-/
import Derived.Test.YtjpgfdpgjfmnoaaDoorRecMath
import Derived.Test.YtjpgfdpgjfmnoaaDoorCrcWalks
import Derived.Test.YtjpgfdpgjfmnoaaDoorOwn
import Derived.Laws.ShiftsVarLaws
import Derived.LoopN
namespace Go.Proofs.YtjpgfdpgjfmnoaaDoor.Rec
open Go.RowKit
set_option linter.unusedVariables false
set_option linter.unusedSimpArgs false

theorem ret_int {k : IntKind} {a b : Int} (h : a = b) : Ending.returned (.int k a) = .returned (.int k b) := by rw [h]
theorem byte_pow (n m : Nat) : Value.int .u8 ((n : Int) / 2 ^ m % 256) = bv (UInt8.ofNat (n / 2 ^ m)) := by
  unfold bv
  rw [UInt8.toNat_ofNat', Int.natCast_emod, Int.natCast_ediv, Int.natCast_pow]
  rfl
theorem bvs_one_list (c : UInt8) : bvs [c] = [bv c] := rfl
theorem u8_info : (Tryd.prog.info? 5).map (fun i => (i.zero, i.size, i.bytes)) = some (some (.int .u8 0), 1, 1) := by kernel_rfl
theorem u8_info3 : ∃ i, Tryd.prog.info? 5 = some i ∧ i.zero = some (.int .u8 0) ∧ i.size = 1 ∧ i.bytes = 1 := by
  obtain ⟨i, hi, h⟩ := Option.map_eq_some_iff.1 u8_info
  simp only [Prod.mk.injEq] at h
  exact ⟨i, hi, h.1, h.2.1, h.2.2⟩

set_option maxHeartbeats 400000 in
theorem refput_any (n size : Nat) (v : Int) (w : World) (hv : v = (size : Int)) (hs : 1 ≤ size ∧ size ≤ 8) (hn : n < 18446744073709551616) :
    Calls Tryd.prog 21 #[.int .u64 (n : Int), .int .i64 v] w fun e w' => ∃ u, e = .returned u ∧ w'.ownsRow w.heap.size 5 1 u size (bvs (be n size)) ∧ Below w.heap.size w w' := by
  subst hv
  obtain ⟨hs1, hs2⟩ := hs
  have HN := Lib.hid hn
  clear hn
  go_enter Tryd.func21, Tryd.ntmps21
  go_wp2_with fail
  go_loopw [5, 6] (fun u i wr => ∃ t : Nat, t ≤ size ∧ i = .int .i64 ((size : Int) - 1 - (t : Int)) ∧ Hid (wr.ownsRow w.heap.size 5 1 u t (bvs (beL n size t)) ∧ Below w.heap.size w wr)) (fun _ i _ => (intOf i + 1).toNat)
  case atStart => exact ⟨0, Nat.zero_le _, by simp, World.ownsRow_nil _ _ _ _, Below.refl _ _⟩
  case round =>
    obtain ⟨t, ht, rfl, HI⟩ := hrel
    by_cases hlt : t < size
    · have HO := Lib.hid (HI.out.1.alloc (.cells #[.int .u8 ((n : Int) / 2 ^ (8 * (size - 1 - t)) % 256)] 5))
      have HB := Lib.hid HI.out.2
      have HRF : Hid (Row (wr.alloc (.cells #[.int .u8 ((n : Int) / 2 ^ (8 * (size - 1 - t)) % 256)] 5)) (wr.heap.size + 1) (some ⟨wr.heap.size, 0, none⟩) 1 [.int .u8 ((n : Int) / 2 ^ (8 * (size - 1 - t)) % 256)]) := Row.fresh wr 5 (0, 0) _
      have E1 : Hid (∀ u ∈ [Value.int .u8 ((n : Int) / 2 ^ (8 * (size - 1 - t)) % 256)], u.oneCell' = true) := fun u hu => by rw [List.mem_singleton.1 hu]; rfl
      have E2 : Hid (t + 1 ≤ maxLen) := by show t + 1 ≤ maxLen; unfold maxLen; omega
      have E3 : Hid ((t + 1) * 1 ≤ 140737488355328) := by show (t + 1) * 1 ≤ 140737488355328; omega
      have E4 : Hid (w.heap.size ≤ (wr.alloc (.cells #[.int .u8 ((n : Int) / 2 ^ (8 * (size - 1 - t)) % 256)] 5)).heap.size) := by
        show _ ≤ _
        have := HB.out.size
        simp
        omega
      clear HI
      go_wp2_with (at_builtin; refine wpList_append_reads rfl (.tmp 19) (.tmp 26) _ rfl w.heap.size 5 (.int .u8 0) 1 Tryd.underlying26 u8_info rfl u5 t (bvs (beL n size t)) rfl HO.out (wr.heap.size + 1) (some ⟨wr.heap.size, 0, none⟩) 1 1 _ rfl HRF.out E1.out E2.out E3.out E4.out ?_; intro v2 w2 ho2 hg2)
      rw [byte_pow, ← bvs_one_list, bvs_append, ← beL_snoc] at ho2
      have hb2 : Below w.heap.size w w2 := (HB.out.alloc HB.out.size _).grown hg2 E4.out (fun q hq => (HO.out.lt q hq).1)
      have HO2 := Lib.hid ho2
      have HB2 := Lib.hid hb2
      clear ho2 hg2 hb2
      go_wp2_with fail
      go_roundw
      case rel => exact ⟨t + 1, by omega, by go_num, HO2.out, HB2.out⟩
      case measure => simp [intOf]; omega
    · obtain rfl : t = size := by omega
      go_wp2_with fail
      go_ret
      exact ⟨u5, rfl, HI.out.1, HI.out.2⟩

theorem be_at (n size p : Nat) (h : p < size) : (bvs (be n size))[p]? = some (bv (UInt8.ofNat (n / 2 ^ (8 * (size - 1 - p))))) := by
  simp [bvs, be, beL, h]
end Go.Proofs.YtjpgfdpgjfmnoaaDoor.Rec
