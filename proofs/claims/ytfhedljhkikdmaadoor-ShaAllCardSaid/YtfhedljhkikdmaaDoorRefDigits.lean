/-
  Proved: what digits of package stillroomref1 returns: a number's digits of 16 bits.
  Conditions: none beyond the type's.
-/
import Derived.Test.YtfhedljhkikdmaaDoorRefMath
import Derived.Test.YtfhedljhkikdmaaDoorRefLeaf
import Derived.Deep.OwnRows
namespace Go.Proofs.YtfhedljhkikdmaaDoor.Sha
open Go.RowKit

/-- Numbers as values of type uint64. -/
def uls (l : List Nat) : List Value := l.map fun (p : Nat) => Value.int .u64 (p : Int)
theorem uls_append (a b : List Nat) : uls a ++ uls b = uls (a ++ b) := by simp [uls]
theorem uls_length (a : List Nat) : (uls a).length = a.length := by simp [uls]
theorem uls_one (a : List Nat) : ∀ u ∈ uls a, u.oneCell' = true := by
  intro u hu
  obtain ⟨x, _, rfl⟩ := List.mem_map.1 hu
  rfl
theorem uls_at (l : List Nat) (j : Nat) (h : j < l.length) : (uls l)[j]? = some (.int .u64 ((l.getD j 0 : Nat) : Int)) := by
  rw [uls, List.getElem?_map, List.getD_eq_getElem?_getD, List.getElem?_eq_getElem h]
  rfl
theorem u64_info : (Tryd.prog.info? 42).map (fun i => (i.zero, i.size, i.bytes)) = some (some (.int .u64 0), 1, 8) := by kernel_rfl

set_option maxHeartbeats 400000 in
theorem digits_any (n : Nat) (v : Int) (w : World) (hv : v = (n : Int)) (hn : n < 18446744073709551616) :
    Calls Tryd.prog 32 #[.int .u64 v] w fun e w' => ∃ u ds, e = .returned u ∧ w'.ownsRow w.heap.size 42 1 u ds.length (uls ds) ∧ (∀ d ∈ ds, d < 65536) ∧ val ds = n ∧ (0 < ds.length → 65536 ^ (ds.length - 1) ≤ n) ∧ Below w.heap.size w w' := by
  subst hv
  go_enter Tryd.func32, Tryd.ntmps32
  go_wp2_with fail
  go_loopw [0, 3] (fun x u wr => ∃ (q N : Nat) (ds : List Nat), x = .int .u64 (q : Int) ∧ q ≤ n ∧ N ≤ 5 ∧ Hid (N = ds.length ∧ wr.ownsRow w.heap.size 42 1 u N (uls ds) ∧ (∀ d ∈ ds, d < 65536) ∧ val ds + 65536 ^ ds.length * q = n ∧ (0 < ds.length → 65536 ^ (ds.length - 1) ≤ n) ∧ Below w.heap.size w wr)) (fun x _ _ => (intOf x).toNat)
  case atStart => exact ⟨n, 0, [], rfl, Nat.le_refl _, by omega, rfl, World.ownsRow_nil _ _ _ _, fun d hd => absurd hd (by simp), by simp [val], fun h => absurd h (by decide), Below.refl _ _⟩
  case round =>
    obtain ⟨q, N, ds, rfl, hqn, hN5, HI⟩ := hrel
    obtain ⟨A, c, rfl, _, _⟩ := own_form HI.out.2.1
    by_cases hlt : 0 < q
    · obtain ⟨r, hr⟩ : ∃ r, r = q % 65536 := ⟨_, rfl⟩
      have hri : (q : Int) % 65536 = (r : Int) := by omega
      have hrl : r < 65536 := by omega
      have hpow : 65536 ^ ds.length ≤ n := by
        obtain ⟨_, _, _, h4, _⟩ := HI.out
        have : 65536 ^ ds.length * 1 ≤ 65536 ^ ds.length * q := Nat.mul_le_mul_left _ hlt
        omega
      have hN4 : N < 5 := by
        apply Classical.byContradiction
        intro hc
        have h5 : ds.length = 5 := by have := HI.out.1; omega
        rw [h5] at hpow
        omega
      have HPW := Lib.hid hpow
      have HR := Lib.hid hr
      have HO := Lib.hid (HI.out.2.1.alloc (.cells #[.int .u64 (r : Int)] 42))
      have HB := Lib.hid HI.out.2.2.2.2.2
      have HRF : Hid (Row (wr.alloc (.cells #[.int .u64 (r : Int)] 42)) (wr.heap.size + 1) (some ⟨wr.heap.size, 0, none⟩) 1 (uls [r])) := Row.fresh wr 42 (0, 0) _
      have E2 : Hid (N + 1 ≤ maxLen) := by show N + 1 ≤ maxLen; unfold maxLen; omega
      have E3 : Hid ((N + 1) * 8 ≤ 140737488355328) := by show (N + 1) * 8 ≤ 140737488355328; omega
      have E4 : Hid (w.heap.size ≤ (wr.alloc (.cells #[.int .u64 (r : Int)] 42)).heap.size) := by
        show _ ≤ _
        have := HB.out.size
        simp
        omega
      clear hr hpow
      go_wp2_with (at_builtin; refine wpList_append_reads rfl (.tmp 6) (.tmp 9) _ rfl w.heap.size 42 (.int .u64 0) 8 Tryd.underlying62 u64_info rfl (.slice A N c) N (uls ds) rfl HO.out (wr.heap.size + 1) (some ⟨wr.heap.size, 0, none⟩) 1 1 _ rfl HRF.out (uls_one _) E2.out E3.out E4.out ?_; intro v2 w2 ho2 hg2)
      rw [uls_append] at ho2
      have hb2 : Below w.heap.size w w2 := (HB.out.alloc HB.out.size _).grown hg2 E4.out (fun q hq => (HO.out.lt q hq).1)
      have HO2 := Lib.hid ho2
      have HB2 := Lib.hid hb2
      clear ho2 hg2 hb2
      go_wp2_with fail
      go_roundw
      case rel =>
        obtain ⟨i1, _, i3, i4, i5, _⟩ := HI.out
        refine ⟨q / 65536, N + 1, ds ++ [r], by simp, by omega, by omega, by rw [List.length_append, ← i1]; rfl, HO2.out, ?_, ?_, fun _ => ?_, HB2.out⟩
        · intro d hd
          rcases List.mem_append.1 hd with h | h
          · exact i3 d h
          · rw [List.mem_singleton.1 h]; exact hrl
        · have e : q = r + 65536 * (q / 65536) := by have := HR.out; omega
          rw [val_append, List.length_append, List.length_singleton, Nat.pow_succ, Nat.mul_assoc, Nat.add_assoc, ← Nat.mul_add]
          have e2 : val [r] + 65536 * (q / 65536) = q := by simp [val]; omega
          rw [e2]
          exact i4
        · rw [List.length_append, List.length_singleton, Nat.add_sub_cancel]
          exact HPW.out
      case measure => simp [intOf]; omega
    · obtain rfl : q = 0 := by omega
      go_wp2_with fail
      go_ret
      obtain ⟨i1, i2, i3, i4, i5, i6⟩ := HI.out
      refine ⟨_, ds, rfl, by rw [← i1]; exact i2, i3, by simpa using i4, i5, i6⟩
end Go.Proofs.YtfhedljhkikdmaaDoor.Sha
