/-
  Proved: what prime and first of package stillroomref1 return: is a number a prime; the first 64 of them.
  Conditions: numbers up to 320; 64.
-/
import Derived.Test.YtfhedljhkikdmaaDoorRefMath
import Derived.Test.YtfhedljhkikdmaaDoorRefLeaf
namespace Go.Proofs.YtfhedljhkikdmaaDoor.Sha
open Go.RowKit

theorem prime_any (n : Nat) (v : Int) (w : World) (hv : v = (n : Int)) (hn : n < 1000) :
    Calls Tryd.prog 25 #[.int .i64 v] w fun e w' => e = .returned (.bool (isP n)) ∧ w = w' := by
  subst hv
  go_enter Tryd.func25, Tryd.ntmps25
  go_wp2_with fail
  go_loopw [3] (fun i wr => ∃ k : Nat, 2 ≤ k ∧ k ≤ 1001 ∧ i = .int .i64 (k : Int) ∧ Hid ((∀ j, 2 ≤ j → j < k → n % j ≠ 0) ∧ w = wr)) (fun i _ => 1001 - (intOf i).toNat)
  case atStart => exact ⟨2, by omega, by omega, rfl, fun j h1 h2 => by omega, rfl⟩
  case round =>
    obtain ⟨k, hk1, hk2, rfl, HI⟩ := hrel
    obtain rfl : w = wr := HI.out.2
    obtain ⟨q, hq⟩ : ∃ q, q = k * k := ⟨_, rfl⟩
    have hqk : (k : Int) * (k : Int) = (q : Int) := by rw [hq, Int.natCast_mul]
    have hb : q ≤ 1002001 := by rw [hq]; exact Nat.mul_le_mul hk2 hk2
    by_cases hlt : q ≤ n
    · have hkn : k ≤ n := Nat.le_trans (Nat.le_mul_self k) (by rw [← hq]; exact hlt)
      by_cases hd : n % k = 0
      · have hdi : ((n : Int) % (k : Int)) = 0 := by exact_mod_cast hd
        have HP := Lib.hid (isP_no hk1 (by rw [← hq]; exact hlt) hd)
        clear HI hd hq
        go_wp2_with fail
        go_ret
        exact ⟨by rw [HP.out]; rfl, rfl⟩
      · have hdi : ¬ ((n : Int) % (k : Int)) = 0 := by exact_mod_cast hd
        have HD := Lib.hid hd
        clear hd hq
        go_wp2_with fail
        go_roundw
        case rel =>
          refine ⟨k + 1, by omega, by omega, by go_num, fun j h1 h2 => ?_, by first | exact rfl | trivial⟩
          rcases Nat.lt_or_eq_of_le (Nat.le_of_lt_succ h2) with h | h
          · exact HI.out.1 j h1 h
          · subst h; exact HD.out
        case measure => simp [intOf]; omega
    · have HP := Lib.hid (isP_yes HI.out.1 (by rw [← hq]; exact Nat.lt_of_not_le hlt))
      clear HI hq
      go_wp2_with fail
      go_ret
      exact ⟨by rw [HP.out]; simp; omega, rfl⟩

/-- Numbers as values of type int. -/
def pvs (l : List Nat) : List Value := l.map fun (p : Nat) => Value.int .i64 (p : Int)
theorem pvs_append (a b : List Nat) : pvs a ++ pvs b = pvs (a ++ b) := by simp [pvs]
theorem pvs_length (a : List Nat) : (pvs a).length = a.length := by simp [pvs]
theorem i64_info : (Tryd.prog.info? 3).map (fun i => (i.zero, i.size, i.bytes)) = some (some (.int .i64 0), 1, 8) := by kernel_rfl

set_option maxHeartbeats 400000 in
theorem first_any (w : World) :
    Calls Tryd.prog 17 #[.int .i64 64] w fun e w' => ∃ u, e = .returned u ∧ w'.ownsRow w.heap.size 3 1 u 64 (pvs (primes 312)) ∧ Below w.heap.size w w' := by
  go_enter Tryd.func17, Tryd.ntmps17
  go_wp2_with fail
  go_loopw [3, 4] (fun u i wr => ∃ t : Nat, 2 ≤ t ∧ t ≤ 312 ∧ i = .int .i64 (t : Int) ∧ Hid (wr.ownsRow w.heap.size 3 1 u (primes t).length (pvs (primes t)) ∧ Below w.heap.size w wr ∧ (primes t).length ≤ 64)) (fun _ i _ => 312 - (intOf i).toNat)
  case atStart => exact ⟨2, by omega, by omega, rfl, by rw [primes_two]; exact World.ownsRow_nil _ _ _ _, Below.refl _ _, by rw [primes_two]; decide⟩
  case round =>
    obtain ⟨t, ht1, ht2, rfl, HI⟩ := hrel
    obtain ⟨A, c, rfl, _, _⟩ := own_form HI.out.1
    obtain ⟨N, hN⟩ : ∃ N, N = (primes t).length := ⟨_, rfl⟩
    have HN := Lib.hid hN
    have h64 : N ≤ 64 := by rw [hN]; exact HI.out.2.2
    rw [← hN]
    by_cases hlt : N < 64
    · have htt : t < 312 := primes_more t ht2 (by rw [← hN]; exact hlt)
      have HS := Lib.hid (primes_succ t)
      have HO := Lib.hid (HI.out.1.alloc (.cells #[.int .i64 (t : Int)] 3))
      rw [← hN] at HO
      have HB := Lib.hid HI.out.2.1
      have HRF : Hid (Row (wr.alloc (.cells #[.int .i64 (t : Int)] 3)) (wr.heap.size + 1) (some ⟨wr.heap.size, 0, none⟩) 1 (pvs [t])) := Row.fresh wr 3 (0, 0) _
      have E1 : Hid (∀ u ∈ pvs [t], u.oneCell' = true) := fun u hu => by rw [List.mem_singleton.1 hu]; rfl
      have E2 : Hid (N + 1 ≤ maxLen) := by show N + 1 ≤ maxLen; unfold maxLen; omega
      have E3 : Hid ((N + 1) * 8 ≤ 140737488355328) := by show (N + 1) * 8 ≤ 140737488355328; omega
      have E4 : Hid (w.heap.size ≤ (wr.alloc (.cells #[.int .i64 (t : Int)] 3)).heap.size) := by
        show _ ≤ _
        have := HB.out.size
        simp
        omega
      by_cases hp : isP t = true
      · have HP := Lib.hid hp
        clear hN hp
        go_wp2_with (first
          | (go_at_call 25; refine (prime_any t t _ rfl (by omega)).mono ?_; rw [HP.out]; rintro e w' ⟨rfl, rfl⟩)
          | (at_builtin; refine wpList_append_reads rfl (.tmp 13) (.tmp 15) _ rfl w.heap.size 3 (.int .i64 0) 8 Tryd.underlying28 i64_info rfl (.slice A N c) N (pvs (primes t)) rfl HO.out (wr.heap.size + 1) (some ⟨wr.heap.size, 0, none⟩) 1 1 _ rfl HRF.out E1.out E2.out E3.out E4.out ?_; intro v2 w2 ho2 hg2))
        rw [pvs_append] at ho2
        have hb2 : Below w.heap.size w w2 := (HB.out.alloc HB.out.size _).grown hg2 E4.out (fun q hq => (HO.out.lt q hq).1)
        have HO2 := Lib.hid ho2
        have HB2 := Lib.hid hb2
        clear ho2 hg2 hb2
        go_wp2_with fail
        go_roundw
        case rel =>
          refine ⟨t + 1, by omega, by omega, by go_num, ?_, HB2.out, ?_⟩
          · rw [HS.out, if_pos HP.out, List.length_append, ← HN.out]
            exact HO2.out
          · rw [HS.out, if_pos HP.out, List.length_append, ← HN.out, List.length_singleton]
            omega
        case measure => simp [intOf]; omega
      · have HP := Lib.hid (show isP t = false by simpa using hp)
        clear hN hp
        go_wp2_with (go_at_call 25; refine (prime_any t t _ rfl (by omega)).mono ?_; rw [HP.out]; rintro e w' ⟨rfl, rfl⟩)
        go_roundw
        case rel =>
          have e : primes (t + 1) = primes t := by rw [HS.out, HP.out]; simp
          refine ⟨t + 1, by omega, by omega, by go_num, ?_, HB.out, ?_⟩
          · rw [e, ← HN.out]
            have := HI.out.1
            rwa [← HN.out] at this
          · rw [e, ← HN.out]
            exact h64
        case measure => simp [intOf]; omega
    · obtain rfl : t = 312 := primes_end t ht2 (by rw [← hN]; exact hlt)
      have hN' : N = 64 := by rw [hN]; exact primes_len
      have HO := Lib.hid HI.out.1
      have HB := Lib.hid HI.out.2.1
      rw [primes_len] at HO
      subst hN'
      clear HI hN HN
      go_wp2_with fail
      go_ret
      exact ⟨_, rfl, HO.out, HB.out⟩
end Go.Proofs.YtfhedljhkikdmaaDoor.Sha
