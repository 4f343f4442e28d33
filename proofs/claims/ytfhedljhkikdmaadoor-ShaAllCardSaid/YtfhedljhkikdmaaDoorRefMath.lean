/-
  Proved: what the roots of the reference's digest come to, on numbers alone: primes up to 311, numbers in digits of base 65536, roots by their bounds, and that the words of SHA-256's tables are those of the roots.
  Conditions: none.
-/
import Derived.Test.YtfhedljhkikdmaaDoorShaMath
namespace Go.Proofs.YtfhedljhkikdmaaDoor.Sha

/-- Is a number a prime? -/
def isP (n : Nat) : Bool := decide (1 < n) && (List.range n).all fun j => decide (j < 2) || decide (n < j * j) || !decide (n % j = 0)
theorem isP_no {n j : Nat} (h2 : 2 ≤ j) (hj : j * j ≤ n) (hd : n % j = 0) : isP n = false := by
  have hjn : j < n := by
    have : 2 * j ≤ j * j := Nat.mul_le_mul_right j h2
    omega
  have : ((List.range n).all fun j => decide (j < 2) || decide (n < j * j) || !decide (n % j = 0)) = false := by
    rw [List.all_eq_false]
    refine ⟨j, List.mem_range.2 hjn, ?_⟩
    simp [hd]
    omega
  rw [isP, this, Bool.and_false]
theorem isP_yes {n i : Nat} (h : ∀ j, 2 ≤ j → j < i → n % j ≠ 0) (hi : n < i * i) : isP n = decide (1 < n) := by
  have : ((List.range n).all fun j => decide (j < 2) || decide (n < j * j) || !decide (n % j = 0)) = true := by
    rw [List.all_eq_true]
    intro j _
    by_cases h2 : j < 2
    · simp [h2]
    · by_cases hn : n < j * j
      · simp [hn]
      · have hji : j < i := by
          apply Nat.lt_of_not_le
          intro hc
          have := Nat.mul_le_mul hc hc
          omega
        simp [h j (by omega) hji]
  rw [isP, this, Bool.and_true]
/-- The primes below a number. -/
def primes (n : Nat) : List Nat := (List.range n).filter isP
theorem primes_succ (n : Nat) : primes (n + 1) = primes n ++ (if isP n = true then [n] else []) := by
  rw [primes, List.range_succ, List.filter_append, ← primes]
  congr 1
  by_cases h : isP n = true <;> simp [h]
theorem primes_two : primes 2 = [] := by decide
theorem primes_more : ∀ n, n ≤ 312 → (primes n).length < 64 → n < 312 := by
  intro n h1 h2
  rcases Nat.lt_or_eq_of_le h1 with h | h
  · exact h
  · subst h
    exact absurd h2 (by decide +kernel)
theorem primes_end : ∀ n, n ≤ 312 → ¬ (primes n).length < 64 → n = 312 := by
  intro n h1 h2
  rcases Nat.lt_or_eq_of_le h1 with h | h
  · exfalso
    have hm : ∀ a b, a ≤ b → (primes a).length ≤ (primes b).length := by
      intro a b hab
      induction hab with
      | refl => exact Nat.le_refl _
      | step _ ih => rw [primes_succ, List.length_append]; omega
    have h3 := hm n 311 (by omega)
    have h4 : (primes 311).length = 63 := by decide +kernel
    omega
  · exact h
theorem primes_len : (primes 312).length = 64 := by decide +kernel
theorem primes_lt : ∀ p ∈ primes 312, p < 312 := fun _ h => List.mem_range.1 (List.mem_filter.1 h).1

/-- A number's value in digits of 16 bits, the lowest first. -/
def val : List Nat → Nat
  | [] => 0
  | d :: l => d + 65536 * val l
theorem val_append (a b : List Nat) : val (a ++ b) = val a + 65536 ^ a.length * val b := by
  induction a with
  | nil => simp [val]
  | cons d a ih => rw [List.cons_append, val, ih, val, List.length_cons, Nat.pow_succ, Nat.mul_add, ← Nat.mul_assoc, Nat.mul_comm 65536 (65536 ^ a.length), Nat.add_assoc]
theorem val_zeros (n : Nat) : val (List.replicate n 0) = 0 := by
  induction n with
  | zero => rfl
  | succ n ih => rw [List.replicate_succ, val, ih]
theorem val_lt (l : List Nat) (h : ∀ d ∈ l, d < 65536) : val l < 65536 ^ l.length := by
  induction l with
  | nil => decide
  | cons d l ih =>
    have h1 := ih fun d hd => h d (List.mem_cons_of_mem _ hd)
    have h2 := h d (List.mem_cons_self ..)
    rw [val, List.length_cons, Nat.pow_succ]
    omega
theorem val_split (l : List Nat) (i : Nat) (hi : i < l.length) : val l = val (l.take i) + 65536 ^ i * (l.getD i 0 + 65536 * val (l.drop (i + 1))) := by
  have e : l = l.take i ++ (l.getD i 0 :: l.drop (i + 1)) := by
    rw [List.getD_eq_getElem?_getD, List.getElem?_eq_getElem hi, Option.getD_some, List.getElem_cons_drop, List.take_append_drop]
  have h := val_append (l.take i) (l.getD i 0 :: l.drop (i + 1))
  rw [← e, val, List.length_take, Nat.min_eq_left (Nat.le_of_lt hi)] at h
  exact h
theorem val_take_succ (l : List Nat) (i : Nat) (hi : i < l.length) : val (l.take (i + 1)) = val (l.take i) + 65536 ^ i * l.getD i 0 := by
  rw [List.take_succ_eq_append_getElem hi, val_append, List.length_take, Nat.min_eq_left (Nat.le_of_lt hi), List.getD_eq_getElem?_getD, List.getElem?_eq_getElem hi]
  simp [val]
theorem val_set (l : List Nat) (i v : Nat) (hi : i < l.length) : val (l.set i v) + 65536 ^ i * l.getD i 0 = val l + 65536 ^ i * v := by
  have h1 := val_split l i hi
  have h2 := val_split (l.set i v) i (by rw [List.length_set]; exact hi)
  rw [List.take_set_of_le (Nat.le_refl i), List.drop_set_of_lt (by omega)] at h2
  have h3 : (l.set i v).getD i 0 = v := by simp [hi]
  rw [h3] at h2
  rw [h1, h2, Nat.mul_add, Nat.mul_add]
  omega
theorem val_ge (l : List Nat) (i : Nat) (hi : i < l.length) : 65536 ^ i * l.getD i 0 ≤ val l := by
  have h1 := val_split l i hi
  rw [Nat.mul_add] at h1
  omega
/-- Where two numbers of as many digits first differ, from above. -/
theorem val_less (x y : List Nat) (i : Nat) (hl : x.length = y.length) (hi : i < x.length) (hx : ∀ d ∈ x, d < 65536) (hy : ∀ d ∈ y, d < 65536)
    (hs : ∀ j, i < j → j < x.length → x.getD j 0 = y.getD j 0) (hd : x.getD i 0 ≠ y.getD i 0) : decide (x.getD i 0 < y.getD i 0) = decide (val x ≤ val y) := by
  have h1 := val_split x i hi
  have h2 := val_split y i (by omega)
  have h3 : x.drop (i + 1) = y.drop (i + 1) := by
    refine List.ext_getElem (by simp [hl]) fun j a b => ?_
    rw [List.getElem_drop, List.getElem_drop]
    rw [List.length_drop] at a
    have := hs (i + 1 + j) (by omega) (by omega)
    rwa [List.getD_eq_getElem?_getD, List.getD_eq_getElem?_getD, List.getElem?_eq_getElem (by omega), List.getElem?_eq_getElem (by omega), Option.getD_some, Option.getD_some] at this
  have h4 := val_lt (x.take i) fun d h => hx d (List.mem_of_mem_take h)
  have h5 := val_lt (y.take i) fun d h => hy d (List.mem_of_mem_take h)
  rw [List.length_take, Nat.min_eq_left (by omega)] at h4 h5
  rw [← h3] at h2
  rw [Bool.eq_iff_iff, decide_eq_true_iff, decide_eq_true_iff, h1, h2]
  generalize 65536 ^ i = B at *
  generalize val (x.drop (i + 1)) = D at *
  generalize x.getD i 0 = p at *
  generalize y.getD i 0 = q at *
  constructor
  · intro h
    have h6 : p + 65536 * D + 1 ≤ q + 65536 * D := by omega
    have h7 := Nat.mul_le_mul_left B h6
    rw [Nat.mul_add, Nat.mul_one] at h7
    omega
  · intro h
    apply Classical.byContradiction
    intro hc
    have h6 : q + 65536 * D + 1 ≤ p + 65536 * D := by omega
    have h7 := Nat.mul_le_mul_left B h6
    rw [Nat.mul_add, Nat.mul_one] at h7
    omega
theorem val_same (x y : List Nat) (hl : x.length = y.length) (hs : ∀ j, j < x.length → x.getD j 0 = y.getD j 0) : x = y := by
  refine List.ext_getElem hl fun j a b => ?_
  have := hs j a
  rwa [List.getD_eq_getElem?_getD, List.getD_eq_getElem?_getD, List.getElem?_eq_getElem a, List.getElem?_eq_getElem b, Option.getD_some, Option.getD_some] at this

/-- A root of the order k, times 2 to the 32nd, without what lies behind its point. -/
def isRoot (r n k : Nat) : Prop := r ^ k ≤ n * 2 ^ (32 * k) ∧ n * 2 ^ (32 * k) < (r + 1) ^ k
instance (r n k : Nat) : Decidable (isRoot r n k) := inferInstanceAs (Decidable (_ ∧ _))
theorem root_one {r s n k : Nat} (hr : isRoot r n k) (hs : isRoot s n k) : r = s := by
  have key : ∀ a b, isRoot a n k → isRoot b n k → ¬ a < b := by
    intro a b ha hb h
    have h1 : (a + 1) ^ k ≤ b ^ k := Nat.pow_le_pow_left h k
    have := ha.2
    have := hb.1
    omega
  have := key r s hr hs
  have := key s r hs hr
  omega
/-- What stands behind the point of a root, found by trial of what stands ahead of it. -/
def rootWord (n k : Nat) (c : BitVec 32) : Bool := (List.range 32).any fun a => decide (isRoot (a * 4294967296 + c.toNat) n k)
theorem root_word {r n k : Nat} {c : BitVec 32} (h : rootWord n k c = true) (hr : isRoot r n k) : r % 4294967296 = c.toNat := by
  obtain ⟨a, _, ha⟩ := List.any_eq_true.1 h
  have := root_one hr (of_decide_eq_true ha)
  have hc : c.toNat < 4294967296 := c.isLt
  omega
end Go.Proofs.YtfhedljhkikdmaaDoor.Sha
