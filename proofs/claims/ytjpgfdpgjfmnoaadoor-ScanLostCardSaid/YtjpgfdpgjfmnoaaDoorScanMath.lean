/-
  Plain facts: which records stand in a list of bytes, from place to place, and at its front: no Go text, no program.
-/
import Derived.Test.YtjpgfdpgjfmnoaaDoorRecMath
namespace Go.Proofs.YtjpgfdpgjfmnoaaDoor.Rec
set_option linter.unusedVariables false
set_option linter.unusedSimpArgs false

theorem dec_ok {bs : List UInt8} {x : Rc} {n : Nat} (h : dec bs = .ok x n) : n = 39 + x.body.length ∧ n ≤ bs.length ∧ x.May ∧ x.Fits ∧ x.bytes = bs.take n := by
  unfold dec at h
  split at h
  · cases h
  · rename_i hf
    have hf := Classical.not_not.1 hf
    split at h
    · cases h
    · split at h
      · cases h
      · rename_i hm
        have hm := Classical.not_not.1 hm
        split at h
        · cases h
        · rename_i hl
          have hl : 39 + lenOf bs ≤ bs.length := by omega
          split at h
          · cases h
          · rename_i hs
            have hs := Classical.not_not.1 hs
            injection h with h1 h2
            have hp : (part bs 39 (39 + lenOf bs)).length = lenOf bs := by rw [part_length bs 39 _ (by omega) hl]; omega
            subst h1 h2
            refine ⟨by show 39 + lenOf bs = 39 + (part bs 39 (39 + lenOf bs)).length; rw [hp], hl, again_may bs hm hl, ?_, (again bs hf hl).2 hs⟩
            exact ⟨beN_lt 4 _ (part_length bs 3 7 (by omega) (by omega)), beN_lt 8 _ (part_length bs 7 15 (by omega) (by omega)), beN_lt 8 _ (part_length bs 15 23 (by omega) (by omega)), beN_lt 8 _ (part_length bs 23 31 (by omega) (by omega))⟩
/-- The records from a place on; so many steps at most. -/
def allF : Nat → Nat → List UInt8 → List (Nat × Rc)
  | 0, _, _ => []
  | f + 1, p, bs =>
    if bs.length ≤ p then []
    else match dec (bs.drop p) with
      | .ok x n => (p, x) :: allF f (p + n) bs
      | _ => allF f (p + 1) bs
theorem allF_enough (bs : List UInt8) : ∀ (f g p : Nat), bs.length ≤ p + f → bs.length ≤ p + g → allF f p bs = allF g p bs := by
  intro f
  induction f with
  | zero =>
    intro g p h1 _
    cases g with
    | zero => rfl
    | succ g => rw [allF, allF, if_pos (by omega)]
  | succ f ih =>
    intro g p h1 h2
    cases g with
    | zero => rw [allF, allF, if_pos (by omega)]
    | succ g =>
      rw [allF, allF]
      by_cases hp : bs.length ≤ p
      · rw [if_pos hp, if_pos hp]
      · rw [if_neg hp, if_neg hp]
        cases hd : dec (bs.drop p) with
        | ok x n =>
          have := (dec_ok hd).1
          show _ :: _ = _ :: _
          rw [ih g (p + n) (by omega) (by omega)]
        | more => exact ih g (p + 1) (by omega) (by omega)
        | bad => exact ih g (p + 1) (by omega) (by omega)
/-- The records from a place on. -/
def allFrom (p : Nat) (bs : List UInt8) : List (Nat × Rc) := allF (bs.length - p) p bs
theorem allFrom_end (p : Nat) (bs : List UInt8) (h : bs.length ≤ p) : allFrom p bs = [] := by
  unfold allFrom
  rw [Nat.sub_eq_zero_of_le h]
  rfl
theorem allFrom_ok {p n : Nat} {bs : List UInt8} {x : Rc} (h : p < bs.length) (hd : dec (bs.drop p) = .ok x n) : allFrom p bs = (p, x) :: allFrom (p + n) bs := by
  have hn := (dec_ok hd).1
  unfold allFrom
  rw [show bs.length - p = (bs.length - p - 1) + 1 by omega, allF, if_neg (by omega), hd]
  show _ :: _ = _ :: _
  rw [allF_enough bs (bs.length - p - 1) (bs.length - (p + n)) (p + n) (by omega) (by omega)]
theorem allFrom_no {p : Nat} {bs : List UInt8} (h : p < bs.length) (hd : ∀ x n, dec (bs.drop p) ≠ .ok x n) : allFrom p bs = allFrom (p + 1) bs := by
  unfold allFrom
  rw [show bs.length - p = (bs.length - p - 1) + 1 by omega, allF, if_neg (by omega), show bs.length - (p + 1) = bs.length - p - 1 by omega]
  cases hd' : dec (bs.drop p) with
  | ok x n => exact absurd hd' (hd x n)
  | more => rfl
  | bad => rfl
/-- The records one behind the other from a place on; so many at most. -/
def frontF : Nat → Nat → List UInt8 → List (Nat × Rc)
  | 0, _, _ => []
  | f + 1, p, bs => match dec (bs.drop p) with
      | .ok x n => (p, x) :: frontF f (p + n) bs
      | _ => []
theorem frontF_enough (bs : List UInt8) : ∀ (f g p : Nat), bs.length < p + f → bs.length < p + g → frontF f p bs = frontF g p bs := by
  intro f
  induction f with
  | zero =>
    intro g p h1 _
    cases g with
    | zero => rfl
    | succ g =>
      rw [frontF, frontF]
      cases hd : dec (bs.drop p) with
      | ok x n =>
        have h2 := (dec_ok hd).1
        have h3 := (dec_ok hd).2.1
        rw [List.length_drop] at h3
        omega
      | more => rfl
      | bad => rfl
  | succ f ih =>
    intro g p h1 h2
    cases g with
    | zero =>
      rw [frontF, frontF]
      cases hd : dec (bs.drop p) with
      | ok x n =>
        have h2 := (dec_ok hd).1
        have h3 := (dec_ok hd).2.1
        rw [List.length_drop] at h3
        omega
      | more => rfl
      | bad => rfl
    | succ g =>
      rw [frontF, frontF]
      cases hd : dec (bs.drop p) with
      | ok x n =>
        have := (dec_ok hd).1
        show _ :: _ = _ :: _
        rw [ih g (p + n) (by omega) (by omega)]
      | more => rfl
      | bad => rfl
def frontFrom (p : Nat) (bs : List UInt8) : List (Nat × Rc) := frontF (bs.length - p + 1) p bs
theorem frontFrom_ok {p n : Nat} {bs : List UInt8} {x : Rc} (hd : dec (bs.drop p) = .ok x n) : frontFrom p bs = (p, x) :: frontFrom (p + n) bs := by
  have hn := (dec_ok hd).1
  have hl := (dec_ok hd).2.1
  rw [List.length_drop] at hl
  unfold frontFrom
  rw [frontF, hd]
  show _ :: _ = _ :: _
  rw [frontF_enough bs (bs.length - p) (bs.length - (p + n) + 1) (p + n) (by omega) (by omega)]
theorem frontFrom_no {p : Nat} {bs : List UInt8} (hd : ∀ x n, dec (bs.drop p) ≠ .ok x n) : frontFrom p bs = [] := by
  unfold frontFrom
  rw [frontF]
  cases hd' : dec (bs.drop p) with
  | ok x n => exact absurd hd' (hd x n)
  | more => rfl
  | bad => rfl
/-- How many bytes they take. -/
def endOf (p : Nat) : List (Nat × Rc) → Nat
  | [] => p
  | (q, x) :: l => endOf (q + (39 + x.body.length)) l
end Go.Proofs.YtjpgfdpgjfmnoaaDoor.Rec
