/-
  Plain facts: what All finds are whole records, each behind the one ahead of it.
-/
import Derived.Test.YtjpgfdpgjfmnoaaDoorScanArgs
namespace Go.Proofs.YtjpgfdpgjfmnoaaDoor.Rec
open Go.RowKit
set_option linter.unusedVariables false
set_option linter.unusedSimpArgs false

/-- Whole records of a text, each from a place on behind the one ahead of it. -/
def Chain (bs : List UInt8) : Nat → List (Nat × Rc) → Prop
  | _, [] => True
  | p, q :: l => p ≤ q.1 ∧ dec (bs.drop q.1) = .ok q.2 (39 + q.2.body.length) ∧ Chain bs (q.1 + (39 + q.2.body.length)) l
theorem Chain.from {bs : List UInt8} {p r : Nat} {l : List (Nat × Rc)} (h : Chain bs p l) (hr : r ≤ p) : Chain bs r l := by
  cases l with
  | nil => trivial
  | cons q l => exact ⟨Nat.le_trans hr h.1, h.2⟩
theorem all_chain (bs : List UInt8) : ∀ (f p : Nat), Chain bs p (allF f p bs) := by
  intro f
  induction f with
  | zero => intro p; trivial
  | succ f ih =>
    intro p
    rw [allF]
    split
    · trivial
    · cases hd : dec (bs.drop p) with
      | ok x n =>
        have hn := (dec_ok hd).1
        subst hn
        exact ⟨Nat.le_refl _, hd, ih _⟩
      | more => exact (ih (p + 1)).from (Nat.le_succ _)
      | bad => exact (ih (p + 1)).from (Nat.le_succ _)
/-- One record out of a chain. -/
theorem chain_one {bs : List UInt8} {e : Nat} {L : List (Nat × Rc)} {p : Nat} {q : Nat × Rc} (h : Chain bs e (L.drop p)) (hq : L[p]? = some q) :
    e ≤ q.1 ∧ q.1 + (39 + q.2.body.length) ≤ bs.length ∧ q.2.May ∧ q.2.Fits ∧ enc q.2 = (bs.drop q.1).take (39 + q.2.body.length) ∧ Chain bs (q.1 + (39 + q.2.body.length)) (L.drop (p + 1)) := by
  obtain ⟨hp, e'⟩ := List.getElem?_eq_some_iff.1 hq
  rw [List.drop_eq_getElem_cons hp, e'] at h
  obtain ⟨h1, h2, h3⟩ := h
  obtain ⟨_, k2, k3, k4, k5⟩ := dec_ok h2
  rw [List.length_drop] at k2
  exact ⟨h1, by omega, k3, k4, by rw [enc_may k3, k5], h3⟩
end Go.Proofs.YtjpgfdpgjfmnoaaDoor.Rec
