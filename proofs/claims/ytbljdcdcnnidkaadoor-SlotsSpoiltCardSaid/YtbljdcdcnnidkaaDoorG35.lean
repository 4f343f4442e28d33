/-
  Texts one behind the other: SlotSpoil.
-/
import Derived.Test.YtbljdcdcnnidkaaDoorG22
/-
  Plain facts: a byte of a slot changed.
-/
namespace Go.Proofs.YtbljdcdcnnidkaaDoor.Slot
open Go.RowKit Go.Proofs.YtbljdcdcnnidkaaDoor.Rec Go.Proofs.YtbljdcdcnnidkaaDoor.Disk
set_option linter.unusedVariables false
set_option linter.unusedSimpArgs false

/-- A slot that begins so. -/
def Begins (l : List UInt8) (s t : Nat) (b : List UInt8) : Prop := ∃ r, slotAt l s = slotB t b ++ r
theorem Begins.tell {l : List UInt8} {s t : Nat} {b : List UInt8} (h : Begins l s t b) (hb : b.length ≤ 4080) (ht : t < 18446744073709551616) : slotOf (slotAt l s) = some (t, b) := by
  obtain ⟨r, e⟩ := h
  rw [e]
  exact slotOf_of t b r ht hb
theorem put_begins {l : List UInt8} {s t : Nat} {b r : List UInt8} (hl : l.length = 8192) (hs : s < 2) : Begins (putAt l (4096 * s) (slotB t b ++ r)) s t b := by
  refine ⟨r ++ l.drop (4096 * s + (slotB t b ++ r).length), ?_⟩
  unfold slotAt putAt
  rw [List.append_assoc, List.drop_append_of_le_length (by rw [List.length_take]; omega)]
  rw [List.drop_eq_nil_of_le (by rw [List.length_take]; omega)]
  simp
theorem laid_begins {b : List UInt8} : Begins (laidB b) 0 1 b := ⟨List.replicate (8192 - (16 + b.length)) 0, by unfold slotAt laidB; rw [Nat.mul_zero, List.drop_zero]⟩
/-- The first slot stays as it begins while the second is written. -/
theorem put_keeps {l bs : List UInt8} {t a : Nat} {b : List UInt8} (hl : l.length = 8192) (hb : b.length ≤ 4080) (ha : 4096 ≤ a) (hal : a + bs.length ≤ 8192) (h : Begins l 0 t b) : Begins (putAt l a bs) 0 t b := by
  obtain ⟨r, e⟩ := h
  have hlen : (slotB t b).length ≤ 4096 := by rw [slotB_length]; omega
  unfold slotAt at e
  rw [Nat.mul_zero, List.drop_zero] at e
  refine ⟨(putAt l a bs).drop (slotB t b).length, ?_⟩
  unfold slotAt
  rw [Nat.mul_zero, List.drop_zero]
  have e2 : (putAt l a bs).take (slotB t b).length = slotB t b := by
    refine List.ext_getElem? fun i => ?_
    rw [List.getElem?_take]
    split
    · rename_i hi
      rw [putAt_get _ _ _ (by omega), if_neg (by omega), e, List.getElem?_append_left hi]
    · rename_i hi
      rw [List.getElem?_eq_none (by omega)]
  conv => lhs; rw [← List.take_append_drop (slotB t b).length (putAt l a bs)]
  rw [e2]
theorem put_one {l : List UInt8} {s k : Nat} {c : UInt8} (hl : l.length = 8192) (hs : s < 2) (hk : k < 4096) : slotAt (putAt l (4096 * s + k) [c]) s = (slotAt l s).set k c := by
  have hlen : (slotAt l s).length = 8192 - 4096 * s := by unfold slotAt; rw [List.length_drop, hl]
  refine List.ext_getElem? fun i => ?_
  rw [List.getElem?_set]
  unfold slotAt at hlen ⊢
  rw [List.getElem?_drop, putAt_get _ _ _ (by omega), List.length_singleton]
  by_cases e : k = i
  · subst e
    rw [if_pos (by omega), if_pos rfl, if_pos (by omega)]
    simp
  · rw [if_neg (by omega), if_neg e, List.getElem?_drop]
/-- A byte of a slot, but of its length, made another one: it is none. -/
theorem put_spoils {l : List UInt8} {s t k : Nat} {b : List UInt8} {c : UInt8} (hl : l.length = 8192) (hs : s < 2) (hb : b.length ≤ 4080) (hk : k < 16 + b.length) (h : Begins l s t b) (hc : c ≠ (slotAt l s).getD k 0) (hn : ¬ (8 ≤ k ∧ k < 12)) : slotOf (slotAt (putAt l (4096 * s + k) [c]) s) = none := by
  obtain ⟨r, e⟩ := h
  have hc' : c ≠ (slotB t b).getD k 0 := by
    rw [e] at hc
    rw [List.getD_eq_getElem?_getD, List.getElem?_append_left (by rw [slotB_length]; omega)] at hc
    rwa [List.getD_eq_getElem?_getD]
  rw [put_one hl hs (by omega), e]
  unfold slotOf
  rw [if_pos (slot_spoilt t b r k c hb hk hc' hn)]
/-- A byte of one slot says nothing of the other one. -/
theorem put_one_there {l : List UInt8} {s s' k : Nat} {c : UInt8} (hl : l.length = 8192) (hs : s < 2) (hs' : s' < 2) (hne : s ≠ s') (hk : k < 4096) : slotOf (slotAt (putAt l (4096 * s + k) [c]) s') = slotOf (slotAt l s') := by
  refine slotOf_agree (List.ext_getElem? fun i => ?_)
  rw [List.getElem?_take, List.getElem?_take]
  split
  · unfold slotAt
    rw [List.getElem?_drop, List.getElem?_drop, putAt_get _ _ _ (by omega), List.length_singleton, if_neg (by omega)]
  · rfl
end Go.Proofs.YtbljdcdcnnidkaaDoor.Slot
