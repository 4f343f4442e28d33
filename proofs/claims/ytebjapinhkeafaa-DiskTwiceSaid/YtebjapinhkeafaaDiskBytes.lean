/-
  Plain facts: the bytes that a crash leaves of a file, one by one.
-/
import Derived.Test.YtebjapinhkeafaaDiskHeld
namespace Go.Proofs.Ytebjapinhkeafaa.Disk
open Go.RowKit Go.Maps
set_option linter.unusedVariables false
set_option linter.unusedSimpArgs false

theorem fixSec_get {was b : List UInt8} {Z s p : Nat} (hb : b.length = Z) (hp : p ≤ 64) {i : Nat} (hi : i < Z) : (fixSec was Z s p b)[i]? = if 64 * s + p ≤ i ∧ i < 64 * s + 64 then some (was.getD i 0) else b[i]? := by
  unfold fixSec
  have hX : (((was.drop (64 * s)).take 64).drop p).length = min 64 (was.length - 64 * s) - p := by simp
  have h1 : (b.take (min (64 * s + p) Z)).length = min (64 * s + p) Z := by rw [List.length_take]; omega
  have h2 : ((((was.drop (64 * s)).take 64).drop p).take (min (64 * s + 64) Z - min (64 * s + p) Z)).length = min (min (64 * s + 64) Z - min (64 * s + p) Z) (min 64 (was.length - 64 * s) - p) := by rw [List.length_take, hX]
  rw [hX]
  by_cases ha : i < 64 * s + p
  · rw [if_neg (by omega), List.append_assoc, List.getElem?_append_left (by omega), List.getElem?_take, if_pos (by omega)]
  · by_cases hc : i < 64 * s + 64
    · rw [if_pos ⟨by omega, hc⟩, List.append_assoc, List.getElem?_append_right (by omega), h1, List.getElem?_append_left (by rw [List.length_append, h2, List.length_replicate]; omega)]
      by_cases hl : i < was.length
      · rw [List.getElem?_append_left (by rw [h2]; omega), List.getElem?_take, if_pos (by omega), List.getElem?_drop, List.getElem?_take, if_pos (by omega), List.getElem?_drop,
          show 64 * s + (p + (i - min (64 * s + p) Z)) = i by omega, List.getD_eq_getElem?_getD, List.getElem?_eq_getElem hl]
        rfl
      · rw [List.getElem?_append_right (by rw [h2]; omega), List.getElem?_replicate, if_pos (by rw [h2]; omega), List.getD_eq_getElem?_getD, List.getElem?_eq_none (by omega)]
        rfl
    · rw [if_neg (by omega), List.getElem?_append_right (by rw [List.length_append, h1, List.length_append, h2, List.length_replicate]; omega), List.getElem?_drop, List.length_append, h1, List.length_append, h2, List.length_replicate]
      congr 1
      omega
theorem crashK_get {now was : List UInt8} {Z : Nat} {secs parts : Nat → Nat} (hZ : Z ≤ now.length) (hp : ∀ k, parts k ≤ 64) {i : Nat} (hi : i < Z) :
    ∀ k, (crashK now was Z secs parts k)[i]? = if ∃ j, j < k ∧ secs j = i / 64 ∧ parts j ≤ i % 64 then some (was.getD i 0) else now[i]?
  | 0 => by
    rw [if_neg (by rintro ⟨j, hj, _⟩; omega)]
    show (now.take Z)[i]? = _
    rw [List.getElem?_take, if_pos hi]
  | k + 1 => by
    rw [crashK, fixSec_get (crashK_length hZ hp k) (hp k) hi, crashK_get hZ hp hi k]
    by_cases h1 : secs k = i / 64 ∧ parts k ≤ i % 64
    · rw [if_pos (by have := hp k; omega), if_pos ⟨k, by omega, h1⟩]
    · rw [if_neg (by have := hp k; omega)]
      by_cases h2 : ∃ j, j < k ∧ secs j = i / 64 ∧ parts j ≤ i % 64
      · obtain ⟨j, hj, h3⟩ := h2
        rw [if_pos ⟨j, hj, h3⟩, if_pos ⟨j, by omega, h3⟩]
      · rw [if_neg h2, if_neg]
        rintro ⟨j, hj, h3⟩
        rcases Nat.lt_or_ge j k with hh | hh
        · exact h2 ⟨j, hh, h3⟩
        · have : j = k := by omega
          subst this
          exact h1 h3
theorem csize_ge {n S : Nat} {secs parts : Nat → Nat} : ∀ k, S ≤ csize n S secs parts k
  | 0 => Nat.le_refl _
  | k + 1 => by
    have := csize_ge (n := n) (S := S) (secs := secs) (parts := parts) k
    unfold csize
    split <;> omega
theorem Fl.crash_length {x : Fl} (h : x.Ok) {parts : List Nat} (hp : ∀ i, parts.getD i 0 ≤ 64) : (x.crash parts).length = x.crashLen parts ∧ x.was.length ≤ x.crashLen parts ∧ x.crashLen parts ≤ x.now.length := by
  have h1 : x.crashLen parts ≤ x.now.length := csize_le h.le _
  exact ⟨crashK_length h1 hp _, csize_ge _, h1⟩
/-- One byte. -/
theorem Fl.crash_get {x : Fl} (h : x.Ok) {parts : List Nat} (hp : ∀ i, parts.getD i 0 ≤ 64) {i : Nat} (hi : i < x.crashLen parts) :
    (x.crash parts)[i]? = if ∃ j, j < x.soiled.length ∧ (x.soiled.map (·.1)).getD j 0 = i / 64 ∧ parts.getD j 0 ≤ i % 64 then some (x.was.getD i 0) else x.now[i]? :=
  crashK_get (csize_le h.le _) hp hi _
/-- A file that was synced stays. -/
theorem Fl.crash_clean {x : Fl} (hs : x.soiled = []) (hw : x.was = x.now) (parts : List Nat) : x.crash parts = x.now := by
  unfold Fl.crash Fl.crashLen
  rw [hs, hw]
  show x.now.take x.now.length = _
  rw [List.take_length]
/-- One file's own sectors come first. -/
theorem crash_one (fl : Nat → Fl) (keep : List Bool) (torn : Int) (n : Nm) (g : Nat) : crashFiles fl keep torn 0 [(n, g)] = [(n, (fl g).crash (partsFor 0 (fl g).soiled.length keep torn))] := rfl
end Go.Proofs.Ytebjapinhkeafaa.Disk
