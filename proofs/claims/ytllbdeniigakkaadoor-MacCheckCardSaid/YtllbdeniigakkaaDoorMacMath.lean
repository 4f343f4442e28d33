/-
  Proved: HMAC-SHA256 on lists of bytes: noughts behind a short key say nothing; the tag of one known text.
  Conditions: none.
-/
import Derived.Test.YtllbdeniigakkaaDoorShaMath
namespace Go.Proofs.YtllbdeniigakkaaDoor.Sha

/-- A key's own bytes: those of a key that is too long are its digest's. -/
def keyOf (k : List UInt8) : List UInt8 := if 64 < k.length then digest k else k
/-- A key as a block, each byte turned by one mask. -/
def keyPad (k : List UInt8) (x : UInt8) : List UInt8 := (List.range 64).map fun i => (keyOf k).getD i 0 ^^^ x
def hmac (k b : List UInt8) : List UInt8 := digest (keyPad k 0x5c ++ digest (keyPad k 0x36 ++ b))
theorem keyPad_length (k : List UInt8) (x : UInt8) : (keyPad k x).length = 64 := by simp [keyPad]
theorem keyOf_length (k : List UInt8) : (keyOf k).length ≤ 64 := by
  unfold keyOf
  split
  · rw [digest_length]; omega
  · omega
theorem hmac_length (k b : List UInt8) : (hmac k b).length = 32 := digest_length _
theorem getD_nought (k : List UInt8) (i : Nat) : (k ++ [0]).getD i 0 = k.getD i 0 := by
  rw [List.getD_eq_getElem?_getD, List.getD_eq_getElem?_getD]
  by_cases h : i < k.length
  · rw [List.getElem?_append_left h]
  · rw [List.getElem?_append_right (by omega), List.getElem?_eq_none (by omega : k.length ≤ i)]
    by_cases h0 : i - k.length = 0
    · rw [h0]; rfl
    · rw [List.getElem?_eq_none (by simp; omega)]
/-- A nought behind a key of fewer than 64 bytes says nothing. -/
theorem hmac_nought (k b : List UInt8) (h : k.length < 64) : hmac (k ++ [0]) b = hmac k b := by
  have e : ∀ x, keyPad (k ++ [0]) x = keyPad k x := by
    intro x
    unfold keyPad keyOf
    rw [if_neg (by simp; omega), if_neg (by omega)]
    refine List.map_congr_left fun i _ => ?_
    rw [getD_nought]
  rw [hmac, hmac, e, e]
/-- The key and the text of the known tag. -/
def foxKey : List UInt8 := [107, 101, 121]
def foxText : List UInt8 := [84, 104, 101, 32, 113, 117, 105, 99, 107, 32, 98, 114, 111, 119, 110, 32, 102, 111, 120, 32, 106, 117, 109, 112, 115, 32, 111, 118, 101, 114, 32, 116, 104, 101, 32, 108, 97, 122, 121, 32, 100, 111, 103]
theorem hmac_fox : (hmac foxKey foxText).take 4 = [0xf7, 0xbc, 0x83, 0xf4] := by decide +kernel
end Go.Proofs.YtllbdeniigakkaaDoor.Sha
