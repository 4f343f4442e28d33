/-
  Texts one behind the other: SlotMath, DiskShelf.
-/
import Derived.Shelf.Bytes.SlClone
import Derived.Shelf.SlMaps.Copy
import Derived.Shelf.SlIter.Nil
import Derived.Shelf.SortM.Plain
import Derived.Shelf.SortM.SortNone
import Derived.Shelf.SlIterI.Nil
import Derived.Test.YtbljdcdcnnidkaaGreatDoorProg
import Derived.Test.YtbljdcdcnnidkaaGreatDoorG02
import Derived.Test.YtbljdcdcnnidkaaGreatDoorG10
/-
  Plain facts: a slot as bytes; what fits its sum; what a changed byte, and what a crash, leave of it.
-/
namespace Go.Proofs.YtbljdcdcnnidkaaGreatDoor.Slot
open Go.RowKit Go.Proofs.YtbljdcdcnnidkaaGreatDoor.Rec
set_option linter.unusedVariables false
set_option linter.unusedSimpArgs false

/-- The turn and the length. -/
def slotHead (t n : Nat) : List UInt8 := be t 8 ++ be n 4
@[simp] theorem slotHead_length (t n : Nat) : (slotHead t n).length = 12 := by simp [slotHead]
/-- A slot's bytes. -/
def slotB (t : Nat) (b : List UInt8) : List UInt8 := slotHead t b.length ++ be (Crc.sum (slotHead t b.length ++ b)).toNat 4 ++ b
theorem slotB_length (t : Nat) (b : List UInt8) : (slotB t b).length = 16 + b.length := by simp [slotB]; omega
theorem sum_small (l : List UInt8) : (Crc.sum l).toNat < 256 ^ 4 := (Crc.sum l).isLt
theorem slot_turn (t : Nat) (b r : List UInt8) : Rec.part (slotB t b ++ r) 0 8 = be t 8 := by
  have e : slotB t b ++ r = [] ++ be t 8 ++ (be b.length 4 ++ be (Crc.sum (slotHead t b.length ++ b)).toNat 4 ++ b ++ r) := by simp [slotB, slotHead]
  rw [e]
  exact part_mid _ _ _ 0 8 rfl (by simp)
theorem slot_len (t : Nat) (b r : List UInt8) : Rec.part (slotB t b ++ r) 8 12 = be b.length 4 := by
  have e : slotB t b ++ r = be t 8 ++ be b.length 4 ++ (be (Crc.sum (slotHead t b.length ++ b)).toNat 4 ++ b ++ r) := by simp [slotB, slotHead]
  rw [e]
  exact part_mid _ _ _ 8 12 (by simp) (by simp)
theorem slot_sum (t : Nat) (b r : List UInt8) : Rec.part (slotB t b ++ r) 12 16 = be (Crc.sum (slotHead t b.length ++ b)).toNat 4 := by
  have e : slotB t b ++ r = slotHead t b.length ++ be (Crc.sum (slotHead t b.length ++ b)).toNat 4 ++ (b ++ r) := by simp [slotB]
  rw [e]
  exact part_mid _ _ _ 12 16 (by simp) (by simp)
theorem slot_text (t : Nat) (b r : List UInt8) : Rec.part (slotB t b ++ r) 16 (16 + b.length) = b := by
  have e : slotB t b ++ r = (slotHead t b.length ++ be (Crc.sum (slotHead t b.length ++ b)).toNat 4) ++ b ++ r := by simp [slotB]
  rw [e]
  exact part_mid _ _ _ _ _ (by simp) (by simp)
theorem slot_head (t : Nat) (b r : List UInt8) : (slotB t b ++ r).take 12 = slotHead t b.length := by
  have e : slotB t b ++ r = slotHead t b.length ++ (be (Crc.sum (slotHead t b.length ++ b)).toNat 4 ++ b ++ r) := by simp [slotB]
  rw [e]
  exact List.take_left' (by simp)
theorem slotN_of (t : Nat) (b r : List UInt8) (hb : b.length ≤ 4080) : slotN (slotB t b ++ r) = 16 + b.length := by
  have hl := slotB_length t b
  unfold slotN
  rw [slot_len, beN_be _ _ (by omega), slot_sum, slot_text, slot_head, beN_be _ _ (sum_small _)]
  rw [if_neg (by rw [List.length_append]; omega), if_neg (by rw [List.length_append]; omega), if_neg (by simp)]
/-- What a slot tells: its turn and its text. -/
def slotOf (bs : List UInt8) : Option (Nat × List UInt8) := if slotN bs = 0 then none else some (beN (Rec.part bs 0 8), Rec.part bs 16 (slotN bs))
theorem slotOf_of (t : Nat) (b r : List UInt8) (ht : t < 18446744073709551616) (hb : b.length ≤ 4080) : slotOf (slotB t b ++ r) = some (t, b) := by
  unfold slotOf
  rw [slotN_of t b r hb, if_neg (by omega), slot_turn, slot_text, beN_be _ _ (by omega)]
theorem slotN_bound (bs : List UInt8) : slotN bs = 0 ∨ (16 ≤ slotN bs ∧ slotN bs ≤ 4096 ∧ slotN bs ≤ bs.length ∧ slotN bs = 16 + beN (Rec.part bs 8 12) ∧ beN (Rec.part bs 12 16) = (Crc.sum (bs.take 12 ++ Rec.part bs 16 (slotN bs))).toNat) := by
  by_cases h1 : bs.length < 16
  · exact .inl (by unfold slotN; rw [if_pos h1])
  by_cases h2 : 4080 < beN (Rec.part bs 8 12) ∨ bs.length - 16 < beN (Rec.part bs 8 12)
  · exact .inl (by unfold slotN; rw [if_neg h1, if_pos h2])
  by_cases h3 : beN (Rec.part bs 12 16) ≠ (Crc.sum (bs.take 12 ++ Rec.part bs 16 (16 + beN (Rec.part bs 8 12)))).toNat
  · exact .inl (by unfold slotN; rw [if_neg h1, if_neg h2, if_pos h3])
  · have e : slotN bs = 16 + beN (Rec.part bs 8 12) := by unfold slotN; rw [if_neg h1, if_neg h2, if_neg h3]
    refine .inr ⟨by omega, by omega, by omega, e, ?_⟩
    rw [e]
    exact Classical.byContradiction h3
theorem part_same {a b : List UInt8} {k i j : Nat} (h : b.take k = a.take k) (hij : i ≤ j) (hj : j ≤ k) : Rec.part b i j = Rec.part a i j := by
  have e : ∀ l : List UInt8, Rec.part l i j = Rec.part (l.take k) i j := fun l => by
    unfold Rec.part
    rw [List.drop_take, List.take_take, Nat.min_eq_left (by omega)]
  rw [e b, e a, h]
/-- Where the bytes of a slot stand again, it tells the same. -/
theorem slot_same {a b : List UInt8} (h0 : 0 < slotN a) (hl : slotN a ≤ b.length) (h : b.take (slotN a) = a.take (slotN a)) : slotN b = slotN a ∧ slotOf b = slotOf a := by
  rcases slotN_bound a with h1 | ⟨h1, h2, h3, h4, h5⟩
  · omega
  have p1 := part_same h (show 0 ≤ 8 by omega) (by omega)
  have p2 := part_same h (show 8 ≤ 12 by omega) (by omega)
  have p3 := part_same h (show 12 ≤ 16 by omega) (by omega)
  have p4 := part_same h h1 (Nat.le_refl _)
  have p5 : b.take 12 = a.take 12 := by
    have := congrArg (List.take 12) h
    rwa [List.take_take, List.take_take, Nat.min_eq_left (by omega)] at this
  have h5' := h5
  rw [h4] at h5'
  have p4' : Rec.part b 16 (16 + beN (Rec.part a 8 12)) = Rec.part a 16 (16 + beN (Rec.part a 8 12)) := by rw [← h4]; exact p4
  have e : slotN b = slotN a := by
    refine Eq.trans ?_ h4.symm
    conv => lhs; unfold slotN
    rw [p2, p3, p5, p4', if_neg (by omega), if_neg (by omega), if_neg (by rw [h5']; simp)]
  refine ⟨e, ?_⟩
  unfold slotOf
  rw [e, p1, p4]
/-- A slot of which one byte was changed, but for its length, fits no more. -/
theorem slot_spoilt (t : Nat) (b r : List UInt8) (k : Nat) (c : UInt8) (hb : b.length ≤ 4080) (hk : k < 16 + b.length) (hc : c ≠ (slotB t b).getD k 0) (hn : ¬ (8 ≤ k ∧ k < 12)) : slotN ((slotB t b ++ r).set k c) = 0 := by
  have hL := slotB_length t b
  have hl : (slotB t b ++ r).length = 16 + b.length + r.length := by rw [List.length_append, hL]
  have g1 := slot_len t b r
  have g2 := slot_sum t b r
  have g3 := slot_text t b r
  have g4 := slot_head t b r
  have e0 : Rec.part ((slotB t b ++ r).set k c) 8 12 = be b.length 4 := by
    by_cases h8 : k < 8
    · rw [part_set, if_pos h8, g1]
    · rw [part_set_beyond _ _ _ _ _ (by omega) (by omega), g1]
  have eN : beN (be b.length 4) = b.length := beN_be _ _ (by omega)
  unfold slotN
  rw [e0, eN, if_neg (by rw [List.length_set, hl]; omega), if_neg (by rw [List.length_set, hl]; omega)]
  have h3 : beN (Rec.part ((slotB t b ++ r).set k c) 12 16) ≠ (Crc.sum (((slotB t b ++ r).set k c).take 12 ++ Rec.part ((slotB t b ++ r).set k c) 16 (16 + b.length))).toNat := by
    intro hr
    rw [List.take_set, g4] at hr
    by_cases k1 : k < 12
    · rw [part_set, if_pos (by omega), g2, part_set, if_pos (by omega), g3, beN_be _ _ (sum_small _), ← List.set_append_left _ _ (by simpa using k1)] at hr
      have := sum_set (l := slotHead t b.length ++ b) (k := k) (c := c) (by simp; omega) (BitVec.eq_of_toNat_eq hr.symm)
      refine hc (this.trans ?_)
      rw [getD_front _ _ _ (by simpa using k1), slotB, List.append_assoc, getD_front _ _ _ (by simpa using k1)]
    · have e12 : (slotHead t b.length).set k c = slotHead t b.length := List.set_eq_of_length_le (by simp; omega)
      rw [e12] at hr
      by_cases k2 : k < 16
      · rw [part_set, if_neg (by omega), g2, part_set, if_pos k2, g3] at hr
        have hb2 : be (Crc.sum (slotHead t b.length ++ b)).toNat 4 = (be (Crc.sum (slotHead t b.length ++ b)).toNat 4).set (k - 12) c := by
          refine beN_inj 4 _ _ (be_length _ _) (by simp) ?_
          rw [hr, beN_be _ _ (sum_small _)]
        refine hc ?_
        have e1 : (slotB t b).getD k 0 = (be (Crc.sum (slotHead t b.length ++ b)).toNat 4).getD (k - 12) 0 := by
          rw [slotB, List.append_assoc, List.getD_eq_getElem?_getD, List.getD_eq_getElem?_getD, List.getElem?_append_right (by simp; omega), slotHead_length, List.getElem?_append_left (by simp; omega)]
        rw [e1, hb2, List.getD_eq_getElem?_getD, List.getElem?_set_self (by simp; omega)]
        rfl
      · rw [part_set_beyond _ _ _ _ _ (by omega) (by omega), g2, part_set, if_neg (by omega), g3, beN_be _ _ (sum_small _)] at hr
        have e2 : slotHead t b.length ++ b.set (k - 16) c = (slotHead t b.length ++ b).set (k - 4) c := by
          rw [List.set_append_right _ _ (by simp; omega)]
          simp only [slotHead_length]
          rw [show k - 4 - 12 = k - 16 by omega]
        rw [e2] at hr
        have := sum_set (l := slotHead t b.length ++ b) (k := k - 4) (c := c) (by simp; omega) (BitVec.eq_of_toNat_eq hr.symm)
        refine hc (this.trans ?_)
        rw [slotB, List.append_assoc, List.getD_eq_getElem?_getD, List.getD_eq_getElem?_getD, List.getElem?_append_right (by simp; omega), List.getElem?_append_right (by simp; omega), List.getElem?_append_right (by simp; omega)]
        simp only [slotHead_length, be_length]
        rw [show k - 4 - 12 = k - 12 - 4 by omega]
  rw [if_pos h3]
end Go.Proofs.YtbljdcdcnnidkaaGreatDoor.Slot
/-
  The contracts of Go's library that the proofs of this seat use, laid at the numbers of its program.
-/
namespace Go.Proofs.YtbljdcdcnnidkaaGreatDoor
open Go.Shelf
def Shelf.clone_ren : Go.Shelf.Ren := ⟨fun | 4 => 51 | n => n, fun | 22 => 31 | 4 => 4 | 5 => 5 | n => n, fun | n => n⟩
theorem Shelf.clone : Go.Proofs.SlLaysK.n4 Tryz.prog Shelf.clone_ren := {
  mixed := by kernel_rfl,
  f4 := Tryz.func51.trans (congrArg some (by kernel_rfl)),
  t4 := Tryz.underlying4,
  a4 := Tryz.isAgg4,
  z4 := Tryz.sizeOf4,
  v4 := Tryz.zeroValue4,
  t22 := Tryz.underlying31,
  a22 := Tryz.isAgg31,
  z22 := Tryz.sizeOf31,
  v22 := Tryz.zeroValue31,
  t5 := Tryz.underlying5,
  i5 := by kernel_rfl }
def Shelf.mcopy_ren : Go.Shelf.Ren := ⟨fun | 5 => 25 | n => n, fun | 23 => 45 | 24 => 45 | 26 => 9 | 27 => 59 | 0 => 0 | 4 => 4 | n => n, fun | n => n⟩
theorem Shelf.mcopy : Go.Proofs.SlLaysX.n5 Tryz.prog Shelf.mcopy_ren := {
  mixed := by kernel_rfl,
  f5 := ⟨Tryz.f25.name, by decide, Tryz.func25.trans (congrArg some (by kernel_rfl))⟩,
  t0 := Tryz.underlying0,
  a0 := Tryz.isAgg0,
  z0 := Tryz.sizeOf0,
  v0 := Tryz.zeroValue0,
  t4 := Tryz.underlying4,
  a4 := Tryz.isAgg4,
  z4 := Tryz.sizeOf4,
  v4 := Tryz.zeroValue4,
  t23 := Tryz.underlying45,
  a23 := Tryz.isAgg45,
  z23 := Tryz.sizeOf45,
  v23 := Tryz.zeroValue45,
  t24 := Tryz.underlying45,
  a24 := Tryz.isAgg45,
  z24 := Tryz.sizeOf45,
  v24 := Tryz.zeroValue45,
  a26 := Tryz.isAgg9,
  z26 := Tryz.sizeOf9,
  a27 := Tryz.isAgg59,
  z27 := Tryz.sizeOf59 }
def Shelf.keysS_ren : Go.Shelf.Ren := ⟨fun | 7 => 47 | 10 => 68 | n => n, fun | 23 => 45 | 26 => 9 | 3 => 59 | 28 => 91 | 0 => 0 | 27 => 90 | 33 => 86 | 4 => 4 | n => n, fun | n => n⟩
theorem Shelf.keysS : Go.Proofs.SlLaysZ.n7 Tryz.prog Shelf.keysS_ren := {
  mixed := by kernel_rfl,
  f7 := ⟨Tryz.f47.name, by decide, Tryz.func47.trans (congrArg some (by kernel_rfl))⟩,
  f10 := ⟨Tryz.f68.name, by decide, Tryz.func68.trans (congrArg some (by kernel_rfl))⟩,
  t0 := Tryz.underlying0,
  a0 := Tryz.isAgg0,
  z0 := Tryz.sizeOf0,
  v0 := Tryz.zeroValue0,
  t4 := Tryz.underlying4,
  a4 := Tryz.isAgg4,
  z4 := Tryz.sizeOf4,
  v4 := Tryz.zeroValue4,
  t23 := Tryz.underlying45,
  a23 := Tryz.isAgg45,
  z23 := Tryz.sizeOf45,
  v23 := Tryz.zeroValue45,
  t26 := Tryz.underlying9,
  a26 := Tryz.isAgg9,
  z26 := Tryz.sizeOf9,
  v26 := Tryz.zeroValue9,
  t27 := Tryz.underlying90,
  a27 := Tryz.isAgg90,
  z27 := Tryz.sizeOf90,
  v27 := Tryz.zeroValue90,
  t28 := Tryz.underlying91,
  a28 := Tryz.isAgg91,
  z28 := Tryz.sizeOf91,
  v28 := Tryz.zeroValue91,
  t33 := Tryz.underlying86,
  a33 := Tryz.isAgg86,
  z33 := Tryz.sizeOf86,
  v33 := Tryz.zeroValue86 }
def Shelf.sortedS_ren : Go.Shelf.Ren := ⟨fun | 6 => 46 | 8 => 66 | 9 => 67 | 11 => 73 | 13 => 75 | 12 => 74 | 23 => 87 | 24 => 88 | 14 => 78 | 15 => 79 | 16 => 80 | 17 => 81 | 18 => 82 | 19 => 83 | 20 => 84 | 21 => 85 | 22 => 86 | 25 => 98 | 26 => 99 | 27 => 100 | 28 => 101 | 29 => 102 | 30 => 103 | 31 => 108 | n => n, fun | 26 => 9 | 28 => 91 | 24 => 63 | 0 => 0 | 3 => 3 | 37 => 114 | 48 => 76 | 50 => 41 | 4 => 4 | 40 => 125 | 39 => 124 | 45 => 130 | 5 => 5 | 9 => 9 | 51 => 140 | 55 => 143 | 57 => 147 | 58 => 148 | 33 => 86 | n => n, fun | n => n⟩
theorem Shelf.sortedS : Go.Proofs.SlLaysZ.n6 Tryz.prog Shelf.sortedS_ren := {
  mixed := by kernel_rfl,
  f6 := ⟨Tryz.f46.name, by decide, Tryz.func46.trans (congrArg some (by kernel_rfl))⟩,
  f8 := ⟨Tryz.f66.name, by decide, Tryz.func66.trans (congrArg some (by kernel_rfl))⟩,
  f11 := ⟨Tryz.f73.name, by decide, Tryz.func73.trans (congrArg some (by kernel_rfl))⟩,
  t0 := Tryz.underlying0,
  a0 := Tryz.isAgg0,
  z0 := Tryz.sizeOf0,
  v0 := Tryz.zeroValue0,
  t24 := Tryz.underlying63,
  a24 := Tryz.isAgg63,
  z24 := Tryz.sizeOf63,
  v24 := Tryz.zeroValue63,
  t26 := Tryz.underlying9,
  a26 := Tryz.isAgg9,
  z26 := Tryz.sizeOf9,
  v26 := Tryz.zeroValue9,
  t28 := Tryz.underlying91,
  a28 := Tryz.isAgg91,
  z28 := Tryz.sizeOf91,
  v28 := Tryz.zeroValue91,
  i26 := by kernel_rfl }
def Shelf.sortS_ren : Go.Shelf.Ren := ⟨fun | 6 => 67 | 8 => 75 | 9 => 74 | 19 => 87 | 20 => 88 | 21 => 78 | 22 => 79 | 23 => 80 | 24 => 81 | 25 => 82 | 26 => 83 | 27 => 84 | 28 => 85 | 29 => 86 | 36 => 98 | 31 => 99 | 32 => 100 | 37 => 101 | 38 => 102 | 39 => 103 | 41 => 108 | n => n, fun | 27 => 63 | 29 => 9 | 3 => 3 | 32 => 114 | 26 => 63 | 0 => 0 | 44 => 76 | 46 => 41 | 4 => 4 | 36 => 125 | 35 => 124 | 41 => 130 | 5 => 5 | 9 => 9 | 53 => 140 | 57 => 143 | 63 => 147 | 64 => 148 | n => n, fun | n => n⟩
theorem Shelf.sortS : Go.Proofs.SlLaysM.n6 Tryz.prog Shelf.sortS_ren := {
  mixed := by kernel_rfl,
  f6 := ⟨Tryz.f67.name, by decide, Tryz.func67.trans (congrArg some (by kernel_rfl))⟩,
  f8 := Tryz.func75.trans (congrArg some (by kernel_rfl)),
  f9 := ⟨Tryz.f74.name, by decide, Tryz.func74.trans (congrArg some (by kernel_rfl))⟩,
  f19 := Tryz.func87.trans (congrArg some (by kernel_rfl)),
  f20 := Tryz.func88.trans (congrArg some (by kernel_rfl)),
  f21 := ⟨Tryz.f78.name, by decide, Tryz.func78.trans (congrArg some (by kernel_rfl))⟩,
  f22 := ⟨Tryz.f79.name, by decide, Tryz.func79.trans (congrArg some (by kernel_rfl))⟩,
  f23 := ⟨Tryz.f80.name, by decide, Tryz.func80.trans (congrArg some (by kernel_rfl))⟩,
  f24 := ⟨Tryz.f81.name, by decide, Tryz.func81.trans (congrArg some (by kernel_rfl))⟩,
  f25 := ⟨Tryz.f82.name, by decide, Tryz.func82.trans (congrArg some (by kernel_rfl))⟩,
  f26 := ⟨Tryz.f83.name, by decide, Tryz.func83.trans (congrArg some (by kernel_rfl))⟩,
  f27 := ⟨Tryz.f84.name, by decide, Tryz.func84.trans (congrArg some (by kernel_rfl))⟩,
  f28 := ⟨Tryz.f85.name, by decide, Tryz.func85.trans (congrArg some (by kernel_rfl))⟩,
  f29 := ⟨Tryz.f86.name, by decide, Tryz.func86.trans (congrArg some (by kernel_rfl))⟩,
  f31 := Tryz.func99.trans (congrArg some (by kernel_rfl)),
  f32 := Tryz.func100.trans (congrArg some (by kernel_rfl)),
  f36 := ⟨Tryz.f98.name, by decide, Tryz.func98.trans (congrArg some (by kernel_rfl))⟩,
  f37 := ⟨Tryz.f101.name, by decide, Tryz.func101.trans (congrArg some (by kernel_rfl))⟩,
  f38 := ⟨Tryz.f102.name, by decide, Tryz.func102.trans (congrArg some (by kernel_rfl))⟩,
  f39 := ⟨Tryz.f103.name, by decide, Tryz.func103.trans (congrArg some (by kernel_rfl))⟩,
  f41 := ⟨Tryz.f108.name, by decide, Tryz.func108.trans (congrArg some (by kernel_rfl))⟩,
  t0 := Tryz.underlying0,
  a0 := Tryz.isAgg0,
  z0 := Tryz.sizeOf0,
  v0 := Tryz.zeroValue0,
  t3 := Tryz.underlying3,
  a3 := Tryz.isAgg3,
  z3 := Tryz.sizeOf3,
  v3 := Tryz.zeroValue3,
  t4 := Tryz.underlying4,
  a4 := Tryz.isAgg4,
  z4 := Tryz.sizeOf4,
  v4 := Tryz.zeroValue4,
  t5 := Tryz.underlying5,
  a5 := Tryz.isAgg5,
  z5 := Tryz.sizeOf5,
  v5 := Tryz.zeroValue5,
  t9 := Tryz.underlying9,
  a9 := Tryz.isAgg9,
  z9 := Tryz.sizeOf9,
  v9 := Tryz.zeroValue9,
  t26 := Tryz.underlying63,
  a26 := Tryz.isAgg63,
  z26 := Tryz.sizeOf63,
  v26 := Tryz.zeroValue63,
  t27 := Tryz.underlying63,
  a27 := Tryz.isAgg63,
  z27 := Tryz.sizeOf63,
  v27 := Tryz.zeroValue63,
  t29 := Tryz.underlying9,
  a29 := Tryz.isAgg9,
  z29 := Tryz.sizeOf9,
  v29 := Tryz.zeroValue9,
  t32 := Tryz.underlying114,
  a32 := Tryz.isAgg114,
  z32 := Tryz.sizeOf114,
  v32 := Tryz.zeroValue114,
  t35 := Tryz.underlying124,
  a35 := Tryz.isAgg124,
  z35 := Tryz.sizeOf124,
  v35 := Tryz.zeroValue124,
  t36 := Tryz.underlying125,
  a36 := Tryz.isAgg125,
  z36 := Tryz.sizeOf125,
  v36 := Tryz.zeroValue125,
  t41 := Tryz.underlying130,
  a41 := Tryz.isAgg130,
  z41 := Tryz.sizeOf130,
  v41 := Tryz.zeroValue130,
  t44 := Tryz.underlying76,
  a44 := Tryz.isAgg76,
  z44 := Tryz.sizeOf76,
  v44 := Tryz.zeroValue76,
  t46 := Tryz.underlying41,
  a46 := Tryz.isAgg41,
  z46 := Tryz.sizeOf41,
  v46 := Tryz.zeroValue41,
  t53 := Tryz.underlying140,
  a53 := Tryz.isAgg140,
  z53 := Tryz.sizeOf140,
  v53 := Tryz.zeroValue140,
  t57 := Tryz.underlying143,
  a57 := Tryz.isAgg143,
  z57 := Tryz.sizeOf143,
  v57 := Tryz.zeroValue143,
  t63 := Tryz.underlying147,
  a63 := Tryz.isAgg147,
  z63 := Tryz.sizeOf147,
  v63 := Tryz.zeroValue147,
  t64 := Tryz.underlying148,
  a64 := Tryz.isAgg148,
  z64 := Tryz.sizeOf148,
  v64 := Tryz.zeroValue148 }
def Shelf.keysI_ren : Go.Shelf.Ren := ⟨fun | 7 => 49 | 10 => 71 | n => n, fun | 23 => 66 | 26 => 3 | 3 => 31 | 28 => 95 | 0 => 0 | 27 => 94 | 33 => 113 | 4 => 4 | n => n, fun | n => n⟩
theorem Shelf.keysI : Go.Proofs.SlLaysZI.n7 Tryz.prog Shelf.keysI_ren := {
  mixed := by kernel_rfl,
  f7 := ⟨Tryz.f49.name, by decide, Tryz.func49.trans (congrArg some (by kernel_rfl))⟩,
  f10 := ⟨Tryz.f71.name, by decide, Tryz.func71.trans (congrArg some (by kernel_rfl))⟩,
  t0 := Tryz.underlying0,
  a0 := Tryz.isAgg0,
  z0 := Tryz.sizeOf0,
  v0 := Tryz.zeroValue0,
  t4 := Tryz.underlying4,
  a4 := Tryz.isAgg4,
  z4 := Tryz.sizeOf4,
  v4 := Tryz.zeroValue4,
  t23 := Tryz.underlying66,
  a23 := Tryz.isAgg66,
  z23 := Tryz.sizeOf66,
  v23 := Tryz.zeroValue66,
  t26 := Tryz.underlying3,
  a26 := Tryz.isAgg3,
  z26 := Tryz.sizeOf3,
  v26 := Tryz.zeroValue3,
  t27 := Tryz.underlying94,
  a27 := Tryz.isAgg94,
  z27 := Tryz.sizeOf94,
  v27 := Tryz.zeroValue94,
  t28 := Tryz.underlying95,
  a28 := Tryz.isAgg95,
  z28 := Tryz.sizeOf95,
  v28 := Tryz.zeroValue95,
  t33 := Tryz.underlying113,
  a33 := Tryz.isAgg113,
  z33 := Tryz.sizeOf113,
  v33 := Tryz.zeroValue113 }
def Shelf.sortedI_ren : Go.Shelf.Ren := ⟨fun | 6 => 48 | 8 => 69 | 9 => 70 | 11 => 76 | 13 => 75 | 12 => 77 | 23 => 87 | 24 => 88 | 14 => 89 | 15 => 90 | 16 => 91 | 17 => 92 | 18 => 93 | 19 => 94 | 20 => 95 | 21 => 96 | 22 => 97 | 25 => 104 | 26 => 99 | 27 => 100 | 28 => 105 | 29 => 106 | 30 => 107 | 31 => 109 | n => n, fun | 26 => 3 | 28 => 95 | 24 => 65 | 0 => 0 | 3 => 3 | 37 => 114 | 48 => 76 | 50 => 41 | 4 => 4 | 40 => 125 | 39 => 124 | 45 => 130 | 5 => 5 | 9 => 9 | 51 => 140 | 55 => 143 | 57 => 147 | 58 => 148 | 33 => 113 | n => n, fun | n => n⟩
theorem Shelf.sortedI : Go.Proofs.SlLaysZI.n6 Tryz.prog Shelf.sortedI_ren := {
  mixed := by kernel_rfl,
  f6 := ⟨Tryz.f48.name, by decide, Tryz.func48.trans (congrArg some (by kernel_rfl))⟩,
  f8 := ⟨Tryz.f69.name, by decide, Tryz.func69.trans (congrArg some (by kernel_rfl))⟩,
  f11 := ⟨Tryz.f76.name, by decide, Tryz.func76.trans (congrArg some (by kernel_rfl))⟩,
  t0 := Tryz.underlying0,
  a0 := Tryz.isAgg0,
  z0 := Tryz.sizeOf0,
  v0 := Tryz.zeroValue0,
  t24 := Tryz.underlying65,
  a24 := Tryz.isAgg65,
  z24 := Tryz.sizeOf65,
  v24 := Tryz.zeroValue65,
  t26 := Tryz.underlying3,
  a26 := Tryz.isAgg3,
  z26 := Tryz.sizeOf3,
  v26 := Tryz.zeroValue3,
  t28 := Tryz.underlying95,
  a28 := Tryz.isAgg95,
  z28 := Tryz.sizeOf95,
  v28 := Tryz.zeroValue95,
  i26 := by kernel_rfl }
def Shelf.sortI_ren : Go.Shelf.Ren := ⟨fun | 5 => 70 | 8 => 75 | 7 => 77 | 19 => 87 | 20 => 88 | 10 => 89 | 11 => 90 | 12 => 91 | 13 => 92 | 14 => 93 | 15 => 94 | 16 => 95 | 17 => 96 | 18 => 97 | 30 => 104 | 31 => 99 | 32 => 100 | 33 => 105 | 34 => 106 | 35 => 107 | 40 => 109 | n => n, fun | 23 => 65 | 25 => 3 | 3 => 3 | 32 => 114 | 22 => 65 | 0 => 0 | 44 => 76 | 46 => 41 | 4 => 4 | 36 => 125 | 35 => 124 | 41 => 130 | 5 => 5 | 9 => 9 | 53 => 140 | 57 => 143 | 63 => 147 | 64 => 148 | n => n, fun | n => n⟩
theorem Shelf.sortI : Go.Proofs.SlLaysM.n5 Tryz.prog Shelf.sortI_ren := {
  mixed := by kernel_rfl,
  f5 := ⟨Tryz.f70.name, by decide, Tryz.func70.trans (congrArg some (by kernel_rfl))⟩,
  f7 := ⟨Tryz.f77.name, by decide, Tryz.func77.trans (congrArg some (by kernel_rfl))⟩,
  f8 := Tryz.func75.trans (congrArg some (by kernel_rfl)),
  f10 := ⟨Tryz.f89.name, by decide, Tryz.func89.trans (congrArg some (by kernel_rfl))⟩,
  f11 := ⟨Tryz.f90.name, by decide, Tryz.func90.trans (congrArg some (by kernel_rfl))⟩,
  f12 := ⟨Tryz.f91.name, by decide, Tryz.func91.trans (congrArg some (by kernel_rfl))⟩,
  f13 := ⟨Tryz.f92.name, by decide, Tryz.func92.trans (congrArg some (by kernel_rfl))⟩,
  f14 := ⟨Tryz.f93.name, by decide, Tryz.func93.trans (congrArg some (by kernel_rfl))⟩,
  f15 := ⟨Tryz.f94.name, by decide, Tryz.func94.trans (congrArg some (by kernel_rfl))⟩,
  f16 := ⟨Tryz.f95.name, by decide, Tryz.func95.trans (congrArg some (by kernel_rfl))⟩,
  f17 := ⟨Tryz.f96.name, by decide, Tryz.func96.trans (congrArg some (by kernel_rfl))⟩,
  f18 := ⟨Tryz.f97.name, by decide, Tryz.func97.trans (congrArg some (by kernel_rfl))⟩,
  f19 := Tryz.func87.trans (congrArg some (by kernel_rfl)),
  f20 := Tryz.func88.trans (congrArg some (by kernel_rfl)),
  f30 := ⟨Tryz.f104.name, by decide, Tryz.func104.trans (congrArg some (by kernel_rfl))⟩,
  f31 := Tryz.func99.trans (congrArg some (by kernel_rfl)),
  f32 := Tryz.func100.trans (congrArg some (by kernel_rfl)),
  f33 := ⟨Tryz.f105.name, by decide, Tryz.func105.trans (congrArg some (by kernel_rfl))⟩,
  f34 := ⟨Tryz.f106.name, by decide, Tryz.func106.trans (congrArg some (by kernel_rfl))⟩,
  f35 := ⟨Tryz.f107.name, by decide, Tryz.func107.trans (congrArg some (by kernel_rfl))⟩,
  f40 := ⟨Tryz.f109.name, by decide, Tryz.func109.trans (congrArg some (by kernel_rfl))⟩,
  t0 := Tryz.underlying0,
  a0 := Tryz.isAgg0,
  z0 := Tryz.sizeOf0,
  v0 := Tryz.zeroValue0,
  t3 := Tryz.underlying3,
  a3 := Tryz.isAgg3,
  z3 := Tryz.sizeOf3,
  v3 := Tryz.zeroValue3,
  t4 := Tryz.underlying4,
  a4 := Tryz.isAgg4,
  z4 := Tryz.sizeOf4,
  v4 := Tryz.zeroValue4,
  t5 := Tryz.underlying5,
  a5 := Tryz.isAgg5,
  z5 := Tryz.sizeOf5,
  v5 := Tryz.zeroValue5,
  t9 := Tryz.underlying9,
  a9 := Tryz.isAgg9,
  z9 := Tryz.sizeOf9,
  v9 := Tryz.zeroValue9,
  t22 := Tryz.underlying65,
  a22 := Tryz.isAgg65,
  z22 := Tryz.sizeOf65,
  v22 := Tryz.zeroValue65,
  t23 := Tryz.underlying65,
  a23 := Tryz.isAgg65,
  z23 := Tryz.sizeOf65,
  v23 := Tryz.zeroValue65,
  t25 := Tryz.underlying3,
  a25 := Tryz.isAgg3,
  z25 := Tryz.sizeOf3,
  v25 := Tryz.zeroValue3,
  t32 := Tryz.underlying114,
  a32 := Tryz.isAgg114,
  z32 := Tryz.sizeOf114,
  v32 := Tryz.zeroValue114,
  t35 := Tryz.underlying124,
  a35 := Tryz.isAgg124,
  z35 := Tryz.sizeOf124,
  v35 := Tryz.zeroValue124,
  t36 := Tryz.underlying125,
  a36 := Tryz.isAgg125,
  z36 := Tryz.sizeOf125,
  v36 := Tryz.zeroValue125,
  t41 := Tryz.underlying130,
  a41 := Tryz.isAgg130,
  z41 := Tryz.sizeOf130,
  v41 := Tryz.zeroValue130,
  t44 := Tryz.underlying76,
  a44 := Tryz.isAgg76,
  z44 := Tryz.sizeOf76,
  v44 := Tryz.zeroValue76,
  t46 := Tryz.underlying41,
  a46 := Tryz.isAgg41,
  z46 := Tryz.sizeOf41,
  v46 := Tryz.zeroValue41,
  t53 := Tryz.underlying140,
  a53 := Tryz.isAgg140,
  z53 := Tryz.sizeOf140,
  v53 := Tryz.zeroValue140,
  t57 := Tryz.underlying143,
  a57 := Tryz.isAgg143,
  z57 := Tryz.sizeOf143,
  v57 := Tryz.zeroValue143,
  t63 := Tryz.underlying147,
  a63 := Tryz.isAgg147,
  z63 := Tryz.sizeOf147,
  v63 := Tryz.zeroValue147,
  t64 := Tryz.underlying148,
  a64 := Tryz.isAgg148,
  z64 := Tryz.sizeOf148,
  v64 := Tryz.zeroValue148 }
end Go.Proofs.YtbljdcdcnnidkaaGreatDoor
