/-
  Proved: what the leaves of the digest return: RotateLeft32 of math/bits, word and putWord of package sha.
  Conditions: the slices read as bytes.
-/
import Derived.Test.YtllbdeniigakkaaDoorRows
import Derived.Test.YtllbdeniigakkaaDoorShaMath
import Derived.Test.YtllbdeniigakkaaDoorMem
import Derived.Test.YtllbdeniigakkaaDoorAgg
import Derived.WalkKit
import Derived.Lib.Hide
import Derived.Lib.LaidTab
import Derived.Laws.BitsAllLaws
import Derived.RegionTactic
import Derived.BigRegion
import Derived.Deep.QuietTactic
import Derived.BigQuiet
import Derived.Outline
namespace Go.Proofs.YtllbdeniigakkaaDoor.Sha
open Go.RowKit

theorem ret_int {k : IntKind} {a b : Int} (h : a = b) : Ending.returned (.int k a) = .returned (.int k b) := by rw [h]
theorem u32_xor_bv (x y : BitVec 32) : bits .xor .u32 (x.toNat : Int) (y.toNat : Int) = ((x ^^^ y).toNat : Int) := by rw [u32_xor_nat _ _ x.isLt y.isLt, BitVec.toNat_xor]
theorem u32_and_bv (x y : BitVec 32) : bits .and .u32 (x.toNat : Int) (y.toNat : Int) = ((x &&& y).toNat : Int) := by rw [u32_and_nat _ _ x.isLt y.isLt, BitVec.toNat_and]
theorem u32_or_bv (x y : BitVec 32) : bits .or .u32 (x.toNat : Int) (y.toNat : Int) = ((x ||| y).toNat : Int) := by rw [u32_or_nat _ _ x.isLt y.isLt, BitVec.toNat_or]
theorem u32_not_bv (x : BitVec 32) : bits .xor .u32 IntKind.u32.max (x.toNat : Int) = ((~~~ x).toNat : Int) := by
  have hs : x.toNat < 4294967296 := x.isLt
  rw [show IntKind.u32.max = ((4294967295 : Nat) : Int) from rfl, u32_xor_nat _ _ (by decide) hs]
  congr 1

theorem rotr_int (x : BitVec 32) (s : Nat) (hs : s ≤ 31) : bits .or .u32 ((x.toNat : Int) * 2 ^ s % 4294967296) ((x.toNat : Int) / 2 ^ (32 - s)) = ((rotr x (32 - s)).toNat : Int) := by
  have hx : x.toNat < 4294967296 := x.isLt
  have e1 : (x.toNat : Int) * 2 ^ s % 4294967296 = ((x <<< s).toNat : Int) := by
    rw [BitVec.toNat_shiftLeft, Nat.shiftLeft_eq, Int.natCast_emod, Int.natCast_mul, Int.natCast_pow]
    rfl
  have e2 : (x.toNat : Int) / 2 ^ (32 - s) = ((x >>> (32 - s)).toNat : Int) := by
    rw [BitVec.toNat_ushiftRight, Nat.shiftRight_eq_div_pow, Int.natCast_ediv, Int.natCast_pow]
    rfl
  rw [e1, e2, u32_or_bv, rotr, show 32 - (32 - s) = s by omega]
theorem rotl_at (x : BitVec 32) (k : Int) (s : Nat) (w : World) (hk : bits .and .u64 (IntKind.u64.wrap k) 31 = (s : Int)) (hs : s ≤ 31) :
    Calls Tryd.prog 29 #[.int .u32 (x.toNat : Int), .int .i64 k] w fun e w' => e = .returned (.int .u32 ((rotr x (32 - s)).toNat : Int)) ∧ w = w' := by
  have hx : x.toNat < 4294967296 := x.isLt
  go_enter Tryd.func29, Tryd.ntmps29
  go_wp2
  go_ret
  exact ⟨ret_int (rotr_int x s hs), rfl⟩
theorem rot2 (x : BitVec 32) (w : World) : Calls Tryd.prog 29 #[.int .u32 (x.toNat : Int), .int .i64 (-2)] w fun e w' => e = .returned (.int .u32 ((rotr x 2).toNat : Int)) ∧ w = w' := rotl_at x (-2) 30 w (by decide) (by decide)
theorem rot6 (x : BitVec 32) (w : World) : Calls Tryd.prog 29 #[.int .u32 (x.toNat : Int), .int .i64 (-6)] w fun e w' => e = .returned (.int .u32 ((rotr x 6).toNat : Int)) ∧ w = w' := rotl_at x (-6) 26 w (by decide) (by decide)
theorem rot7 (x : BitVec 32) (w : World) : Calls Tryd.prog 29 #[.int .u32 (x.toNat : Int), .int .i64 (-7)] w fun e w' => e = .returned (.int .u32 ((rotr x 7).toNat : Int)) ∧ w = w' := rotl_at x (-7) 25 w (by decide) (by decide)
theorem rot11 (x : BitVec 32) (w : World) : Calls Tryd.prog 29 #[.int .u32 (x.toNat : Int), .int .i64 (-11)] w fun e w' => e = .returned (.int .u32 ((rotr x 11).toNat : Int)) ∧ w = w' := rotl_at x (-11) 21 w (by decide) (by decide)
theorem rot13 (x : BitVec 32) (w : World) : Calls Tryd.prog 29 #[.int .u32 (x.toNat : Int), .int .i64 (-13)] w fun e w' => e = .returned (.int .u32 ((rotr x 13).toNat : Int)) ∧ w = w' := rotl_at x (-13) 19 w (by decide) (by decide)
theorem rot17 (x : BitVec 32) (w : World) : Calls Tryd.prog 29 #[.int .u32 (x.toNat : Int), .int .i64 (-17)] w fun e w' => e = .returned (.int .u32 ((rotr x 17).toNat : Int)) ∧ w = w' := rotl_at x (-17) 15 w (by decide) (by decide)
theorem rot18 (x : BitVec 32) (w : World) : Calls Tryd.prog 29 #[.int .u32 (x.toNat : Int), .int .i64 (-18)] w fun e w' => e = .returned (.int .u32 ((rotr x 18).toNat : Int)) ∧ w = w' := rotl_at x (-18) 14 w (by decide) (by decide)
theorem rot19 (x : BitVec 32) (w : World) : Calls Tryd.prog 29 #[.int .u32 (x.toNat : Int), .int .i64 (-19)] w fun e w' => e = .returned (.int .u32 ((rotr x 19).toNat : Int)) ∧ w = w' := rotl_at x (-19) 13 w (by decide) (by decide)
theorem rot22 (x : BitVec 32) (w : World) : Calls Tryd.prog 29 #[.int .u32 (x.toNat : Int), .int .i64 (-22)] w fun e w' => e = .returned (.int .u32 ((rotr x 22).toNat : Int)) ∧ w = w' := rotl_at x (-22) 10 w (by decide) (by decide)
theorem rot25 (x : BitVec 32) (w : World) : Calls Tryd.prog 29 #[.int .u32 (x.toNat : Int), .int .i64 (-25)] w fun e w' => e = .returned (.int .u32 ((rotr x 25).toNat : Int)) ∧ w = w' := rotl_at x (-25) 7 w (by decide) (by decide)

theorem mul_or (a b i : Nat) (h : b < 2 ^ i) : a * 2 ^ i ||| b = a * 2 ^ i + b := by
  rw [← Nat.shiftLeft_eq, Nat.shiftLeft_add_eq_or_of_lt h]
theorem word_int (a b c d : UInt8) : bits .or .u32 (bits .or .u32 (bits .or .u32 ((a.toNat : Int) * 16777216) ((b.toNat : Int) * 65536)) ((c.toNat : Int) * 256)) (d.toNat : Int) = ((word a b c d).toNat : Int) := by
  have ha := a.toNat_lt; have hb := b.toNat_lt; have hc := c.toNat_lt; have hd := d.toNat_lt
  have e1 : bits .or .u32 ((a.toNat : Int) * 16777216) ((b.toNat : Int) * 65536) = ((a.toNat * 16777216 + b.toNat * 65536 : Nat) : Int) := by
    rw [show (a.toNat : Int) * 16777216 = ((a.toNat * 2 ^ 24 : Nat) : Int) by omega, show (b.toNat : Int) * 65536 = ((b.toNat * 65536 : Nat) : Int) by omega,
      u32_or_nat _ _ (by omega) (by omega), mul_or _ _ 24 (by omega)]
  have e2 : bits .or .u32 ((a.toNat * 16777216 + b.toNat * 65536 : Nat) : Int) ((c.toNat : Int) * 256) = ((a.toNat * 16777216 + b.toNat * 65536 + c.toNat * 256 : Nat) : Int) := by
    rw [show a.toNat * 16777216 + b.toNat * 65536 = (a.toNat * 256 + b.toNat) * 2 ^ 16 by omega, show (c.toNat : Int) * 256 = ((c.toNat * 256 : Nat) : Int) by omega,
      u32_or_nat _ _ (by omega) (by omega), mul_or _ _ 16 (by omega)]
  have e3 : bits .or .u32 ((a.toNat * 16777216 + b.toNat * 65536 + c.toNat * 256 : Nat) : Int) (d.toNat : Int) = ((a.toNat * 16777216 + b.toNat * 65536 + c.toNat * 256 + d.toNat : Nat) : Int) := by
    rw [show a.toNat * 16777216 + b.toNat * 65536 + c.toNat * 256 = (a.toNat * 65536 + b.toNat * 256 + c.toNat) * 2 ^ 8 by omega,
      u32_or_nat _ _ (by omega) (by omega), mul_or _ _ 8 (by omega)]
  rw [e1, e2, e3, word_toNat]

theorem word_any (A : Option Addr) (n c : Nat) (bs : List UInt8) (B : Nat) (w : World) (hR : Row w B A n (bvs bs)) (h4 : 4 ≤ n) :
    Calls Tryd.prog 30 #[.slice A n c] w fun e w' => e = .returned (.int .u32 ((word (bs.getD 0 0) (bs.getD 1 0) (bs.getD 2 0) (bs.getD 3 0)).toNat : Int)) ∧ ∃ q, w' = w.drewN q := by
  obtain ⟨b, o, rfl, _, hc⟩ := hR.byte (by omega)
  have c0 := hc 0 (by omega)
  have c1 := hc 1 (by omega)
  have c2 := hc 2 (by omega)
  have c3 := hc 3 (by omega)
  rw [Nat.add_zero] at c0
  generalize bs.getD 0 0 = x0 at *
  generalize bs.getD 1 0 = x1 at *
  generalize bs.getD 2 0 = x2 at *
  generalize bs.getD 3 0 = x3 at *
  have h0 := x0.toNat_lt
  have h1 := x1.toNat_lt
  have h2 := x2.toNat_lt
  have h3 := x3.toNat_lt
  clear hR hc
  go_enter Tryd.func30, Tryd.ntmps30
  go_wp2_with fail
  go_quiet (fail)
  go_wp2_with fail
  go_ret
  exact ⟨ret_int (word_int x0 x1 x2 x3), _, rfl⟩

/-- Four cells of a row, turned. -/
def put4 (l : List Value) (o : Nat) (w : BitVec 32) : List Value := l.take o ++ (bvs (bytes32 w) ++ l.drop (o + 4))
theorem byte_of (n k : Nat) : Value.int .u8 ((n : Int) / (k : Int) % 256) = bv (UInt8.ofNat (n / k)) := by
  unfold bv
  rw [UInt8.toNat_ofNat', Int.natCast_emod, Int.natCast_ediv]
  rfl
theorem put4_set {cs : Array Value} {o : Nat} (x : BitVec 32) (ho : o + 4 ≤ cs.size) :
    (((cs.setIfInBounds o (.int .u8 ((x.toNat : Int) / 16777216))).setIfInBounds (o + 1) (.int .u8 ((x.toNat : Int) / 65536 % 256))).setIfInBounds (o + 2) (.int .u8 ((x.toNat : Int) / 256 % 256))).setIfInBounds (o + 3) (.int .u8 ((x.toNat : Int) % 256)) = (put4 cs.toList o x).toArray := by
  have hx : x.toNat < 4294967296 := x.isLt
  have e0 : Value.int .u8 ((x.toNat : Int) / 16777216) = bv (UInt8.ofNat (x.toNat / 16777216)) := by
    rw [← byte_of]
    congr 1
    omega
  have e1 : Value.int .u8 ((x.toNat : Int) / 65536 % 256) = bv (UInt8.ofNat (x.toNat / 65536)) := byte_of x.toNat 65536
  have e2 : Value.int .u8 ((x.toNat : Int) / 256 % 256) = bv (UInt8.ofNat (x.toNat / 256)) := byte_of x.toNat 256
  have e3 : Value.int .u8 ((x.toNat : Int) % 256) = bv (UInt8.ofNat x.toNat) := by
    have := byte_of x.toNat 1
    simpa using this
  rw [e0, e1, e2, e3]
  apply Array.ext'
  apply List.ext_getElem?
  intro j
  simp only [put4, bytes32, bvs, List.map_cons, List.map_nil, Array.getElem?_toList, Array.getElem?_setIfInBounds, List.getElem?_append, List.length_take, Array.length_toList, List.length_cons, List.length_nil, List.getElem?_take, List.getElem?_drop, Array.size_setIfInBounds]
  have hm : min o cs.size = o := by omega
  rw [hm]
  by_cases h3 : o + 3 = j
  · subst h3
    simp [show o + 3 < cs.size by omega]
    intro hh
    omega
  by_cases h2 : o + 2 = j
  · subst h2
    simp [show o + 2 < cs.size by omega]
    intro hh
    omega
  by_cases h1 : o + 1 = j
  · subst h1
    simp [show o + 1 < cs.size by omega]
    intro hh
    omega
  by_cases h0 : o = j
  · subst h0
    simp [show o < cs.size by omega]
  simp only [h0, h1, h2, h3, if_false]
  by_cases hl : j < o
  · simp [hl]
  · rw [if_neg hl, if_neg (by omega)]
    congr 1
    omega
theorem putWord_any (g o n c : Nat) (x : BitVec 32) (t : TypeId) (cs : Array Value) (w : World) (hg : Blk w g t cs) (ho : o + 4 ≤ cs.size) (h4 : 4 ≤ n) :
    Calls Tryd.prog 24 #[.slice (some ⟨g, o, none⟩) n c, .int .u32 (x.toNat : Int)] w fun e w' => e = .returned undef ∧ Blk w' g t (put4 cs.toList o x).toArray ∧ w.grownBy w' (some g) := by
  have hx : x.toNat < 4294967296 := x.isLt
  have f0 := hg.free o
  have f1 := hg.free (o + 1)
  have f2 := hg.free (o + 2)
  have f3 := hg.free (o + 3)
  obtain ⟨v0, c0⟩ : ∃ v, w.cell? ⟨g, o, none⟩ = some v := ⟨_, (hg.cell o).trans (Array.getElem?_eq_getElem (by omega))⟩
  obtain ⟨v1, c1⟩ : ∃ v, w.cell? ⟨g, o + 1, none⟩ = some v := ⟨_, (hg.cell (o + 1)).trans (Array.getElem?_eq_getElem (by omega))⟩
  obtain ⟨v2, c2⟩ : ∃ v, w.cell? ⟨g, o + 2, none⟩ = some v := ⟨_, (hg.cell (o + 2)).trans (Array.getElem?_eq_getElem (by omega))⟩
  obtain ⟨v3, c3⟩ : ∃ v, w.cell? ⟨g, o + 3, none⟩ = some v := ⟨_, (hg.cell (o + 3)).trans (Array.getElem?_eq_getElem (by omega))⟩
  have HG := Lib.hid hg
  have HO := Lib.hid ho
  clear hg ho
  go_enter Tryd.func24, Tryd.ntmps24
  go_wp2_with fail
  go_end0
  have hb := ((((HG.out.put o (.int .u8 ((x.toNat : Int) / 16777216))).put (o + 1) (.int .u8 ((x.toNat : Int) / 65536 % 256))).put (o + 2) (.int .u8 ((x.toNat : Int) / 256 % 256))).put (o + 3) (.int .u8 ((x.toNat : Int) % 256)))
  rw [put4_set x HO.out] at hb
  exact ⟨rfl, hb, only_trans (only_trans (only_trans (only_setCell _ _ _) (only_setCell _ _ _)) (only_setCell _ _ _)) (only_setCell _ _ _)⟩
end Go.Proofs.YtllbdeniigakkaaDoor.Sha
