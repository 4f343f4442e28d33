/-
  Proved: what inner of law 7 returns: a record by a number; texts of records as strings.
  Conditions: the number is under 256.
-/
import Derived.Test.YtjpgfdpgjfmnoaaDoorScanBuf
import Derived.Test.YtjpgfdpgjfmnoaaDoorRecBegins
namespace Go.Proofs.YtjpgfdpgjfmnoaaDoor.Rec
open Go.RowKit
set_option linter.unusedVariables false
set_option linter.unusedSimpArgs false

def rcI (i : Nat) (Z : UInt8) : Rc := ⟨2, 0, 0, 0, i, [Z, UInt8.ofNat i]⟩
theorem rcI_may (i : Nat) (Z : UInt8) (h : i < 256) : (rcI i Z).May := ⟨by show (1 : Int) ≤ 2; decide, by show (2 : Int) ≤ 4; decide, Nat.zero_le _, Nat.zero_le _, by show i ≤ _; omega, by show 2 ≤ 1000; decide⟩
theorem rcI_fits (i : Nat) (Z : UInt8) (h : i < 256) : (rcI i Z).Fits := ⟨by show 0 < _; decide, by show 0 < _; decide, by show 0 < _; decide, by show i < _; omega⟩
theorem str_append (a b : List UInt8) : str a ++ str b = str (a ++ b) := by
  apply ByteArray.ext
  rw [ByteArray.data_append]
  simp [str]
set_option maxRecDepth 100000 in
set_option maxHeartbeats 8000000 in
theorem inner_any (i : Nat) (Z : UInt8) (w : World) (hi : i < 256) :
    Calls Tryd.prog 18 #[.int .i64 (i : Int), .int .u8 (Z.toNat : Int)] w fun e w' => e = .returned (.agg (rcI i Z).vals) ∧ Below w.heap.size w w' := by
  have hz := zeroRec
  have hZ := Z.toNat_lt
  have hw1 : IntKind.u64.wrap (i : Int) = (i : Int) := by simp [IntKind.wrap, IntKind.bits, IntKind.signed]; omega
  have hw2 : IntKind.u8.wrap (i : Int) = (i : Int) := by simp [IntKind.wrap, IntKind.bits, IntKind.signed]; omega
  obtain ⟨w1, hw1'⟩ : ∃ w1, w1 = w.alloc (.cells #[.int .i64 0, .int .u32 0, .int .u64 0, .int .u64 0, .int .u64 0, .string ⟨#[]⟩] 32) := ⟨_, rfl⟩
  have HB1 : Hid (Below w.heap.size w w1) := by rw [hw1']; exact below_alloc w _
  have HZ1 : Hid (RecAt w1 w.heap.size zeroRc) := by rw [hw1']; exact zero_new w
  have hlt := HZ1.out.lt
  obtain ⟨C, hC⟩ : ∃ C : Array Value, C = #[.int .u8 (Z.toNat : Int), .int .u8 (i : Int)] := ⟨_, rfl⟩
  have hCb : C.toList = bvs [Z, UInt8.ofNat i] := by
    rw [hC]
    have e : (UInt8.ofNat i).toNat = i := by rw [UInt8.toNat_ofNat']; omega
    simp [bvs, bv, e]
  have hrow : Row (w1.alloc (.cells C 5)) (w1.heap.size + 1) (some ⟨w1.heap.size, 0, none⟩) 2 (bvs [Z, UInt8.ofNat i]) := by
    have := Row.fresh w1 5 (0, 0) C
    rw [hCb, show C.size = 2 by rw [hC]; rfl] at this
    exact this
  obtain ⟨s, hs⟩ : ∃ s, s = str [Z, UInt8.ofNat i] := ⟨_, rfl⟩
  have HS := Lib.hid hs
  have hcv := conv_row (c := 2) hrow HS
  have HB2 : Hid (Below w1.heap.size w1 (w1.alloc (.cells C 5))) := below_alloc w1 _
  have HZ2 : Hid (RecAt (w1.alloc (.cells C 5)) w.heap.size zeroRc) := HZ1.out.below HB2.out hlt
  rw [hC] at hcv HB2 HZ2
  clear hrow hs hCb hC
  go_enter Tryd.func18, Tryd.ntmps18
  go_upto_region 1 with fail
  rw [← hw1']
  clear hw1'
  go_wp2_with (refine store_recN HZ2.out rfl rfl (.tmp 4) (.tmp 12) rfl rfl (rcI i Z) (by rw [HS.out]; rfl) rfl ?_; intro w3 X3 G3)
  refine bodyPost_ret (result_rec X3.out rfl _ rfl) rfl ?_
  exact ⟨rfl, below_only (HB1.out.trans (HB2.out.mono HB1.out.size)) (only_hid G3) (Nat.le_refl _) (HB1.out.trans (HB2.out.mono HB1.out.size)).size⟩
end Go.Proofs.YtjpgfdpgjfmnoaaDoor.Rec
