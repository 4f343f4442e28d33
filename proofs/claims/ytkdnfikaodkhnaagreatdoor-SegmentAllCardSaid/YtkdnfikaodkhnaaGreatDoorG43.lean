/-
  Texts one behind the other: SegLawAll, SegTable.
-/
import Derived.Stop.LaidErr
import Derived.Test.YtkdnfikaodkhnaaGreatDoorG06
import Derived.Test.YtkdnfikaodkhnaaGreatDoorG23
import Derived.Test.YtkdnfikaodkhnaaGreatDoorG42
/-
  Proved: what SegmentAll returns over the landed package.
-/
namespace Go.Proofs.YtkdnfikaodkhnaaGreatDoor.Seg
open Go.RowKit Go.Proofs.YtkdnfikaodkhnaaGreatDoor.Disk Go.Proofs.YtkdnfikaodkhnaaGreatDoor.Rec
set_option linter.unusedVariables false

theorem segmentAll_go (z : Int) (A : Option Addr) (n c : Nat) (sy : Int) (B : Option Addr) (bn bc : Nat) (keep0 : List Bool) (torn : Int) (w : World) (hT : Tabs w) (hz : (Lit.int .u32 z).wf = true) (hA : RowsR w A n) (hn : n ≤ c) (hc : c ≤ maxLen)
    (hsy : -9223372036854775808 ≤ sy ∧ sy ≤ 9223372036854775807) (hB : Row w w.heap.size B bn (lvs keep0)) (hbn : bn ≤ bc) (hbc : bc ≤ maxLen) (htorn : -9223372036854775808 ≤ torn ∧ torn ≤ 9223372036854775807) :
    Calls Tryz.prog 3 #[.int .u32 z, .slice A n c, .int .i64 sy, .slice B bn bc, .int .i64 torn] w fun e w' => e = .returned (.bool true) ∧ Below w.heap.size w w' := by
  simp [Lit.wf, IntKind.bits, IntKind.signed, IntKind.min, IntKind.max] at hz
  obtain ⟨id, rfl⟩ : ∃ id : Nat, z = (id : Int) := ⟨z.toNat, by omega⟩
  exact segmentAll_walk id (by omega) A n c sy B bn bc keep0 torn w hT hA hn hc hsy hB hbn hbc htorn
end Go.Proofs.YtkdnfikaodkhnaaGreatDoor.Seg
/-
  Plain facts: the tables out of a row's list.
-/
namespace Go.Proofs.YtkdnfikaodkhnaaGreatDoor.Seg
open Go.RowKit
set_option linter.unusedVariables false

theorem g_tens : Tryz.prog.globalNamed "internal/strconv.uint64pow10" = some 0 := by kernel_rfl
theorem t_tens : (Tryz.prog.globals[0]?).map (·.type) = some 151 := by kernel_rfl
theorem c_tens : Tryz.prog.cellsOf 151 = 20 := by kernel_rfl
theorem c_u64 : Tryz.prog.cellsOf 38 = 1 := by kernel_rfl
theorem tens_data {H : Type} : (Rows.laid_internal_strconv_uint64pow10 : DataW H) = Lib.tabData .u64 Lib.pow10Tab := by
  unfold Rows.laid_internal_strconv_uint64pow10 Lib.tabData Lib.pow10Tab
  rfl
/-- What a row's list says of the tables. -/
theorem tabs_of {W : World} {a b : String × DataW Unit} (h : laidMet Tryz.prog [a, b, ("internal/strconv.uint64pow10", Rows.laid_internal_strconv_uint64pow10), ("stillroom/crc.turned", Rows.laid_stillroom_crc_turned)] W) : Tabs W := by
  have h2 := laidMet.tail (laidMet.tail h)
  refine ⟨Crc.turned_of (laidMet.tail h2), ?_⟩
  rw [tens_data] at h2
  exact Lib.tabIs_of_head g_tens t_tens Tryz.underlying151 Tryz.underlying38 c_u64 c_tens h2
end Go.Proofs.YtkdnfikaodkhnaaGreatDoor.Seg
