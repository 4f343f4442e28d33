/-
  Texts one behind the other: SegLawMany.
-/
import Derived.Test.YtkdnfikaodkhnaaGreatDoorG37
import Derived.Test.YtkdnfikaodkhnaaGreatDoorG44
/-
  Proved: what SegmentMany returns over the landed package.
-/
namespace Go.Proofs.YtkdnfikaodkhnaaGreatDoor.Seg
open Go.RowKit Go.Proofs.YtkdnfikaodkhnaaGreatDoor.Disk Go.Proofs.YtkdnfikaodkhnaaGreatDoor.Rec
set_option linter.unusedVariables false

theorem segmentMany_go (n0 p0 : Int) (w : World) (hT : Tabs w) (h1 : -9223372036854775808 ≤ n0 ∧ n0 ≤ 9223372036854775807) (h2 : -9223372036854775808 ≤ p0 ∧ p0 ≤ 9223372036854775807) :
    Calls Tryz.prog 4 #[.int .i64 n0, .int .i64 p0] w fun e w' => e = .returned (.bool true) ∧ Below w.heap.size w w' :=
  segmentMany_walk landed_face landed_crashes n0 p0 w hT
end Go.Proofs.YtkdnfikaodkhnaaGreatDoor.Seg
