/-
  DERIVED. GIVEN WITH THE SEED: THE CARDS: each row of YtkdnfikaodkhnaaGreatDoorRows.lean that lists a variable, with what it lists TIED to the program's text (the seventh form; the later family's looks); each row that meets fmt, with fmt's text TOLD by the authors' own Lean function (tested against real Go, not proved from fmt's source: count such statements apart). THE CARD IS WHAT COUNTS. Prove the row's statement (the work); the ties are given (YtkdnfikaodkhnaaGreatDoorTie.lean); close each card by the builder's one call (the guide's Derived/Test/ToyasCard.lean, 'card_holds'). Laid BY PROGRAM, IN A SANDBOX (cutbox-door.mjs). By AI agents, Wed Nov 11 2026. No macro, syntax, notation, axiom, sorry.
-/
import Derived.Test.YtkdnfikaodkhnaaGreatDoorRows
import GoSem.ClaimSeven
namespace Go.Proofs.YtkdnfikaodkhnaaGreatDoor
namespace Rows

/-- THE TIED CARD OF 'stillroomlaw8.SegmentAll'. -/
def segmentAllCard : Claim7 := { stood := { row := segmentAllRow, standIns := [], harness := (true, "f67a7ccf89239bee12b138a5f0004ae18874f1f5c5a48fe7a72e265f6b7df691"), looks := false }, kinds := [], alts := [], laidByText := true, laidKinds := [.data, .data, .data, .data], laidTests := true, laidLooks := .later }
def SegmentAllCardSaid : Prop := Claim7.holds Tryz.pinned (.plain (OpenSpec.ofChange segmentAllSpec)) segmentAllCard

/-- THE TIED CARD OF 'stillroomlaw8.SegmentMany'. -/
def segmentManyCard : Claim7 := { stood := { row := segmentManyRow, standIns := [], harness := (true, "f67a7ccf89239bee12b138a5f0004ae18874f1f5c5a48fe7a72e265f6b7df691"), looks := false }, kinds := [], alts := [], laidByText := true, laidKinds := [.data, .data, .data, .data], laidTests := true, laidLooks := .later }
def SegmentManyCardSaid : Prop := Claim7.holds Tryz.pinned (.plain (OpenSpec.ofChange segmentManySpec)) segmentManyCard

/-- THE SECOND FORM's CARD OF 'stillroomlaw8.SegmentAll'. -/
def segmentAllUptoCard : Claim7 := { stood := { row := segmentAllUptoRow, standIns := [], harness := (true, "f67a7ccf89239bee12b138a5f0004ae18874f1f5c5a48fe7a72e265f6b7df691"), looks := false }, kinds := [], alts := [], laidByText := true, laidKinds := [.data, .data, .data, .data], laidTests := true, laidLooks := .later }
def SegmentAllUptoCardSaid : Prop := Claim7.holds Tryz.pinned (.plain (OpenSpec.upto segmentAllSpec)) segmentAllUptoCard

/-- THE SECOND FORM's CARD OF 'stillroomlaw8.SegmentMany'. -/
def segmentManyUptoCard : Claim7 := { stood := { row := segmentManyUptoRow, standIns := [], harness := (true, "f67a7ccf89239bee12b138a5f0004ae18874f1f5c5a48fe7a72e265f6b7df691"), looks := false }, kinds := [], alts := [], laidByText := true, laidKinds := [.data, .data, .data, .data], laidTests := true, laidLooks := .later }
def SegmentManyUptoCardSaid : Prop := Claim7.holds Tryz.pinned (.plain (OpenSpec.upto segmentManySpec)) segmentManyUptoCard
end Rows
end Go.Proofs.YtkdnfikaodkhnaaGreatDoor
