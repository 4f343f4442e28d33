/-
  DERIVED. GIVEN WITH THE SEED: THE CARDS: each row of YtcmlchicpmnhdaaGreatDoorRows.lean that lists a variable, with what it lists TIED to the program's text (the seventh form; the later family's looks); each row that meets fmt, with fmt's text TOLD by the authors' own Lean function (tested against real Go, not proved from fmt's source: count such statements apart). THE CARD IS WHAT COUNTS. Prove the row's statement (the work); the ties are given (YtcmlchicpmnhdaaGreatDoorTie.lean); close each card by the builder's one call (the guide's Derived/Test/ToyasCard.lean, 'card_holds'). Laid BY PROGRAM, IN A SANDBOX (cutbox-door.mjs). By AI agents, Wed Nov 11 2026. No macro, syntax, notation, axiom, sorry.
-/
import Derived.Test.YtcmlchicpmnhdaaGreatDoorRows
import GoSem.ClaimSeven
namespace Go.Proofs.YtcmlchicpmnhdaaGreatDoor
namespace Rows

/-- THE TIED CARD OF 'stillroomlaw10.ManifestAll'. -/
def manifestAllCard : Claim7 := { stood := { row := manifestAllRow, standIns := [], harness := (true, "d9b771a9155e43ec7e49fd0e9194c85bb983ba70fa4dec9819294e20ca7aaa2c"), looks := false }, kinds := [], alts := [], laidByText := true, laidKinds := [.data], laidTests := true, laidLooks := .later }
def ManifestAllCardSaid : Prop := Claim7.holds Tryz.pinned (.plain (OpenSpec.ofChange manifestAllSpec)) manifestAllCard

/-- THE TIED CARD OF 'stillroomlaw10.ManifestCrash'. -/
def manifestCrashCard : Claim7 := { stood := { row := manifestCrashRow, standIns := [], harness := (true, "d9b771a9155e43ec7e49fd0e9194c85bb983ba70fa4dec9819294e20ca7aaa2c"), looks := false }, kinds := [], alts := [], laidByText := true, laidKinds := [.data], laidTests := true, laidLooks := .later }
def ManifestCrashCardSaid : Prop := Claim7.holds Tryz.pinned (.plain (OpenSpec.ofChange manifestCrashSpec)) manifestCrashCard

/-- THE SECOND FORM's CARD OF 'stillroomlaw10.ManifestAll'. -/
def manifestAllUptoCard : Claim7 := { stood := { row := manifestAllUptoRow, standIns := [], harness := (true, "d9b771a9155e43ec7e49fd0e9194c85bb983ba70fa4dec9819294e20ca7aaa2c"), looks := false }, kinds := [], alts := [], laidByText := true, laidKinds := [.data], laidTests := true, laidLooks := .later }
def ManifestAllUptoCardSaid : Prop := Claim7.holds Tryz.pinned (.plain (OpenSpec.upto manifestAllSpec)) manifestAllUptoCard

/-- THE SECOND FORM's CARD OF 'stillroomlaw10.ManifestCrash'. -/
def manifestCrashUptoCard : Claim7 := { stood := { row := manifestCrashUptoRow, standIns := [], harness := (true, "d9b771a9155e43ec7e49fd0e9194c85bb983ba70fa4dec9819294e20ca7aaa2c"), looks := false }, kinds := [], alts := [], laidByText := true, laidKinds := [.data], laidTests := true, laidLooks := .later }
def ManifestCrashUptoCardSaid : Prop := Claim7.holds Tryz.pinned (.plain (OpenSpec.upto manifestCrashSpec)) manifestCrashUptoCard
end Rows
end Go.Proofs.YtcmlchicpmnhdaaGreatDoor
