/-
  DERIVED. GIVEN WITH THE SEED: THE CARDS: each row of YtbljdcdcnnidkaaGreatDoorRows.lean that lists a variable, with what it lists TIED to the program's text (the seventh form; the later family's looks); each row that meets fmt, with fmt's text TOLD by the authors' own Lean function (tested against real Go, not proved from fmt's source: count such statements apart). THE CARD IS WHAT COUNTS. Prove the row's statement (the work); the ties are given (YtbljdcdcnnidkaaGreatDoorTie.lean); close each card by the builder's one call (the guide's Derived/Test/ToyasCard.lean, 'card_holds'). Laid BY PROGRAM, IN A SANDBOX (cutbox-door.mjs). By AI agents, Wed Nov 11 2026. No macro, syntax, notation, axiom, sorry.
-/
import Derived.Test.YtbljdcdcnnidkaaGreatDoorRows
import GoSem.ClaimSeven
namespace Go.Proofs.YtbljdcdcnnidkaaGreatDoor
namespace Rows

/-- THE TIED CARD OF 'stillroomlaw9.SlotsCrash'. -/
def slotsCrashCard : Claim7 := { stood := { row := slotsCrashRow, standIns := [], harness := (true, "73356535a34e21cfa9b39fbe38fa39bd4178bbb5ec745e472977564e370149f8"), looks := false }, kinds := [], alts := [], laidByText := true, laidKinds := [.data], laidTests := true, laidLooks := .later }
def SlotsCrashCardSaid : Prop := Claim7.holds Tryz.pinned (.plain (OpenSpec.ofChange slotsCrashSpec)) slotsCrashCard

/-- THE TIED CARD OF 'stillroomlaw9.SlotsMake'. -/
def slotsMakeCard : Claim7 := { stood := { row := slotsMakeRow, standIns := [], harness := (true, "73356535a34e21cfa9b39fbe38fa39bd4178bbb5ec745e472977564e370149f8"), looks := false }, kinds := [], alts := [], laidByText := true, laidKinds := [.data], laidTests := true, laidLooks := .later }
def SlotsMakeCardSaid : Prop := Claim7.holds Tryz.pinned (.plain (OpenSpec.ofChange slotsMakeSpec)) slotsMakeCard

/-- THE SECOND FORM's CARD OF 'stillroomlaw9.SlotsCrash'. -/
def slotsCrashUptoCard : Claim7 := { stood := { row := slotsCrashUptoRow, standIns := [], harness := (true, "73356535a34e21cfa9b39fbe38fa39bd4178bbb5ec745e472977564e370149f8"), looks := false }, kinds := [], alts := [], laidByText := true, laidKinds := [.data], laidTests := true, laidLooks := .later }
def SlotsCrashUptoCardSaid : Prop := Claim7.holds Tryz.pinned (.plain (OpenSpec.upto slotsCrashSpec)) slotsCrashUptoCard

/-- THE SECOND FORM's CARD OF 'stillroomlaw9.SlotsMake'. -/
def slotsMakeUptoCard : Claim7 := { stood := { row := slotsMakeUptoRow, standIns := [], harness := (true, "73356535a34e21cfa9b39fbe38fa39bd4178bbb5ec745e472977564e370149f8"), looks := false }, kinds := [], alts := [], laidByText := true, laidKinds := [.data], laidTests := true, laidLooks := .later }
def SlotsMakeUptoCardSaid : Prop := Claim7.holds Tryz.pinned (.plain (OpenSpec.upto slotsMakeSpec)) slotsMakeUptoCard
end Rows
end Go.Proofs.YtbljdcdcnnidkaaGreatDoor
