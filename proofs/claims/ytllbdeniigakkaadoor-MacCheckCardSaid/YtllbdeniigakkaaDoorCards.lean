/-
  DERIVED. GIVEN WITH THE SEED: THE CARDS: each row of YtllbdeniigakkaaDoorRows.lean that lists a variable, with what it lists TIED to the program's text (the seventh form; the later family's looks); each row that meets fmt, with fmt's text TOLD by the authors' own Lean function (tested against real Go, not proved from fmt's source: count such statements apart). THE CARD IS WHAT COUNTS. Prove the row's statement (the work); the ties are given (YtllbdeniigakkaaDoorTie.lean); close each card by the builder's one call (the guide's Derived/Test/ToyasCard.lean, 'card_holds'). Laid BY PROGRAM, IN A SANDBOX (cutbox-door.mjs). By AI agents, Wed Nov 11 2026. No macro, syntax, notation, axiom, sorry.
-/
import Derived.Test.YtllbdeniigakkaaDoorRows
import GoSem.ClaimSeven
namespace Go.Proofs.YtllbdeniigakkaaDoor
namespace Rows

/-- THE TIED CARD OF 'stillroomlaw3.MacAll'. -/
def macAllCard : Claim7 := { stood := { row := macAllRow, standIns := [], harness := (true, "c7f77870023bba2f26f922dacd32cbc645a8bc64bcf46ec20acfb7dc0789ef67"), looks := false }, kinds := [], alts := [], laidByText := true, laidKinds := [.data, .data], laidTests := true, laidLooks := .later }
def MacAllCardSaid : Prop := Claim7.holds Tryd.pinned (.plain (OpenSpec.ofChange macAllSpec)) macAllCard

/-- THE TIED CARD OF 'stillroomlaw3.MacCheck'. -/
def macCheckCard : Claim7 := { stood := { row := macCheckRow, standIns := [], harness := (true, "c7f77870023bba2f26f922dacd32cbc645a8bc64bcf46ec20acfb7dc0789ef67"), looks := false }, kinds := [], alts := [], laidByText := true, laidKinds := [.data, .data], laidTests := true, laidLooks := .later }
def MacCheckCardSaid : Prop := Claim7.holds Tryd.pinned (.plain (OpenSpec.ofChange macCheckSpec)) macCheckCard

/-- THE TIED CARD OF 'stillroomlaw3.MacKeys'. -/
def macKeysCard : Claim7 := { stood := { row := macKeysRow, standIns := [], harness := (true, "c7f77870023bba2f26f922dacd32cbc645a8bc64bcf46ec20acfb7dc0789ef67"), looks := false }, kinds := [], alts := [], laidByText := true, laidKinds := [.data, .data], laidTests := true, laidLooks := .later }
def MacKeysCardSaid : Prop := Claim7.holds Tryd.pinned (.plain (OpenSpec.ofChange macKeysSpec)) macKeysCard

/-- THE SECOND FORM's CARD OF 'stillroomlaw3.MacAll'. -/
def macAllUptoCard : Claim7 := { stood := { row := macAllUptoRow, standIns := [], harness := (true, "c7f77870023bba2f26f922dacd32cbc645a8bc64bcf46ec20acfb7dc0789ef67"), looks := false }, kinds := [], alts := [], laidByText := true, laidKinds := [.data, .data], laidTests := true, laidLooks := .later }
def MacAllUptoCardSaid : Prop := Claim7.holds Tryd.pinned (.plain (OpenSpec.upto macAllSpec)) macAllUptoCard

/-- THE SECOND FORM's CARD OF 'stillroomlaw3.MacCheck'. -/
def macCheckUptoCard : Claim7 := { stood := { row := macCheckUptoRow, standIns := [], harness := (true, "c7f77870023bba2f26f922dacd32cbc645a8bc64bcf46ec20acfb7dc0789ef67"), looks := false }, kinds := [], alts := [], laidByText := true, laidKinds := [.data, .data], laidTests := true, laidLooks := .later }
def MacCheckUptoCardSaid : Prop := Claim7.holds Tryd.pinned (.plain (OpenSpec.upto macCheckSpec)) macCheckUptoCard

/-- THE SECOND FORM's CARD OF 'stillroomlaw3.MacKeys'. -/
def macKeysUptoCard : Claim7 := { stood := { row := macKeysUptoRow, standIns := [], harness := (true, "c7f77870023bba2f26f922dacd32cbc645a8bc64bcf46ec20acfb7dc0789ef67"), looks := false }, kinds := [], alts := [], laidByText := true, laidKinds := [.data, .data], laidTests := true, laidLooks := .later }
def MacKeysUptoCardSaid : Prop := Claim7.holds Tryd.pinned (.plain (OpenSpec.upto macKeysSpec)) macKeysUptoCard
end Rows
end Go.Proofs.YtllbdeniigakkaaDoor
