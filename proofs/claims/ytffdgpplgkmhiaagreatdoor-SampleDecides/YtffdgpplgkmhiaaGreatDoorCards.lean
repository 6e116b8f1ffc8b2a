/-
  DERIVED. GIVEN WITH THE SEED: THE CARDS: each row of YtffdgpplgkmhiaaGreatDoorRows.lean that lists a variable, with what it lists TIED to the program's text (the seventh form; the later family's looks); each row that meets fmt, with fmt's text TOLD by the authors' own Lean function (tested against real Go, not proved from fmt's source: count such statements apart). THE CARD IS WHAT COUNTS. Prove the row's statement (the work); the ties are given (YtffdgpplgkmhiaaGreatDoorTie.lean); close each card by the builder's one call (the guide's Derived/Test/ToyasCard.lean, 'card_holds'). Laid BY PROGRAM, IN A SANDBOX (cutbox-door.mjs). By AI agents, Wed Nov 11 2026. No macro, syntax, notation, axiom, sorry.
-/
import Derived.Test.YtffdgpplgkmhiaaGreatDoorRows
import GoSem.ClaimSeven
namespace Go.Proofs.YtffdgpplgkmhiaaGreatDoor
namespace Rows

/-- THE TIED CARD OF 'spoorlaw21.SampleDecides'. -/
def sampleDecidesCard : Claim7 := { stood := { row := sampleDecidesRow, standIns := [], harness := (true, "e018d740a5aa3f0ec9ecf3dae7df8768405cc50d4f67cf51af4c576722280e9a"), looks := false }, kinds := [], alts := [], laidByText := true, laidKinds := [.data, .pinned], laidTests := true, laidLooks := .later }
def SampleDecidesCardSaid : Prop := Claim7.holds Tryz.pinned (.plain (OpenSpec.ofChange sampleDecidesSpec)) sampleDecidesCard

/-- THE SECOND FORM's CARD OF 'spoorlaw21.SampleDecides'. -/
def sampleDecidesUptoCard : Claim7 := { stood := { row := sampleDecidesUptoRow, standIns := [], harness := (true, "e018d740a5aa3f0ec9ecf3dae7df8768405cc50d4f67cf51af4c576722280e9a"), looks := false }, kinds := [], alts := [], laidByText := true, laidKinds := [.data, .pinned], laidTests := true, laidLooks := .later }
def SampleDecidesUptoCardSaid : Prop := Claim7.holds Tryz.pinned (.plain (OpenSpec.upto sampleDecidesSpec)) sampleDecidesUptoCard
end Rows
end Go.Proofs.YtffdgpplgkmhiaaGreatDoor
