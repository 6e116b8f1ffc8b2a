/-
  DERIVED. GIVEN WITH THE SEED: THE CARDS: each row of YtdodempnkkkbmaaDoorRows.lean that lists a variable, with what it lists TIED to the program's text (the seventh form; the later family's looks); each row that meets fmt, with fmt's text TOLD by the authors' own Lean function (tested against real Go, not proved from fmt's source: count such statements apart). THE CARD IS WHAT COUNTS. Prove the row's statement (the work); the ties are given (YtdodempnkkkbmaaDoorTie.lean); close each card by the builder's one call (the guide's Derived/Test/ToyasCard.lean, 'card_holds'). Laid BY PROGRAM, IN A SANDBOX (cutbox-door.mjs). By AI agents, Wed Nov 11 2026. No macro, syntax, notation, axiom, sorry.
-/
import Derived.Test.YtdodempnkkkbmaaDoorRows
import GoSem.ClaimSeven
namespace Go.Proofs.YtdodempnkkkbmaaDoor
namespace Rows

/-- THE TIED CARD OF 'spoorlaw21.SampleFew'. -/
def sampleFewCard : Claim7 := { stood := { row := sampleFewRow, standIns := [], harness := (true, "ff2d69d7838af08997267ba6821a2a8a08052427c7e85f7b4ddc5cadbfafe78b"), looks := false }, kinds := [], alts := [], laidByText := true, laidKinds := [.data, .pinned], laidTests := true, laidLooks := .later }
def SampleFewCardSaid : Prop := Claim7.holds Tryd.pinned (.plain (OpenSpec.ofChange sampleFewSpec)) sampleFewCard

/-- THE SECOND FORM's CARD OF 'spoorlaw21.SampleFew'. -/
def sampleFewUptoCard : Claim7 := { stood := { row := sampleFewUptoRow, standIns := [], harness := (true, "ff2d69d7838af08997267ba6821a2a8a08052427c7e85f7b4ddc5cadbfafe78b"), looks := false }, kinds := [], alts := [], laidByText := true, laidKinds := [.data, .pinned], laidTests := true, laidLooks := .later }
def SampleFewUptoCardSaid : Prop := Claim7.holds Tryd.pinned (.plain (OpenSpec.upto sampleFewSpec)) sampleFewUptoCard
end Rows
end Go.Proofs.YtdodempnkkkbmaaDoor
