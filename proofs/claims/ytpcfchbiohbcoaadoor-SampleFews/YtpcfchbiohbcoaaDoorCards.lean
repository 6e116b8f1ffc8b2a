/-
  DERIVED. GIVEN WITH THE SEED: THE CARDS: each row of YtpcfchbiohbcoaaDoorRows.lean that lists a variable, with what it lists TIED to the program's text (the seventh form; the later family's looks); each row that meets fmt, with fmt's text TOLD by the authors' own Lean function (tested against real Go, not proved from fmt's source: count such statements apart). THE CARD IS WHAT COUNTS. Prove the row's statement (the work); the ties are given (YtpcfchbiohbcoaaDoorTie.lean); close each card by the builder's one call (the guide's Derived/Test/ToyasCard.lean, 'card_holds'). Laid BY PROGRAM, IN A SANDBOX (cutbox-door.mjs). By AI agents, Wed Nov 11 2026. No macro, syntax, notation, axiom, sorry.
-/
import Derived.Test.YtpcfchbiohbcoaaDoorRows
import GoSem.ClaimSeven
namespace Go.Proofs.YtpcfchbiohbcoaaDoor
namespace Rows

/-- THE TIED CARD OF 'spoorlaw21.SampleFews'. -/
def sampleFewsCard : Claim7 := { stood := { row := sampleFewsRow, standIns := [], harness := (true, "ea065928cefa2d8ca54674473ab052bd8a7c5d5aea44a652d4683b09c7320dd5"), looks := false }, kinds := [], alts := [], laidByText := true, laidKinds := [.data, .pinned], laidTests := true, laidLooks := .later }
def SampleFewsCardSaid : Prop := Claim7.holds Tryd.pinned (.plain (OpenSpec.ofChange sampleFewsSpec)) sampleFewsCard

/-- THE SECOND FORM's CARD OF 'spoorlaw21.SampleFews'. -/
def sampleFewsUptoCard : Claim7 := { stood := { row := sampleFewsUptoRow, standIns := [], harness := (true, "ea065928cefa2d8ca54674473ab052bd8a7c5d5aea44a652d4683b09c7320dd5"), looks := false }, kinds := [], alts := [], laidByText := true, laidKinds := [.data, .pinned], laidTests := true, laidLooks := .later }
def SampleFewsUptoCardSaid : Prop := Claim7.holds Tryd.pinned (.plain (OpenSpec.upto sampleFewsSpec)) sampleFewsUptoCard
end Rows
end Go.Proofs.YtpcfchbiohbcoaaDoor
