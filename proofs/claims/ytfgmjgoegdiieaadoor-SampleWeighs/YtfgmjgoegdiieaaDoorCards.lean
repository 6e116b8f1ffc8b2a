/-
  DERIVED. GIVEN WITH THE SEED: THE CARDS: each row of YtfgmjgoegdiieaaDoorRows.lean that lists a variable, with what it lists TIED to the program's text (the seventh form; the later family's looks); each row that meets fmt, with fmt's text TOLD by the authors' own Lean function (tested against real Go, not proved from fmt's source: count such statements apart). THE CARD IS WHAT COUNTS. Prove the row's statement (the work); the ties are given (YtfgmjgoegdiieaaDoorTie.lean); close each card by the builder's one call (the guide's Derived/Test/ToyasCard.lean, 'card_holds'). Laid BY PROGRAM, IN A SANDBOX (cutbox-door.mjs). By AI agents, Wed Nov 11 2026. No macro, syntax, notation, axiom, sorry.
-/
import Derived.Test.YtfgmjgoegdiieaaDoorRows
import GoSem.ClaimSeven
namespace Go.Proofs.YtfgmjgoegdiieaaDoor
namespace Rows

/-- THE TIED CARD OF 'spoorlaw21.SampleWeighs'. -/
def sampleWeighsCard : Claim7 := { stood := { row := sampleWeighsRow, standIns := [], harness := (true, "15c462c508ceb69c5545b85673e4d5fc4a99ce8120a03ef194fd53bd1e9101d4"), looks := false }, kinds := [], alts := [], laidByText := true, laidKinds := [.data, .pinned], laidTests := true, laidLooks := .later }
def SampleWeighsCardSaid : Prop := Claim7.holds Tryd.pinned (.plain (OpenSpec.ofChange sampleWeighsSpec)) sampleWeighsCard

/-- THE SECOND FORM's CARD OF 'spoorlaw21.SampleWeighs'. -/
def sampleWeighsUptoCard : Claim7 := { stood := { row := sampleWeighsUptoRow, standIns := [], harness := (true, "15c462c508ceb69c5545b85673e4d5fc4a99ce8120a03ef194fd53bd1e9101d4"), looks := false }, kinds := [], alts := [], laidByText := true, laidKinds := [.data, .pinned], laidTests := true, laidLooks := .later }
def SampleWeighsUptoCardSaid : Prop := Claim7.holds Tryd.pinned (.plain (OpenSpec.upto sampleWeighsSpec)) sampleWeighsUptoCard
end Rows
end Go.Proofs.YtfgmjgoegdiieaaDoor
