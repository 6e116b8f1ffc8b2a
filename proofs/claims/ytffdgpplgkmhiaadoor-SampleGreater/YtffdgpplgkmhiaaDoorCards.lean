/-
  DERIVED. GIVEN WITH THE SEED: THE CARDS: each row of YtffdgpplgkmhiaaDoorRows.lean that lists a variable, with what it lists TIED to the program's text (the seventh form; the later family's looks); each row that meets fmt, with fmt's text TOLD by the authors' own Lean function (tested against real Go, not proved from fmt's source: count such statements apart). THE CARD IS WHAT COUNTS. Prove the row's statement (the work); the ties are given (YtffdgpplgkmhiaaDoorTie.lean); close each card by the builder's one call (the guide's Derived/Test/ToyasCard.lean, 'card_holds'). Laid BY PROGRAM, IN A SANDBOX (cutbox-door.mjs). By AI agents, Wed Nov 11 2026. No macro, syntax, notation, axiom, sorry.
-/
import Derived.Test.YtffdgpplgkmhiaaDoorRows
import GoSem.ClaimSeven
namespace Go.Proofs.YtffdgpplgkmhiaaDoor
namespace Rows

/-- THE TIED CARD OF 'spoorlaw21.SampleWeighs'. -/
def sampleWeighsCard : Claim7 := { stood := { row := sampleWeighsRow, standIns := [], harness := (true, "b416d9b51a621b7006d3f92cc0a1ef51c6631fca94b4c808782d33173dbc2b49"), looks := false }, kinds := [], alts := [], laidByText := true, laidKinds := [.data, .pinned], laidTests := true, laidLooks := .later }
def SampleWeighsCardSaid : Prop := Claim7.holds Tryd.pinned (.plain (OpenSpec.ofChange sampleWeighsSpec)) sampleWeighsCard

/-- THE TIED CARD OF 'spoorlaw21.SampleGreater'. -/
def sampleGreaterCard : Claim7 := { stood := { row := sampleGreaterRow, standIns := [], harness := (true, "b416d9b51a621b7006d3f92cc0a1ef51c6631fca94b4c808782d33173dbc2b49"), looks := false }, kinds := [], alts := [], laidByText := true, laidKinds := [.data, .pinned], laidTests := true, laidLooks := .later }
def SampleGreaterCardSaid : Prop := Claim7.holds Tryd.pinned (.plain (OpenSpec.ofChange sampleGreaterSpec)) sampleGreaterCard

/-- THE SECOND FORM's CARD OF 'spoorlaw21.SampleWeighs'. -/
def sampleWeighsUptoCard : Claim7 := { stood := { row := sampleWeighsUptoRow, standIns := [], harness := (true, "b416d9b51a621b7006d3f92cc0a1ef51c6631fca94b4c808782d33173dbc2b49"), looks := false }, kinds := [], alts := [], laidByText := true, laidKinds := [.data, .pinned], laidTests := true, laidLooks := .later }
def SampleWeighsUptoCardSaid : Prop := Claim7.holds Tryd.pinned (.plain (OpenSpec.upto sampleWeighsSpec)) sampleWeighsUptoCard

/-- THE SECOND FORM's CARD OF 'spoorlaw21.SampleGreater'. -/
def sampleGreaterUptoCard : Claim7 := { stood := { row := sampleGreaterUptoRow, standIns := [], harness := (true, "b416d9b51a621b7006d3f92cc0a1ef51c6631fca94b4c808782d33173dbc2b49"), looks := false }, kinds := [], alts := [], laidByText := true, laidKinds := [.data, .pinned], laidTests := true, laidLooks := .later }
def SampleGreaterUptoCardSaid : Prop := Claim7.holds Tryd.pinned (.plain (OpenSpec.upto sampleGreaterSpec)) sampleGreaterUptoCard
end Rows
end Go.Proofs.YtffdgpplgkmhiaaDoor
