/-
  DERIVED. GIVEN WITH THE SEED: THE CARDS: each row of YtdagoabapchniaaDoorRows.lean that lists a variable, with what it lists TIED to the program's text (the seventh form; the later family's looks); each row that meets fmt, with fmt's text TOLD by the authors' own Lean function (tested against real Go, not proved from fmt's source: count such statements apart). THE CARD IS WHAT COUNTS. Prove the row's statement (the work); the ties are given (YtdagoabapchniaaDoorTie.lean); close each card by the builder's one call (the guide's Derived/Test/ToyasCard.lean, 'card_holds'). Laid BY PROGRAM, IN A SANDBOX (cutbox-door.mjs). By AI agents, Wed Nov 11 2026. No macro, syntax, notation, axiom, sorry.
-/
import Derived.Test.YtdagoabapchniaaDoorRows
import GoSem.ClaimSeven
namespace Go.Proofs.YtdagoabapchniaaDoor
namespace Rows

/-- THE TIED CARD OF 'spoorlaw21.SampleNames'. -/
def sampleNamesCard : Claim7 := { stood := { row := sampleNamesRow, standIns := [], harness := (true, "859b3006cb76a2e1ec59615bb8640cb0e89e2ee0917585c08b8a2692f6da3138"), looks := false }, kinds := [], alts := [], laidByText := true, laidKinds := [.data, .pinned], laidTests := true, laidLooks := .later }
def SampleNamesCardSaid : Prop := Claim7.holds Tryd.pinned (.plain (OpenSpec.ofChange sampleNamesSpec)) sampleNamesCard

/-- THE TIED CARD OF 'spoorlaw21.SampleMixes'. -/
def sampleMixesCard : Claim7 := { stood := { row := sampleMixesRow, standIns := [], harness := (true, "859b3006cb76a2e1ec59615bb8640cb0e89e2ee0917585c08b8a2692f6da3138"), looks := false }, kinds := [], alts := [], laidByText := true, laidKinds := [.data, .pinned], laidTests := true, laidLooks := .later }
def SampleMixesCardSaid : Prop := Claim7.holds Tryd.pinned (.plain (OpenSpec.ofChange sampleMixesSpec)) sampleMixesCard

/-- THE TIED CARD OF 'spoorlaw21.SampleOnto'. -/
def sampleOntoCard : Claim7 := { stood := { row := sampleOntoRow, standIns := [], harness := (true, "859b3006cb76a2e1ec59615bb8640cb0e89e2ee0917585c08b8a2692f6da3138"), looks := false }, kinds := [], alts := [], laidByText := true, laidKinds := [.data, .pinned], laidTests := true, laidLooks := .later }
def SampleOntoCardSaid : Prop := Claim7.holds Tryd.pinned (.plain (OpenSpec.ofChange sampleOntoSpec)) sampleOntoCard

/-- THE SECOND FORM's CARD OF 'spoorlaw21.SampleNames'. -/
def sampleNamesUptoCard : Claim7 := { stood := { row := sampleNamesUptoRow, standIns := [], harness := (true, "859b3006cb76a2e1ec59615bb8640cb0e89e2ee0917585c08b8a2692f6da3138"), looks := false }, kinds := [], alts := [], laidByText := true, laidKinds := [.data, .pinned], laidTests := true, laidLooks := .later }
def SampleNamesUptoCardSaid : Prop := Claim7.holds Tryd.pinned (.plain (OpenSpec.upto sampleNamesSpec)) sampleNamesUptoCard

/-- THE SECOND FORM's CARD OF 'spoorlaw21.SampleMixes'. -/
def sampleMixesUptoCard : Claim7 := { stood := { row := sampleMixesUptoRow, standIns := [], harness := (true, "859b3006cb76a2e1ec59615bb8640cb0e89e2ee0917585c08b8a2692f6da3138"), looks := false }, kinds := [], alts := [], laidByText := true, laidKinds := [.data, .pinned], laidTests := true, laidLooks := .later }
def SampleMixesUptoCardSaid : Prop := Claim7.holds Tryd.pinned (.plain (OpenSpec.upto sampleMixesSpec)) sampleMixesUptoCard

/-- THE SECOND FORM's CARD OF 'spoorlaw21.SampleOnto'. -/
def sampleOntoUptoCard : Claim7 := { stood := { row := sampleOntoUptoRow, standIns := [], harness := (true, "859b3006cb76a2e1ec59615bb8640cb0e89e2ee0917585c08b8a2692f6da3138"), looks := false }, kinds := [], alts := [], laidByText := true, laidKinds := [.data, .pinned], laidTests := true, laidLooks := .later }
def SampleOntoUptoCardSaid : Prop := Claim7.holds Tryd.pinned (.plain (OpenSpec.upto sampleOntoSpec)) sampleOntoUptoCard
end Rows
end Go.Proofs.YtdagoabapchniaaDoor
