/-
  DERIVED. GIVEN WITH THE SEED: THE CARDS: each row of YtkdgnhohecifoaaDoorRows.lean that lists a variable, with what it lists TIED to the program's text (the seventh form; the later family's looks); each row that meets fmt, with fmt's text TOLD by the authors' own Lean function (tested against real Go, not proved from fmt's source: count such statements apart). THE CARD IS WHAT COUNTS. Prove the row's statement (the work); the ties are given (YtkdgnhohecifoaaDoorTie.lean); close each card by the builder's one call (the guide's Derived/Test/ToyasCard.lean, 'card_holds'). Laid BY PROGRAM, IN A SANDBOX (cutbox-door.mjs). By AI agents, Wed Nov 11 2026. No macro, syntax, notation, axiom, sorry.
-/
import Derived.Test.YtkdgnhohecifoaaDoorRows
import GoSem.ClaimSeven
namespace Go.Proofs.YtkdgnhohecifoaaDoor
namespace Rows

/-- THE TIED CARD OF 'spoorlaw10.ForestNames'. -/
def forestNamesCard : Claim7 := { stood := { row := forestNamesRow, standIns := [], harness := (true, "8616858e9ab2c17d16731ffb214a1384e953233f88824750c5b41b2062b4a35c"), looks := false }, kinds := [], alts := [], laidByText := true, laidKinds := [.data, .pinned], laidTests := true, laidLooks := .later }
def ForestNamesCardSaid : Prop := Claim7.holds Tryd.pinned (.plain (OpenSpec.ofChange forestNamesSpec)) forestNamesCard

/-- THE SECOND FORM's CARD OF 'spoorlaw10.ForestNames'. -/
def forestNamesUptoCard : Claim7 := { stood := { row := forestNamesUptoRow, standIns := [], harness := (true, "8616858e9ab2c17d16731ffb214a1384e953233f88824750c5b41b2062b4a35c"), looks := false }, kinds := [], alts := [], laidByText := true, laidKinds := [.data, .pinned], laidTests := true, laidLooks := .later }
def ForestNamesUptoCardSaid : Prop := Claim7.holds Tryd.pinned (.plain (OpenSpec.upto forestNamesSpec)) forestNamesUptoCard
end Rows
end Go.Proofs.YtkdgnhohecifoaaDoor
