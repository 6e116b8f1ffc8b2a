/-
  DERIVED. GIVEN WITH THE SEED: THE CARDS: each row of YtipkolmkpfpjjaaGreatDoorRows.lean that lists a variable, with what it lists TIED to the program's text (the seventh form; the later family's looks); each row that meets fmt, with fmt's text TOLD by the authors' own Lean function (tested against real Go, not proved from fmt's source: count such statements apart). THE CARD IS WHAT COUNTS. Prove the row's statement (the work); the ties are given (YtipkolmkpfpjjaaGreatDoorTie.lean); close each card by the builder's one call (the guide's Derived/Test/ToyasCard.lean, 'card_holds'). Laid BY PROGRAM, IN A SANDBOX (cutbox-door.mjs). By AI agents, Wed Nov 11 2026. No macro, syntax, notation, axiom, sorry.
-/
import Derived.Test.YtipkolmkpfpjjaaGreatDoorRows
import GoSem.ClaimSeven
namespace Go.Proofs.YtipkolmkpfpjjaaGreatDoor
namespace Rows

/-- THE TIED CARD OF 'spoorlaw10.ForestAlone'. -/
def forestAloneCard : Claim7 := { stood := { row := forestAloneRow, standIns := [], harness := (true, "3a08ffc9b8b77901450a34440c3848baff37076f43df19a7721b43c31c69c803"), looks := false }, kinds := [], alts := [], laidByText := true, laidKinds := [.data, .pinned], laidTests := true, laidLooks := .later }
def ForestAloneCardSaid : Prop := Claim7.holds Tryz.pinned (.plain (OpenSpec.ofChange forestAloneSpec)) forestAloneCard

/-- THE SECOND FORM's CARD OF 'spoorlaw10.ForestAlone'. -/
def forestAloneUptoCard : Claim7 := { stood := { row := forestAloneUptoRow, standIns := [], harness := (true, "3a08ffc9b8b77901450a34440c3848baff37076f43df19a7721b43c31c69c803"), looks := false }, kinds := [], alts := [], laidByText := true, laidKinds := [.data, .pinned], laidTests := true, laidLooks := .later }
def ForestAloneUptoCardSaid : Prop := Claim7.holds Tryz.pinned (.plain (OpenSpec.upto forestAloneSpec)) forestAloneUptoCard
end Rows
end Go.Proofs.YtipkolmkpfpjjaaGreatDoor
