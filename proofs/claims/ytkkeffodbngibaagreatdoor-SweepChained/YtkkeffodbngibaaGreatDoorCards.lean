/-
  DERIVED. GIVEN WITH THE SEED: THE CARDS: each row of YtkkeffodbngibaaGreatDoorRows.lean that lists a variable, with what it lists TIED to the program's text (the seventh form; the later family's looks); each row that meets fmt, with fmt's text TOLD by the authors' own Lean function (tested against real Go, not proved from fmt's source: count such statements apart). THE CARD IS WHAT COUNTS. Prove the row's statement (the work); the ties are given (YtkkeffodbngibaaGreatDoorTie.lean); close each card by the builder's one call (the guide's Derived/Test/ToyasCard.lean, 'card_holds'). Laid BY PROGRAM, IN A SANDBOX (cutbox-door.mjs). By AI agents, Wed Nov 11 2026. No macro, syntax, notation, axiom, sorry.
-/
import Derived.Test.YtkkeffodbngibaaGreatDoorRows
import GoSem.ClaimSeven
namespace Go.Proofs.YtkkeffodbngibaaGreatDoor
namespace Rows

/-- THE TIED CARD OF 'spoorlaw12.SweepChained'. -/
def sweepChainedCard : Claim7 := { stood := { row := sweepChainedRow, standIns := [], harness := (true, "5bba06f8aae675f842f72f34b894839ffa6fcf580504346752ff75eb023014d0"), looks := false }, kinds := [], alts := [], laidByText := true, laidKinds := [.data, .pinned], laidTests := true, laidLooks := .later }
def SweepChainedCardSaid : Prop := Claim7.holds Tryz.pinned (.plain (OpenSpec.ofChange sweepChainedSpec)) sweepChainedCard

/-- THE SECOND FORM's CARD OF 'spoorlaw12.SweepChained'. -/
def sweepChainedUptoCard : Claim7 := { stood := { row := sweepChainedUptoRow, standIns := [], harness := (true, "5bba06f8aae675f842f72f34b894839ffa6fcf580504346752ff75eb023014d0"), looks := false }, kinds := [], alts := [], laidByText := true, laidKinds := [.data, .pinned], laidTests := true, laidLooks := .later }
def SweepChainedUptoCardSaid : Prop := Claim7.holds Tryz.pinned (.plain (OpenSpec.upto sweepChainedSpec)) sweepChainedUptoCard
end Rows
end Go.Proofs.YtkkeffodbngibaaGreatDoor
