/-
  DERIVED. GIVEN WITH THE SEED: THE CARDS: each row of YtplbaiibocgpnaaGreatDoorRows.lean that lists a variable, with what it lists TIED to the program's text (the seventh form; the later family's looks); each row that meets fmt, with fmt's text TOLD by the authors' own Lean function (tested against real Go, not proved from fmt's source: count such statements apart). THE CARD IS WHAT COUNTS. Prove the row's statement (the work); the ties are given (YtplbaiibocgpnaaGreatDoorTie.lean); close each card by the builder's one call (the guide's Derived/Test/ToyasCard.lean, 'card_holds'). Laid BY PROGRAM, IN A SANDBOX (cutbox-door.mjs). By AI agents, Wed Nov 11 2026. No macro, syntax, notation, axiom, sorry.
-/
import Derived.Test.YtplbaiibocgpnaaGreatDoorRows
import GoSem.ClaimSeven
namespace Go.Proofs.YtplbaiibocgpnaaGreatDoor
namespace Rows

/-- THE TIED CARD OF 'spoorlaw12.SweepNames'. -/
def sweepNamesCard : Claim7 := { stood := { row := sweepNamesRow, standIns := [], harness := (true, "d56b45cf389f05636b4dc2bd8be10dc1fe48b33fcf69260cf430be09464b7ebe"), looks := false }, kinds := [], alts := [], laidByText := true, laidKinds := [.data, .pinned], laidTests := true, laidLooks := .later }
def SweepNamesCardSaid : Prop := Claim7.holds Tryz.pinned (.plain (OpenSpec.ofChange sweepNamesSpec)) sweepNamesCard

/-- THE TIED CARD OF 'spoorlaw12.SweepTiles'. -/
def sweepTilesCard : Claim7 := { stood := { row := sweepTilesRow, standIns := [], harness := (true, "d56b45cf389f05636b4dc2bd8be10dc1fe48b33fcf69260cf430be09464b7ebe"), looks := false }, kinds := [], alts := [], laidByText := true, laidKinds := [.data, .pinned], laidTests := true, laidLooks := .later }
def SweepTilesCardSaid : Prop := Claim7.holds Tryz.pinned (.plain (OpenSpec.ofChange sweepTilesSpec)) sweepTilesCard

/-- THE SECOND FORM's CARD OF 'spoorlaw12.SweepNames'. -/
def sweepNamesUptoCard : Claim7 := { stood := { row := sweepNamesUptoRow, standIns := [], harness := (true, "d56b45cf389f05636b4dc2bd8be10dc1fe48b33fcf69260cf430be09464b7ebe"), looks := false }, kinds := [], alts := [], laidByText := true, laidKinds := [.data, .pinned], laidTests := true, laidLooks := .later }
def SweepNamesUptoCardSaid : Prop := Claim7.holds Tryz.pinned (.plain (OpenSpec.upto sweepNamesSpec)) sweepNamesUptoCard

/-- THE SECOND FORM's CARD OF 'spoorlaw12.SweepTiles'. -/
def sweepTilesUptoCard : Claim7 := { stood := { row := sweepTilesUptoRow, standIns := [], harness := (true, "d56b45cf389f05636b4dc2bd8be10dc1fe48b33fcf69260cf430be09464b7ebe"), looks := false }, kinds := [], alts := [], laidByText := true, laidKinds := [.data, .pinned], laidTests := true, laidLooks := .later }
def SweepTilesUptoCardSaid : Prop := Claim7.holds Tryz.pinned (.plain (OpenSpec.upto sweepTilesSpec)) sweepTilesUptoCard
end Rows
end Go.Proofs.YtplbaiibocgpnaaGreatDoor
