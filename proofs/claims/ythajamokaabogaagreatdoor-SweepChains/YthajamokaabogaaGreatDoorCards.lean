/-
  DERIVED. GIVEN WITH THE SEED: THE CARDS: each row of YthajamokaabogaaGreatDoorRows.lean that lists a variable, with what it lists TIED to the program's text (the seventh form; the later family's looks); each row that meets fmt, with fmt's text TOLD by the authors' own Lean function (tested against real Go, not proved from fmt's source: count such statements apart). THE CARD IS WHAT COUNTS. Prove the row's statement (the work); the ties are given (YthajamokaabogaaGreatDoorTie.lean); close each card by the builder's one call (the guide's Derived/Test/ToyasCard.lean, 'card_holds'). Laid BY PROGRAM, IN A SANDBOX (cutbox-door.mjs). By AI agents, Wed Nov 11 2026. No macro, syntax, notation, axiom, sorry.
-/
import Derived.Test.YthajamokaabogaaGreatDoorRows
import GoSem.ClaimSeven
namespace Go.Proofs.YthajamokaabogaaGreatDoor
namespace Rows

/-- THE TIED CARD OF 'spoorlaw12.SweepPaths'. -/
def sweepPathsCard : Claim7 := { stood := { row := sweepPathsRow, standIns := [], harness := (true, "fd8e301834212c3799e0564b0839174a7f88fa7ae2e06e71ec7333be11b0420b"), looks := false }, kinds := [], alts := [], laidByText := true, laidKinds := [.data, .pinned], laidTests := true, laidLooks := .later }
def SweepPathsCardSaid : Prop := Claim7.holds Tryz.pinned (.plain (OpenSpec.ofChange sweepPathsSpec)) sweepPathsCard

/-- THE TIED CARD OF 'spoorlaw12.SweepChains'. -/
def sweepChainsCard : Claim7 := { stood := { row := sweepChainsRow, standIns := [], harness := (true, "fd8e301834212c3799e0564b0839174a7f88fa7ae2e06e71ec7333be11b0420b"), looks := false }, kinds := [], alts := [], laidByText := true, laidKinds := [.data, .pinned], laidTests := true, laidLooks := .later }
def SweepChainsCardSaid : Prop := Claim7.holds Tryz.pinned (.plain (OpenSpec.ofChange sweepChainsSpec)) sweepChainsCard

/-- THE SECOND FORM's CARD OF 'spoorlaw12.SweepPaths'. -/
def sweepPathsUptoCard : Claim7 := { stood := { row := sweepPathsUptoRow, standIns := [], harness := (true, "fd8e301834212c3799e0564b0839174a7f88fa7ae2e06e71ec7333be11b0420b"), looks := false }, kinds := [], alts := [], laidByText := true, laidKinds := [.data, .pinned], laidTests := true, laidLooks := .later }
def SweepPathsUptoCardSaid : Prop := Claim7.holds Tryz.pinned (.plain (OpenSpec.upto sweepPathsSpec)) sweepPathsUptoCard

/-- THE SECOND FORM's CARD OF 'spoorlaw12.SweepChains'. -/
def sweepChainsUptoCard : Claim7 := { stood := { row := sweepChainsUptoRow, standIns := [], harness := (true, "fd8e301834212c3799e0564b0839174a7f88fa7ae2e06e71ec7333be11b0420b"), looks := false }, kinds := [], alts := [], laidByText := true, laidKinds := [.data, .pinned], laidTests := true, laidLooks := .later }
def SweepChainsUptoCardSaid : Prop := Claim7.holds Tryz.pinned (.plain (OpenSpec.upto sweepChainsSpec)) sweepChainsUptoCard
end Rows
end Go.Proofs.YthajamokaabogaaGreatDoor
