/-
  DERIVED. GIVEN WITH THE SEED: THE CARDS: each row of YtobjjdggjgnfcaaGreatDoorRows.lean that lists a variable, with what it lists TIED to the program's text (the seventh form; the later family's looks); each row that meets fmt, with fmt's text TOLD by the authors' own Lean function (tested against real Go, not proved from fmt's source: count such statements apart). THE CARD IS WHAT COUNTS. Prove the row's statement (the work); the ties are given (YtobjjdggjgnfcaaGreatDoorTie.lean); close each card by the builder's one call (the guide's Derived/Test/ToyasCard.lean, 'card_holds'). Laid BY PROGRAM, IN A SANDBOX (cutbox-door.mjs). By AI agents, Wed Nov 11 2026. No macro, syntax, notation, axiom, sorry.
-/
import Derived.Test.YtobjjdggjgnfcaaGreatDoorRows
import GoSem.ClaimSeven
namespace Go.Proofs.YtobjjdggjgnfcaaGreatDoor
namespace Rows

/-- THE TIED CARD OF 'spoorlaw12.SweepPaths'. -/
def sweepPathsCard : Claim7 := { stood := { row := sweepPathsRow, standIns := [], harness := (true, "0604430518c0283206578c9ad7c0d7e1b1f8ae3272accba56032949bd01f7367"), looks := false }, kinds := [], alts := [], laidByText := true, laidKinds := [.data, .pinned], laidTests := true, laidLooks := .later }
def SweepPathsCardSaid : Prop := Claim7.holds Tryz.pinned (.plain (OpenSpec.ofChange sweepPathsSpec)) sweepPathsCard

/-- THE TIED CARD OF 'spoorlaw12.SweepShares'. -/
def sweepSharesCard : Claim7 := { stood := { row := sweepSharesRow, standIns := [], harness := (true, "0604430518c0283206578c9ad7c0d7e1b1f8ae3272accba56032949bd01f7367"), looks := false }, kinds := [], alts := [], laidByText := true, laidKinds := [.data, .pinned], laidTests := true, laidLooks := .later }
def SweepSharesCardSaid : Prop := Claim7.holds Tryz.pinned (.plain (OpenSpec.ofChange sweepSharesSpec)) sweepSharesCard

/-- THE TIED CARD OF 'spoorlaw12.SweepMemory'. -/
def sweepMemoryCard : Claim7 := { stood := { row := sweepMemoryRow, standIns := [], harness := (true, "0604430518c0283206578c9ad7c0d7e1b1f8ae3272accba56032949bd01f7367"), looks := false }, kinds := [], alts := [], laidByText := true, laidKinds := [.data, .pinned], laidTests := true, laidLooks := .later }
def SweepMemoryCardSaid : Prop := Claim7.holds Tryz.pinned (.plain (OpenSpec.ofChange sweepMemorySpec)) sweepMemoryCard

/-- THE SECOND FORM's CARD OF 'spoorlaw12.SweepPaths'. -/
def sweepPathsUptoCard : Claim7 := { stood := { row := sweepPathsUptoRow, standIns := [], harness := (true, "0604430518c0283206578c9ad7c0d7e1b1f8ae3272accba56032949bd01f7367"), looks := false }, kinds := [], alts := [], laidByText := true, laidKinds := [.data, .pinned], laidTests := true, laidLooks := .later }
def SweepPathsUptoCardSaid : Prop := Claim7.holds Tryz.pinned (.plain (OpenSpec.upto sweepPathsSpec)) sweepPathsUptoCard

/-- THE SECOND FORM's CARD OF 'spoorlaw12.SweepShares'. -/
def sweepSharesUptoCard : Claim7 := { stood := { row := sweepSharesUptoRow, standIns := [], harness := (true, "0604430518c0283206578c9ad7c0d7e1b1f8ae3272accba56032949bd01f7367"), looks := false }, kinds := [], alts := [], laidByText := true, laidKinds := [.data, .pinned], laidTests := true, laidLooks := .later }
def SweepSharesUptoCardSaid : Prop := Claim7.holds Tryz.pinned (.plain (OpenSpec.upto sweepSharesSpec)) sweepSharesUptoCard

/-- THE SECOND FORM's CARD OF 'spoorlaw12.SweepMemory'. -/
def sweepMemoryUptoCard : Claim7 := { stood := { row := sweepMemoryUptoRow, standIns := [], harness := (true, "0604430518c0283206578c9ad7c0d7e1b1f8ae3272accba56032949bd01f7367"), looks := false }, kinds := [], alts := [], laidByText := true, laidKinds := [.data, .pinned], laidTests := true, laidLooks := .later }
def SweepMemoryUptoCardSaid : Prop := Claim7.holds Tryz.pinned (.plain (OpenSpec.upto sweepMemorySpec)) sweepMemoryUptoCard
end Rows
end Go.Proofs.YtobjjdggjgnfcaaGreatDoor
