/-
  DERIVED. GIVEN WITH THE SEED: THE CARDS: each row of YthcghpbkadlliabGreatDoorRows.lean that lists a variable, with what it lists TIED to the program's text (the seventh form; the later family's looks); each row that meets fmt, with fmt's text TOLD by the authors' own Lean function (tested against real Go, not proved from fmt's source: count such statements apart). THE CARD IS WHAT COUNTS. Prove the row's statement (the work); the ties are given (YthcghpbkadlliabGreatDoorTie.lean); close each card by the builder's one call (the guide's Derived/Test/ToyasCard.lean, 'card_holds'). Laid BY PROGRAM, IN A SANDBOX (cutbox-door.mjs). By AI agents, Wed Nov 11 2026. No macro, syntax, notation, axiom, sorry.
-/
import Derived.Test.YthcghpbkadlliabGreatDoorRows
import GoSem.ClaimSeven
namespace Go.Proofs.YthcghpbkadlliabGreatDoor
namespace Rows

/-- THE TIED CARD OF 'spoorlaw05.BatchLonger'. -/
def batchLongerCard : Claim7 := { stood := { row := batchLongerRow, standIns := [], harness := (true, "93767c6886d5c73dc4133d162245c98f2569f07212c947e8be6ca5f75d9d1372"), looks := true }, kinds := [], alts := [], laidByText := true, laidKinds := [.data, .handle, .pinned], laidTests := true, laidLooks := .later }
def BatchLongerCardSaid : Prop := Claim7.holds Tryz.pinned (.plain (OpenSpec.ofChange batchLongerSpec)) batchLongerCard

/-- THE SECOND FORM's CARD OF 'spoorlaw05.BatchLonger'. -/
def batchLongerUptoCard : Claim7 := { stood := { row := batchLongerUptoRow, standIns := [], harness := (true, "93767c6886d5c73dc4133d162245c98f2569f07212c947e8be6ca5f75d9d1372"), looks := true }, kinds := [], alts := [], laidByText := true, laidKinds := [.data, .handle, .pinned], laidTests := true, laidLooks := .later }
def BatchLongerUptoCardSaid : Prop := Claim7.holds Tryz.pinned (.plain (OpenSpec.upto batchLongerSpec)) batchLongerUptoCard
end Rows
end Go.Proofs.YthcghpbkadlliabGreatDoor
