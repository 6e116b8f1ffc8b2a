/-
  DERIVED. GIVEN WITH THE SEED: THE CARDS: each row of YtiflfapdffkcbaaGreatDoorRows.lean that lists a variable, with what it lists TIED to the program's text (the seventh form; the later family's looks); each row that meets fmt, with fmt's text TOLD by the authors' own Lean function (tested against real Go, not proved from fmt's source: count such statements apart). THE CARD IS WHAT COUNTS. Prove the row's statement (the work); the ties are given (YtiflfapdffkcbaaGreatDoorTie.lean); close each card by the builder's one call (the guide's Derived/Test/ToyasCard.lean, 'card_holds'). Laid BY PROGRAM, IN A SANDBOX (cutbox-door.mjs). By AI agents, Wed Nov 11 2026. No macro, syntax, notation, axiom, sorry.
-/
import Derived.Test.YtiflfapdffkcbaaGreatDoorRows
import GoSem.ClaimSeven
namespace Go.Proofs.YtiflfapdffkcbaaGreatDoor
namespace Rows

/-- THE TIED CARD OF 'spoorlaw09.StoreOrder'. -/
def storeOrderCard : Claim7 := { stood := { row := storeOrderRow, standIns := [], harness := (true, "27c7da200e761577dc8c9e222715187d876760c68745d7e92f8dd2edc4dce7ee"), looks := false }, kinds := [], alts := [], laidByText := true, laidKinds := [.data, .pinned], laidTests := true, laidLooks := .later }
def StoreOrderCardSaid : Prop := Claim7.holds Tryz.pinned (.plain (OpenSpec.ofChange storeOrderSpec)) storeOrderCard

/-- THE TIED CARD OF 'spoorlaw09.StoreMerged'. -/
def storeMergedCard : Claim7 := { stood := { row := storeMergedRow, standIns := [], harness := (true, "27c7da200e761577dc8c9e222715187d876760c68745d7e92f8dd2edc4dce7ee"), looks := false }, kinds := [], alts := [], laidByText := true, laidKinds := [.data, .pinned], laidTests := true, laidLooks := .later }
def StoreMergedCardSaid : Prop := Claim7.holds Tryz.pinned (.plain (OpenSpec.ofChange storeMergedSpec)) storeMergedCard

/-- THE TIED CARD OF 'spoorlaw09.StoreChanges'. -/
def storeChangesCard : Claim7 := { stood := { row := storeChangesRow, standIns := [], harness := (true, "27c7da200e761577dc8c9e222715187d876760c68745d7e92f8dd2edc4dce7ee"), looks := false }, kinds := [], alts := [], laidByText := true, laidKinds := [.data, .pinned], laidTests := true, laidLooks := .later }
def StoreChangesCardSaid : Prop := Claim7.holds Tryz.pinned (.plain (OpenSpec.ofChange storeChangesSpec)) storeChangesCard

/-- THE SECOND FORM's CARD OF 'spoorlaw09.StoreOrder'. -/
def storeOrderUptoCard : Claim7 := { stood := { row := storeOrderUptoRow, standIns := [], harness := (true, "27c7da200e761577dc8c9e222715187d876760c68745d7e92f8dd2edc4dce7ee"), looks := false }, kinds := [], alts := [], laidByText := true, laidKinds := [.data, .pinned], laidTests := true, laidLooks := .later }
def StoreOrderUptoCardSaid : Prop := Claim7.holds Tryz.pinned (.plain (OpenSpec.upto storeOrderSpec)) storeOrderUptoCard

/-- THE SECOND FORM's CARD OF 'spoorlaw09.StoreMerged'. -/
def storeMergedUptoCard : Claim7 := { stood := { row := storeMergedUptoRow, standIns := [], harness := (true, "27c7da200e761577dc8c9e222715187d876760c68745d7e92f8dd2edc4dce7ee"), looks := false }, kinds := [], alts := [], laidByText := true, laidKinds := [.data, .pinned], laidTests := true, laidLooks := .later }
def StoreMergedUptoCardSaid : Prop := Claim7.holds Tryz.pinned (.plain (OpenSpec.upto storeMergedSpec)) storeMergedUptoCard

/-- THE SECOND FORM's CARD OF 'spoorlaw09.StoreChanges'. -/
def storeChangesUptoCard : Claim7 := { stood := { row := storeChangesUptoRow, standIns := [], harness := (true, "27c7da200e761577dc8c9e222715187d876760c68745d7e92f8dd2edc4dce7ee"), looks := false }, kinds := [], alts := [], laidByText := true, laidKinds := [.data, .pinned], laidTests := true, laidLooks := .later }
def StoreChangesUptoCardSaid : Prop := Claim7.holds Tryz.pinned (.plain (OpenSpec.upto storeChangesSpec)) storeChangesUptoCard
end Rows
end Go.Proofs.YtiflfapdffkcbaaGreatDoor
