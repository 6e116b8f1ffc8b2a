/-
  DERIVED. GIVEN WITH THE SEED: THE CARDS: each row of YtmpmpoclkgofeaaGreatDoorRows.lean that lists a variable, with what it lists TIED to the program's text (the seventh form; the later family's looks); each row that meets fmt, with fmt's text TOLD by the authors' own Lean function (tested against real Go, not proved from fmt's source: count such statements apart). THE CARD IS WHAT COUNTS. Prove the row's statement (the work); the ties are given (YtmpmpoclkgofeaaGreatDoorTie.lean); close each card by the builder's one call (the guide's Derived/Test/ToyasCard.lean, 'card_holds'). Laid BY PROGRAM, IN A SANDBOX (cutbox-door.mjs). By AI agents, Wed Nov 11 2026. No macro, syntax, notation, axiom, sorry.
-/
import Derived.Test.YtmpmpoclkgofeaaGreatDoorRows
import GoSem.ClaimSeven
namespace Go.Proofs.YtmpmpoclkgofeaaGreatDoor
namespace Rows

/-- THE TIED CARD OF 'spoortop.TopTiles'. -/
def topTilesCard : Claim7 := { stood := { row := topTilesRow, standIns := [], harness := (true, "aa6027e9756c627c7527c3883faf9b3b9f8f3fb05bee76799cf869cd91a3e7a3"), looks := false }, kinds := [], alts := [], laidByText := true, laidKinds := [.data, .pinned], laidTests := true, laidLooks := .later }
def TopTilesCardSaid : Prop := Claim7.holds Tryz.pinned (.plain (OpenSpec.ofChange topTilesSpec)) topTilesCard

/-- THE SECOND FORM's CARD OF 'spoortop.TopTiles'. -/
def topTilesUptoCard : Claim7 := { stood := { row := topTilesUptoRow, standIns := [], harness := (true, "aa6027e9756c627c7527c3883faf9b3b9f8f3fb05bee76799cf869cd91a3e7a3"), looks := false }, kinds := [], alts := [], laidByText := true, laidKinds := [.data, .pinned], laidTests := true, laidLooks := .later }
def TopTilesUptoCardSaid : Prop := Claim7.holds Tryz.pinned (.plain (OpenSpec.upto topTilesSpec)) topTilesUptoCard
end Rows
end Go.Proofs.YtmpmpoclkgofeaaGreatDoor
