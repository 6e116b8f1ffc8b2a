/-
  DERIVED. GIVEN WITH THE SEED: THE CARDS: each row of YtnffedmcblbkoaaGreatDoorRows.lean that lists a variable, with what it lists TIED to the program's text (the seventh form; the later family's looks); each row that meets fmt, with fmt's text TOLD by the authors' own Lean function (tested against real Go, not proved from fmt's source: count such statements apart). THE CARD IS WHAT COUNTS. Prove the row's statement (the work); the ties are given (YtnffedmcblbkoaaGreatDoorTie.lean); close each card by the builder's one call (the guide's Derived/Test/ToyasCard.lean, 'card_holds'). Laid BY PROGRAM, IN A SANDBOX (cutbox-door.mjs). By AI agents, Wed Nov 11 2026. No macro, syntax, notation, axiom, sorry.
-/
import Derived.Test.YtnffedmcblbkoaaGreatDoorRows
import GoSem.ClaimSeven
namespace Go.Proofs.YtnffedmcblbkoaaGreatDoor
namespace Rows

/-- THE TIED CARD OF 'spoorlaw11.OwnOnce'. -/
def ownOnceCard : Claim7 := { stood := { row := ownOnceRow, standIns := [], harness := (true, "7779740ddba6850d45655817cb9a74812a1ed2c7c260e3f1da1dfd3c916b6a02"), looks := false }, kinds := [], alts := [], laidByText := true, laidKinds := [.data, .pinned], laidTests := true, laidLooks := .later }
def OwnOnceCardSaid : Prop := Claim7.holds Tryz.pinned (.plain (OpenSpec.ofChange ownOnceSpec)) ownOnceCard

/-- THE TIED CARD OF 'spoorlaw11.OwnAlone'. -/
def ownAloneCard : Claim7 := { stood := { row := ownAloneRow, standIns := [], harness := (true, "7779740ddba6850d45655817cb9a74812a1ed2c7c260e3f1da1dfd3c916b6a02"), looks := false }, kinds := [], alts := [], laidByText := true, laidKinds := [.data, .pinned], laidTests := true, laidLooks := .later }
def OwnAloneCardSaid : Prop := Claim7.holds Tryz.pinned (.plain (OpenSpec.ofChange ownAloneSpec)) ownAloneCard

/-- THE TIED CARD OF 'spoortop.TopSums'. -/
def topSumsCard : Claim7 := { stood := { row := topSumsRow, standIns := [], harness := (true, "7779740ddba6850d45655817cb9a74812a1ed2c7c260e3f1da1dfd3c916b6a02"), looks := false }, kinds := [], alts := [], laidByText := true, laidKinds := [.data, .pinned], laidTests := true, laidLooks := .later }
def TopSumsCardSaid : Prop := Claim7.holds Tryz.pinned (.plain (OpenSpec.ofChange topSumsSpec)) topSumsCard

/-- THE SECOND FORM's CARD OF 'spoorlaw11.OwnOnce'. -/
def ownOnceUptoCard : Claim7 := { stood := { row := ownOnceUptoRow, standIns := [], harness := (true, "7779740ddba6850d45655817cb9a74812a1ed2c7c260e3f1da1dfd3c916b6a02"), looks := false }, kinds := [], alts := [], laidByText := true, laidKinds := [.data, .pinned], laidTests := true, laidLooks := .later }
def OwnOnceUptoCardSaid : Prop := Claim7.holds Tryz.pinned (.plain (OpenSpec.upto ownOnceSpec)) ownOnceUptoCard

/-- THE SECOND FORM's CARD OF 'spoorlaw11.OwnAlone'. -/
def ownAloneUptoCard : Claim7 := { stood := { row := ownAloneUptoRow, standIns := [], harness := (true, "7779740ddba6850d45655817cb9a74812a1ed2c7c260e3f1da1dfd3c916b6a02"), looks := false }, kinds := [], alts := [], laidByText := true, laidKinds := [.data, .pinned], laidTests := true, laidLooks := .later }
def OwnAloneUptoCardSaid : Prop := Claim7.holds Tryz.pinned (.plain (OpenSpec.upto ownAloneSpec)) ownAloneUptoCard

/-- THE SECOND FORM's CARD OF 'spoortop.TopSums'. -/
def topSumsUptoCard : Claim7 := { stood := { row := topSumsUptoRow, standIns := [], harness := (true, "7779740ddba6850d45655817cb9a74812a1ed2c7c260e3f1da1dfd3c916b6a02"), looks := false }, kinds := [], alts := [], laidByText := true, laidKinds := [.data, .pinned], laidTests := true, laidLooks := .later }
def TopSumsUptoCardSaid : Prop := Claim7.holds Tryz.pinned (.plain (OpenSpec.upto topSumsSpec)) topSumsUptoCard
end Rows
end Go.Proofs.YtnffedmcblbkoaaGreatDoor
