/-
  DERIVED. GIVEN WITH THE SEED: THE CARDS: each row of YtkdgnhohecifoaaGreatDoorRows.lean that lists a variable, with what it lists TIED to the program's text (the seventh form; the later family's looks); each row that meets fmt, with fmt's text TOLD by the authors' own Lean function (tested against real Go, not proved from fmt's source: count such statements apart). THE CARD IS WHAT COUNTS. Prove the row's statement (the work); the ties are given (YtkdgnhohecifoaaGreatDoorTie.lean); close each card by the builder's one call (the guide's Derived/Test/ToyasCard.lean, 'card_holds'). Laid BY PROGRAM, IN A SANDBOX (cutbox-door.mjs). By AI agents, Wed Nov 11 2026. No macro, syntax, notation, axiom, sorry.
-/
import Derived.Test.YtkdgnhohecifoaaGreatDoorRows
import GoSem.ClaimSeven
namespace Go.Proofs.YtkdgnhohecifoaaGreatDoor
namespace Rows

/-- THE TIED CARD OF 'spoorlaw11.OwnNames'. -/
def ownNamesCard : Claim7 := { stood := { row := ownNamesRow, standIns := [], harness := (true, "bba4391258303e4ac765510c1dcc7b6d15b935e8f1e2675e4d95eff82ca4bf96"), looks := false }, kinds := [], alts := [], laidByText := true, laidKinds := [.data, .pinned], laidTests := true, laidLooks := .later }
def OwnNamesCardSaid : Prop := Claim7.holds Tryz.pinned (.plain (OpenSpec.ofChange ownNamesSpec)) ownNamesCard

/-- THE TIED CARD OF 'spoorlaw11.OwnNil'. -/
def ownNilCard : Claim7 := { stood := { row := ownNilRow, standIns := [], harness := (true, "bba4391258303e4ac765510c1dcc7b6d15b935e8f1e2675e4d95eff82ca4bf96"), looks := false }, kinds := [], alts := [], laidByText := true, laidKinds := [.data, .pinned], laidTests := true, laidLooks := .later }
def OwnNilCardSaid : Prop := Claim7.holds Tryz.pinned (.plain (OpenSpec.ofChange ownNilSpec)) ownNilCard

/-- THE SECOND FORM's CARD OF 'spoorlaw11.OwnNames'. -/
def ownNamesUptoCard : Claim7 := { stood := { row := ownNamesUptoRow, standIns := [], harness := (true, "bba4391258303e4ac765510c1dcc7b6d15b935e8f1e2675e4d95eff82ca4bf96"), looks := false }, kinds := [], alts := [], laidByText := true, laidKinds := [.data, .pinned], laidTests := true, laidLooks := .later }
def OwnNamesUptoCardSaid : Prop := Claim7.holds Tryz.pinned (.plain (OpenSpec.upto ownNamesSpec)) ownNamesUptoCard

/-- THE SECOND FORM's CARD OF 'spoorlaw11.OwnNil'. -/
def ownNilUptoCard : Claim7 := { stood := { row := ownNilUptoRow, standIns := [], harness := (true, "bba4391258303e4ac765510c1dcc7b6d15b935e8f1e2675e4d95eff82ca4bf96"), looks := false }, kinds := [], alts := [], laidByText := true, laidKinds := [.data, .pinned], laidTests := true, laidLooks := .later }
def OwnNilUptoCardSaid : Prop := Claim7.holds Tryz.pinned (.plain (OpenSpec.upto ownNilSpec)) ownNilUptoCard
end Rows
end Go.Proofs.YtkdgnhohecifoaaGreatDoor
