/-
  DERIVED. GIVEN WITH THE SEED: THE CARDS: each row of YtkpkdikogoalkaaGreatDoorRows.lean that lists a variable, with what it lists TIED to the program's text (the seventh form; the later family's looks); each row that meets fmt, with fmt's text TOLD by the authors' own Lean function (tested against real Go, not proved from fmt's source: count such statements apart). THE CARD IS WHAT COUNTS. Prove the row's statement (the work); the ties are given (YtkpkdikogoalkaaGreatDoorTie.lean); close each card by the builder's one call (the guide's Derived/Test/ToyasCard.lean, 'card_holds'). Laid BY PROGRAM, IN A SANDBOX (cutbox-door.mjs). By AI agents, Wed Nov 11 2026. No macro, syntax, notation, axiom, sorry.
-/
import Derived.Test.YtkpkdikogoalkaaGreatDoorRows
import GoSem.ClaimSeven
namespace Go.Proofs.YtkpkdikogoalkaaGreatDoor
namespace Rows

/-- THE TIED CARD OF 'spoorlaw14.CallsDelta'. -/
def callsDeltaCard : Claim7 := { stood := { row := callsDeltaRow, standIns := [], harness := (true, "ad3b3e4bdfb7e4046835c0d2868d18f6f10f41adf5c0a61d0251e2d26b0914f4"), looks := false }, kinds := [], alts := [], laidByText := true, laidKinds := [.data, .pinned], laidTests := true, laidLooks := .later }
def CallsDeltaCardSaid : Prop := Claim7.holds Tryz.pinned (.plain (OpenSpec.ofChange callsDeltaSpec)) callsDeltaCard

/-- THE TIED CARD OF 'spoorlaw14.CallsSums'. -/
def callsSumsCard : Claim7 := { stood := { row := callsSumsRow, standIns := [], harness := (true, "ad3b3e4bdfb7e4046835c0d2868d18f6f10f41adf5c0a61d0251e2d26b0914f4"), looks := false }, kinds := [], alts := [], laidByText := true, laidKinds := [.data, .pinned], laidTests := true, laidLooks := .later }
def CallsSumsCardSaid : Prop := Claim7.holds Tryz.pinned (.plain (OpenSpec.ofChange callsSumsSpec)) callsSumsCard

/-- THE SECOND FORM's CARD OF 'spoorlaw14.CallsDelta'. -/
def callsDeltaUptoCard : Claim7 := { stood := { row := callsDeltaUptoRow, standIns := [], harness := (true, "ad3b3e4bdfb7e4046835c0d2868d18f6f10f41adf5c0a61d0251e2d26b0914f4"), looks := false }, kinds := [], alts := [], laidByText := true, laidKinds := [.data, .pinned], laidTests := true, laidLooks := .later }
def CallsDeltaUptoCardSaid : Prop := Claim7.holds Tryz.pinned (.plain (OpenSpec.upto callsDeltaSpec)) callsDeltaUptoCard

/-- THE SECOND FORM's CARD OF 'spoorlaw14.CallsSums'. -/
def callsSumsUptoCard : Claim7 := { stood := { row := callsSumsUptoRow, standIns := [], harness := (true, "ad3b3e4bdfb7e4046835c0d2868d18f6f10f41adf5c0a61d0251e2d26b0914f4"), looks := false }, kinds := [], alts := [], laidByText := true, laidKinds := [.data, .pinned], laidTests := true, laidLooks := .later }
def CallsSumsUptoCardSaid : Prop := Claim7.holds Tryz.pinned (.plain (OpenSpec.upto callsSumsSpec)) callsSumsUptoCard
end Rows
end Go.Proofs.YtkpkdikogoalkaaGreatDoor
