/-
  DERIVED. GIVEN WITH THE SEED: THE CARDS: each row of YtbefeobikjnlpaaGreatDoorRows.lean that lists a variable, with what it lists TIED to the program's text (the seventh form; the later family's looks); each row that meets fmt, with fmt's text TOLD by the authors' own Lean function (tested against real Go, not proved from fmt's source: count such statements apart). THE CARD IS WHAT COUNTS. Prove the row's statement (the work); the ties are given (YtbefeobikjnlpaaGreatDoorTie.lean); close each card by the builder's one call (the guide's Derived/Test/ToyasCard.lean, 'card_holds'). Laid BY PROGRAM, IN A SANDBOX (cutbox-door.mjs). By AI agents, Wed Nov 11 2026. No macro, syntax, notation, axiom, sorry.
-/
import Derived.Test.YtbefeobikjnlpaaGreatDoorRows
import GoSem.ClaimSeven
namespace Go.Proofs.YtbefeobikjnlpaaGreatDoor
namespace Rows

/-- THE TIED CARD OF 'spoorlaw14.CallsOf'. -/
def callsOfCard : Claim7 := { stood := { row := callsOfRow, standIns := [], harness := (true, "ff708bc4a3fd9ed91da645f711369264f8e4ced5b70f8cd0c91dad84ed3274f3"), looks := false }, kinds := [], alts := [], laidByText := true, laidKinds := [.data, .pinned], laidTests := true, laidLooks := .later }
def CallsOfCardSaid : Prop := Claim7.holds Tryz.pinned (.plain (OpenSpec.ofChange callsOfSpec)) callsOfCard

/-- THE TIED CARD OF 'spoorlaw14.CallsTrace'. -/
def callsTraceCard : Claim7 := { stood := { row := callsTraceRow, standIns := [], harness := (true, "ff708bc4a3fd9ed91da645f711369264f8e4ced5b70f8cd0c91dad84ed3274f3"), looks := false }, kinds := [], alts := [], laidByText := true, laidKinds := [.data, .pinned], laidTests := true, laidLooks := .later }
def CallsTraceCardSaid : Prop := Claim7.holds Tryz.pinned (.plain (OpenSpec.ofChange callsTraceSpec)) callsTraceCard

/-- THE SECOND FORM's CARD OF 'spoorlaw14.CallsOf'. -/
def callsOfUptoCard : Claim7 := { stood := { row := callsOfUptoRow, standIns := [], harness := (true, "ff708bc4a3fd9ed91da645f711369264f8e4ced5b70f8cd0c91dad84ed3274f3"), looks := false }, kinds := [], alts := [], laidByText := true, laidKinds := [.data, .pinned], laidTests := true, laidLooks := .later }
def CallsOfUptoCardSaid : Prop := Claim7.holds Tryz.pinned (.plain (OpenSpec.upto callsOfSpec)) callsOfUptoCard

/-- THE SECOND FORM's CARD OF 'spoorlaw14.CallsTrace'. -/
def callsTraceUptoCard : Claim7 := { stood := { row := callsTraceUptoRow, standIns := [], harness := (true, "ff708bc4a3fd9ed91da645f711369264f8e4ced5b70f8cd0c91dad84ed3274f3"), looks := false }, kinds := [], alts := [], laidByText := true, laidKinds := [.data, .pinned], laidTests := true, laidLooks := .later }
def CallsTraceUptoCardSaid : Prop := Claim7.holds Tryz.pinned (.plain (OpenSpec.upto callsTraceSpec)) callsTraceUptoCard
end Rows
end Go.Proofs.YtbefeobikjnlpaaGreatDoor
