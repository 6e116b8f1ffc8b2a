/-
  DERIVED. GIVEN WITH THE SEED: THE CARDS: each row of YtgoafinbaiepmaaGreatDoorRows.lean that lists a variable, with what it lists TIED to the program's text (the seventh form; the later family's looks); each row that meets fmt, with fmt's text TOLD by the authors' own Lean function (tested against real Go, not proved from fmt's source: count such statements apart). THE CARD IS WHAT COUNTS. Prove the row's statement (the work); the ties are given (YtgoafinbaiepmaaGreatDoorTie.lean); close each card by the builder's one call (the guide's Derived/Test/ToyasCard.lean, 'card_holds'). Laid BY PROGRAM, IN A SANDBOX (cutbox-door.mjs). By AI agents, Wed Nov 11 2026. No macro, syntax, notation, axiom, sorry.
-/
import Derived.Test.YtgoafinbaiepmaaGreatDoorRows
import GoSem.ClaimSeven
namespace Go.Proofs.YtgoafinbaiepmaaGreatDoor
namespace Rows

/-- THE TIED CARD OF 'spoorlaw08.JournalNames'. -/
def journalNamesCard : Claim7 := { stood := { row := journalNamesRow, standIns := [], harness := (true, "2b1832e74c1f1e2cf9e94e1c41ebb5fd454b058f3c0a1a44353f5544b9223826"), looks := true }, kinds := [], alts := [], laidByText := true, laidKinds := [.data, .data, .data], laidTests := true, laidLooks := .later }
def JournalNamesCardSaid : Prop := Claim7.holds Tryz.pinned (.plain (OpenSpec.ofChange journalNamesSpec)) journalNamesCard

/-- THE TIED CARD OF 'spoorlaw08.JournalPlays'. -/
def journalPlaysCard : Claim7 := { stood := { row := journalPlaysRow, standIns := [], harness := (true, "2b1832e74c1f1e2cf9e94e1c41ebb5fd454b058f3c0a1a44353f5544b9223826"), looks := true }, kinds := [], alts := [], laidByText := true, laidKinds := [.data, .data, .data, .handle], laidTests := true, laidLooks := .later }
def JournalPlaysCardSaid : Prop := Claim7.holds Tryz.pinned (.plain (OpenSpec.ofChange journalPlaysSpec)) journalPlaysCard

/-- THE TIED CARD OF 'spoorlaw08.JournalNil'. -/
def journalNilCard : Claim7 := { stood := { row := journalNilRow, standIns := [], harness := (true, "2b1832e74c1f1e2cf9e94e1c41ebb5fd454b058f3c0a1a44353f5544b9223826"), looks := true }, kinds := [], alts := [], laidByText := true, laidKinds := [.data, .data, .data, .handle], laidTests := true, laidLooks := .later }
def JournalNilCardSaid : Prop := Claim7.holds Tryz.pinned (.plain (OpenSpec.ofChange journalNilSpec)) journalNilCard

/-- THE TIED CARD OF 'spoorlaw08.JournalPower'. -/
def journalPowerCard : Claim7 := { stood := { row := journalPowerRow, standIns := [], harness := (true, "2b1832e74c1f1e2cf9e94e1c41ebb5fd454b058f3c0a1a44353f5544b9223826"), looks := true }, kinds := [], alts := [], laidByText := true, laidKinds := [.data, .data, .data], laidTests := true, laidLooks := .later }
def JournalPowerCardSaid : Prop := Claim7.holds Tryz.pinned (.plain (OpenSpec.ofChange journalPowerSpec)) journalPowerCard

/-- THE TIED CARD OF 'spoorlaw08.JournalLosesNothing'. -/
def journalLosesNothingCard : Claim7 := { stood := { row := journalLosesNothingRow, standIns := [], harness := (true, "2b1832e74c1f1e2cf9e94e1c41ebb5fd454b058f3c0a1a44353f5544b9223826"), looks := true }, kinds := [], alts := [], laidByText := true, laidKinds := [.data, .data, .data], laidTests := true, laidLooks := .later }
def JournalLosesNothingCardSaid : Prop := Claim7.holds Tryz.pinned (.plain (OpenSpec.ofChange journalLosesNothingSpec)) journalLosesNothingCard

/-- THE TIED CARD OF 'spoorlaw08.JournalDropped'. -/
def journalDroppedCard : Claim7 := { stood := { row := journalDroppedRow, standIns := [], harness := (true, "2b1832e74c1f1e2cf9e94e1c41ebb5fd454b058f3c0a1a44353f5544b9223826"), looks := true }, kinds := [], alts := [], laidByText := true, laidKinds := [.data, .data, .data], laidTests := true, laidLooks := .later }
def JournalDroppedCardSaid : Prop := Claim7.holds Tryz.pinned (.plain (OpenSpec.ofChange journalDroppedSpec)) journalDroppedCard

/-- THE SECOND FORM's CARD OF 'spoorlaw08.JournalNames'. -/
def journalNamesUptoCard : Claim7 := { stood := { row := journalNamesUptoRow, standIns := [], harness := (true, "2b1832e74c1f1e2cf9e94e1c41ebb5fd454b058f3c0a1a44353f5544b9223826"), looks := true }, kinds := [], alts := [], laidByText := true, laidKinds := [.data, .data, .data], laidTests := true, laidLooks := .later }
def JournalNamesUptoCardSaid : Prop := Claim7.holds Tryz.pinned (.plain (OpenSpec.upto journalNamesSpec)) journalNamesUptoCard

/-- THE SECOND FORM's CARD OF 'spoorlaw08.JournalPlays'. -/
def journalPlaysUptoCard : Claim7 := { stood := { row := journalPlaysUptoRow, standIns := [], harness := (true, "2b1832e74c1f1e2cf9e94e1c41ebb5fd454b058f3c0a1a44353f5544b9223826"), looks := true }, kinds := [], alts := [], laidByText := true, laidKinds := [.data, .data, .data, .handle], laidTests := true, laidLooks := .later }
def JournalPlaysUptoCardSaid : Prop := Claim7.holds Tryz.pinned (.plain (OpenSpec.upto journalPlaysSpec)) journalPlaysUptoCard

/-- THE SECOND FORM's CARD OF 'spoorlaw08.JournalNil'. -/
def journalNilUptoCard : Claim7 := { stood := { row := journalNilUptoRow, standIns := [], harness := (true, "2b1832e74c1f1e2cf9e94e1c41ebb5fd454b058f3c0a1a44353f5544b9223826"), looks := true }, kinds := [], alts := [], laidByText := true, laidKinds := [.data, .data, .data, .handle], laidTests := true, laidLooks := .later }
def JournalNilUptoCardSaid : Prop := Claim7.holds Tryz.pinned (.plain (OpenSpec.upto journalNilSpec)) journalNilUptoCard

/-- THE SECOND FORM's CARD OF 'spoorlaw08.JournalPower'. -/
def journalPowerUptoCard : Claim7 := { stood := { row := journalPowerUptoRow, standIns := [], harness := (true, "2b1832e74c1f1e2cf9e94e1c41ebb5fd454b058f3c0a1a44353f5544b9223826"), looks := true }, kinds := [], alts := [], laidByText := true, laidKinds := [.data, .data, .data], laidTests := true, laidLooks := .later }
def JournalPowerUptoCardSaid : Prop := Claim7.holds Tryz.pinned (.plain (OpenSpec.upto journalPowerSpec)) journalPowerUptoCard

/-- THE SECOND FORM's CARD OF 'spoorlaw08.JournalLosesNothing'. -/
def journalLosesNothingUptoCard : Claim7 := { stood := { row := journalLosesNothingUptoRow, standIns := [], harness := (true, "2b1832e74c1f1e2cf9e94e1c41ebb5fd454b058f3c0a1a44353f5544b9223826"), looks := true }, kinds := [], alts := [], laidByText := true, laidKinds := [.data, .data, .data], laidTests := true, laidLooks := .later }
def JournalLosesNothingUptoCardSaid : Prop := Claim7.holds Tryz.pinned (.plain (OpenSpec.upto journalLosesNothingSpec)) journalLosesNothingUptoCard

/-- THE SECOND FORM's CARD OF 'spoorlaw08.JournalDropped'. -/
def journalDroppedUptoCard : Claim7 := { stood := { row := journalDroppedUptoRow, standIns := [], harness := (true, "2b1832e74c1f1e2cf9e94e1c41ebb5fd454b058f3c0a1a44353f5544b9223826"), looks := true }, kinds := [], alts := [], laidByText := true, laidKinds := [.data, .data, .data], laidTests := true, laidLooks := .later }
def JournalDroppedUptoCardSaid : Prop := Claim7.holds Tryz.pinned (.plain (OpenSpec.upto journalDroppedSpec)) journalDroppedUptoCard
end Rows
end Go.Proofs.YtgoafinbaiepmaaGreatDoor
