/-
  DERIVED. GIVEN WITH THE SEED: THE CARDS: each row of YtbdkaanmkegfiaaGreatDoorRows.lean that lists a variable, with what it lists TIED to the program's text (the seventh form; the later family's looks); each row that meets fmt, with fmt's text TOLD by the authors' own Lean function (tested against real Go, not proved from fmt's source: count such statements apart). THE CARD IS WHAT COUNTS. Prove the row's statement (the work); the ties are given (YtbdkaanmkegfiaaGreatDoorTie.lean); close each card by the builder's one call (the guide's Derived/Test/ToyasCard.lean, 'card_holds'). Laid BY PROGRAM, IN A SANDBOX (cutbox-door.mjs). By AI agents, Wed Nov 11 2026. No macro, syntax, notation, axiom, sorry.
-/
import Derived.Test.YtbdkaanmkegfiaaGreatDoorRows
import GoSem.ClaimSeven
namespace Go.Proofs.YtbdkaanmkegfiaaGreatDoor
namespace Rows

/-- THE TIED CARD OF 'spoorlaw10.ForestAlone'. -/
def forestAloneCard : Claim7 := { stood := { row := forestAloneRow, standIns := [], harness := (true, "1c1f18d7a41f7ee35523c993a9197de826294cd1f2ece159f8d79f3a9668f82e"), looks := false }, kinds := [], alts := [], laidByText := true, laidKinds := [.data, .pinned], laidTests := true, laidLooks := .later }
def ForestAloneCardSaid : Prop := Claim7.holds Tryz.pinned (.plain (OpenSpec.ofChange forestAloneSpec)) forestAloneCard

/-- THE TIED CARD OF 'spoorlaw10.ForestTrees'. -/
def forestTreesCard : Claim7 := { stood := { row := forestTreesRow, standIns := [], harness := (true, "1c1f18d7a41f7ee35523c993a9197de826294cd1f2ece159f8d79f3a9668f82e"), looks := false }, kinds := [], alts := [], laidByText := true, laidKinds := [.data, .pinned], laidTests := true, laidLooks := .later }
def ForestTreesCardSaid : Prop := Claim7.holds Tryz.pinned (.plain (OpenSpec.ofChange forestTreesSpec)) forestTreesCard

/-- THE TIED CARD OF 'spoorlaw11.OwnOnce'. -/
def ownOnceCard : Claim7 := { stood := { row := ownOnceRow, standIns := [], harness := (true, "1c1f18d7a41f7ee35523c993a9197de826294cd1f2ece159f8d79f3a9668f82e"), looks := false }, kinds := [], alts := [], laidByText := true, laidKinds := [.data, .pinned], laidTests := true, laidLooks := .later }
def OwnOnceCardSaid : Prop := Claim7.holds Tryz.pinned (.plain (OpenSpec.ofChange ownOnceSpec)) ownOnceCard

/-- THE TIED CARD OF 'spoorlaw11.OwnAlone'. -/
def ownAloneCard : Claim7 := { stood := { row := ownAloneRow, standIns := [], harness := (true, "1c1f18d7a41f7ee35523c993a9197de826294cd1f2ece159f8d79f3a9668f82e"), looks := false }, kinds := [], alts := [], laidByText := true, laidKinds := [.data, .pinned], laidTests := true, laidLooks := .later }
def OwnAloneCardSaid : Prop := Claim7.holds Tryz.pinned (.plain (OpenSpec.ofChange ownAloneSpec)) ownAloneCard

/-- THE TIED CARD OF 'spoorlaw12.SweepShares'. -/
def sweepSharesCard : Claim7 := { stood := { row := sweepSharesRow, standIns := [], harness := (true, "1c1f18d7a41f7ee35523c993a9197de826294cd1f2ece159f8d79f3a9668f82e"), looks := false }, kinds := [], alts := [], laidByText := true, laidKinds := [.data, .pinned], laidTests := true, laidLooks := .later }
def SweepSharesCardSaid : Prop := Claim7.holds Tryz.pinned (.plain (OpenSpec.ofChange sweepSharesSpec)) sweepSharesCard

/-- THE TIED CARD OF 'spoorlaw12.SweepChained'. -/
def sweepChainedCard : Claim7 := { stood := { row := sweepChainedRow, standIns := [], harness := (true, "1c1f18d7a41f7ee35523c993a9197de826294cd1f2ece159f8d79f3a9668f82e"), looks := false }, kinds := [], alts := [], laidByText := true, laidKinds := [.data, .pinned], laidTests := true, laidLooks := .later }
def SweepChainedCardSaid : Prop := Claim7.holds Tryz.pinned (.plain (OpenSpec.ofChange sweepChainedSpec)) sweepChainedCard

/-- THE SECOND FORM's CARD OF 'spoorlaw10.ForestAlone'. -/
def forestAloneUptoCard : Claim7 := { stood := { row := forestAloneUptoRow, standIns := [], harness := (true, "1c1f18d7a41f7ee35523c993a9197de826294cd1f2ece159f8d79f3a9668f82e"), looks := false }, kinds := [], alts := [], laidByText := true, laidKinds := [.data, .pinned], laidTests := true, laidLooks := .later }
def ForestAloneUptoCardSaid : Prop := Claim7.holds Tryz.pinned (.plain (OpenSpec.upto forestAloneSpec)) forestAloneUptoCard

/-- THE SECOND FORM's CARD OF 'spoorlaw10.ForestTrees'. -/
def forestTreesUptoCard : Claim7 := { stood := { row := forestTreesUptoRow, standIns := [], harness := (true, "1c1f18d7a41f7ee35523c993a9197de826294cd1f2ece159f8d79f3a9668f82e"), looks := false }, kinds := [], alts := [], laidByText := true, laidKinds := [.data, .pinned], laidTests := true, laidLooks := .later }
def ForestTreesUptoCardSaid : Prop := Claim7.holds Tryz.pinned (.plain (OpenSpec.upto forestTreesSpec)) forestTreesUptoCard

/-- THE SECOND FORM's CARD OF 'spoorlaw11.OwnOnce'. -/
def ownOnceUptoCard : Claim7 := { stood := { row := ownOnceUptoRow, standIns := [], harness := (true, "1c1f18d7a41f7ee35523c993a9197de826294cd1f2ece159f8d79f3a9668f82e"), looks := false }, kinds := [], alts := [], laidByText := true, laidKinds := [.data, .pinned], laidTests := true, laidLooks := .later }
def OwnOnceUptoCardSaid : Prop := Claim7.holds Tryz.pinned (.plain (OpenSpec.upto ownOnceSpec)) ownOnceUptoCard

/-- THE SECOND FORM's CARD OF 'spoorlaw11.OwnAlone'. -/
def ownAloneUptoCard : Claim7 := { stood := { row := ownAloneUptoRow, standIns := [], harness := (true, "1c1f18d7a41f7ee35523c993a9197de826294cd1f2ece159f8d79f3a9668f82e"), looks := false }, kinds := [], alts := [], laidByText := true, laidKinds := [.data, .pinned], laidTests := true, laidLooks := .later }
def OwnAloneUptoCardSaid : Prop := Claim7.holds Tryz.pinned (.plain (OpenSpec.upto ownAloneSpec)) ownAloneUptoCard

/-- THE SECOND FORM's CARD OF 'spoorlaw12.SweepShares'. -/
def sweepSharesUptoCard : Claim7 := { stood := { row := sweepSharesUptoRow, standIns := [], harness := (true, "1c1f18d7a41f7ee35523c993a9197de826294cd1f2ece159f8d79f3a9668f82e"), looks := false }, kinds := [], alts := [], laidByText := true, laidKinds := [.data, .pinned], laidTests := true, laidLooks := .later }
def SweepSharesUptoCardSaid : Prop := Claim7.holds Tryz.pinned (.plain (OpenSpec.upto sweepSharesSpec)) sweepSharesUptoCard

/-- THE SECOND FORM's CARD OF 'spoorlaw12.SweepChained'. -/
def sweepChainedUptoCard : Claim7 := { stood := { row := sweepChainedUptoRow, standIns := [], harness := (true, "1c1f18d7a41f7ee35523c993a9197de826294cd1f2ece159f8d79f3a9668f82e"), looks := false }, kinds := [], alts := [], laidByText := true, laidKinds := [.data, .pinned], laidTests := true, laidLooks := .later }
def SweepChainedUptoCardSaid : Prop := Claim7.holds Tryz.pinned (.plain (OpenSpec.upto sweepChainedSpec)) sweepChainedUptoCard
end Rows
end Go.Proofs.YtbdkaanmkegfiaaGreatDoor
