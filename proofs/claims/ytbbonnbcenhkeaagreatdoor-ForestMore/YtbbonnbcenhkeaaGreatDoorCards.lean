/-
  DERIVED. GIVEN WITH THE SEED: THE CARDS: each row of YtbbonnbcenhkeaaGreatDoorRows.lean that lists a variable, with what it lists TIED to the program's text (the seventh form; the later family's looks); each row that meets fmt, with fmt's text TOLD by the authors' own Lean function (tested against real Go, not proved from fmt's source: count such statements apart). THE CARD IS WHAT COUNTS. Prove the row's statement (the work); the ties are given (YtbbonnbcenhkeaaGreatDoorTie.lean); close each card by the builder's one call (the guide's Derived/Test/ToyasCard.lean, 'card_holds'). Laid BY PROGRAM, IN A SANDBOX (cutbox-door.mjs). By AI agents, Wed Nov 11 2026. No macro, syntax, notation, axiom, sorry.
-/
import Derived.Test.YtbbonnbcenhkeaaGreatDoorRows
import GoSem.ClaimSeven
namespace Go.Proofs.YtbbonnbcenhkeaaGreatDoor
namespace Rows

/-- THE TIED CARD OF 'spoorlaw10.ForestTrees'. -/
def forestTreesCard : Claim7 := { stood := { row := forestTreesRow, standIns := [], harness := (true, "17b658a1f282fd0018c63208a6c787a53544dfa8c985bb30191cf68c455a144b"), looks := false }, kinds := [], alts := [], laidByText := true, laidKinds := [.data, .pinned], laidTests := true, laidLooks := .later }
def ForestTreesCardSaid : Prop := Claim7.holds Tryz.pinned (.plain (OpenSpec.ofChange forestTreesSpec)) forestTreesCard

/-- THE TIED CARD OF 'spoorlaw10.ForestRings'. -/
def forestRingsCard : Claim7 := { stood := { row := forestRingsRow, standIns := [], harness := (true, "17b658a1f282fd0018c63208a6c787a53544dfa8c985bb30191cf68c455a144b"), looks := false }, kinds := [], alts := [], laidByText := true, laidKinds := [.data, .pinned], laidTests := true, laidLooks := .later }
def ForestRingsCardSaid : Prop := Claim7.holds Tryz.pinned (.plain (OpenSpec.ofChange forestRingsSpec)) forestRingsCard

/-- THE TIED CARD OF 'spoorlaw10.ForestMore'. -/
def forestMoreCard : Claim7 := { stood := { row := forestMoreRow, standIns := [], harness := (true, "17b658a1f282fd0018c63208a6c787a53544dfa8c985bb30191cf68c455a144b"), looks := false }, kinds := [], alts := [], laidByText := true, laidKinds := [.data, .pinned], laidTests := true, laidLooks := .later }
def ForestMoreCardSaid : Prop := Claim7.holds Tryz.pinned (.plain (OpenSpec.ofChange forestMoreSpec)) forestMoreCard

/-- THE TIED CARD OF 'spoorlaw12.SweepLast'. -/
def sweepLastCard : Claim7 := { stood := { row := sweepLastRow, standIns := [], harness := (true, "17b658a1f282fd0018c63208a6c787a53544dfa8c985bb30191cf68c455a144b"), looks := false }, kinds := [], alts := [], laidByText := true, laidKinds := [.data, .pinned], laidTests := true, laidLooks := .later }
def SweepLastCardSaid : Prop := Claim7.holds Tryz.pinned (.plain (OpenSpec.ofChange sweepLastSpec)) sweepLastCard

/-- THE TIED CARD OF 'spoorlaw12.SweepChained'. -/
def sweepChainedCard : Claim7 := { stood := { row := sweepChainedRow, standIns := [], harness := (true, "17b658a1f282fd0018c63208a6c787a53544dfa8c985bb30191cf68c455a144b"), looks := false }, kinds := [], alts := [], laidByText := true, laidKinds := [.data, .pinned], laidTests := true, laidLooks := .later }
def SweepChainedCardSaid : Prop := Claim7.holds Tryz.pinned (.plain (OpenSpec.ofChange sweepChainedSpec)) sweepChainedCard

/-- THE SECOND FORM's CARD OF 'spoorlaw10.ForestTrees'. -/
def forestTreesUptoCard : Claim7 := { stood := { row := forestTreesUptoRow, standIns := [], harness := (true, "17b658a1f282fd0018c63208a6c787a53544dfa8c985bb30191cf68c455a144b"), looks := false }, kinds := [], alts := [], laidByText := true, laidKinds := [.data, .pinned], laidTests := true, laidLooks := .later }
def ForestTreesUptoCardSaid : Prop := Claim7.holds Tryz.pinned (.plain (OpenSpec.upto forestTreesSpec)) forestTreesUptoCard

/-- THE SECOND FORM's CARD OF 'spoorlaw10.ForestRings'. -/
def forestRingsUptoCard : Claim7 := { stood := { row := forestRingsUptoRow, standIns := [], harness := (true, "17b658a1f282fd0018c63208a6c787a53544dfa8c985bb30191cf68c455a144b"), looks := false }, kinds := [], alts := [], laidByText := true, laidKinds := [.data, .pinned], laidTests := true, laidLooks := .later }
def ForestRingsUptoCardSaid : Prop := Claim7.holds Tryz.pinned (.plain (OpenSpec.upto forestRingsSpec)) forestRingsUptoCard

/-- THE SECOND FORM's CARD OF 'spoorlaw10.ForestMore'. -/
def forestMoreUptoCard : Claim7 := { stood := { row := forestMoreUptoRow, standIns := [], harness := (true, "17b658a1f282fd0018c63208a6c787a53544dfa8c985bb30191cf68c455a144b"), looks := false }, kinds := [], alts := [], laidByText := true, laidKinds := [.data, .pinned], laidTests := true, laidLooks := .later }
def ForestMoreUptoCardSaid : Prop := Claim7.holds Tryz.pinned (.plain (OpenSpec.upto forestMoreSpec)) forestMoreUptoCard

/-- THE SECOND FORM's CARD OF 'spoorlaw12.SweepLast'. -/
def sweepLastUptoCard : Claim7 := { stood := { row := sweepLastUptoRow, standIns := [], harness := (true, "17b658a1f282fd0018c63208a6c787a53544dfa8c985bb30191cf68c455a144b"), looks := false }, kinds := [], alts := [], laidByText := true, laidKinds := [.data, .pinned], laidTests := true, laidLooks := .later }
def SweepLastUptoCardSaid : Prop := Claim7.holds Tryz.pinned (.plain (OpenSpec.upto sweepLastSpec)) sweepLastUptoCard

/-- THE SECOND FORM's CARD OF 'spoorlaw12.SweepChained'. -/
def sweepChainedUptoCard : Claim7 := { stood := { row := sweepChainedUptoRow, standIns := [], harness := (true, "17b658a1f282fd0018c63208a6c787a53544dfa8c985bb30191cf68c455a144b"), looks := false }, kinds := [], alts := [], laidByText := true, laidKinds := [.data, .pinned], laidTests := true, laidLooks := .later }
def SweepChainedUptoCardSaid : Prop := Claim7.holds Tryz.pinned (.plain (OpenSpec.upto sweepChainedSpec)) sweepChainedUptoCard
end Rows
end Go.Proofs.YtbbonnbcenhkeaaGreatDoor
