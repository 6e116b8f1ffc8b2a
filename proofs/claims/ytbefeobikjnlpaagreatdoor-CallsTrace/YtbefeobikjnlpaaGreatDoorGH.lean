/-
  GH.
-/
import Derived.Test.YtbefeobikjnlpaaGreatDoorGBq
import Derived.Test.YtbefeobikjnlpaaGreatDoorGFq
namespace Go.Proofs.YtbefeobikjnlpaaGreatDoor
open Go Go.RowKit Go.Shelf
set_option maxRecDepth 100000

theorem StepsA.congr {F : Fence} {n : Nat} {P : Program} {g : Nat} {lb : Array Value} {N : Nat} {args args' : Nat → Array Value} {Kp : World → World → Prop} {w : World} (h : StepsA F n P g lb N args Kp w) (he : ∀ k, k < N → args k = args' k) : StepsA F n P g lb N args' Kp w :=
  fun l J W hW hJ hY h0 => h l J W hW hJ (fun k W1 hk hj => by rw [he k hk]; exact hY k W1 hk hj) h0
end Go.Proofs.YtbefeobikjnlpaaGreatDoor
