/-
  Merged: GF, GG.
-/
import Derived.Test.YtbefeobikjnlpaaGreatDoorGDq
namespace Go.Proofs.YtbefeobikjnlpaaGreatDoor
open Go Go.RowKit Go.Shelf
set_option maxRecDepth 100000

end Go.Proofs.YtbefeobikjnlpaaGreatDoor

namespace Go.Proofs.YtbefeobikjnlpaaGreatDoor
open Go Go.RowKit
set_option maxRecDepth 100000

def eY : List Sp := [spE svA 1 0 0 10, spE svA 2 1 3 12, spE svA 3 2 0 5, spE svA 4 9 2 4]
def eFin : Nat → Nod
  | 0 => ⟨1, 0, 1, 1, 0, 0, 10⟩
  | 1 => ⟨2, 1, 0, 1, 1, 3, 10⟩
  | 2 => ⟨3, 2, 0, 1, 2, 3, 5⟩
  | _ => ⟨4, 0, 2, 4, 0, 2, 4⟩
/-- What is known of the example's forest. -/
structure ExF (X : List Spot) (K : Nat → List Int) (R : List Int) : Prop where
  len : X.length = 4
  at_ : ∀ i (h : i < X.length), X[i].nd = eFin i ∧ X[i].a = eY[i]?.getD (spE svA 0 0 0 0)
  k0 : K 0 = [1]
  k1 : K 1 = [2]
  k2 : K 2 = []
  k3 : K 3 = []
  r : R = [0, 3]
theorem ExF.up {X : List Spot} {K : Nat → List Int} {R : List Int} (h : ExF X K R) : UpL X 3 [2, 1] := by
  have hl := h.len
  refine ⟨Or.inl ⟨2, by omega, ?_, ?_⟩, by decide, Or.inl ⟨1, by omega, ?_, ?_⟩, by decide, Or.inl ⟨0, by omega, ?_, ?_⟩⟩
  all_goals rw [(h.at_ _ _).1]; rfl
end Go.Proofs.YtbefeobikjnlpaaGreatDoor
