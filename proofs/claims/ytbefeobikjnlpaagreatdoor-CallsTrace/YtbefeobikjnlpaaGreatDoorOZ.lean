/-
  OZ.
-/
import Derived.Test.YtbefeobikjnlpaaGreatDoorSOq
import Derived.Test.YtbefeobikjnlpaaGreatDoorMwq
namespace Go.Proofs.YtbefeobikjnlpaaGreatDoor
open Go Go.RowKit
set_option maxRecDepth 100000

/-- Spots, each ahead of those below it. -/
def preN (K : Nat → List Nat) : Nat → List Nat → List Nat
  | 0, _ => []
  | fu + 1, L => L.flatMap (fun x => x :: preN K fu (K x))
def DeepN (K : Nat → List Nat) : Nat → List Nat → Prop
  | 0, L => L = []
  | fu + 1, L => ∀ x ∈ L, DeepN K fu (K x)
theorem preN_one (K : Nat → List Nat) (fu x : Nat) : preN K (fu + 1) [x] = x :: preN K fu (K x) := by
  show [x].flatMap (fun x => x :: preN K fu (K x)) = _
  simp
theorem preN_mem (K : Nat → List Nat) (fu : Nat) (L : List Nat) (h : DeepN K fu L) : ∀ x ∈ L, x ∈ preN K fu L := fun x hx => by
  cases fu with
  | zero => rw [show L = [] from h] at hx; cases hx
  | succ fu =>
    show x ∈ L.flatMap (fun x => x :: preN K fu (K x))
    exact List.mem_flatMap.2 ⟨x, hx, by simp⟩
def blkOf (v : Value) : Nat := (v.ownBlock).getD 0
theorem DeepN.one {K : Nat → List Nat} {fu : Nat} {L : List Nat} (h : DeepN K fu L) {c : Nat} (hc : c ∈ L) : DeepN K fu [c] := by
  cases fu with
  | zero => rw [show L = [] from h] at hc; cases hc
  | succ fu => intro y hy; simp at hy; subst hy; exact h y hc
theorem owns_sliceS {w : World} {base n s : Nat} {e : TypeId} {v : Value} {xs : List Value} (h : w.ownsRow base e s v n xs) : ∃ ad cap, v = .slice ad n cap := by
  rcases h.2 with ⟨e1, e2⟩ | ⟨g, cap, cur, e1, _⟩
  · exact ⟨none, 0, by rw [e1, e2]⟩
  · exact ⟨_, cap, e1⟩
end Go.Proofs.YtbefeobikjnlpaaGreatDoor
