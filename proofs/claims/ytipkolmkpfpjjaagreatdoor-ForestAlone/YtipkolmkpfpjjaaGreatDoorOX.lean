/-
  OX.
-/
import Derived.Test.YtipkolmkpfpjjaaGreatDoorYcq
import Derived.Test.YtipkolmkpfpjjaaGreatDoorFP
namespace Go.Proofs.YtipkolmkpfpjjaaGreatDoor
open Go Go.RowKit
set_option maxRecDepth 100000

theorem alloc_atS {W : World} {c : Array Value} {T : TypeId} {b : Nat} (h : b = W.heap.size) : Blk (W.alloc (.cells c T)) b c T := by
  subst h
  exact Blk.new _ _ _
theorem rise_same {X : List Spot} (hr : RiseS X) {i j : Nat} (hi : i < X.length) (hj : j < X.length) (e : X[i].nd.id = X[j].nd.id) : i = j := by
  rcases Nat.lt_trichotomy i j with h | h | h
  · have := hr i j hi hj h; omega
  · exact h
  · have := hr j i hj hi h; omega
/-- Node, by what is told. -/
theorem node_told (f sb : Nat) (X : List Spot) (K : Nat → List Int) (rv : Value) (R : List Int) (id : Int) (w : World) (h : ForestAt w f sb X K rv R) :
    Calls Tryz.prog 15 #[.pointer (some ⟨f, 0, none⟩), .int .u64 id] w fun e w' => ∃ d b, e = .returned (.tuple #[ndV d, .bool b]) ∧ ((∃ k, ∃ h : k < X.length, X[k].nd.id = id ∧ X[k].nd = d ∧ b = true) ∨ ((∀ i (h : i < X.length), X[i].nd.id ≠ id) ∧ d = zNd ∧ b = false)) ∧ Below w.heap.size w w' := by
  refine (node_any f sb X K rv R id w h).mono ?_
  rintro e w' ⟨⟨k, hk, h1, rfl⟩ | ⟨h1, rfl⟩, hb⟩
  · exact ⟨_, true, rfl, Or.inl ⟨k, hk, h1, rfl, rfl⟩, hb⟩
  · exact ⟨_, false, rfl, Or.inr ⟨h1, rfl, rfl⟩, hb⟩
theorem node_at {W : World} {f sb : Nat} {X : List Spot} {K : Nat → List Int} {rv : Value} {R : List Int} (h : ForestAt W f sb X K rv R) (k : Nat) (hk : k < X.length) (id : Int) (hid : X[k].nd.id = id) :
    Calls Tryz.prog 15 #[.pointer (some ⟨f, 0, none⟩), .int .u64 id] W fun e w' => e = .returned (.tuple #[ndV X[k].nd, .bool true]) ∧ Below W.heap.size W w' := by
  refine (node_told f sb X K rv R id W h).mono ?_
  rintro e w' ⟨d, b, rfl, hd, hb⟩
  rcases hd with ⟨j, hj, h1, h2, rfl⟩ | ⟨h1, _, _⟩
  · have := rise_same h.rise hj hk (by rw [h1, hid])
    subst this
    exact ⟨by rw [h2], hb⟩
  · exact absurd hid (h1 k hk)
theorem node_no {W : World} {f sb : Nat} {X : List Spot} {K : Nat → List Int} {rv : Value} {R : List Int} (h : ForestAt W f sb X K rv R) (id : Int) (hid : ∀ k (hk : k < X.length), X[k].nd.id ≠ id) :
    Calls Tryz.prog 15 #[.pointer (some ⟨f, 0, none⟩), .int .u64 id] W fun e w' => e = .returned (.tuple #[ndV zNd, .bool false]) ∧ Below W.heap.size W w' := by
  refine (node_told f sb X K rv R id W h).mono ?_
  rintro e w' ⟨d, b, rfl, hd, hb⟩
  rcases hd with ⟨j, hj, h1, _⟩ | ⟨_, rfl, rfl⟩
  · exact absurd h1 (hid j hj)
  · exact ⟨rfl, hb⟩
end Go.Proofs.YtipkolmkpfpjjaaGreatDoor
