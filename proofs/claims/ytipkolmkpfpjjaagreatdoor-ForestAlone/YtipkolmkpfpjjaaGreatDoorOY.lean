/-
  OY.
-/
import Derived.Test.YtipkolmkpfpjjaaGreatDoorOX
import Derived.Test.YtipkolmkpfpjjaaGreatDoorOZ
namespace Go.Proofs.YtipkolmkpfpjjaaGreatDoor
open Go Go.RowKit
set_option maxRecDepth 100000

theorem children_at (f sb : Nat) (X : List Spot) (K : Nat → List Int) (rvv : Value) (R : List Int) (fin : Nat → Nod) (KN : Nat → List Nat) (W : World) (h : ForestAt W f sb X K rvv R) (nd : ∀ i (h : i < X.length), X[i].nd = fin i) (x : Nat) (hx : x < X.length) (kn : K x = (KN x).map (fun c : Nat => (c : Int))) (kl : ∀ c ∈ KN x, c < X.length) :
    Calls Tryz.prog 11 #[.pointer (some ⟨f, 0, none⟩), .int .u64 (fin x).id] W fun e w' => ∃ r, e = .returned (.slice (some ⟨r, 0, none⟩) (KN x).length (KN x).length) ∧ Blk w' r (fillC .u64 ((KN x).map (fun c => (fin c).id)) 0) 35 ∧ W.heap.size ≤ r ∧ Below W.heap.size W w' := by
  refine (children_any f sb X K rvv R (fin x).id W h).mono ?_
  rintro e w' ⟨⟨k, hk, h1, r, rfl, h2, h3⟩ | ⟨h1, _⟩, hb⟩
  · have hkx : k = x := rise_same h.rise hk hx (by rw [h1, nd x hx])
    subst hkx
    refine ⟨r, by rw [kn, List.length_map], ?_, h3, hb⟩
    have e : idsOf X (K k) = (KN k).map (fun c => (fin c).id) := by
      rw [kn]
      unfold idsOf
      rw [List.map_map]
      refine List.map_congr_left fun c hc => ?_
      have hcX := kl c hc
      simp [hcX, nd c hcX]
    rw [← e]
    exact h2
  · exact absurd (by rw [nd x hx]) (h1 x hx)
end Go.Proofs.YtipkolmkpfpjjaaGreatDoor
