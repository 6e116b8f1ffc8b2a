/-
  Merged: GF, GG.
-/
import Derived.Test.YtbefeobikjnlpaaGreatDoorGDq
namespace Go.Proofs.YtbefeobikjnlpaaGreatDoor
open Go Go.RowKit Go.Shelf
set_option maxRecDepth 100000

end Go.Proofs.YtbefeobikjnlpaaGreatDoor

namespace Go.Proofs.YtbefeobikjnlpaaGreatDoor
open Go Go.RowKit
set_option maxRecDepth 100000

/-- The first example of the chapter. -/
def eX : List Sp := [spE svA 3 2 0 5, spE svA 4 9 2 4, spE svA 1 0 0 10, spE svA 2 1 3 12]
def eY : List Sp := [spE svA 1 0 0 10, spE svA 2 1 3 12, spE svA 3 2 0 5, spE svA 4 9 2 4]
theorem eXY : eX.Perm eY := List.perm_append_comm (l₁ := [spE svA 3 2 0 5, spE svA 4 9 2 4]) (l₂ := [spE svA 1 0 0 10, spE svA 2 1 3 12])
theorem eRise : eY.Pairwise (fun a b => a.id < b.id) := by
  simp [eY, spE]
theorem eOne : OneT eX := by
  refine oneE (fun a ha => ?_) (by simp [eX]) (by simp [eX, spE])
  simp only [eX, List.mem_cons, List.not_mem_nil, or_false] at ha
  rcases ha with rfl | rfl | rfl | rfl
  all_goals exact ⟨_, _, _, _, _, rfl, by decide, by omega, by omega, by decide +kernel⟩
theorem eNm : nmOf (zs eY) = [-1, 0, 1, -1] := by decide +kernel
def eDp : Nat → Nat
  | 1 => 1
  | 2 => 2
  | _ => 0
def eFin : Nat → Nod
  | 0 => ⟨1, 0, 1, 1, 0, 0, 10⟩
  | 1 => ⟨2, 1, 0, 1, 1, 3, 10⟩
  | 2 => ⟨3, 2, 0, 1, 2, 3, 5⟩
  | _ => ⟨4, 0, 2, 4, 0, 2, 4⟩
theorem eNo : NoRing (nmOf (zs eY)) eY.length := by
  rw [eNm]
  intro i hi
  rcases four (show i < 4 from hi) with rfl | rfl | rfl | rfl
  · exact Or.inl (by decide +kernel)
  · exact Or.inr (by decide +kernel)
  · exact Or.inr (by decide +kernel)
  · exact Or.inl (by decide +kernel)
theorem eShape : Shape (zs eY) (nmOf (zs eY)) eDp eFin := by
  rw [eNm]
  refine ⟨fun i hi hn => ?_, fun i j hi hj hn => ?_, fun i hi => ?_⟩
  · rcases four (show i < 4 from hi) with rfl | rfl | rfl | rfl
    · exact ⟨rfl, rfl⟩
    · exact absurd hn (by decide)
    · exact absurd hn (by decide)
    · exact ⟨rfl, rfl⟩
  · rcases four (show i < 4 from hi) with rfl | rfl | rfl | rfl
    · exact absurd hn (by simp)
    · have : j = 0 := by simp at hn; omega
      subst this
      exact ⟨rfl, rfl⟩
    · have : j = 1 := by simp at hn; omega
      subst this
      exact ⟨rfl, rfl⟩
    · exact absurd hn (by simp)
  · rcases four (show i < 4 from hi) with rfl | rfl | rfl | rfl <;> exact ⟨by decide, by decide, by decide⟩
/-- What is known of the example's forest. -/
structure ExF (X : List Spot) (K : Nat → List Int) (R : List Int) : Prop where
  len : X.length = 4
  at_ : ∀ i (h : i < X.length), X[i].nd = eFin i ∧ X[i].a = eY[i]?.getD (spE svA 0 0 0 0)
  k0 : K 0 = [1]
  k1 : K 1 = [2]
  k2 : K 2 = []
  k3 : K 3 = []
  r : R = [0, 3]
theorem exF {X : List Spot} {K : Nat → List Int} {R : List Int} (h : FoR eY eFin X K R) : ExF X K R := by
  have hl : X.length = 4 := h.len
  have k := fun i hi => (h.kids i hi).1
  have r := h.roots
  rw [eNm] at k r
  have hk0 : kidsF [-1, 0, 1, -1] eY.length ((0 : Nat) : Int) = [1] := by decide +kernel
  have hk1 : kidsF [-1, 0, 1, -1] eY.length ((1 : Nat) : Int) = [2] := by decide +kernel
  have hk2 : kidsF [-1, 0, 1, -1] eY.length ((2 : Nat) : Int) = [] := by decide +kernel
  have hk3 : kidsF [-1, 0, 1, -1] eY.length ((3 : Nat) : Int) = [] := by decide +kernel
  have hkr : kidsF [-1, 0, 1, -1] eY.length (-1) = [0, 3] := by decide +kernel
  have c0 := k 0 (by decide)
  have c1 := k 1 (by decide)
  have c2 := k 2 (by decide)
  have c3 := k 3 (by decide)
  rw [hk0] at c0
  rw [hk1] at c1
  rw [hk2] at c2
  rw [hk3] at c3
  rw [hkr] at r
  refine ⟨hl, fun i hi => ?_, List.singleton_perm.1 c0 |>.symm, List.singleton_perm.1 c1 |>.symm, List.nil_perm.1 c2, List.nil_perm.1 c3, ?_⟩
  · have hiY : i < eY.length := by rw [← h.len]; exact hi
    obtain ⟨e1, e2⟩ := h.each i hiY hi
    exact ⟨e2, by rw [e1]; simp [hiY]⟩
  · refine pair_of r.1 (by decide) fun x y hR hxy => ?_
    obtain ⟨rfl, rfl⟩ := hxy
    have := r.2
    rw [hR, List.pairwise_cons] at this
    refine this.1 0 (by simp) ?_
    left
    decide
theorem ExF.pre {X : List Spot} {K : Nat → List Int} {R : List Int} (h : ExF X K R) : preF K 4 R = [0, 1, 2, 3] ∧ Deep K 4 R := by
  rw [h.r]
  constructor
  · simp [preF, h.k0, h.k1, h.k2, h.k3]
  · simp [Deep, h.k0, h.k1, h.k2, h.k3]
theorem ExF.up {X : List Spot} {K : Nat → List Int} {R : List Int} (h : ExF X K R) : UpL X 3 [2, 1] := by
  have hl := h.len
  refine ⟨Or.inl ⟨2, by omega, ?_, ?_⟩, by decide, Or.inl ⟨1, by omega, ?_, ?_⟩, by decide, Or.inl ⟨0, by omega, ?_, ?_⟩⟩
  all_goals rw [(h.at_ _ _).1]; rfl
end Go.Proofs.YtbefeobikjnlpaaGreatDoor
