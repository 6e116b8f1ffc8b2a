/-
  Merged: GD, GE.
-/
import Derived.Test.YtbefeobikjnlpaaGreatDoorOXq
import Derived.Test.YtbefeobikjnlpaaGreatDoorGBq
import Derived.Stop.RegionWithIn
namespace Go.Proofs.YtbefeobikjnlpaaGreatDoor
open Go Go.RowKit Go.Shelf
set_option maxRecDepth 100000

attribute [local go_sem] Oper.semAt_some

/-- What a round keeps: all that lay below B; and all cells but those of the block U. -/
structure KpN (B U : Nat) (A C : World) : Prop where
  below : Below B A C
  cells : ∀ j c t fr, j ≠ U → A.heap[j]? = some (.cells c t fr) → C.heap[j]? = some (.cells c t fr)
theorem KpN.refl (B U : Nat) (A : World) : KpN B U A A := ⟨Below.refl _ _, fun _ _ _ _ _ h => h⟩
theorem KpN.trans {B U : Nat} {A C D : World} (h : KpN B U A C) (k : KpN B U C D) : KpN B U A D :=
  ⟨h.below.trans k.below, fun j c t fr hj hc => k.cells j c t fr hj (h.cells j c t fr hj hc)⟩
theorem KpN.put {B U n : Nat} (hB : B ≤ n) (W : World) (l : Nat) (o o' : Obj) (hl : n ≤ l) (ho : W.heap[l]? = some o) (hc : o.isCells = false) (_ : o.isWalk = false) : KpN B U W (W.putObj l o') := by
  refine ⟨⟨rfl, rfl, rfl, by simp [World.putObj], fun k hk => World.putObj_heap_other (by omega)⟩, fun j _ _ _ _ hcs => ?_⟩
  by_cases e : j = l
  · subst e
    rw [ho] at hcs
    cases hcs
    simp [Obj.isCells] at hc
  · exact (World.putObj_heap_other e).trans hcs
theorem KpN.blk {B U : Nat} {A C : World} (h : KpN B U A C) {b : Nat} {c : Array Value} {t : TypeId} (hb : Blk A b c t) (hU : b ≠ U) : Blk C b c t := h.cells b _ _ _ hU hb
theorem KpN.ofBelow {B U : Nat} {A C : World} (hb : Below A.heap.size A C) (hB : B ≤ A.heap.size) : KpN B U A C :=
  ⟨hb.mono hB, fun j _ _ _ _ hc => (hb.block j (Array.getElem?_eq_some_iff.1 hc).1).trans hc⟩
theorem KpN.own {B U n : Nat} {X0 A C : World} {row : Option Nat} (h : KpN B U X0 A) (hg : A.grownBy C row) (hr : ∀ r, row = some r → n ≤ r ∧ ∃ o : Obj, A.heap[r]? = some o ∧ o.isCells = false) (hB : B ≤ n) (hX : B ≤ X0.heap.size) : KpN B U X0 C := by
  have hs := h.below.size
  refine ⟨h.below.trans ⟨hg.os, hg.tape, hg.output, hg.size, fun k hk => hg.block k (by omega) (fun e => by have := (hr k e.symm).1; omega)⟩, fun j c t fr hj hc => ?_⟩
  have hA := h.cells j c t fr hj hc
  refine (hg.block j (Array.getElem?_eq_some_iff.1 hA).1 (fun e => ?_)).trans hA
  obtain ⟨_, o, ho, hoc⟩ := hr j e.symm
  rw [hA] at ho
  cases ho
  simp [Obj.isCells] at hoc
theorem Blk.own {n : Nat} {A C : World} {row : Option Nat} {b : Nat} {c : Array Value} {t : TypeId} (h : Blk A b c t) (hg : A.grownBy C row) (hr : ∀ r, row = some r → n ≤ r ∧ ∃ o : Obj, A.heap[r]? = some o ∧ o.isCells = false) : Blk C b c t := by
  refine (hg.block b h.lt (fun e => ?_)).trans h
  obtain ⟨_, o, ho, hoc⟩ := hr b e.symm
  unfold Blk at h
  rw [h] at ho
  cases ho
  simp [Obj.isCells] at hoc
/-- The parent of a span; 0: none. -/
def ParS (X : List Spot) (id p : Int) : Prop := (∃ k, ∃ h : k < X.length, X[k].nd.id = id ∧ X[k].nd.par = p) ∨ ((∀ i (h : i < X.length), X[i].nd.id ≠ id) ∧ p = 0)
/-- Those above a span. -/
def UpL (X : List Spot) : Int → List Int → Prop
  | id, [] => ParS X id 0
  | id, p :: r => ParS X id p ∧ p ≠ 0 ∧ UpL X p r
/-- The next one above, of A from its k-th on. -/
theorem UpL.step {X : List Spot} (hr : RiseS X) : ∀ {id : Int} {A : List Int} {d : Nod} (_ : UpL X id A) (_ : (∃ k, ∃ h : k < X.length, X[k].nd.id = id ∧ X[k].nd = d) ∨ ((∀ i (h : i < X.length), X[i].nd.id ≠ id) ∧ d = zNd)), d.par = A[0]?.getD 0
  | id, A, d, hA, hd => by
    have hp : ∀ p, ParS X id p → d.par = p := fun p hp => by
      rcases hd with ⟨k, hk, e1, e2⟩ | ⟨hno, rfl⟩
      · rcases hp with ⟨j, hj, e3, e4⟩ | ⟨hno, _⟩
        · have := rise_same hr hk hj (by rw [e1, e3])
          subst this
          rw [← e2]; exact e4
        · exact absurd e1 (hno k hk)
      · rcases hp with ⟨j, hj, e3, _⟩ | ⟨_, e⟩
        · exact absurd e3 (hno j hj)
        · rw [e]; rfl
    cases A with
    | nil => exact hp 0 hA
    | cons p r => simpa using hp p hA.1
theorem UpL.drop {X : List Spot} : ∀ {id : Int} {A : List Int} (_ : UpL X id A) (k : Nat) (h : k < A.length), UpL X A[k] (A.drop (k + 1)) ∧ A[k] ≠ 0
  | _, [], _, _, h => absurd h (by simp)
  | _, p :: r, hA, 0, _ => ⟨hA.2.2, hA.2.1⟩
  | _, p :: r, hA, k + 1, h => UpL.drop hA.2.2 k (by simpa using h)
end Go.Proofs.YtbefeobikjnlpaaGreatDoor

namespace Go.Proofs.YtbefeobikjnlpaaGreatDoor
open Go Go.RowKit Go.Shelf
set_option maxRecDepth 100000

attribute [local go_sem] Oper.semAt_some

/-- No way down is longer. -/
def Deep (K : Nat → List Int) : Nat → List Int → Prop
  | 0, L => L = []
  | fu + 1, L => ∀ x ∈ L, Deep K fu (K x.toNat)
end Go.Proofs.YtbefeobikjnlpaaGreatDoor
