/-
  Merged: HA, HB, HC, HD, HE.
-/
import Derived.Test.YtbefeobikjnlpaaGreatDoorGDq
import Derived.Test.YtbefeobikjnlpaaGreatDoorGFq
import Derived.Test.YtbefeobikjnlpaaGreatDoorQAq
import Derived.Test.YtbefeobikjnlpaaGreatDoorOZ
namespace Go.Proofs.YtbefeobikjnlpaaGreatDoor
open Go Go.RowKit Go.Shelf
set_option maxRecDepth 100000

attribute [local go_sem] Oper.semAt_some

/-- What is kept but cells of some types from m on. -/
structure UpdT (TI : TypeId → Prop) (m : Nat) (A B : World) : Prop where
  os : B.os = A.os
  tape : B.tape = A.tape
  output : B.output = A.output
  size : A.heap.size ≤ B.heap.size
  block : ∀ j, j < A.heap.size → (∀ c t fr, A.heap[j]? = some (.cells c t fr) → TI t → j < m) → B.heap[j]? = A.heap[j]?
theorem UpdT.ofBelow {TI : TypeId → Prop} {m : Nat} {A B : World} (h : Below A.heap.size A B) : UpdT TI m A B := ⟨h.os, h.tape, h.output, h.size, fun j hj _ => h.block j hj⟩
theorem UpdT.blk {TI : TypeId → Prop} {m b : Nat} {A B : World} {c : Array Value} {t : TypeId} (h : UpdT TI m A B) (hb : Blk A b c t) (ht : ¬ TI t) : Blk B b c t := by
  have hb' := hb
  unfold Blk at hb'
  refine (h.block b hb.lt fun c' t' fr' e ht' => ?_).trans hb'
  rw [hb'] at e
  cases e
  exact absurd ht' ht
theorem UpdT.row {TI : TypeId → Prop} {m base s n : Nat} {A B : World} {e : TypeId} {v : Value} {xs : List Value} (h : UpdT TI m A B) (hr : A.ownsRow base e s v n xs) (ht : ¬ TI e) : B.ownsRow base e s v n xs := by
  refine ⟨hr.1, ?_⟩
  rcases hr.2 with h' | ⟨g, cap, cur, e1, hb, hg, r⟩
  · exact Or.inl h'
  · refine Or.inr ⟨g, cap, cur, e1, hb, (h.block g (Array.getElem?_eq_some_iff.1 hg).1 fun c' t' fr' e' ht' => ?_).trans hg, r⟩
    rw [hg] at e'
    cases e'
    exact absurd ht' ht
/-- What a round keeps: all that lay below B; and all cells but those of U. -/
structure KpG (B : Nat) (U : Nat → TypeId → Prop) (A C : World) : Prop where
  below : Below B A C
  cells : ∀ j c t fr, ¬ U j t → A.heap[j]? = some (.cells c t fr) → C.heap[j]? = some (.cells c t fr)
theorem KpG.refl (B : Nat) (U : Nat → TypeId → Prop) (A : World) : KpG B U A A := ⟨Below.refl _ _, fun _ _ _ _ _ h => h⟩
theorem KpG.trans {B : Nat} {U : Nat → TypeId → Prop} {A C D : World} (h : KpG B U A C) (k : KpG B U C D) : KpG B U A D :=
  ⟨h.below.trans k.below, fun j c t fr hj hc => k.cells j c t fr hj (h.cells j c t fr hj hc)⟩
theorem KpG.put {B n : Nat} {U : Nat → TypeId → Prop} (hB : B ≤ n) (W : World) (l : Nat) (o o' : Obj) (hl : n ≤ l) (ho : W.heap[l]? = some o) (hc : o.isCells = false) (_ : o.isWalk = false) : KpG B U W (W.putObj l o') := by
  refine ⟨⟨rfl, rfl, rfl, by simp [World.putObj], fun k hk => World.putObj_heap_other (by omega)⟩, fun j _ _ _ _ hcs => ?_⟩
  by_cases e : j = l
  · subst e
    rw [ho] at hcs
    cases hcs
    simp [Obj.isCells] at hc
  · exact (World.putObj_heap_other e).trans hcs
theorem KpG.blk {B : Nat} {U : Nat → TypeId → Prop} {A C : World} (h : KpG B U A C) {b : Nat} {c : Array Value} {t : TypeId} (hb : Blk A b c t) (hU : ¬ U b t) : Blk C b c t := h.cells b _ _ _ hU hb
theorem KpG.ofBelow {B : Nat} {U : Nat → TypeId → Prop} {A C : World} (hb : Below A.heap.size A C) (hB : B ≤ A.heap.size) : KpG B U A C :=
  ⟨hb.mono hB, fun j _ _ _ _ hc => (hb.block j (Array.getElem?_eq_some_iff.1 hc).1).trans hc⟩
theorem KpG.own {B n : Nat} {U : Nat → TypeId → Prop} {X0 A C : World} {row : Option Nat} (h : KpG B U X0 A) (hg : A.grownBy C row) (hr : ∀ r, row = some r → n ≤ r ∧ ∃ o : Obj, A.heap[r]? = some o ∧ o.isCells = false) (hB : B ≤ n) (hX : B ≤ X0.heap.size) : KpG B U X0 C := by
  have hs := h.below.size
  refine ⟨h.below.trans ⟨hg.os, hg.tape, hg.output, hg.size, fun k hk => hg.block k (by omega) (fun e => by have := (hr k e.symm).1; omega)⟩, fun j c t fr hj hc => ?_⟩
  have hA := h.cells j c t fr hj hc
  refine (hg.block j (Array.getElem?_eq_some_iff.1 hA).1 (fun e => ?_)).trans hA
  obtain ⟨_, o, ho, hoc⟩ := hr j e.symm
  rw [hA] at ho
  cases ho
  simp [Obj.isCells] at hoc
end Go.Proofs.YtbefeobikjnlpaaGreatDoor

namespace Go.Proofs.YtbefeobikjnlpaaGreatDoor
open Go Go.RowKit Go.Shelf
set_option maxRecDepth 100000

end Go.Proofs.YtbefeobikjnlpaaGreatDoor

namespace Go.Proofs.YtbefeobikjnlpaaGreatDoor
open Go Go.RowKit Go.Shelf
set_option maxRecDepth 100000

end Go.Proofs.YtbefeobikjnlpaaGreatDoor

namespace Go.Proofs.YtbefeobikjnlpaaGreatDoor
open Go Go.RowKit Go.Shelf
set_option maxRecDepth 100000

attribute [local go_sem] Oper.semAt_some

end Go.Proofs.YtbefeobikjnlpaaGreatDoor

namespace Go.Proofs.YtbefeobikjnlpaaGreatDoor
open Go Go.RowKit Go.Shelf
set_option maxRecDepth 100000

attribute [local go_sem] Oper.semAt_some

end Go.Proofs.YtbefeobikjnlpaaGreatDoor
