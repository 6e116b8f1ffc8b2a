/-
  QsL.
-/
import Derived.Test.YtiflfapdffkcbaaGreatDoorQsK
import Derived.Test.YtiflfapdffkcbaaGreatDoorQsG
import Derived.Test.YtiflfapdffkcbaaGreatDoorQsH
namespace Go.Proofs.YtiflfapdffkcbaaGreatDoor.qs
open Go Go.RowKit
set_option maxRecDepth 100000

theorem PreU.perm {a b : Nat} {L L' : List Int} (h : PreU a b L) (hp : PermOn a b L L') (hb : b ≤ L.length) : PreU a b L' := fun ha => h.after hp hb ha
/-- All of a0..b0 stands in order but for what is left to sort, a..b. -/
def OutU (a0 b0 a b : Nat) (L : List Int) : Prop := ∀ i j, a0 ≤ i → i < j → j < b0 → (i < a ∨ b ≤ j) → atL L i ≤ atL L j
theorem OutU.start (a b : Nat) (L : List Int) : OutU a b a b L := fun _ _ _ _ _ h4 => absurd h4 (by omega)
theorem OutU.done {a0 b0 a b : Nat} {L : List Int} (h : OutU a0 b0 a b L) (hs : SortedOn a b L) : SortedOn a0 b0 L := fun i j h1 h2 h3 => by
  by_cases h4 : i < a ∨ b ≤ j
  · exact h i j h1 h2 h3 h4
  · exact hs i j (by omega) h2 (by omega)
theorem OutU.perm {a0 b0 a b : Nat} {L L' : List Int} (h : OutU a0 b0 a b L) (hp : PermOn a b L L') (hb : b ≤ L.length) (hb0 : b ≤ b0) (ha0 : a0 ≤ a) : OutU a0 b0 a b L' := fun i j h1 h2 h3 h4 => by
  rcases h4 with h5 | h5
  · rw [hp.out hb i (Or.inl h5)]
    by_cases h6 : a ≤ j ∧ j < b
    · exact hp.all hb (fun x => atL L i ≤ x) (fun k h7 h8 => h i k h1 (by omega) (by omega) (Or.inl h5)) j h6.1 h6.2
    · rw [hp.out hb j (by omega)]
      exact h i j h1 h2 h3 (Or.inl h5)
  · rw [hp.out hb j (Or.inr h5)]
    by_cases h6 : a ≤ i ∧ i < b
    · exact hp.all hb (fun x => x ≤ atL L j) (fun k h7 h8 => h k j (by omega) (by omega) h3 (Or.inr h5)) i h6.1 h6.2
    · rw [hp.out hb i (by omega)]
      exact h i j h1 h2 h3 (Or.inr h5)
/-- Behind partitionEqual. -/
theorem OutU.eq {a0 b0 a b m : Nat} {L : List Int} {v : Int} (h : OutU a0 b0 a b L) (hP : PreU a b L) (ha : 0 < a) (hv : ¬ atL L (a - 1) < v) (h1 : a < m) (_h2 : m ≤ b) (hl : ∀ k, a ≤ k → k < m → ¬ v < atL L k) (hr : ∀ k, m ≤ k → k < b → v < atL L k) : OutU a0 b0 m b L ∧ PreU m b L :=
  ⟨fun i j k1 k2 k3 k4 => by
    by_cases k5 : i < a ∨ b ≤ j
    · exact h i j k1 k2 k3 k5
    · have e1 := hl i (by omega) (by omega)
      by_cases k6 : j < m
      · have e2 := hP ha j (by omega) (by omega)
        omega
      · have e2 := hr j (by omega) (by omega)
        omega,
   fun _ k k1 k2 => by
    have e1 := hl (m - 1) (by omega) (by omega)
    have e2 := hr k k1 k2
    omega⟩
theorem PartP.permL {a b m : Nat} {L L' : List Int} (h : PartP a b m L) (hp : PermOn a m L L') (hb : b ≤ L.length) : PartP a b m L' := by
  obtain ⟨h1, h2, h3, h4⟩ := h
  have em := hp.out (by omega) m (Or.inr (by omega))
  refine ⟨h1, h2, ?_, ?_⟩
  · rw [em]
    exact hp.all (by omega) (fun x => x ≤ atL L m) h3
  · intro k k1 k2
    rw [em, hp.out (by omega) k (Or.inr (by omega))]
    exact h4 k k1 k2
theorem PartP.permR {a b m : Nat} {L L' : List Int} (h : PartP a b m L) (hp : PermOn (m + 1) b L L') (hb : b ≤ L.length) : PartP a b m L' := by
  obtain ⟨h1, h2, h3, h4⟩ := h
  have em := hp.out hb m (Or.inl (by omega))
  refine ⟨h1, h2, ?_, ?_⟩
  · intro k k1 k2
    rw [em, hp.out hb k (Or.inl (by omega))]
    exact h3 k k1 k2
  · rw [em]
    exact hp.all hb (fun x => atL L m ≤ x) h4
theorem PartP.preL {a b m : Nat} {L : List Int} (h : PartP a b m L) (hP : PreU a b L) : PreU a m L := fun ha k h1 h2 => hP ha k h1 (by have := h.2.1; omega)
theorem PartP.preR {a b m : Nat} {L : List Int} (h : PartP a b m L) : PreU (m + 1) b L := fun _ k h1 h2 => by
  rw [show m + 1 - 1 = m from rfl]
  exact h.2.2.2 k (by omega) h2
theorem OutU.left {a0 b0 a b m : Nat} {L : List Int} (h : OutU a0 b0 a b L) (hp : PartP a b m L) (hs : SortedOn a m L) : OutU a0 b0 (m + 1) b L := fun i j h1 h2 h3 h4 => by
  by_cases h5 : i < a ∨ b ≤ j
  · exact h i j h1 h2 h3 h5
  · obtain ⟨p1, p2, p3, p4⟩ := hp
    by_cases h6 : j < m
    · exact hs i j (by omega) h2 h6
    · by_cases h7 : i < m
      · have e1 := p3 i (by omega) h7
        by_cases h8 : j = m
        · rw [h8]; exact e1
        · exact Int.le_trans e1 (p4 j (by omega) (by omega))
      · have e : i = m := by omega
        rw [e]
        exact p4 j (by omega) (by omega)
theorem OutU.right {a0 b0 a b m : Nat} {L : List Int} (h : OutU a0 b0 a b L) (hp : PartP a b m L) (hs : SortedOn (m + 1) b L) : OutU a0 b0 a m L := fun i j h1 h2 h3 h4 => by
  by_cases h5 : i < a ∨ b ≤ j
  · exact h i j h1 h2 h3 h5
  · obtain ⟨p1, p2, p3, p4⟩ := hp
    by_cases h6 : m < i
    · exact hs i j (by omega) h2 (by omega)
    · by_cases h7 : i = m
      · rw [h7]
        exact p4 j (by omega) (by omega)
      · have e1 := p3 i (by omega) (by omega)
        by_cases h8 : j = m
        · rw [h8]; exact e1
        · exact Int.le_trans e1 (p4 j (by omega) (by omega))
end Go.Proofs.YtiflfapdffkcbaaGreatDoor.qs
