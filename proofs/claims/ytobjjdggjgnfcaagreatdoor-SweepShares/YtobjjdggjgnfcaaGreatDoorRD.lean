/-
  RD.
-/
import Derived.Test.YtobjjdggjgnfcaaGreatDoorRAq
import Derived.Test.YtobjjdggjgnfcaaGreatDoorVRq
import Derived.Test.YtobjjdggjgnfcaaGreatDoorYcq
import Derived.Test.YtobjjdggjgnfcaaGreatDoorSOq
import Derived.Test.YtobjjdggjgnfcaaGreatDoorMwq
import Derived.Test.YtobjjdggjgnfcaaGreatDoorPR
import Derived.Test.YtobjjdggjgnfcaaGreatDoorZmq
import Derived.Test.YtobjjdggjgnfcaaGreatDoorFSq
import Derived.Test.YtobjjdggjgnfcaaGreatDoorFIq
import Derived.Test.YtobjjdggjgnfcaaGreatDoorOZ
import Derived.Test.YtobjjdggjgnfcaaGreatDoorFKq
import Derived.Test.YtobjjdggjgnfcaaGreatDoorFXq
import Derived.BigQuiet
import Derived.Test.YtobjjdggjgnfcaaGreatDoorWaq
import Derived.Test.YtobjjdggjgnfcaaGreatDoorOXq
import Derived.Test.YtobjjdggjgnfcaaGreatDoorPMq
import Derived.Test.YtobjjdggjgnfcaaGreatDoorPF
import Derived.Test.YtobjjdggjgnfcaaGreatDoorPIq
namespace Go.Proofs.YtobjjdggjgnfcaaGreatDoor
open Go Go.RowKit
set_option maxRecDepth 100000

theorem tileF_mem {hi : Int} : ∀ (M : List (Nat × Int × Int)) (lo : Int), TileF hi lo M → lo ≤ hi ∧ ∀ l ∈ M, lo ≤ l.2.1 ∧ l.2.1 < l.2.2 ∧ l.2.2 ≤ hi
  | [], lo, h => ⟨by have e : lo = hi := h; omega, fun l hl => by cases hl⟩
  | (y, a, b) :: r, lo, h => by
    obtain ⟨h1, h2, h3⟩ := h
    obtain ⟨k1, k2⟩ := tileF_mem r b h3
    refine ⟨by omega, fun l hl => ?_⟩
    rcases List.mem_cons.1 hl with rfl | hl
    · exact ⟨by simp only; omega, h2, k1⟩
    · obtain ⟨m1, m2, m3⟩ := k2 l hl
      exact ⟨by omega, m2, m3⟩
theorem FoB.legB {Y : List Sp} {C : List Int} {dp : Nat → Nat} {fin : Nat → Nod} {X : List Spot} {K : Nat → List Int} {R : List Int} (h : FoB Y C dp fin X K R) {x : Nat} (hx : x < Y.length) {L : List (Nat × Int × Int)} (hP : PathR fin (cnK fin K) x (fin x).til L) {l : Nat × Int × Int} (hl : l ∈ L) : l.1 < Y.length ∧ 0 ≤ l.2.1 ∧ l.2.1 < l.2.2 ∧ l.2.2 ≤ 4611686018427387904 := by
  have hi := h.inn (dp x) x rfl hx
  obtain ⟨a, b, c⟩ := (tileF_mem _ _ (h.legs hx hP).1).2 l (List.mem_reverse.2 hl)
  exact ⟨(h.bel (hP.bel l hl) hx).1, by omega, b, by omega⟩
end Go.Proofs.YtobjjdggjgnfcaaGreatDoor
