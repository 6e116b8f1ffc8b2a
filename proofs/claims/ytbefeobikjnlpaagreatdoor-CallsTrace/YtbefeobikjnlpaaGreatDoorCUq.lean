/-
  Merged: CU, CV, CX, CY.
-/
import Derived.Test.YtbefeobikjnlpaaGreatDoorCHq
import Derived.Shelf.SlSortCmp.WholeK
import Derived.Shelf.SlSortCmp.NoneTotal
import Derived.Shelf.SlicesE.Clone
import Derived.Shelf.Lay
import Derived.Ground.SlsfProg
import Derived.Ground.SlgnProg
import Derived.Test.YtbefeobikjnlpaaGreatDoorCMq
namespace Go.Proofs.YtbefeobikjnlpaaGreatDoor.sk
open Go Go.Shelf Go.RowKit Go.Lib Go.Sort
set_option maxRecDepth 100000

theorem OwnCal.free {base : Nat} {w : World} {g n cap : Nat} {l : List Cal} (h : OwnCal base w (.slice (some ⟨g, 0, none⟩) n cap) l) (j : Nat) : w.frozen? ⟨g, j, none⟩ = false := by
  rcases h.2 with ⟨e, _⟩ | ⟨g', cap', cur, e, _, hh, _⟩
  · simp at e
  · simp at e
    obtain ⟨rfl, _⟩ := e
    exact blk_free hh j
end Go.Proofs.YtbefeobikjnlpaaGreatDoor.sk

namespace Go.Proofs.YtbefeobikjnlpaaGreatDoor.sk
open Go Go.RowKit
set_option maxRecDepth 100000

/-- What inOrder tells. -/
def OrdP (l : List Cal) (w : World) (e : Ending) (w' : World) : Prop := ∃ ao n c l', e = .returned (.slice ao n c) ∧ Hid (CalAt w' ao n l' ∧ l.Perm l' ∧ SortedC l') ∧ (n ≤ c ∧ c ≤ maxLen) ∧ Below w.heap.size w w'
end Go.Proofs.YtbefeobikjnlpaaGreatDoor.sk

namespace Go.Proofs.YtbefeobikjnlpaaGreatDoor.sk
open Go Go.RowKit
set_option maxRecDepth 100000

theorem range13C {w : World} {b : Nat} {c : List Value} {T : TypeId} (h : Blk w b c.toArray T) : w.rangeAt b 0 c := fun j v hv => by rw [Nat.zero_add]; exact h.cell j (by rw [List.getElem?_toArray]; exact hv)
/-- The rest of a list lies behind its first one. -/
theorem CalAt.tail {w : World} {b off m : Nat} {y : Cal} {D : List Cal} (h : CalAt w (some ⟨b, off, none⟩) m (y :: D)) : CalAt w (some ⟨b, off + 5, none⟩) (m - 1) D := by
  have hl := h.len
  simp at hl
  refine ⟨by omega, fun hp => ?_, fun a ha => by injection ha with ha; subst ha; exact h.lt ⟨b, off, none⟩ rfl⟩
  obtain ⟨b', off', e, hr⟩ := h.lies (by omega)
  injection e with e
  injection e with e1 e2
  subst e1
  subst e2
  refine ⟨b, off + 5, rfl, fun i hi => ?_⟩
  have := hr (i + 1) (by simp; omega)
  simp only [List.getElem_cons_succ] at this
  rwa [show off + (i + 1) * 5 = off + 5 + i * 5 by omega] at this
theorem CalAt.empty {w : World} {ao : Option Addr} (h : ∀ a, ao = some a → a.block < w.heap.size) : CalAt w ao 0 [] := ⟨rfl, (fun h => by omega), h⟩
theorem CalAt.head {w : World} {ao : Option Addr} {m : Nat} {y : Cal} {D : List Cal} (h : CalAt w ao m (y :: D)) : ∃ b off, ao = some ⟨b, off, none⟩ ∧ w.rangeAt b off (calL y) := by
  have hl := h.len
  simp at hl
  obtain ⟨b, off, e, hr⟩ := h.lies (by omega)
  have := hr 0 (by simp)
  simp at this
  exact ⟨b, off, e, this⟩
/-- A list that is read on: where its rest lies. -/
structure RestAt (base : Nat) (w : World) (v : Value) (D : List Cal) : Prop where
  ex : ∃ ao m c, v = .slice ao m c ∧ CalAt w ao m D ∧ m ≤ c ∧ c ≤ maxLen ∧ ∀ a, ao = some a → a.block < base
theorem RestAt.below {base : Nat} {w w' : World} {v : Value} {D : List Cal} (h : RestAt base w v D) (hb : Below w.heap.size w w') : RestAt base w' v D := by
  obtain ⟨ao, m, c, h1, h2, h3⟩ := h.ex
  exact ⟨ao, m, c, h1, h2.below hb, h3⟩
end Go.Proofs.YtbefeobikjnlpaaGreatDoor.sk

namespace Go.Proofs.YtbefeobikjnlpaaGreatDoor.sk
open Go Go.RowKit
set_option maxRecDepth 100000

end Go.Proofs.YtbefeobikjnlpaaGreatDoor.sk
