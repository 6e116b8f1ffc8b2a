/-
  Rw.
-/
import Derived.Test.YtipkolmkpfpjjaaGreatDoorFBq
import Derived.Deep.RegionHeld3
import Derived.Deep.RegionWith
namespace Go.Proofs.YtipkolmkpfpjjaaGreatDoor
open Go.Shelf Go.RowKit
set_option maxRecDepth 100000

theorem Holds.cut {w : World} {g : Nat} {K : List Int} (h : RowAt w g K) (t n : Nat) (hn : t + n ≤ K.length) (m : Nat) : Holds (w.drewN m) (some ⟨g, t, none⟩) n ((K.drop t).take n) := by
  refine ⟨by simp; omega, fun j u hj => ⟨_, rfl, ?_⟩⟩
  have hj' : j < n := by
    by_cases hjn : j < n
    · exact hjn
    · rw [List.getElem?_eq_none (by simp; omega)] at hj; simp at hj
  rw [Addr.add_lit]
  show w.cell? ⟨g, t + j, none⟩ = some u
  rw [h.cell (t + j) (by omega)]
  simp [List.getElem?_take_of_lt hj'] at hj
  obtain ⟨a, ha, rfl⟩ := hj
  simp [List.getD, ha]

end Go.Proofs.YtipkolmkpfpjjaaGreatDoor
