/-
  Wr.
-/
import Derived.Test.YtnffedmcblbkoaaGreatDoorZmq
import Derived.Laws.CopyOwn
import Derived.BigQuiet
namespace Go.Proofs.YtnffedmcblbkoaaGreatDoor
open Go.RowKit
set_option maxRecDepth 100000
theorem row_shape {base : Nat} {w : World} {e : TypeId} {size n : Nat} {v : Value} {xs : List Value} (h : w.ownsRow base e size v n xs) : ∃ ao l c, v = .slice ao l c := by
 rcases h.2 with ⟨rfl, _⟩ | ⟨g, cap, cur, rfl, _⟩
 ·exact ⟨_, _, _, rfl⟩
 ·exact ⟨_, _, _, rfl⟩
def bytesI (s : ByteArray) : List Int := s.data.toList.map fun b => (b.toNat : Int)
theorem bytesI_length (s : ByteArray) : (bytesI s).length = s.size := by unfold bytesI; rw [List.length_map, Array.length_toList]; rfl
end Go.Proofs.YtnffedmcblbkoaaGreatDoor
