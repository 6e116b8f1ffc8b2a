/-
  Wr.
-/
import Derived.Test.YtpcfchbiohbcoaaDoorWn
import Derived.Test.YtpcfchbiohbcoaaDoorMem
import Derived.Laws.CopyOwn
import Derived.BigQuiet
namespace Go.Proofs.YtpcfchbiohbcoaaDoor
open Go.RowKit
set_option maxRecDepth 100000
theorem Tryd.info5 : (Tryd.prog.info? 5).map (fun i => (i.zero, i.size, i.bytes)) = some (some (.int .u8 0), 1, 1) := by kernel_rfl

theorem row_shape {base : Nat} {w : World} {e : TypeId} {size n : Nat} {v : Value} {xs : List Value} (h : w.ownsRow base e size v n xs) : ∃ ao l c, v = .slice ao l c := by
  rcases h.2 with ⟨rfl, _⟩ | ⟨g, cap, cur, rfl, _⟩
  · exact ⟨_, _, _, rfl⟩
  · exact ⟨_, _, _, rfl⟩

/-- A string's bytes, as numbers. -/
def bytesI (s : ByteArray) : List Int := s.data.toList.map fun b => (b.toNat : Int)
theorem bytesI_length (s : ByteArray) : (bytesI s).length = s.size := by unfold bytesI; rw [List.length_map, Array.length_toList]; rfl
theorem bytesI_cells (s : ByteArray) : (bytesI s).map (Value.int .u8) = byteCells s := by unfold bytesI byteCells; rw [List.map_map]; rfl

theorem moved_S {w : World} {v vr : Value} {B k : Nat} (hM : Moved w v vr) (hS : k = B ∨ vr.ownBlock = some k) (hk : k < w.heap.size) : k = B ∨ v.ownBlock = some k := by
  rcases hS with h | h
  · exact Or.inl h
  · rcases hM with e | ⟨j, e, hj⟩
    · exact Or.inr (e ▸ h)
    · rw [h] at e; simp at e; omega

end Go.Proofs.YtpcfchbiohbcoaaDoor
