/-
  The walks of IvalClips and IvalCut.
-/
import Derived.Test.YtceecmmcjmnaeaaVl
namespace Go.Proofs.Ytceecmmcjmnaeaa
open Go.Shelf Go.RowKit Go.Lib
set_option maxRecDepth 100000

theorem br_in {v f t : Int} (hv : in64 v) (hf : in64 f) (ht : in64 t) : in64 (brI v f t) := by
  unfold in64 brI at *
  omega
theorem clip_in {a b : Int × Int} (ha : In64 a) (hb : In64 b) : In64 (clipI a b) := by
  unfold clipI
  split
  · exact ⟨hb.1, hb.1⟩
  · split
    · exact ⟨br_in ha.1 hb.1 hb.2, br_in ha.1 hb.1 hb.2⟩
    · exact ⟨br_in ha.1 hb.1 hb.2, br_in ha.2 hb.1 hb.2⟩
end Go.Proofs.Ytceecmmcjmnaeaa
