/-
  Wr.
-/
import Derived.Test.YtmpmpoclkgofeaaGreatDoorZmq
import Derived.Laws.CopyOwn
import Derived.BigQuiet
namespace Go.Proofs.YtmpmpoclkgofeaaGreatDoor
open Go.RowKit
set_option maxRecDepth 100000
def bytesI (s : ByteArray) : List Int := s.data.toList.map fun b => (b.toNat : Int)
theorem bytesI_length (s : ByteArray) : (bytesI s).length = s.size := by unfold bytesI; rw [List.length_map, Array.length_toList]; rfl
end Go.Proofs.YtmpmpoclkgofeaaGreatDoor
