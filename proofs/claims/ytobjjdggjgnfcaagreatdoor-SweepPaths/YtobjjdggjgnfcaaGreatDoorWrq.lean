/-
  Merged: Wr, Cp, Scan, Rd.
-/
import Derived.Test.YtobjjdggjgnfcaaGreatDoorZmq
import Derived.Laws.CopyOwn
import Derived.BigQuiet
import Derived.WalkMore
namespace Go.Proofs.YtobjjdggjgnfcaaGreatDoor
open Go.RowKit
set_option maxRecDepth 100000
def bytesI (s : ByteArray) : List Int := s.data.toList.map fun b => (b.toNat : Int)
theorem bytesI_length (s : ByteArray) : (bytesI s).length = s.size := by unfold bytesI; rw [List.length_map, Array.length_toList]; rfl
end Go.Proofs.YtobjjdggjgnfcaaGreatDoor

namespace Go.Proofs.YtobjjdggjgnfcaaGreatDoor
open Go.RowKit
set_option maxRecDepth 100000

end Go.Proofs.YtobjjdggjgnfcaaGreatDoor

namespace Go.Proofs.YtobjjdggjgnfcaaGreatDoor
open Go

end Go.Proofs.YtobjjdggjgnfcaaGreatDoor

namespace Go.Proofs.YtobjjdggjgnfcaaGreatDoor
open Go.RowKit
set_option maxRecDepth 100000

end Go.Proofs.YtobjjdggjgnfcaaGreatDoor
