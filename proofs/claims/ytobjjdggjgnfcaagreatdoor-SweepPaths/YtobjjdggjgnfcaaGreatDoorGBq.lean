/-
  Merged: GB, GC, GD, GE.
-/
import Derived.RangeFuncNested
import Derived.RangeFuncBound
import Derived.RangeFuncCalls
import Derived.RangeFuncLeaves
import Derived.RangeFuncBox
import Derived.Shelf.Abstract
import Derived.Shelf.RegionOpen
import Derived.WalkKit
import Derived.OwnWalkIn
import Derived.TacticsInMore
import Derived.LoopNIn
import Derived.LoopIn
import Derived.Test.YtobjjdggjgnfcaaGreatDoorZmq
import Derived.Test.YtobjjdggjgnfcaaGreatDoorGAq
import Derived.Test.YtobjjdggjgnfcaaGreatDoorOXq
import Derived.Stop.RegionWithIn
namespace Go.Proofs.YtobjjdggjgnfcaaGreatDoor
open Go Go.RowKit Go.Shelf

attribute [local go_sem] Oper.semAt_some

end Go.Proofs.YtobjjdggjgnfcaaGreatDoor

namespace Go.Proofs.YtobjjdggjgnfcaaGreatDoor
open Go Go.RowKit
set_option maxRecDepth 100000

end Go.Proofs.YtobjjdggjgnfcaaGreatDoor

namespace Go.Proofs.YtobjjdggjgnfcaaGreatDoor
open Go Go.RowKit Go.Shelf
set_option maxRecDepth 100000

attribute [local go_sem] Oper.semAt_some

end Go.Proofs.YtobjjdggjgnfcaaGreatDoor

namespace Go.Proofs.YtobjjdggjgnfcaaGreatDoor
open Go Go.RowKit Go.Shelf
set_option maxRecDepth 100000

attribute [local go_sem] Oper.semAt_some

end Go.Proofs.YtobjjdggjgnfcaaGreatDoor
