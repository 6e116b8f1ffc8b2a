/-
  Merged: GF, GG.
-/
import Derived.Test.YtobjjdggjgnfcaaGreatDoorGBq
namespace Go.Proofs.YtobjjdggjgnfcaaGreatDoor
open Go Go.RowKit Go.Shelf
set_option maxRecDepth 100000

end Go.Proofs.YtobjjdggjgnfcaaGreatDoor

namespace Go.Proofs.YtobjjdggjgnfcaaGreatDoor
open Go Go.RowKit
set_option maxRecDepth 100000

end Go.Proofs.YtobjjdggjgnfcaaGreatDoor
