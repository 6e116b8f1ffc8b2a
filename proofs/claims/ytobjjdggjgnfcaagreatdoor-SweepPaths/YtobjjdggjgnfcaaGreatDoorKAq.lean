/-
  Merged: KA, KB, KD, KC, KE, KF, KK.
-/
import Derived.Test.YtobjjdggjgnfcaaGreatDoorTQq
import Derived.Test.YtobjjdggjgnfcaaGreatDoorFSq
import Derived.Test.YtobjjdggjgnfcaaGreatDoorWaq
import Derived.Test.YtobjjdggjgnfcaaGreatDoorFXq
import Derived.Test.YtobjjdggjgnfcaaGreatDoorOXq
import Derived.Test.YtobjjdggjgnfcaaGreatDoorOZ
import Derived.Test.YtobjjdggjgnfcaaGreatDoorPMq
import Derived.Test.YtobjjdggjgnfcaaGreatDoorPIq
namespace Go.Proofs.YtobjjdggjgnfcaaGreatDoor
open Go Go.RowKit
set_option maxRecDepth 100000

end Go.Proofs.YtobjjdggjgnfcaaGreatDoor

namespace Go.Proofs.YtobjjdggjgnfcaaGreatDoor
open Go Go.RowKit Go.Maps
set_option maxRecDepth 100000

end Go.Proofs.YtobjjdggjgnfcaaGreatDoor

namespace Go.Proofs.YtobjjdggjgnfcaaGreatDoor
open Go Go.RowKit Go.Maps
set_option maxRecDepth 100000

end Go.Proofs.YtobjjdggjgnfcaaGreatDoor

namespace Go.Proofs.YtobjjdggjgnfcaaGreatDoor
open Go Go.RowKit
set_option maxRecDepth 100000

end Go.Proofs.YtobjjdggjgnfcaaGreatDoor

namespace Go.Proofs.YtobjjdggjgnfcaaGreatDoor
open Go Go.RowKit Go.Maps
set_option maxRecDepth 100000

end Go.Proofs.YtobjjdggjgnfcaaGreatDoor

namespace Go.Proofs.YtobjjdggjgnfcaaGreatDoor
open Go Go.RowKit Go.Maps
set_option maxRecDepth 100000

end Go.Proofs.YtobjjdggjgnfcaaGreatDoor

namespace Go.Proofs.YtobjjdggjgnfcaaGreatDoor
open Go Go.RowKit
set_option maxRecDepth 100000

section
variable {Y : List Sp} {C : List Int} {dp : Nat → Nat} {fin : Nat → Nod} {X : List Spot} {K : Nat → List Int} {R : List Int}
end
end Go.Proofs.YtobjjdggjgnfcaaGreatDoor
