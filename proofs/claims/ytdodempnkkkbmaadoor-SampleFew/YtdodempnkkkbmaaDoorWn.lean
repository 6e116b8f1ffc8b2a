/-
  Wn.
-/
import Derived.Test.YtdodempnkkkbmaaDoorRows
import Derived.Test.YtdodempnkkkbmaaDoorMath
import Derived.WalkKit
import Derived.ProofKit
import Derived.OpenShut
namespace Go.Proofs.YtdodempnkkkbmaaDoor
open Go.RowKit
set_option maxRecDepth 100000
theorem ret_int {k : IntKind} {a b : Int} (h : a = b) : Ending.returned (.int k a) = .returned (.int k b) := by rw [h]
end Go.Proofs.YtdodempnkkkbmaaDoor
