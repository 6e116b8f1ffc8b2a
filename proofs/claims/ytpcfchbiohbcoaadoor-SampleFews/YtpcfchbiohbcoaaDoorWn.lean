/-
  Wn.
-/
import Derived.Test.YtpcfchbiohbcoaaDoorRows
import Derived.Test.YtpcfchbiohbcoaaDoorMath
import Derived.WalkKit
import Derived.ProofKit
import Derived.OpenShut
namespace Go.Proofs.YtpcfchbiohbcoaaDoor
open Go.RowKit
set_option maxRecDepth 100000
theorem ret_int {k : IntKind} {a b : Int} (h : a = b) : Ending.returned (.int k a) = .returned (.int k b) := by rw [h]
end Go.Proofs.YtpcfchbiohbcoaaDoor
