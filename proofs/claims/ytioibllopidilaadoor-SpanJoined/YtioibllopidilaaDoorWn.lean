/-
  Contracts: Zig, Zag.
-/
import Derived.Test.YtioibllopidilaaDoorRows
import Derived.Test.YtioibllopidilaaDoorMath
import Derived.WalkKit
import Derived.ProofKit
import Derived.OpenShut
namespace Go.Proofs.YtioibllopidilaaDoor
open Go.RowKit
set_option maxRecDepth 100000
theorem ret_int {k : IntKind} {a b : Int} (h : a = b) : Ending.returned (.int k a) = .returned (.int k b) := by rw [h]
theorem zig_any (v : Int) (h0 : -9223372036854775808 ≤ v) (h1 : v ≤ 9223372036854775807) (w : World) :
    Calls Tryd.prog 76 #[.int .i64 v] w fun e w' => e = .returned (.int .u64 (zigI v)) ∧ w' = w := by
  go_enter Tryd.func76, Tryd.ntmps76
  go_wp2
  go_ret
  exact ⟨ret_int (zig_bits v h0 h1), rfl⟩
theorem zag_any (v : Int) (h0 : 0 ≤ v) (h1 : v ≤ 18446744073709551615) (w : World) :
    Calls Tryd.prog 99 #[.int .u64 v] w fun e w' => e = .returned (.int .i64 (zagI v)) ∧ w' = w := by
  have e := and_u64_1 v h0 h1
  go_enter Tryd.func99, Tryd.ntmps99
  go_wp2
  go_ret
  exact ⟨ret_int (zag_bits v h0 h1), rfl⟩
end Go.Proofs.YtioibllopidilaaDoor
