/-
  Contracts: the reference's Head.
-/
import Derived.Test.YtigpmmhofncgpaaRi
namespace Go.Proofs.Ytigpmmhofncgpaa
open Go.RowKit
set_option maxRecDepth 100000

theorem refHead_short (ad : Option Addr) (n cap : Nat) (w : World) (hn : n < 24) :
    Calls Try.prog 14 #[.slice ad n cap] w fun e w' => e = .returned (.tuple #[headV 0 0 0 0, .int .i64 23]) ∧ Below w.heap.size w w' := by
  have hz : (n : Int) < 24 := by omega
  have hld := head_load (heap_alloc_new w (.cells #[Value.int IntKind.i64 0, Value.int IntKind.u64 0, Value.int IntKind.i64 0, Value.int IntKind.u32 0] 40))
  go_enter Try.func14, Try.ntmps14
  go_wp2
  refine bodyPost_ret (v := .tuple #[headV 0 0 0 0, .int .i64 23]) ?_ rfl ⟨rfl, (Below.refl _ _).alloc (Nat.le_refl _) _⟩
  rw [results_cell_tmp rfl]
  simp [asAddr, Result.andThen, hld, headV]
end Go.Proofs.Ytigpmmhofncgpaa
