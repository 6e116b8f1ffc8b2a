/-
  Contracts: awake, bytesOf.
-/
import Derived.Test.YtdagoabapchniaaDoorWa
import Derived.Laws.BytesString
namespace Go.Proofs.YtdagoabapchniaaDoor
open Go.RowKit
set_option maxRecDepth 100000

theorem enc300 : encN 300 = [172, 2] := by rw [encN_ge (by omega), encN_lt (by omega)]; rfl

theorem scan300 : scanN [172, 2] 0 0 = .ok 300 2 := by simp [scanN, badLast]

end Go.Proofs.YtdagoabapchniaaDoor
