/-
  unicode/utf8.DecodeRune's contract of the shelf, at this dump.
-/
import Derived.Shelf.Spec.DecodeRune
import Derived.Test.YtdagoabapchniaaDoorWa
namespace Go.Proofs.YtdagoabapchniaaDoor
open Go.Shelf Go.RowKit
end Go.Proofs.YtdagoabapchniaaDoor
