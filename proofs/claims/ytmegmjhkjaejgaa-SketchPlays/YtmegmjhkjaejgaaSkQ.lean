/-
  Layer 13: SketchBars' walk.
-/
import Derived.Test.YtmegmjhkjaejgaaSkP
namespace Go.Proofs.Ytmegmjhkjaejgaa.sk
open Go.RowKit
set_option maxRecDepth 100000

/-- What pick tells. -/
def PickP (n : Nat) (w : World) (e : Ending) (w' : World) : Prop := ∃ k : Nat, k < n ∧ e = .returned (.int .i64 (k : Int)) ∧ w' = w
def SpanP (a b : Int) (w : World) (e : Ending) (w' : World) : Prop := e = .returned (.tuple #[.int .u64 a, .int .u64 b, .int .i64 0]) ∧ ∃ n, w' = w.drewN n
theorem below_drewN {B : Nat} {w w1 : World} (h : Below B w w1) (hB : B ≤ w1.heap.size) (n : Nat) : Below B w (w1.drewN n) := h.trans (((Upd.refl (fun _ => False) w1).drewN n).below (B := B) hB (fun _ _ h => h))
end Go.Proofs.Ytmegmjhkjaejgaa.sk
