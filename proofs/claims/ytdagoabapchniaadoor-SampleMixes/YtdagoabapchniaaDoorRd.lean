/-
  Contracts: the Reader's number, Uint.
-/
import Derived.Test.YtdagoabapchniaaDoorCp
import Derived.Test.YtdagoabapchniaaDoorScan
import Derived.WalkMore
namespace Go.Proofs.YtdagoabapchniaaDoor
open Go.RowKit
set_option maxRecDepth 100000

theorem ret3 {a a' b b' : Int} {v : Value} (ha : a = a') (hb : b = b') : Ending.returned (.tuple #[.int .u64 a, .int .i64 b, v]) = .returned (.tuple #[.int .u64 a', .int .i64 b', v]) := by rw [ha, hb]
theorem scan_size : ∀ (l : List Int) (s v v' s' : Nat), scanN l s v = .ok v' s' → s < s' ∧ s' ≤ s + l.length := by
  intro l
  induction l with
  | nil => intro s v v' s' h; unfold scanN at h; split at h <;> simp at h
  | cons x r ih =>
    intro s v v' s' h
    unfold scanN at h
    split at h
    · simp at h
    · split at h
      · split at h
        · simp at h
        · simp at h; simp; omega
      · have := ih _ _ _ _ h; simp; omega

end Go.Proofs.YtdagoabapchniaaDoor
