/-
  Layer 7 (disk), the statements' own: pick.
-/
import Derived.Test.YtoedeoilaeppnaaDu
namespace Go.Proofs.Ytoedeoilaeppnaa
open Go Go.RowKit
set_option maxRecDepth 100000

theorem ret_int {k : IntKind} {a b : Int} (h : a = b) : Ending.returned (.int k a) = .returned (.int k b) := by rw [h]
def pickI (c n : Int) : Int := (if c < 0 then -(c + 1) else c) % n
theorem pick_lo (c n : Int) (h : 0 < n) : 0 ≤ pickI c n := Int.emod_nonneg _ (by omega)
theorem pick_hi (c n : Int) (h : 0 < n) : pickI c n < n := Int.emod_lt_of_pos _ h
theorem pick_any (c n : Int) (h0 : -9223372036854775808 ≤ c) (h1 : c ≤ 9223372036854775807) (hn : 0 < n) (hn' : n ≤ 9223372036854775807) (w : World) :
    Calls Try.prog 6 #[.int .i64 c, .int .i64 n] w fun e w' => e = .returned (.int .i64 (pickI c n)) ∧ w' = w := by
  by_cases h : c < 0
  · have e : pickI c n = -(c + 1) % n := by unfold pickI; rw [if_pos h]
    go_enter Try.func6, Try.ntmps6
    go_wp2
    go_ret
    exact ⟨ret_int (by rw [e, ← Int.neg_tmod]; exact Int.tmod_eq_emod_of_nonneg (by omega)), rfl⟩
  · have e : pickI c n = c % n := by unfold pickI; rw [if_neg h]
    go_enter Try.func6, Try.ntmps6
    go_wp2
    go_ret
    exact ⟨ret_int (by first | rfl | exact e.symm), rfl⟩

end Go.Proofs.Ytoedeoilaeppnaa
