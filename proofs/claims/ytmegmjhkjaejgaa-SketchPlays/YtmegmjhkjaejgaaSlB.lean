/-
  Layer 13: dividing any number of 128 bits; Quantile of any bars.
-/
import Derived.Test.YtmegmjhkjaejgaaSlA
namespace Go.Proofs.Ytmegmjhkjaejgaa.sk
open Go.RowKit
set_option maxRecDepth 100000

theorem two_parts (m y : Nat) (hy : 0 < y) :
    lo64 (m / y) = ((hi64 m % y) * 18446744073709551616 + lo64 m) / y ∧ m % y = ((hi64 m % y) * 18446744073709551616 + lo64 m) % y := by
  have e1 : m = hi64 m * 18446744073709551616 + lo64 m := by unfold hi64 lo64; omega
  have e2 := Nat.div_add_mod (hi64 m) y
  have e3 : lo64 m < 18446744073709551616 := by unfold lo64; omega
  have e4 : hi64 m % y < y := Nat.mod_lt _ hy
  generalize hi64 m = H at *
  generalize lo64 m = L at *
  generalize H / y = k at *
  generalize H % y = r at *
  have e5 : m = r * 18446744073709551616 + L + y * (k * 18446744073709551616) := by
    rw [e1, ← e2, Nat.add_mul, Nat.mul_assoc]; omega
  have e6 : r * 18446744073709551616 + L < 18446744073709551616 * y := by
    have := Nat.mul_le_mul_right 18446744073709551616 (show r + 1 ≤ y by omega)
    rw [Nat.add_mul, Nat.one_mul, Nat.mul_comm y] at this
    omega
  have e7 : (r * 18446744073709551616 + L) / y < 18446744073709551616 := by
    rw [Nat.div_lt_iff_lt_mul hy]; exact e6
  clear e1 e2
  rw [e5]
  refine ⟨?_, by rw [Nat.add_mul_mod_self_left]⟩
  rw [Nat.add_mul_div_left _ _ hy]
  unfold lo64
  rw [Nat.add_mul_mod_self_right, Nat.mod_eq_of_lt e7]
theorem divOk_any (m y : Nat) (hy : 0 < y) (hy2 : y ≤ 1000000) : DivOk m y := by
  intro W
  obtain ⟨p1, p2⟩ := two_parts m y hy
  have e3 : lo64 m < 18446744073709551616 := by unfold lo64; omega
  have e4 : hi64 m % y < y := Nat.mod_lt _ hy
  rw [p1, p2]
  rcases Nat.eq_zero_or_pos (hi64 m % y) with h | h
  · rw [h, Nat.zero_mul, Nat.zero_add]
    exact div64_low (lo64 m) y e3 hy W
  · exact div64_high (hi64 m % y) (lo64 m) y h e4 hy2 e3 W
theorem quan_all (ad : Option Addr) (n c : Nat) (l : List (Int × Int)) (num den : Nat) (w : World) (hI : InAt w ad n l) (hc : chkF (-1) l = true) (hn : 0 < n) (h1 : 0 < den) (h2 : den ≤ 1000000) (h3 : num ≤ den) :
    Calls Try.prog 11 #[.slice ad n c, .int .u64 (num : Int), .int .u64 (den : Int)] w (QuanP l num den w) :=
  quan_ok ad n c l num den w hI hc hn h1 h2 h3 (divOk_any _ _ h1 h2)
end Go.Proofs.Ytmegmjhkjaejgaa.sk
