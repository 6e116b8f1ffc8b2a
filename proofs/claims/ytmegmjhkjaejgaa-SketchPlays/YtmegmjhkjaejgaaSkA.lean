/-
  Mathematics of layer 13: bars.
-/
import Derived.WalkKit
namespace Go.Proofs.Ytmegmjhkjaejgaa.sk
set_option maxRecDepth 100000

def idxN (v : Nat) : Nat := if v < 64 then v else 32 * (v.log2 - 6) + 32 + v / 2 ^ (v.log2 - 5)
def loN (i : Nat) : Nat := if i < 64 then i else (32 + (i - 64) % 32) * 2 ^ ((i - 64) / 32 + 1)
def hiN (i : Nat) : Nat := if i < 64 then i else (32 + (i - 64) % 32) * 2 ^ ((i - 64) / 32 + 1) + (2 ^ ((i - 64) / 32 + 1) - 1)

theorem two_pos (k : Nat) : 1 ≤ 2 ^ k := Nat.one_le_two_pow
theorem log2_of {v k : Nat} (h1 : 2 ^ k ≤ v) (h2 : v < 2 ^ (k + 1)) : v.log2 = k := by
  have h0 : v ≠ 0 := by have := two_pos k; omega
  exact (Nat.log2_eq_iff h0).mpr ⟨h1, h2⟩
theorem log2_le {v : Nat} (h : v ≠ 0) : 2 ^ v.log2 ≤ v ∧ v < 2 ^ (v.log2 + 1) := (Nat.log2_eq_iff h).mp rfl
theorem lo_le_hi (i : Nat) : loN i ≤ hiN i := by
  unfold loN hiN
  split
  · exact Nat.le_refl _
  · omega
theorem bar_parts {i : Nat} (h : 64 ≤ i) : ∃ k m, i = 64 + 32 * k + m ∧ m < 32 ∧ (i - 64) / 32 = k ∧ (i - 64) % 32 = m := ⟨(i - 64) / 32, (i - 64) % 32, by omega, by omega, rfl, rfl⟩
theorem idx_of {i v : Nat} (h1 : loN i ≤ v) (h2 : v ≤ hiN i) : idxN v = i := by
  by_cases h : i < 64
  · unfold loN at h1
    unfold hiN at h2
    rw [if_pos h] at h1 h2
    unfold idxN
    rw [if_pos (by omega)]
    omega
  · obtain ⟨k, m, hi, hm, ek, em⟩ := bar_parts (i := i) (by omega)
    unfold loN at h1
    unfold hiN at h2
    rw [if_neg h, ek, em] at h1 h2
    have hp := two_pos (k + 1)
    have e6 : 2 ^ (k + 6) = 32 * 2 ^ (k + 1) := by rw [show k + 6 = (k + 1) + 5 by omega, Nat.pow_add]; omega
    have e7 : 2 ^ (k + 6 + 1) = 64 * 2 ^ (k + 1) := by rw [show k + 6 + 1 = (k + 1) + 6 by omega, Nat.pow_add]; omega
    have e1 : 2 ^ (k + 1) = 2 * 2 ^ k := by rw [Nat.pow_add]; omega
    have hk := two_pos k
    generalize hP : 2 ^ (k + 1) = p at *
    have m1 : 32 * p ≤ (32 + m) * p := Nat.mul_le_mul_right _ (by omega)
    have m2 : (32 + m) * p + p ≤ 64 * p := by
      have := Nat.mul_le_mul_right p (show 32 + m + 1 ≤ 64 by omega)
      rw [Nat.add_mul (32 + m) 1 p] at this
      omega
    have hl : v.log2 = k + 6 := log2_of (by omega) (by omega)
    have hd : v / p = 32 + m := by
      rw [Nat.div_eq_iff (by omega)]
      omega
    unfold idxN
    rw [if_neg (by omega), hl, show k + 6 - 5 = k + 1 by omega, hP, hd]
    omega
theorem idx_span (v : Nat) : loN (idxN v) ≤ v ∧ v ≤ hiN (idxN v) := by
  by_cases h : v < 64
  · have e : idxN v = v := by unfold idxN; rw [if_pos h]
    unfold loN hiN
    rw [e, if_pos h, if_pos h]
    omega
  · obtain ⟨l1, l2⟩ := log2_le (v := v) (by omega)
    have e6 : 6 ≤ v.log2 := by
      rcases Nat.lt_or_ge v.log2 6 with h6 | h6
      · have := Nat.pow_le_pow_right (n := 2) (by omega) (show v.log2 + 1 ≤ 6 by omega)
        omega
      · exact h6
    obtain ⟨k, hk⟩ : ∃ k, v.log2 = k + 6 := ⟨v.log2 - 6, by omega⟩
    have e1 : idxN v = 32 * k + 32 + v / 2 ^ (k + 1) := by
      unfold idxN
      rw [if_neg h, hk, show k + 6 - 6 = k by omega, show k + 6 - 5 = k + 1 by omega]
    have e6 : 2 ^ (k + 6) = 32 * 2 ^ (k + 1) := by rw [show k + 6 = (k + 1) + 5 by omega, Nat.pow_add]; omega
    have e7 : 2 ^ (k + 6 + 1) = 64 * 2 ^ (k + 1) := by rw [show k + 6 + 1 = (k + 1) + 6 by omega, Nat.pow_add]; omega
    rw [hk] at l1 l2
    have hp := two_pos (k + 1)
    have q1 : 32 ≤ v / 2 ^ (k + 1) := (Nat.le_div_iff_mul_le (by omega)).mpr (by omega)
    have q2 : v / 2 ^ (k + 1) < 64 := (Nat.div_lt_iff_lt_mul (by omega)).mpr (by omega)
    have dm := Nat.div_add_mod v (2 ^ (k + 1))
    have ml := Nat.mod_lt v (show 2 ^ (k + 1) > 0 by omega)
    have a : (idxN v - 64) / 32 = k := by omega
    have b : (idxN v - 64) % 32 = v / 2 ^ (k + 1) - 32 := by omega
    unfold loN hiN
    rw [if_neg (by omega), if_neg (by omega), a, b, show 32 + (v / 2 ^ (k + 1) - 32) = v / 2 ^ (k + 1) by omega, Nat.mul_comm (v / 2 ^ (k + 1))]
    omega
theorem idxN_lt {v : Nat} (h : v < 18446744073709551616) : idxN v < 1920 := by
  unfold idxN
  split
  · omega
  · obtain ⟨l1, l2⟩ := log2_le (v := v) (by omega)
    have e64 : v.log2 < 64 := by
      rcases Nat.lt_or_ge v.log2 64 with h6 | h6
      · exact h6
      · have := Nat.pow_le_pow_right (n := 2) (by omega) h6
        omega
    have e6 : 6 ≤ v.log2 := by
      rcases Nat.lt_or_ge v.log2 6 with h6 | h6
      · have := Nat.pow_le_pow_right (n := 2) (by omega) (show v.log2 + 1 ≤ 6 by omega)
        omega
      · exact h6
    have hp := two_pos (v.log2 - 5)
    have e7 : 2 ^ (v.log2 + 1) = 64 * 2 ^ (v.log2 - 5) := by rw [show v.log2 + 1 = (v.log2 - 5) + 6 by omega, Nat.pow_add]; omega
    have q2 : v / 2 ^ (v.log2 - 5) < 64 := (Nat.div_lt_iff_lt_mul (by omega)).mpr (by omega)
    omega
theorem lo_next (i : Nat) : loN (i + 1) = hiN i + 1 := by
  by_cases h : i < 63
  · unfold loN hiN
    rw [if_pos (by omega), if_pos (by omega)]
  · by_cases h' : i = 63
    · subst h'; decide
    · obtain ⟨k, m, hi, hm, ek, em⟩ := bar_parts (i := i) (by omega)
      have hp := two_pos (k + 1)
      unfold loN hiN
      rw [if_neg (by omega), if_neg (by omega), ek, em]
      by_cases hm31 : m = 31
      · rw [show (i + 1 - 64) / 32 = k + 1 by omega, show (i + 1 - 64) % 32 = 0 by omega, hm31, show k + 1 + 1 = (k + 1) + 1 by omega, Nat.pow_succ 2 (k + 1)]
        omega
      · rw [show (i + 1 - 64) / 32 = k by omega, show (i + 1 - 64) % 32 = m + 1 by omega, show 32 + (m + 1) = (32 + m) + 1 by omega, Nat.add_mul (32 + m) 1]
        omega
theorem hi_last : hiN 1919 = 18446744073709551615 := by decide
theorem lo_first : loN 0 = 0 := by decide
theorem hi_lt_lo {i : Nat} : ∀ {j : Nat}, i < j → hiN i < loN j
  | 0, h => by omega
  | j + 1, h => by
    rw [lo_next]
    rcases Nat.lt_or_ge i j with h1 | h1
    · have := hi_lt_lo h1
      have := lo_le_hi j
      omega
    · obtain rfl : i = j := by omega
      omega
theorem idx_mono {u v : Nat} (h : u ≤ v) : idxN u ≤ idxN v := by
  rcases Nat.lt_or_ge (idxN v) (idxN u) with h1 | h1
  · have := hi_lt_lo h1
    have a := idx_span u
    have b := idx_span v
    omega
  · exact h1
theorem hi_lt {i : Nat} (h : i < 1920) : hiN i < 18446744073709551616 := by
  rcases Nat.lt_or_ge i 1919 with h1 | h1
  · have a := hi_lt_lo h1
    have b := lo_le_hi 1919
    rw [hi_last] at b
    omega
  · obtain rfl : i = 1919 := by omega
    rw [hi_last]; omega
theorem lo_mono {i j : Nat} (h : i ≤ j) : loN i ≤ loN j ∧ hiN i ≤ hiN j := by
  rcases Nat.lt_or_ge i j with h1 | h1
  · have a := hi_lt_lo h1
    have b := lo_le_hi i
    have c := lo_le_hi j
    omega
  · obtain rfl : i = j := by omega
    omega
theorem wide_of {i : Nat} (h : 64 ≤ i) : hiN i - loN i ≤ loN i / 32 := by
  obtain ⟨k, m, hi, hm, ek, em⟩ := bar_parts h
  have hp := two_pos (k + 1)
  unfold loN hiN
  rw [if_neg (by omega), if_neg (by omega), ek, em]
  have m1 : 32 * 2 ^ (k + 1) ≤ (32 + m) * 2 ^ (k + 1) := Nat.mul_le_mul_right _ (by omega)
  omega
theorem idx_ge {v : Nat} (h : 64 ≤ v) : 64 ≤ idxN v := by
  have := idx_mono h
  have e : idxN 64 = 64 := by decide
  omega
theorem idx_small {v : Nat} (h : v < 64) : idxN v = v ∧ loN v = v ∧ hiN v = v := by
  refine ⟨?_, ?_, ?_⟩
  · unfold idxN; rw [if_pos h]
  · unfold loN; rw [if_pos h]
  · unfold hiN; rw [if_pos h]
end Go.Proofs.Ytmegmjhkjaejgaa.sk
