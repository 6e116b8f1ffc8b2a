/-
  Math.
-/
import Derived.Laws.BitsAllLaws
namespace Go.Proofs.YtpcfchbiohbcoaaDoor
open Go

/-- Zig and Zag, as the chapter says them. -/
def zigI (v : Int) : Int := if v < 0 then -2 * v - 1 else 2 * v
def zagI (v : Int) : Int := if v % 2 = 0 then v / 2 else -(v / 2) - 1

theorem zig_lo (v : Int) : 0 ≤ zigI v := by unfold zigI; split <;> omega
theorem zig_hi (v : Int) (h0 : -9223372036854775808 ≤ v) (h1 : v ≤ 9223372036854775807) : zigI v ≤ 18446744073709551615 := by unfold zigI; split <;> omega
theorem zag_lo (v : Int) (h0 : 0 ≤ v) (h1 : v ≤ 18446744073709551615) : -9223372036854775808 ≤ zagI v := by unfold zagI; split <;> omega
theorem zag_hi (v : Int) (h0 : 0 ≤ v) (h1 : v ≤ 18446744073709551615) : zagI v ≤ 9223372036854775807 := by unfold zagI; split <;> omega
theorem zag_zig (v : Int) : zagI (zigI v) = v := by unfold zagI zigI; split <;> split <;> omega
theorem zig_zag (v : Int) (h0 : 0 ≤ v) : zigI (zagI v) = v := by unfold zagI zigI; split <;> split <;> omega

theorem xor_u64_ones (a : Nat) (ha : a < 18446744073709551616) : bits .xor .u64 (a : Int) 18446744073709551615 = ((18446744073709551615 - a : Nat) : Int) := by
  rw [show (18446744073709551615 : Int) = ((18446744073709551615 : Nat) : Int) by rfl, u64_xor_nat a 18446744073709551615 ha (by omega)]
  congr 1
  have h := BitVec.toNat_xor (BitVec.ofNat 64 a) (BitVec.allOnes 64)
  rw [BitVec.xor_allOnes, BitVec.toNat_not, BitVec.toNat_allOnes, BitVec.toNat_ofNat, Nat.mod_eq_of_lt (by omega)] at h
  simpa using h.symm
theorem xor_u64_zero (a : Nat) (ha : a < 18446744073709551616) : bits .xor .u64 (a : Int) 0 = (a : Int) := by
  rw [show (0 : Int) = ((0 : Nat) : Int) by rfl, u64_xor_nat a 0 ha (by omega)]; simp
theorem zig_bits (v : Int) (h0 : -9223372036854775808 ≤ v) (h1 : v ≤ 9223372036854775807) :
    bits .xor .u64 (IntKind.u64.wrap (IntKind.u64.wrap v * 2)) (IntKind.u64.wrap (v / 9223372036854775808)) = zigI v := by
  simp only [IntKind.wrap_u64]
  unfold zigI
  split
  · have e1 : v / 9223372036854775808 % 18446744073709551616 = 18446744073709551615 := by omega
    have e2 : (v % 18446744073709551616 * 2 % 18446744073709551616) = (((v % 18446744073709551616 * 2 % 18446744073709551616).toNat : Nat) : Int) := by omega
    rw [e1, e2, xor_u64_ones _ (by omega)]
    omega
  · have e1 : v / 9223372036854775808 % 18446744073709551616 = 0 := by omega
    have e2 : (v % 18446744073709551616 * 2 % 18446744073709551616) = (((v % 18446744073709551616 * 2 % 18446744073709551616).toNat : Nat) : Int) := by omega
    rw [e1, e2, xor_u64_zero _ (by omega)]
    omega

theorem wrap_i64 (n : Int) : IntKind.i64.wrap n = (n + 9223372036854775808) % 18446744073709551616 - 9223372036854775808 := by
  have e : IntKind.i64.wrap n = if n % 18446744073709551616 ≥ 9223372036854775808 then n % 18446744073709551616 - 18446744073709551616 else n % 18446744073709551616 := by
    simp [IntKind.wrap, IntKind.bits, IntKind.signed]
  rw [e]; split <;> omega
theorem xor_i64_m1 (a : Nat) (ha : a < 9223372036854775808) : bits .xor .i64 (a : Int) (-1) = -(a : Int) - 1 := by
  have h1 : (BitVec.ofInt 64 (a : Int)).toNat = a := by
    rw [BitVec.ofInt_natCast, BitVec.toNat_ofNat]; exact Nat.mod_eq_of_lt (by omega)
  show IntKind.i64.wrap ((BitVec.ofInt 64 (a : Int) ^^^ BitVec.ofInt 64 (-1)).toNat : Int) = _
  rw [show (BitVec.ofInt 64 (-1)) = BitVec.allOnes 64 by decide, BitVec.xor_allOnes, BitVec.toNat_not, h1, wrap_i64]
  omega
theorem xor_i64_0 (a : Nat) (ha : a < 9223372036854775808) : bits .xor .i64 (a : Int) 0 = (a : Int) := by
  have h1 : (BitVec.ofInt 64 (a : Int)).toNat = a := by
    rw [BitVec.ofInt_natCast, BitVec.toNat_ofNat]; exact Nat.mod_eq_of_lt (by omega)
  show IntKind.i64.wrap ((BitVec.ofInt 64 (a : Int) ^^^ BitVec.ofInt 64 0).toNat : Int) = _
  rw [show (BitVec.ofInt 64 0) = 0#64 by decide, BitVec.xor_zero, h1, wrap_i64]
  omega
theorem and_u64_1 (v : Int) (h0 : 0 ≤ v) (h1 : v ≤ 18446744073709551615) : bits .and .u64 v 1 = v % 2 := by
  rw [u64_and v 1 h0 (by omega) (by omega) (by omega)]
  show ((v.toNat &&& 1 : Nat) : Int) = _
  rw [nat_mask1]; omega
theorem zag_bits (v : Int) (h0 : 0 ≤ v) (h1 : v ≤ 18446744073709551615) : bits .xor .i64 (v / 2) (-(v % 2)) = zagI v := by
  unfold zagI
  have e : v / 2 = ((v / 2).toNat : Nat) := by omega
  split
  · rename_i h
    rw [h, e]; exact xor_i64_0 _ (by omega)
  · have e1 : v % 2 = 1 := by omega
    rw [e1, e]; exact xor_i64_m1 _ (by omega)
theorem and_u64_127 (v : Int) (h0 : 0 ≤ v) (h1 : v ≤ 18446744073709551615) : bits .and .u64 v 127 = v % 128 := by
  rw [u64_and v 127 h0 (by omega) (by omega) (by omega)]
  show ((v.toNat &&& 127 : Nat) : Int) = _
  rw [nat_mask7]; omega
theorem or_u8_128 (v : Int) (h0 : 0 ≤ v) (h1 : v < 128) : bits .or .u8 v 128 = v + 128 := by
  rw [u8_or v 128 h0 (by omega) (by omega) (by omega)]
  have h : (128 : Nat) ||| v.toNat = 128 + v.toNat := nat_join 7 128 v.toNat (by decide) (by omega)
  show ((v.toNat ||| 128 : Nat) : Int) = _
  rw [Nat.or_comm, h]; omega

/-- A number's bytes. -/
def encN (v : Nat) : List Int := if v < 128 then [(v : Int)] else ((v % 128 + 128 : Nat) : Int) :: encN (v / 128)
theorem encN_lt {v : Nat} (h : v < 128) : encN v = [(v : Int)] := by rw [encN, if_pos h]
theorem encN_ge {v : Nat} (h : 128 ≤ v) : encN v = ((v % 128 + 128 : Nat) : Int) :: encN (v / 128) := by rw [encN, if_neg (by omega)]
theorem encN_pos (v : Nat) : 0 < (encN v).length := by
  by_cases h : v < 128
  · simp [encN_lt h]
  · simp [encN_ge (Nat.le_of_not_lt h)]
theorem encN_len (k : Nat) : ∀ v : Nat, v < 128 ^ k → 0 < k → (encN v).length ≤ k := by
  induction k with
  | zero => intro v h h0; omega
  | succ k ih =>
    intro v h _
    by_cases hv : v < 128
    · simp [encN_lt hv]
    · rw [encN_ge (by omega)]
      have h2 : v / 128 < 128 ^ k := by rw [Nat.pow_succ] at h; omega
      have hk : 0 < k := by
        rcases Nat.eq_zero_or_pos k with rfl | h3
        · simp at h2; omega
        · exact h3
      have := ih _ h2 hk
      simp; omega
theorem encN_len10 (v : Nat) (h : v < 18446744073709551616) : (encN v).length ≤ 10 := encN_len 10 v (by omega) (by omega)
theorem encN_byte (v : Nat) : ∀ x ∈ encN v, 0 ≤ x ∧ x < 256 := by
  induction v using Nat.strongRecOn with
  | _ v ih =>
    intro x hx
    by_cases h : v < 128
    · simp [encN_lt h] at hx; omega
    · rw [encN_ge (by omega)] at hx
      rcases List.mem_cons.1 hx with rfl | hx
      · omega
      · exact ih _ (by omega) x hx
end Go.Proofs.YtpcfchbiohbcoaaDoor
