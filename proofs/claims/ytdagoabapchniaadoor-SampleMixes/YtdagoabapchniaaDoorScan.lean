/-
  Plain mathematics: how a number's bytes are read.
-/
import Derived.Test.YtdagoabapchniaaDoorMath
namespace Go.Proofs.YtdagoabapchniaaDoor
open Go

/-- What is read: a number and how many bytes it has; a form that may not be; no end. -/
abbrev NumRes := Option (Option (Nat × Nat))
abbrev NumRes.ok (v size : Nat) : NumRes := some (some (v, size))
abbrev NumRes.form : NumRes := some none
abbrev NumRes.ended : NumRes := none
theorem NumRes.each {motive : NumRes → Prop} (ok : ∀ v s, motive (.ok v s)) (form : motive .form) (ended : motive .ended) (r : NumRes) : motive r := by
  rcases r with _ | _ | ⟨v, s⟩
  · exact ended
  · exact form
  · exact ok v s

def badLast (size : Nat) (x : Int) : Bool := (decide (0 < size) && x == 0) || (size == 9 && decide (1 < x))
def scanN : List Int → Nat → Nat → NumRes
  | [], size, _ => if size = 10 then .form else .ended
  | x :: r, size, v => if size = 10 then .form else if x < 128 then (if badLast size x = true then .form else .ok (v + x.toNat * 128 ^ size) (size + 1)) else scanN r (size + 1) (v + (x.toNat - 128) * 128 ^ size)

theorem scanN_10 (l : List Int) (v : Nat) : scanN l 10 v = .form := by cases l <;> simp [scanN]
theorem scanN_nil (size v : Nat) (h : size ≠ 10) : scanN [] size v = .ended := by simp [scanN, h]
theorem scanN_last (x : Int) (r : List Int) (size v : Nat) (h : size ≠ 10) (hx : x < 128) : scanN (x :: r) size v = if badLast size x = true then .form else .ok (v + x.toNat * 128 ^ size) (size + 1) := by simp [scanN, h, hx]
theorem scanN_more (x : Int) (r : List Int) (size v : Nat) (h : size ≠ 10) (hx : ¬ x < 128) : scanN (x :: r) size v = scanN r (size + 1) (v + (x.toNat - 128) * 128 ^ size) := by simp [scanN, h, hx]

theorem and_u8_127 (x : Int) (h0 : 0 ≤ x) (h1 : x < 256) : bits .and .u8 x 127 = x % 128 := by
  rw [u8_and x 127 h0 h1 (by omega) (by omega)]
  show ((x.toNat &&& 127 : Nat) : Int) = _
  rw [nat_mask7]; omega
theorem or_u64_shl (V x s : Nat) (hV : V < 128 ^ s) (hx : V + x * 128 ^ s < 18446744073709551616) :
    bits .or .u64 (V : Int) ((x * 128 ^ s : Nat) : Int) = ((V + x * 128 ^ s : Nat) : Int) := by
  have hV' : V < 18446744073709551616 := by omega
  rw [u64_or_nat V (x * 128 ^ s) hV' (by omega)]
  congr 1
  have h : x * 128 ^ s ||| V = x * 128 ^ s + V := nat_join (7 * s) (x * 128 ^ s) V (by rw [Nat.pow_mul]; exact Nat.mul_mod_left _ _) (by rw [Nat.pow_mul]; exact hV)
  rw [Nat.or_comm, h, Nat.add_comm]
theorem pow128 (s : Nat) : (2 : Nat) ^ (7 * s) = 128 ^ s := by rw [Nat.pow_mul]
theorem pow128I (s : Nat) : (2 : Int) ^ (7 * s) = ((128 ^ s : Nat) : Int) := by rw [← pow128]; norm_cast
theorem pow_le9 (s : Nat) (h : s ≤ 9) : 128 ^ s ≤ 9223372036854775808 := by
  have : 128 ^ s ≤ 128 ^ 9 := Nat.pow_le_pow_right (by omega) h
  omega
theorem pow_le8 (s : Nat) (h : s ≤ 8) : 128 ^ s ≤ 72057594037927936 := by
  have : 128 ^ s ≤ 128 ^ 8 := Nat.pow_le_pow_right (by omega) h
  omega

structure NumRel (K : List Int) (t V s : Nat) : Prop where
  s10 : s ≤ 10
  sk : s ≤ K.length - t
  v64 : V < 18446744073709551616
  small : s ≤ 9 → V < 128 ^ s
  eq : s ≤ 9 → scanN (K.drop t) 0 0 = scanN (K.drop (t + s)) s V
  eq10 : s = 10 → scanN (K.drop t) 0 0 = .form

theorem NumRel.start (K : List Int) (t : Nat) : NumRel K t 0 0 := ⟨by omega, by omega, by omega, fun _ => by simp, fun _ => rfl, fun h => by omega⟩

theorem num_val (V s : Nat) (y : Int) (hy0 : 0 ≤ y) (hV : V < 128 ^ s) (hb : V + y.toNat * 128 ^ s < 18446744073709551616) :
    bits .or .u64 (V : Int) (IntKind.u64.wrap (y * 2 ^ (7 * s))) = ((V + y.toNat * 128 ^ s : Nat) : Int) := by
  have e : y * 2 ^ (7 * s) = ((y.toNat * 128 ^ s : Nat) : Int) := by
    rw [pow128I, Int.natCast_mul]
    congr 1
    omega
  rw [e, IntKind.wrap_u64]
  rw [show (((y.toNat * 128 ^ s : Nat) : Int) % 18446744073709551616) = ((y.toNat * 128 ^ s : Nat) : Int) by omega]
  exact or_u64_shl V y.toNat s hV hb

theorem num_step {K : List Int} {t V s : Nat} {x : Int} (hN : NumRel K t V s) (hs : s ≤ 9) (hd : K.drop (t + s) = x :: K.drop (t + s + 1)) (h0 : 128 ≤ x) (h1 : x < 256) (hsk : s < K.length - t) :
    ∃ V' : Nat, bits .or .u64 (V : Int) (IntKind.u64.wrap (x % 128 * 2 ^ (7 * s))) = (V' : Int) ∧ NumRel K t V' (s + 1) := by
  have hV := hN.small hs
  have eqs : scanN (K.drop t) 0 0 = scanN (K.drop (t + (s + 1))) (s + 1) (V + (x.toNat - 128) * 128 ^ s) := by
    rw [hN.eq hs, hd, scanN_more _ _ _ _ (by omega) (by omega)]; rfl
  by_cases h8 : s ≤ 8
  · have hp := pow_le8 s h8
    have hy : (x % 128).toNat = x.toNat - 128 := by omega
    have hm : (x.toNat - 128) * 128 ^ s ≤ 127 * 128 ^ s := Nat.mul_le_mul_right _ (by omega)
    have hlt : V + (x.toNat - 128) * 128 ^ s < 128 ^ (s + 1) := by rw [Nat.pow_succ]; omega
    have hp2 : 128 ^ (s + 1) ≤ 9223372036854775808 := pow_le9 (s + 1) (by omega)
    refine ⟨V + (x.toNat - 128) * 128 ^ s, ?_, ⟨by omega, by omega, by omega, fun _ => hlt, fun _ => eqs, fun h => by omega⟩⟩
    rw [num_val V s (x % 128) (by omega) hV (by rw [hy]; omega), hy]
  · have h9 : s = 9 := by omega
    have hw : 0 ≤ IntKind.u64.wrap (x % 128 * 2 ^ (7 * s)) ∧ IntKind.u64.wrap (x % 128 * 2 ^ (7 * s)) < 18446744073709551616 := by
      rw [IntKind.wrap_u64]; omega
    have hv64 := hN.v64
    rw [u64_or (V : Int) _ (by omega) (by omega) hw.1 hw.2]
    refine ⟨_, rfl, ⟨by omega, by omega, ?_, fun h => by omega, fun h => by omega, fun _ => ?_⟩⟩
    · have : (V : Int).toNat ||| (IntKind.u64.wrap (x % 128 * 2 ^ (7 * s))).toNat < 2 ^ 64 := Nat.or_lt_two_pow (by omega) (by omega)
      omega
    · rw [eqs]; subst h9; exact scanN_10 _ _

theorem num_last {K : List Int} {t V s : Nat} {x : Int} (hN : NumRel K t V s) (hs : s ≤ 9) (hd : K.drop (t + s) = x :: K.drop (t + s + 1)) (h0 : 0 ≤ x) (h1 : x < 128) (hb : ¬ badLast s x = true) :
    bits .or .u64 (V : Int) (IntKind.u64.wrap (x * 2 ^ (7 * s))) = ((V + x.toNat * 128 ^ s : Nat) : Int) ∧ scanN (K.drop t) 0 0 = .ok (V + x.toNat * 128 ^ s) (s + 1) := by
  have hV := hN.small hs
  refine ⟨num_val V s x h0 hV ?_, ?_⟩
  · by_cases h8 : s ≤ 8
    · have hp := pow_le8 s h8
      have hm : x.toNat * 128 ^ s ≤ 127 * 128 ^ s := Nat.mul_le_mul_right _ (by omega)
      omega
    · have h9 : s = 9 := by omega
      subst h9
      have hx1 : x ≤ 1 := by
        by_cases hx : x ≤ 1
        · exact hx
        · exact absurd (by simp [badLast]; omega) hb
      have hm : x.toNat * 128 ^ 9 ≤ 1 * 128 ^ 9 := Nat.mul_le_mul_right _ (by omega)
      omega
  · rw [hN.eq hs, hd, scanN_last _ _ _ _ (by omega) h1, if_neg hb]
theorem num_last' {K : List Int} {t V s : Nat} {x : Int} (hN : NumRel K t V s) (hs : s ≤ 9) (hd : K.drop (t + s) = x :: K.drop (t + s + 1)) (h0 : 0 ≤ x) (h1 : x < 128) (hb : ¬ badLast s x = true) (he : s = 0 ∨ s = 9) :
    bits .or .u64 (V : Int) (x * 2 ^ (7 * s)) = ((V + x.toNat * 128 ^ s : Nat) : Int) := by
  have h := (num_last hN hs hd h0 h1 hb).1
  have e : IntKind.u64.wrap (x * 2 ^ (7 * s)) = x * 2 ^ (7 * s) := by
    rw [IntKind.wrap_u64]
    rcases he with rfl | rfl
    · simp; omega
    · have hx1 : x ≤ 1 := by
        by_cases hx : x ≤ 1
        · exact hx
        · exact absurd (by simp [badLast]; omega) hb
      simp; omega
  rw [e] at h
  exact h
theorem num_bad {K : List Int} {t V s : Nat} {x : Int} (hN : NumRel K t V s) (hs : s ≤ 9) (hd : K.drop (t + s) = x :: K.drop (t + s + 1)) (h1 : x < 128) (hb : badLast s x = true) :
    scanN (K.drop t) 0 0 = .form := by
  rw [hN.eq hs, hd, scanN_last _ _ _ _ (by omega) h1, if_pos hb]
end Go.Proofs.YtdagoabapchniaaDoor
