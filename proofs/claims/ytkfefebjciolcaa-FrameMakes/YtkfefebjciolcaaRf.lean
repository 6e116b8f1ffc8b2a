/-
  Contracts: the reference's sum.
-/
import Derived.Test.YtkfefebjciolcaaMo
namespace Go.Proofs.Ytkfefebjciolcaa
open Go.RowKit
set_option maxRecDepth 100000

theorem ret_i {k : IntKind} {a b : Int} (h : a = b) : Ending.returned (.int k a) = .returned (.int k b) := by rw [h]
theorem xor_one (m : Nat) : (2 * m) ^^^ 1 = 2 * m + 1 := by
  have h1 : ((2 * m) ^^^ 1) % 2 ^ 1 = 1 := by rw [Nat.xor_mod_two_pow]; simp
  have h2 : ((2 * m) ^^^ 1) / 2 ^ 1 = m := by rw [Nat.xor_div_two_pow]; simp
  have := Nat.div_add_mod ((2 * m) ^^^ 1) (2 ^ 1)
  omega
theorem low_num (r : BitVec 32) (c : Bool) : (r <<< 1 ^^^ low c).toNat = (2 * r.toNat + c.toNat) % 4294967296 := by
  have hr := r.isLt
  have hs : (r <<< 1).toNat = 2 * (r.toNat % 2147483648) := by
    rw [BitVec.toNat_shiftLeft, Nat.shiftLeft_eq]; omega
  cases c with
  | false => unfold low; simp [hs]; omega
  | true =>
    unfold low
    rw [if_pos rfl, BitVec.toNat_xor, hs, show (1#32).toNat = 1 by rfl, xor_one]
    simp; omega
theorem bit_num (r : BitVec 32) (i : Nat) : r.toNat / 2 ^ i % 2 = (r.getLsbD i).toNat := by
  rw [BitVec.getLsbD, Nat.testBit_eq_decide_div_mod_eq]
  rcases Nat.mod_two_eq_zero_or_one (r.toNat / 2 ^ i) with h | h <;> simp [h]
theorem test_num (x i : Nat) : x / 2 ^ i % 2 = (x.testBit i).toNat := by
  rw [Nat.testBit_eq_decide_div_mod_eq]
  rcases Nat.mod_two_eq_zero_or_one (x / 2 ^ i) with h | h <;> simp [h]
theorem top_num (r : BitVec 32) : (2147483648 ≤ r.toNat) ↔ r.getLsbD 31 = true := by
  have := bit_num r 31
  have hr := r.isLt
  cases h : r.getLsbD 31
  · rw [h] at this; simp at this ⊢; omega
  · rw [h] at this; simp at this ⊢; omega

theorem step_any (r : BitVec 32) (c : Bool) (w : World) :
    Calls Try.prog 31 #[.int .u32 (r.toNat : Int), .int .u32 (c.toNat : Int)] w fun e w' => e = .returned (.int .u32 ((stepR r c).toNat : Int)) ∧ w' = w := by
  have hr := r.isLt
  have hc : c.toNat ≤ 1 := by cases c <;> decide
  have ht := top_num r
  have hl := low_num r c
  obtain ⟨m, hm⟩ : ∃ m, r <<< 1 ^^^ low c = m := ⟨_, rfl⟩
  rw [hm] at hl
  obtain ⟨R, hR⟩ : ∃ R, r.toNat = R := ⟨_, rfl⟩
  obtain ⟨C, hC⟩ : ∃ C, c.toNat = C := ⟨_, rfl⟩
  have es : stepR r c = m ^^^ (if r.getLsbD 31 then 0x1edc6f41#32 else 0#32) := by unfold stepR; rw [hm]
  rw [hR] at hr ht hl
  rw [hC] at hc hl
  rw [es, hR, hC]
  have e1 : ((2 : Int) * (R : Int) % 4294967296 + (C : Int)) % 4294967296 = (m.toNat : Int) := by omega
  cases hb : r.getLsbD 31
  · have hz : ¬ ((2147483648 : Int) ≤ (R : Int)) := by rw [hb] at ht; simp at ht; omega
    have hz' : decide ((2147483648 : Int) ≤ (R : Int)) = false := by simpa using hz
    have em : (m ^^^ (if false = true then 0x1edc6f41#32 else 0#32)) = m := by simp
    rw [em]
    clear em es hl hm hR hC ht hb
    go_enter Try.func31, Try.ntmps31
    go_wp2
    go_ret
    exact ⟨ret_i (by omega), rfl⟩
  · have hz : (2147483648 : Int) ≤ (R : Int) := by rw [hb] at ht; simp at ht; omega
    have e2 : bits .xor .u32 (m.toNat : Int) 517762881 = ((m ^^^ 0x1edc6f41#32).toNat : Int) := by
      rw [← xor32]; rfl
    have em : (m ^^^ (if true = true then 0x1edc6f41#32 else 0#32)) = m ^^^ 0x1edc6f41#32 := by simp
    rw [em]
    generalize hX : m ^^^ 0x1edc6f41#32 = X at e2
    clear em es hl hm hR hC ht hb hX
    have e3 : (2 : Int) * (R : Int) % 4294967296 + (C : Int) = (m.toNat : Int) := by omega
    have E3 : Hid ((2 : Int) * (R : Int) % 4294967296 + (C : Int) = (m.toNat : Int)) := e3
    have E2 : Hid (bits .xor .u32 (m.toNat : Int) 517762881 = (X.toNat : Int)) := e2
    clear e1 e2 e3
    go_enter Try.func31, Try.ntmps31
    go_wp2
    go_ret
    exact ⟨ret_i (by rw [E3.out]; exact E2.out), rfl⟩

theorem turned_any (r : BitVec 32) (w : World) :
    Calls Try.prog 32 #[.int .u32 (r.toNat : Int)] w fun e w' => e = .returned (.int .u32 ((turnR r 32).toNat : Int)) ∧ w' = w := by
  have hr := r.isLt
  go_enter Try.func32, Try.ntmps32
  go_wp2
  go_loop [3, 4] (fun a b => ∃ j : Nat, b = .int .i64 j ∧ j ≤ 32 ∧ a = .int .u32 ((turnR r j).toNat : Int)) (fun _ b => 32 - (intOf b).toNat)
  case atStart => exact ⟨0, rfl, by omega, rfl⟩
  case round =>
    obtain ⟨j, rfl, hj, rfl⟩ := hrel
    by_cases hlt : j < 32
    · have hz : (j : Int) < 32 := by omega
      have hl := low_num (turnR r j) (r.getLsbD j)
      have HS : Hid (turnR r (j + 1) = turnR r j <<< 1 ^^^ low (r.getLsbD j)) := rfl
      have hb := bit_num r j
      have hc : (r.getLsbD j).toNat ≤ 1 := by cases r.getLsbD j <;> decide
      obtain ⟨m, hm⟩ : ∃ m, turnR r j <<< 1 ^^^ low (r.getLsbD j) = m := ⟨_, rfl⟩
      rw [hm] at hl HS
      obtain ⟨t, ht⟩ : ∃ t, turnR r j = t := ⟨_, rfl⟩
      have htl := t.isLt
      rw [ht] at hl ⊢
      obtain ⟨C, hC⟩ : ∃ C, (r.getLsbD j).toNat = C := ⟨_, rfl⟩
      rw [hC] at hl hb hc
      have e0 : ((r.toNat : Int) / 2 ^ j).tmod 2 = (C : Int) := by
        rw [Int.tmod_eq_emod_of_nonneg (Int.ediv_nonneg (by omega) (Int.pow_nonneg (by omega))), ← hb, show (2 : Int) ^ j = ((2 ^ j : Nat) : Int) by rw [Int.natCast_pow]; rfl]
        omega
      have e1 : ((2 : Int) * (t.toNat : Int) % 4294967296 + (C : Int)) % 4294967296 = (m.toNat : Int) := by omega
      clear hl hm ht hC hb
      go_wp2
      go_round
      case rel => exact ⟨j + 1, by go_num, by omega, by rw [HS.out]; congr 1; omega⟩
      case measure => simp [intOf]; omega
    · obtain rfl : j = 32 := by omega
      go_wp2
      go_ret
      exact ⟨rfl, rfl⟩

end Go.Proofs.Ytkfefebjciolcaa
