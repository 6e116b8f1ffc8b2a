/-
  The reference of layer 13: Index, Span, plus.
-/
import Derived.Test.YtmegmjhkjaejgaaSlB
namespace Go.Proofs.Ytmegmjhkjaejgaa.sk
open Go.RowKit
set_option maxRecDepth 100000

theorem quo2 (a : Nat) (h : a < 18446744073709551616) : IntKind.u64.wrap ((a : Int) / 2) = ((a / 2 : Nat) : Int) := by rw [IntKind.wrap_u64]; omega
theorem div2k (v k : Nat) : v / 2 ^ k / 2 = v / 2 ^ (k + 1) := by rw [Nat.div_div_eq_div_mul, Nat.pow_succ]
theorem log_one {v k : Nat} (h : v / 2 ^ k = 1) : v.log2 = k := by
  have hp := two_pos k
  have := Nat.div_add_mod v (2 ^ k)
  have := Nat.mod_lt v (show 2 ^ k > 0 by omega)
  rw [h] at *
  exact log2_of (by omega) (by rw [Nat.pow_succ]; omega)
theorem hid0 (v : Nat) : Hid (v = v / 2 ^ 0) := by
  have : v = v / 2 ^ 0 := by simp
  exact this
theorem five_lt (v : Nat) (h : 64 ≤ v) : v / 2 ^ (v.log2 - 5) < 64 := by
  obtain ⟨l1, l2⟩ := log2_le (v := v) (by omega)
  have e6 : 6 ≤ v.log2 := by
    rcases Nat.lt_or_ge v.log2 6 with h6 | h6
    · have := Nat.pow_le_pow_right (n := 2) (by omega) (show v.log2 + 1 ≤ 6 by omega)
      omega
    · exact h6
  have e7 : 2 ^ (v.log2 + 1) = 64 * 2 ^ (v.log2 - 5) := by rw [show v.log2 + 1 = (v.log2 - 5) + 6 by omega, Nat.pow_add]; omega
  exact (Nat.div_lt_iff_lt_mul (by have := two_pos (v.log2 - 5); omega)).mpr (by omega)
theorem ret_i64 {a b : Int} (h : a = b) : Ending.returned (.int .i64 a) = .returned (.int .i64 b) := by rw [h]
set_option maxHeartbeats 1000000 in
theorem refIndex (v : Nat) (hv : v < 18446744073709551616) (w : World) :
    Calls Try.prog 16 #[.int .u64 v] w fun e w' => e = .returned (.int .i64 (idxN v : Nat)) ∧ w' = w := by
  by_cases h : v < 64
  · have h1 : (v : Int) < 64 := by omega
    have e : idxN v = v := (idx_small h).1
    rw [e]
    clear e
    go_enter Try.func16, Try.ntmps16
    go_wp2
    go_ret
    exact ⟨rfl, rfl⟩
  · have h1 : ¬ (v : Int) < 64 := by omega
    obtain ⟨l1, l2⟩ := log2_le (v := v) (by omega)
    have e6 : 6 ≤ v.log2 := by
      rcases Nat.lt_or_ge v.log2 6 with h6 | h6
      · have := Nat.pow_le_pow_right (n := 2) (by omega) (show v.log2 + 1 ≤ 6 by omega)
        omega
      · exact h6
    have e64 : v.log2 < 64 := by
      rcases Nat.lt_or_ge v.log2 64 with h6 | h6
      · exact h6
      · have := Nat.pow_le_pow_right (n := 2) (by omega) h6
        omega
    have HI : Hid (idxN v = 32 * (v.log2 - 6) + 32 + v / 2 ^ (v.log2 - 5)) := by
      have : idxN v = 32 * (v.log2 - 6) + 32 + v / 2 ^ (v.log2 - 5) := by unfold idxN; rw [if_neg h]
      exact this
    have HV : Hid (v < 18446744073709551616) := hv
    have HL : Hid (∀ k, v / 2 ^ k = 1 → v.log2 = k) := fun k h => log_one h
    have H5 : Hid _ := five_lt v (by omega)
    clear l1 l2
    obtain ⟨e, he⟩ : ∃ e, v.log2 = e := ⟨_, rfl⟩
    rw [he] at HI e6 e64 H5
    have HE : Hid (v.log2 = e) := he
    have hv1 : 1 ≤ v := by omega
    clear he hv h
    go_enter Try.func16, Try.ntmps16
    go_wp2
    go_loop [3, 4] (fun a b => ∃ (k x : Nat), a = .int .i64 k ∧ b = .int .u64 (x : Int) ∧ k ≤ 64 ∧ 1 ≤ x ∧ Hid (x = v / 2 ^ k)) (fun _ b => (intOf b).toNat)
    case atStart => exact ⟨0, v, rfl, rfl, by omega, hv1, hid0 v⟩
    case round =>
      obtain ⟨k, x, rfl, rfl, hk, hx, HX⟩ := hrel
      by_cases hlt : 1 < x
      · have hx64 : x < 18446744073709551616 := by
          have := HX.out
          have := Nat.div_le_self v (2 ^ k)
          have := HV.out
          omega
        have hk2 : k + 1 ≤ 64 := by
          have : k ≠ 64 := by
            rintro rfl
            have := HX.out
            have := Nat.div_eq_of_lt (show v < 2 ^ 64 from HV.out)
            omega
          omega
        have hlt' : (1 : Int) < (x : Int) := by omega
        have q := quo2 x hx64
        obtain ⟨y, hy⟩ : ∃ y, x / 2 = y := ⟨_, rfl⟩
        rw [hy] at q
        have HY : Hid (y = v / 2 ^ (k + 1)) := by
          have : y = v / 2 ^ (k + 1) := by rw [← hy, HX.out, div2k]
          exact this
        have hy1 : 1 ≤ y := by omega
        have hy2 : y < x := by omega
        clear hy hlt hx64
        go_wp2
        go_round
        case rel => exact ⟨k + 1, y, by go_num, by first | rfl | rw [q], hk2, hy1, HY⟩
        case measure => simp [intOf]; omega
      · have hx1 : x = 1 := by omega
        subst hx1
        have hke : k = e := by rw [← HE.out]; exact (HL.out k HX.out.symm).symm
        subst hke
        clear hlt hx HX HL HE
        go_wp2
        go_loop [5, 6] (fun a b => ∃ (i x : Nat), b = .int .i64 i ∧ a = .int .u64 (x : Int) ∧ i + 5 ≤ k ∧ Hid (x = v / 2 ^ i)) (fun _ b => k - (intOf b).toNat)
        case atStart => exact ⟨0, v, rfl, rfl, by omega, hid0 v⟩
        case round =>
          obtain ⟨i, x, rfl, rfl, hi, HX⟩ := hrel
          by_cases hlt : i + 5 < k
          · have hx64 : x < 18446744073709551616 := by
              have := HX.out
              have := Nat.div_le_self v (2 ^ i)
              have := HV.out
              omega
            have q := quo2 x hx64
            obtain ⟨y, hy⟩ : ∃ y, x / 2 = y := ⟨_, rfl⟩
            rw [hy] at q
            have HY : Hid (y = v / 2 ^ (i + 1)) := by
              have : y = v / 2 ^ (i + 1) := by rw [← hy, HX.out, div2k]
              exact this
            clear hy hx64
            go_wp2
            go_round
            case rel => exact ⟨i + 1, y, by go_num, by first | rfl | rw [q], by omega, HY⟩
            case measure => simp [intOf]; omega
          · have hik : i + 5 = k := by omega
            have hx6 : x < 64 := by
              have := HX.out
              have h5 := H5.out
              rw [show k - 5 = i by omega, ← this] at h5
              exact h5
            have HR : Hid (idxN v = 32 * (k - 6) + 32 + x) := by
              have := HI.out
              rw [show k - 5 = i by omega, ← HX.out] at this
              exact this
            clear HI HX HV H5
            go_wp2
            go_ret
            refine ⟨ret_i64 ?_, rfl⟩
            rw [HR.out]
            omega

theorem refPlus_any (a b : Nat) (w : World) (ha : a ≤ 18446744073709551615) (hb : b ≤ 18446744073709551615) :
    Calls Try.prog 36 #[.int .u64 (a : Int), .int .u64 (b : Int)] w fun e w' => e = .returned (.int .u64 ((min (a + b) 18446744073709551615 : Nat) : Int)) ∧ w' = w := by
  have h0 : (0 : Int) ≤ (a : Int) := by omega
  have h1 : (0 : Int) ≤ (b : Int) := by omega
  have h2 : (b : Int) ≤ 18446744073709551615 := by omega
  have h3 : (a : Int) ≤ 18446744073709551615 := by omega
  by_cases h : (18446744073709551615 : Int) - (b : Int) < (a : Int)
  · go_enter Try.func36, Try.ntmps36
    go_wp2
    go_ret
    refine ⟨?_, rfl⟩
    rw [show min (a + b) 18446744073709551615 = 18446744073709551615 by omega]
    rfl
  · go_enter Try.func36, Try.ntmps36
    go_wp2
    go_ret
    refine ⟨?_, rfl⟩
    rw [show min (a + b) 18446744073709551615 = a + b by omega]
    rw [Int.natCast_add]
    rfl
theorem refSpan_no (i : Int) (w : World) (h : i < 0 ∨ 1920 ≤ i) :
    Calls Try.prog 15 #[.int .i64 i] w fun e w' => e = .returned (.tuple #[.int .u64 0, .int .u64 0, .int .i64 1]) ∧ w' = w := by
  rcases h with h | h
  · go_enter Try.func15, Try.ntmps15
    go_wp2
    go_returns
    exact ⟨rfl, rfl⟩
  · have h' : ¬ i < 0 := by omega
    go_enter Try.func15, Try.ntmps15
    go_wp2
    go_returns
    exact ⟨rfl, rfl⟩
theorem mul2 (a : Nat) (h : 2 * a < 18446744073709551616) : IntKind.u64.wrap (2 * (a : Int)) = ((2 * a : Nat) : Int) := by rw [IntKind.wrap_u64]; omega
/-- Where doubling stands. -/
def Dbl (m k x y : Nat) : Prop := x = (32 + m) * 2 ^ k ∧ y = 2 ^ k
theorem Dbl.lt {m k K x y : Nat} (h : Dbl m k x y) (hk : k ≤ K) (hm : (32 + m) * 2 ^ K < 18446744073709551616) : x < 18446744073709551616 ∧ y ≤ x ∧ 1 ≤ y := by
  obtain ⟨rfl, rfl⟩ := h
  have a := Nat.mul_le_mul_left (32 + m) (Nat.pow_le_pow_right (n := 2) (by omega) hk)
  have b := Nat.mul_le_mul_right (2 ^ k) (show 1 ≤ 32 + m by omega)
  rw [Nat.one_mul] at b
  exact ⟨Nat.lt_of_le_of_lt a hm, b, two_pos k⟩
theorem Dbl.next {m k x y : Nat} (h : Dbl m k x y) : Dbl m (k + 1) (2 * x) (2 * y) := by
  obtain ⟨rfl, rfl⟩ := h
  unfold Dbl
  rw [Nat.pow_succ]
  refine ⟨?_, by omega⟩
  rw [Nat.mul_comm 2, Nat.mul_assoc]
set_option maxHeartbeats 1000000 in
theorem refSpan_high (i : Nat) (w : World) (h : 64 ≤ i) (h' : i < 1920) :
    Calls Try.prog 15 #[.int .i64 (i : Int)] w fun e w' => e = .returned (.tuple #[.int .u64 (loN i : Int), .int .u64 (hiN i : Int), .int .i64 0]) ∧ ∃ n, w' = w.drewN n := by
  obtain ⟨K, m, hi, hm, ek, em⟩ := bar_parts h
  have e1 : loN i = (32 + m) * 2 ^ (K + 1) := by unfold loN; rw [if_neg (by omega), ek, em]
  have e2 : hiN i = loN i + (2 ^ (K + 1) - 1) := by unfold hiN loN; rw [if_neg (by omega), if_neg (by omega), ek, em]
  have hl := lo_le_hi i
  have hh := hi_lt h'
  have HT : Hid ((32 + m) * 2 ^ (K + 1) < 18446744073709551616) := by
    have : (32 + m) * 2 ^ (K + 1) < 18446744073709551616 := by omega
    exact this
  have HF : Hid (∀ x y, Dbl m (K + 1) x y → loN i = x ∧ hiN i = x + (y - 1)) := by
    intro x y hd
    have := hd.1
    have := hd.2
    omega
  have h1 : (64 : Int) ≤ (i : Int) := by omega
  have h2 : (i : Int) < 1920 := by omega
  have h3 : 32 + ((i : Int) - 64) % 32 = ((32 + m : Nat) : Int) := by omega
  have h4 : ((i : Int) - 64) / 32 = (K : Int) := by omega
  have hHH : Hid _ := hh
  have hK : K ≤ 58 := by omega
  clear e1 e2 hl hh ek em hi h h'
  go_enter Try.func15, Try.ntmps15
  go_wp2
  go_loop [5, 6, 7] (fun a b t => ∃ (k x y : Nat), t = .int .i64 k ∧ a = .int .u64 (x : Int) ∧ b = .int .u64 (y : Int) ∧ k ≤ K + 1 ∧ Hid (Dbl m k x y)) (fun _ _ t => K + 1 - (intOf t).toNat)
  case atStart => exact ⟨0, 32 + m, 1, rfl, by congr 1, rfl, by omega, by have : Dbl m 0 (32 + m) 1 := ⟨by simp, rfl⟩; exact this⟩
  case round =>
    obtain ⟨k, x, y, rfl, rfl, rfl, hk, HD⟩ := hrel
    by_cases hlt : k < K + 1
    · have hd := HD.out.next.lt (K := K + 1) (by omega) HT.out
      have q1 := mul2 x (by omega)
      have q2 := mul2 y (by omega)
      have HN : Hid _ := HD.out.next
      generalize 2 * x = x2 at *
      generalize 2 * y = y2 at *
      clear hd HD
      have hkk : (k : Int) ≤ ((i : Int) - 64) / 32 := by omega
      go_wp2
      go_round
      case rel => exact ⟨k + 1, x2, y2, by go_num, by first | rfl | rw [q1], by first | rfl | rw [q2], by omega, HN⟩
      case measure => simp [intOf]; omega
    · have hkk : ¬ (k : Int) ≤ ((i : Int) - 64) / 32 := by omega
      have hkK : k = K + 1 := by omega
      subst hkK
      have hF := HF.out x y HD.out
      have hd := HD.out.lt (K := K + 1) (Nat.le_refl _) HT.out
      have hy : IntKind.u64.wrap ((x : Int) + IntKind.u64.wrap ((y : Int) - 1)) = (hiN i : Int) := by
        have := hHH.out
        rw [IntKind.wrap_u64, IntKind.wrap_u64]; omega
      have hx : (x : Int) = (loN i : Int) := by omega
      have HX : Hid _ := hx
      have HY : Hid _ := hy
      clear hF hd HF HT HD hy hx hHH
      go_wp2
      go_returns
      exact ⟨ret_span HX.out HY.out, 0, rfl⟩
theorem refSpan_any (i : Nat) (w : World) (h : i < 1920) :
    Calls Try.prog 15 #[.int .i64 (i : Int)] w fun e w' => e = .returned (.tuple #[.int .u64 (loN i : Int), .int .u64 (hiN i : Int), .int .i64 0]) ∧ ∃ n, w' = w.drewN n := by
  by_cases h' : i < 64
  · have h1 : (i : Int) < 64 := by omega
    obtain ⟨_, e1, e2⟩ := idx_small h'
    rw [e1, e2]
    clear e1 e2
    go_enter Try.func15, Try.ntmps15
    go_wp2
    go_returns
    exact ⟨rfl, 0, rfl⟩
  · exact refSpan_high i w (by omega) h
end Go.Proofs.Ytmegmjhkjaejgaa.sk
