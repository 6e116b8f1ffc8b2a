/-
  Layer 13: Div64 of any number that is below so many times a small one.
-/
import Derived.Test.YtmegmjhkjaejgaaSkN
namespace Go.Proofs.Ytmegmjhkjaejgaa.sk
open Go.RowKit
set_option maxRecDepth 100000

set_option maxHeartbeats 400000 in
theorem lead_any (v : Nat) (hv : v < 18446744073709551616) (w : World) :
    Calls Try.prog 46 #[.int .u64 (v : Int)] w fun e w' => e = .returned (.int .i64 (64 - (lenN v : Int))) ∧ w' = w := by
  have L := len64_any v hv
  have hl : lenN v ≤ 64 := by
    unfold lenN
    split
    · omega
    · obtain ⟨l1, l2⟩ := log2_le (v := v) (by omega)
      rcases Nat.lt_or_ge v.log2 64 with h6 | h6
      · omega
      · have := Nat.pow_le_pow_right (n := 2) (by omega) h6
        omega
  have hl' : (lenN v : Int) ≤ 64 := by omega
  clear hl
  go_enter Try.func46, Try.ntmps46
  go_wp2_with (go_at_call 34; (with_reducible refine (L _).mono ?_); clear L; rintro e w' ⟨rfl, hw⟩; obtain rfl := hw.symm)
  go_ret
  exact ⟨rfl, rfl⟩
set_option maxHeartbeats 4000000 in
theorem div64_walk (hi lo y Y1 yn1 A B un32 un10 un1 un0 q1 m1 rh g1 g2 h1 h2 h3 un21 q0 m2 rh2 g3 g4 r1 Q r2 r3 r4 r5 R : Int) (s : Nat) (w : World) (hs : (s : Int) ≤ 64) (hy : (y == 0) = false) (hyh : ¬ y ≤ hi) (hh : (hi == 0) = false)
    (LZ : ∀ W, Calls Try.prog 46 #[.int .u64 y] W fun e w' => e = .returned (.int .i64 (s : Int)) ∧ w' = W)
    (e1 : IntKind.u64.wrap (y * 2 ^ s) = Y1) (e2 : Y1 / 4294967296 = yn1) (e3 : bits .and .u64 Y1 4294967295 = 0) (e4 : IntKind.u64.wrap (hi * 2 ^ s) = A) (e5 : lo / 2 ^ (64 - s) = B) (e6 : bits .or .u64 A B = un32)
    (e7 : IntKind.u64.wrap (lo * 2 ^ s) = un10) (e8 : un10 / 4294967296 = un1) (e9 : bits .and .u64 un10 4294967295 = un0) (hyn0 : 0 < yn1)
    (e10 : IntKind.u64.wrap (un32.tdiv yn1) = q1) (e11 : IntKind.u64.wrap (q1 * yn1) = m1) (e12 : IntKind.u64.wrap (un32 - m1) = rh) (hq1 : q1 < 4294967296) (e13 : IntKind.u64.wrap (4294967296 * rh) = g1) (e14 : IntKind.u64.wrap (g1 + un1) = g2) (hg2 : ¬ g2 < 0)
    (e15 : IntKind.u64.wrap (un32 * 4294967296) = h1) (e16 : IntKind.u64.wrap (h1 + un1) = h2) (e17 : IntKind.u64.wrap (q1 * Y1) = h3) (e18 : IntKind.u64.wrap (h2 - h3) = un21)
    (e19 : IntKind.u64.wrap (un21.tdiv yn1) = q0) (e20 : IntKind.u64.wrap (q0 * yn1) = m2) (e21 : IntKind.u64.wrap (un21 - m2) = rh2) (hq0 : q0 < 4294967296) (e22 : IntKind.u64.wrap (4294967296 * rh2) = g3) (e23 : IntKind.u64.wrap (g3 + un0) = g4) (hg4 : ¬ g4 < 0)
    (e24 : IntKind.u64.wrap (q1 * 4294967296) = r1) (e25 : IntKind.u64.wrap (r1 + q0) = Q) (e26 : IntKind.u64.wrap (un21 * 4294967296) = r2) (e27 : IntKind.u64.wrap (r2 + un0) = r3) (e28 : IntKind.u64.wrap (q0 * Y1) = r4) (e29 : IntKind.u64.wrap (r3 - r4) = r5) (e30 : r5 / 2 ^ s = R) :
    Calls Try.prog 45 #[.int .u64 hi, .int .u64 lo, .int .u64 y] w fun e w' => e = .returned (.tuple #[.int .u64 Q, .int .u64 R]) ∧ w' = w := by
  go_enter Try.func45, Try.ntmps45
  go_wp2_with (go_at_call 46; (with_reducible refine (LZ _).mono ?_); clear LZ; rintro e w' ⟨rfl, hw⟩; obtain rfl := hw.symm)
  go_loop [15, 16] (fun a b => a = .int .u64 q1 ∧ b = .int .u64 rh) (fun _ _ => 0)
  case atStart => exact ⟨rfl, rfl⟩
  case round =>
    obtain ⟨rfl, rfl⟩ := hrel
    go_wp2
    go_loop [18, 16] (fun a b => a = .int .u64 q0 ∧ b = .int .u64 rh2) (fun _ _ => 0)
    case atStart => exact ⟨rfl, rfl⟩
    case round =>
      obtain ⟨rfl, rfl⟩ := hrel
      go_wp2
      go_returns
      exact ⟨rfl, rfl⟩
theorem addr (a b : Nat) : IntKind.u64.wrap ((a : Int) + (b : Int)) = (((a + b) % 18446744073709551616 : Nat) : Int) := by
  rw [← Int.natCast_add, IntKind.wrap_u64]; omega
theorem subr {a b r : Nat} (hr : r < 18446744073709551616) (h : (r + b) % 18446744073709551616 = a % 18446744073709551616) : IntKind.u64.wrap ((a : Int) - (b : Int)) = (r : Int) := by
  rw [IntKind.wrap_u64]; omega
theorem powN (a s : Nat) : (a : Int) * 2 ^ s = ((a * 2 ^ s : Nat) : Int) := by rw [Int.natCast_mul, Int.natCast_pow]; rfl
theorem divP (a s : Nat) : (a : Int) / 2 ^ s = ((a / 2 ^ s : Nat) : Int) := by rw [Int.natCast_ediv, Int.natCast_pow]; rfl
theorem or_sum {a b s : Nat} (h : b < 2 ^ s) (ha : a * 2 ^ s + b < 18446744073709551616) : bits .or .u64 ((a * 2 ^ s : Nat) : Int) (b : Int) = ((a * 2 ^ s + b : Nat) : Int) := by
  have e : a * 2 ^ s ||| b = a * 2 ^ s + b := by
    have := Nat.shiftLeft_add_eq_or_of_lt h a
    rw [Nat.shiftLeft_eq] at this
    exact this.symm
  have := bits_or_u64_nat (a * 2 ^ s) b (by omega) (by omega)
  rw [e] at this
  exact this
theorem len_small {y : Nat} (h0 : 0 < y) (h : y ≤ 1000000) : lenN y ≤ 20 ∧ 1 ≤ lenN y ∧ y < 2 ^ lenN y := by
  rw [lenN_log (by omega)]
  obtain ⟨l1, l2⟩ := log2_le (v := y) (by omega)
  refine ⟨?_, by omega, l2⟩
  rcases Nat.lt_or_ge y.log2 20 with h6 | h6
  · omega
  · have := Nat.pow_le_pow_right (n := 2) (by omega) h6
    omega
theorem wrapv {a : Int} {n : Nat} (h : a = (n : Int)) (hn : n < 18446744073709551616) : IntKind.u64.wrap a = (n : Int) := by
  rw [h, IntKind.wrap_u64]; omega
theorem rem_part {X Z R y p : Nat} (hp : 1 ≤ p) (h : X * p = Z * p + R) (hR : R < y * p) : ∃ r, R = r * p ∧ X = Z + r ∧ r < y := by
  have hZX : Z ≤ X := by
    rcases Nat.lt_or_ge X Z with h' | h'
    · have := Nat.mul_le_mul_right p (show X + 1 ≤ Z by omega)
      rw [Nat.add_mul] at this
      omega
    · exact h'
  refine ⟨X - Z, ?_, by omega, ?_⟩
  · rw [Nat.sub_mul]; omega
  · have : (X - Z) * p < y * p := by rw [Nat.sub_mul]; omega
    exact Nat.lt_of_mul_lt_mul_right this
theorem fin_sum {m1 rh un1 un0 m2 r0 un21 : Nat} (hd2 : m2 + r0 = un21) (h21 : un21 = rh * 4294967296 + un1) : (m1 + rh) * 18446744073709551616 + (4294967296 * un1 + un0) = m1 * 4294967296 * 4294967296 + m2 * 4294967296 + (r0 * 4294967296 + un0) := by omega
theorem wmulK {a : Nat} (h : a < 4294967296) : IntKind.u64.wrap (4294967296 * (a : Int)) = ((4294967296 * a : Nat) : Int) := wrapv (by omega) (by omega)
theorem wmulR {a : Nat} (h : a < 4294967296) : IntKind.u64.wrap ((a : Int) * 4294967296) = ((a * 4294967296 : Nat) : Int) := wrapv (by omega) (by omega)
theorem wmulM (a : Nat) : IntKind.u64.wrap ((a : Int) * 4294967296) = ((a * 4294967296 % 18446744073709551616 : Nat) : Int) := by rw [IntKind.wrap_u64]; omega
theorem quoN' {a b q : Nat} (h : a / b = q) (ha : a < 18446744073709551616) : IntKind.u64.wrap ((a : Int).tdiv (b : Int)) = (q : Int) := by
  rw [← h]; exact quoN a b ha
theorem r5_lt {r0 N1 un0 Y1 : Nat} (h1 : r0 < N1) (h2 : un0 < 4294967296) (h3 : Y1 = N1 * 4294967296) : r0 * 4294967296 + un0 < Y1 := by omega
theorem mods {a b c d : Nat} (h : a + b = c + d) : (a + b % 18446744073709551616) % 18446744073709551616 = (c % 18446744073709551616 + d) % 18446744073709551616 % 18446744073709551616 := by
  rw [Nat.add_mod_mod, Nat.mod_add_mod, Nat.mod_mod, h]
theorem L12 {U m1 rh : Nat} (h : m1 + rh = U) (hU : U < 18446744073709551616) : IntKind.u64.wrap ((U : Int) - (m1 : Int)) = (rh : Int) := subr (by omega) (by omega)
theorem L14 {rh un1 un21 : Nat} (h : un21 = rh * 4294967296 + un1) (hl : un21 < 18446744073709551616) : IntKind.u64.wrap (((4294967296 * rh : Nat) : Int) + (un1 : Int)) = (un21 : Int) := by
  rw [addw _ _ (by omega), h, Nat.mul_comm]
theorem L18 {U un1 m1 rh un21 : Nat} (hd1 : m1 + rh = U) (h : un21 = rh * 4294967296 + un1) (hl : un21 < 18446744073709551616) : IntKind.u64.wrap ((((U * 4294967296 % 18446744073709551616 + un1) % 18446744073709551616 : Nat) : Int) - ((m1 * 4294967296 % 18446744073709551616 : Nat) : Int)) = (un21 : Int) := subr hl (mods (by omega))
theorem L23 {r0 un0 : Nat} (h : r0 < 4294967296) (h2 : un0 < 4294967296) : IntKind.u64.wrap (((4294967296 * r0 : Nat) : Int) + (un0 : Int)) = ((4294967296 * r0 + un0 : Nat) : Int) := addw _ _ (by omega)
theorem L25 {q1 q0 : Nat} (h : q1 < 4294967296) (h2 : q0 < 4294967296) : IntKind.u64.wrap (((q1 * 4294967296 : Nat) : Int) + (q0 : Int)) = ((q1 * 4294967296 + q0 : Nat) : Int) := addw _ _ (by omega)
theorem L29 {un21 m2 r0 un0 : Nat} (hd2 : m2 + r0 = un21) (h : r0 < 4294967296) (h2 : un0 < 4294967296) : IntKind.u64.wrap ((((un21 * 4294967296 % 18446744073709551616 + un0) % 18446744073709551616 : Nat) : Int) - ((m2 * 4294967296 % 18446744073709551616 : Nat) : Int)) = ((r0 * 4294967296 + un0 : Nat) : Int) := subr (by omega) (mods (by omega))
theorem nat_nonneg (n : Nat) : ¬ (n : Int) < 0 := by omega
theorem div64_inst (hi lo y Y1 N1 AA BB U W un1 un0 q1 m1 rh un21 q0 m2 r0 r s : Nat) (w : World) (hs : s ≤ 64) (h0 : 0 < hi) (hhy : hi < y)
    (LZ : ∀ W, Calls Try.prog 46 #[.int .u64 (y : Int)] W fun e w' => e = .returned (.int .i64 (s : Int)) ∧ w' = W)
    (pw1 : (y : Int) * 2 ^ s = (Y1 : Int)) (hY : Y1 < 18446744073709551616) (hYe : Y1 = N1 * 4294967296) (pw2 : (hi : Int) * 2 ^ s = (AA : Int)) (hAA : AA < 18446744073709551616) (dv1 : (lo : Int) / 2 ^ (64 - s) = (BB : Int)) (oS : bits .or .u64 (AA : Int) (BB : Int) = (U : Int)) (hU : U < 18446744073709551616)
    (hlp : IntKind.u64.wrap ((lo : Int) * 2 ^ s) = (W : Int)) (hWl : W < 18446744073709551616) (hun1 : W / 4294967296 = un1) (hun0 : W % 4294967296 = un0) (hN : 0 < N1) (hq : U / N1 = q1) (hm1c : q1 * N1 = m1) (hd1 : m1 + rh = U) (hrh : rh < N1) (hq1 : q1 < 4294967296)
    (h21 : un21 = rh * 4294967296 + un1) (hq0e : un21 / N1 = q0) (hm2c : q0 * N1 = m2) (hd2 : m2 + r0 = un21) (hr0 : r0 < N1) (hq0 : q0 < 4294967296) (hqY1 : q1 * Y1 = m1 * 4294967296) (hqY0 : q0 * Y1 = m2 * 4294967296)
    (dR : ((r0 * 4294967296 + un0 : Nat) : Int) / 2 ^ s = (r : Int)) :
    Calls Try.prog 45 #[.int .u64 (hi : Int), .int .u64 (lo : Int), .int .u64 (y : Int)] w fun e w' => e = .returned (.tuple #[.int .u64 ((q1 * 4294967296 + q0 : Nat) : Int), .int .u64 (r : Int)]) ∧ w' = w := by
  have P1 : Hid _ := pw1
  have P2 : Hid _ := pw2
  have P3 : Hid _ := dv1
  have P4 : Hid _ := oS
  have P5 : Hid _ := hlp
  have P6 : Hid _ := dR
  clear pw1 pw2 dv1 oS hlp dR
  have hN1K : N1 < 4294967296 := by omega
  have hu0 : un0 < 4294967296 := by rw [← hun0]; exact Nat.mod_lt _ (by omega)
  have hu1 : un1 < 4294967296 := by omega
  have h21l : un21 < 18446744073709551616 := by omega
  have hrK : rh < 4294967296 := by omega
  have hr0K : r0 < 4294967296 := by omega
  have z1 : (s : Int) ≤ 64 := by omega
  have z2 : ¬ (y : Int) ≤ (hi : Int) := by omega
  have z3 : (0 : Int) < (N1 : Int) := by omega
  have z4 : (q1 : Int) < 4294967296 := by omega
  have z5 : (q0 : Int) < 4294967296 := by omega
  have z6 := nat_nonneg un21
  have z7 := nat_nonneg (4294967296 * r0 + un0)
  have hm1M : m1 < 18446744073709551616 := by omega
  have hm2M : m2 < 18446744073709551616 := by omega
  have f11 : IntKind.u64.wrap ((q1 : Int) * (N1 : Int)) = (m1 : Int) := by rw [mulw _ _ (by rw [hm1c]; exact hm1M), hm1c]
  have f20 : IntKind.u64.wrap ((q0 : Int) * (N1 : Int)) = (m2 : Int) := by rw [mulw _ _ (by rw [hm2c]; exact hm2M), hm2c]
  have f3 : bits .and .u64 (Y1 : Int) 4294967295 = 0 := by rw [mask32 Y1 hY]; omega
  have f9 : bits .and .u64 (W : Int) 4294967295 = (un0 : Int) := by rw [mask32 W hWl, hun0]
  have f17 : IntKind.u64.wrap ((q1 : Int) * (Y1 : Int)) = ((m1 * 4294967296 % 18446744073709551616 : Nat) : Int) := by rw [mulr, hqY1]
  have f28 : IntKind.u64.wrap ((q0 : Int) * (Y1 : Int)) = ((m2 * 4294967296 % 18446744073709551616 : Nat) : Int) := by rw [mulr, hqY0]
  have f8 : (W : Int) / 4294967296 = (un1 : Int) := by rw [div32, hun1]
  have f2 : (Y1 : Int) / 4294967296 = (N1 : Int) := by rw [div32, hYe, Nat.mul_div_cancel _ (by omega)]
  have b1 : ((y : Int) == 0) = false := by simp; omega
  have b2 : ((hi : Int) == 0) = false := by simp; omega
  have fq1 := quoN' hq hU
  have fq0 := quoN' hq0e h21l
  clear hqY1 hqY0 hq hq0e hm1c hm2c hun1 hun0
  have f12 := L12 hd1 hU
  have f13 := wmulK hrK
  have f14 := L14 h21 h21l
  have f16 := addr (U * 4294967296 % 18446744073709551616) un1
  have f18 := L18 hd1 h21 h21l
  have f21 := L12 hd2 h21l
  have f22 := wmulK hr0K
  have f23 := L23 hr0K hu0
  have f24 := wmulR hq1
  have f25 := L25 hq1 hq0
  have f27 := addr (un21 * 4294967296 % 18446744073709551616) un0
  have f29 := L29 hd2 hr0K hu0
  exact div64_walk _ _ _ _ _ _ _ _ _ _ _ _ _ _ _ _ _ _ _ _ _ _ _ _ _ _ _ _ _ _ _ _ s w z1 b1 z2 b2 LZ (wrapv P1.out hY) f2 f3 (wrapv P2.out hAA) P3.out P4.out P5.out f8 f9 z3 fq1 f11 f12 z4 f13 f14 z6 (wmulM U) f16 f17 f18 fq0 f20 f21 z5 f22 f23 z7 f24 f25 (wmulM un21) f27 f28 f29 P6.out
theorem div64_high (hi lo y : Nat) (h0 : 0 < hi) (hhy : hi < y) (hy : y ≤ 1000000) (hlo : lo < 18446744073709551616) (w : World) :
    Calls Try.prog 45 #[.int .u64 (hi : Int), .int .u64 (lo : Int), .int .u64 (y : Int)] w (DivP ((hi * 18446744073709551616 + lo) / y) ((hi * 18446744073709551616 + lo) % y) w) := by
  obtain ⟨l20, l1, lly⟩ := len_small (y := y) (by omega) hy
  have LZ := lead_any y (by omega)
  obtain ⟨s, hs⟩ : ∃ s, s + lenN y = 64 := ⟨64 - lenN y, by omega⟩
  rw [show (64 - (lenN y : Int)) = (s : Int) by omega] at LZ
  have hc : 2 ^ s * 2 ^ lenN y = 18446744073709551616 := by rw [← Nat.pow_add, hs]
  have hp' : 2 ^ s = 2 ^ (s - 32) * 4294967296 := by
    rw [show (4294967296 : Nat) = 2 ^ 32 from rfl, ← Nat.pow_add, show s - 32 + 32 = s by omega]
  have hl64 : 64 - s = lenN y := by omega
  have pp := two_pos (s - 32)
  generalize hpd : 2 ^ (s - 32) = p' at *
  have hcp := two_pos (lenN y)
  generalize hcd : 2 ^ lenN y = c at *
  -- the greatest numbers
  have hY : y * 2 ^ s < 18446744073709551616 := by
    rw [← hc, Nat.mul_comm (2 ^ s) c]
    exact Nat.mul_lt_mul_of_pos_right lly (two_pos s)
  have hYe : y * 2 ^ s = (y * p') * 4294967296 := by rw [hp', Nat.mul_assoc]
  have hB : lo / c < 2 ^ s := by
    rw [Nat.div_lt_iff_lt_mul (by omega), hc]
    exact hlo
  have hA : hi * 2 ^ s + 2 ^ s ≤ y * 2 ^ s := by
    have := Nat.mul_le_mul_right (2 ^ s) (show hi + 1 ≤ y by omega)
    rw [Nat.add_mul, Nat.one_mul] at this
    exact this
  have hX : (hi * 18446744073709551616 + lo) * 2 ^ s = (hi * 2 ^ s + lo / c) * 18446744073709551616 + lo * 2 ^ s % 18446744073709551616 := by
    have e1 : lo * 2 ^ s / 18446744073709551616 = lo / c := by
      rw [← hc, Nat.mul_comm lo, Nat.mul_div_mul_left _ _ (two_pos s)]
    have e2 := Nat.div_add_mod (lo * 2 ^ s) 18446744073709551616
    rw [e1] at e2
    rw [Nat.add_mul, Nat.add_mul, Nat.mul_right_comm]
    omega
  have hyn : 0 < y * p' := Nat.mul_pos (by omega) (by omega)
  have hd1 := Nat.div_add_mod (hi * 2 ^ s + lo / c) (y * p')
  have hm1 := Nat.mod_lt (hi * 2 ^ s + lo / c) hyn
  have hq1 : (hi * 2 ^ s + lo / c) / (y * p') < 4294967296 := by
    rw [Nat.div_lt_iff_lt_mul hyn, Nat.mul_comm 4294967296]
    omega
  have hp0 := two_pos s
  have oS := or_sum (a := hi) (b := lo / c) (s := s) hB (by omega)
  have pw1 := powN y s
  have pw2 := powN hi s
  have pw3 := powN lo s
  have dv1 : (lo : Int) / 2 ^ (64 - s) = ((lo / c : Nat) : Int) := by rw [divP lo (64 - s), hl64, hcd]
  have dvR := fun R5 : Nat => divP R5 s
  generalize hps : 2 ^ s = p at *
  have hWl : lo * p % 18446744073709551616 < 18446744073709551616 := Nat.mod_lt _ (by omega)
  have hlp : IntKind.u64.wrap ((lo * p : Nat) : Int) = ((lo * p % 18446744073709551616 : Nat) : Int) := by rw [IntKind.wrap_u64]; omega
  have hXY : (hi * 18446744073709551616 + lo) * p = (hi * p + lo / c) * 18446744073709551616 + lo * p % 18446744073709551616 := hX
  have hUlt : hi * p + lo / c < 18446744073709551616 := by omega
  have hAAl : hi * p < 18446744073709551616 := by omega
  have hsl : s ≤ 64 := by omega
  generalize hW : lo * p % 18446744073709551616 = W at *
  generalize hN1 : y * p' = N1 at *
  generalize hY1 : y * p = Y1 at *
  generalize hAA : hi * p = AA at *
  generalize hBB : lo / c = BB at *
  generalize hU : AA + BB = U at *
  generalize hq : U / N1 = q1 at *
  generalize hrh : U % N1 = rh at *
  have hN1K : N1 < 4294967296 := by omega
  generalize hM1 : N1 * q1 = m1 at *
  have hm1c : q1 * N1 = m1 := by rw [Nat.mul_comm]; exact hM1
  have hu0 := Nat.mod_lt W (show 4294967296 > 0 by omega)
  have hu1 : W / 4294967296 < 4294967296 := by omega
  have hWd := Nat.div_add_mod W 4294967296
  generalize hun1 : W / 4294967296 = un1 at *
  generalize hun0 : W % 4294967296 = un0 at *
  have hd2 := Nat.div_add_mod (rh * 4294967296 + un1) N1
  have hm2 := Nat.mod_lt (rh * 4294967296 + un1) hyn
  have hlt21 : rh * 4294967296 + un1 < N1 * 4294967296 := by omega
  have hq0 : (rh * 4294967296 + un1) / N1 < 4294967296 := by
    rw [Nat.div_lt_iff_lt_mul hyn, Nat.mul_comm 4294967296]
    exact hlt21
  obtain ⟨un21, h21⟩ : ∃ u, u = rh * 4294967296 + un1 := ⟨_, rfl⟩
  rw [← h21] at hd2 hm2 hq0 hlt21
  obtain ⟨q0, hq0e⟩ : ∃ u, un21 / N1 = u := ⟨_, rfl⟩
  obtain ⟨r0, hr0⟩ : ∃ u, un21 % N1 = u := ⟨_, rfl⟩
  rw [hq0e] at hd2 hq0
  rw [hr0] at hd2 hm2
  obtain ⟨m2, hM2⟩ : ∃ u, N1 * q0 = u := ⟨_, rfl⟩
  rw [hM2] at hd2
  have hm2c : q0 * N1 = m2 := by rw [Nat.mul_comm]; exact hM2
  have hqY1 : q1 * Y1 = m1 * 4294967296 := by rw [hYe, ← Nat.mul_assoc, hm1c]
  have hqY0 : q0 * Y1 = m2 * 4294967296 := by rw [hYe, ← Nat.mul_assoc, hm2c]
  have hfin : (hi * 18446744073709551616 + lo) * p = (q1 * 4294967296 + q0) * y * p + (r0 * 4294967296 + un0) := by
    have e : (q1 * 4294967296 + q0) * y * p = m1 * 4294967296 * 4294967296 + m2 * 4294967296 := by
      rw [Nat.mul_assoc, hY1, Nat.add_mul, Nat.mul_right_comm, hqY1, hqY0]
    rw [hXY, e, ← hd1, ← hWd]
    exact fin_sum hd2 h21
  have hR5 : r0 * 4294967296 + un0 < y * p := by rw [hY1]; exact r5_lt hm2 hu0 hYe
  obtain ⟨r, hr1, hr2, hr3⟩ : ∃ r, r0 * 4294967296 + un0 = r * p ∧ hi * 18446744073709551616 + lo = (q1 * 4294967296 + q0) * y + r ∧ r < y := by
    exact rem_part hp0 hfin hR5
  have hdiv : (hi * 18446744073709551616 + lo) / y = q1 * 4294967296 + q0 := by
    rw [hr2, Nat.mul_comm _ y, Nat.mul_add_div (by omega), Nat.div_eq_of_lt hr3, Nat.add_zero]
  have hmod : (hi * 18446744073709551616 + lo) % y = r := by
    rw [hr2, Nat.mul_comm _ y, Nat.mul_add_mod, Nat.mod_eq_of_lt hr3]
  have hRp : (r0 * 4294967296 + un0) / p = r := by rw [hr1, Nat.mul_div_cancel _ hp0]
  rw [hdiv, hmod]
  have dR := dvR (r0 * 4294967296 + un0)
  rw [hRp] at dR
  unfold DivP
  have K : Calls Try.prog 45 #[.int .u64 (hi : Int), .int .u64 (lo : Int), .int .u64 (y : Int)] w fun e w' => e = .returned (.tuple #[.int .u64 ((q1 * 4294967296 + q0 : Nat) : Int), .int .u64 (r : Int)]) ∧ w' = w := by
    exact div64_inst hi lo y Y1 N1 AA BB U W un1 un0 q1 m1 rh un21 q0 m2 r0 r s w hsl h0 hhy LZ pw1 hY hYe pw2 hAAl dv1 oS hUlt (by rw [pw3]; exact hlp) hWl hun1 hun0 hyn hq hm1c hd1 hm1 hq1 h21 hq0e hm2c hd2 hm2 hq0 hqY1 hqY0 dR
  exact K.mono fun e w' h => ⟨h.1, 0, h.2⟩
end Go.Proofs.Ytmegmjhkjaejgaa.sk
