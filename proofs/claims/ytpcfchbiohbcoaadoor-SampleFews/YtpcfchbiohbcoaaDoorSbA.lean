/-
  SbA.
-/
import Derived.Test.YtpcfchbiohbcoaaDoorSkAq
namespace Go.Proofs.YtpcfchbiohbcoaaDoor
open Go Go.RowKit
set_option maxRecDepth 100000

theorem dig_low {U N1 N0 y u q r : Nat} (hy : y = N1 * 4294967296 + N0) (hq : q * N1 + r = U) (hc : q * N0 ≤ r * 4294967296 + u) : q * y ≤ U * 4294967296 + u := by
  subst hy hq
  have e1 : q * (N1 * 4294967296 + N0) = q * N1 * 4294967296 + q * N0 := by rw [Nat.mul_add, Nat.mul_assoc]
  have e2 : (q * N1 + r) * 4294967296 = q * N1 * 4294967296 + r * 4294967296 := Nat.add_mul _ _ _
  rw [e1, e2, Nat.add_assoc]
  exact Nat.add_le_add_left hc _
theorem dig_high {U N1 N0 y u q r : Nat} (hy : y = N1 * 4294967296 + N0) (hq : q * N1 + r = U) (hc : r * 4294967296 + u < q * N0) : U * 4294967296 + u < q * y := by
  subst hy hq
  have e1 : q * (N1 * 4294967296 + N0) = q * N1 * 4294967296 + q * N0 := by rw [Nat.mul_add, Nat.mul_assoc]
  have e2 : (q * N1 + r) * 4294967296 = q * N1 * 4294967296 + r * 4294967296 := Nat.add_mul _ _ _
  rw [e1, e2, Nat.add_assoc]
  exact Nat.add_lt_add_left hc _
/-- While a digit is guessed. -/
structure DigI (U N1 N0 y u q r : Nat) : Prop where
  eq : q * N1 + r = U
  lt : r < 4294967296
  ge : (U * 4294967296 + u) / y ≤ q
  le : q ≤ 4294967297
structure DigE (U N1 N0 y u : Nat) : Prop where
  yy : y = N1 * 4294967296 + N0
  n0 : N0 < 4294967296
  n1 : 2147483648 ≤ N1 ∧ N1 < 4294967296
  hU : U < y
  hu : u < 4294967296
theorem DigE.pos {U N1 N0 y u : Nat} (h : DigE U N1 N0 y u) : 0 < y := by have := h.hU; omega
theorem DigE.top {U N1 N0 y u : Nat} (h : DigE U N1 N0 y u) : (U * 4294967296 + u) / y < 4294967296 := by
  rw [Nat.div_lt_iff_lt_mul h.pos]
  have := h.hU; have := h.hu
  omega
theorem DigE.start {U N1 N0 y u : Nat} (h : DigE U N1 N0 y u) : DigI U N1 N0 y u (U / N1) (U % N1) := by
  have hn := h.n1
  refine ⟨by rw [Nat.mul_comm]; exact Nat.div_add_mod U N1, ?_, ?_, ?_⟩
  · have := Nat.mod_lt U (show N1 > 0 by omega)
    omega
  · rw [Nat.le_div_iff_mul_le (by omega)]
    have h1 := Nat.div_mul_le_self (U * 4294967296 + u) y
    generalize (U * 4294967296 + u) / y = Q at *
    have e1 : Q * y = Q * N1 * 4294967296 + Q * N0 := by rw [h.yy, Nat.mul_add, Nat.mul_assoc]
    have := h.hu
    omega
  · have h1 : U / N1 < 4294967298 := by
      rw [Nat.div_lt_iff_lt_mul (by omega)]
      have := h.hU; have := h.yy; have := h.n0
      omega
    omega
theorem DigE.done {U N1 N0 y u q r : Nat} (h : DigE U N1 N0 y u) (k : DigI U N1 N0 y u q r) (hc : q * N0 ≤ r * 4294967296 + u) : q = (U * 4294967296 + u) / y := by
  have h1 := dig_low h.yy k.eq hc
  have h2 : q ≤ (U * 4294967296 + u) / y := by rw [Nat.le_div_iff_mul_le h.pos]; exact h1
  have := k.ge
  omega
theorem DigE.more {U N1 N0 y u q r : Nat} (h : DigE U N1 N0 y u) (k : DigI U N1 N0 y u q r) (hc : 4294967296 ≤ q ∨ r * 4294967296 + u < q * N0) : (U * 4294967296 + u) / y + 1 ≤ q := by
  rcases hc with hc | hc
  · have := h.top
    omega
  · have h1 := dig_high h.yy k.eq hc
    have h2 : (U * 4294967296 + u) / y < q := by rw [Nat.div_lt_iff_lt_mul h.pos]; exact h1
    omega
theorem DigE.step {U N1 N0 y u q r : Nat} (h : DigE U N1 N0 y u) (k : DigI U N1 N0 y u q r) (hc : 4294967296 ≤ q ∨ r * 4294967296 + u < q * N0) (hr : r + N1 < 4294967296) : DigI U N1 N0 y u (q - 1) (r + N1) := by
  have h1 := h.more k hc
  have h2 := k.eq
  refine ⟨?_, hr, by omega, by have := k.le; omega⟩
  have hq0 : 0 < q := Nat.lt_of_lt_of_le (Nat.succ_pos _) h1
  obtain ⟨p, rfl⟩ : ∃ p, q = p + 1 := ⟨q - 1, by omega⟩
  rw [Nat.add_mul, Nat.one_mul] at h2
  rw [Nat.add_sub_cancel]
  omega
theorem DigE.stop {U N1 N0 y u q r : Nat} (h : DigE U N1 N0 y u) (k : DigI U N1 N0 y u q r) (hc : 4294967296 ≤ q ∨ r * 4294967296 + u < q * N0) (hr : 4294967296 ≤ r + N1) : q - 1 = (U * 4294967296 + u) / y := by
  have h1 := h.more k hc
  have h2 := k.eq
  have hq0 : 0 < q := Nat.lt_of_lt_of_le (Nat.succ_pos _) h1
  obtain ⟨p, rfl⟩ : ∃ p, q = p + 1 := ⟨q - 1, by omega⟩
  rw [Nat.add_mul, Nat.one_mul] at h2
  rw [Nat.add_sub_cancel]
  have h3 : p * N0 ≤ (r + N1) * 4294967296 + u := by
    have h4 : p * N0 ≤ 4294967296 * N0 := Nat.mul_le_mul_right _ (by have := k.le; omega)
    have h7 : 4294967296 * N0 ≤ 4294967296 * (r + N1) := Nat.mul_le_mul_left _ (by have := h.n0; omega)
    rw [Nat.mul_comm 4294967296 (r + N1)] at h7
    exact Nat.le_trans (Nat.le_trans h4 h7) (Nat.le_add_right _ _)
  have h8 : p * N1 + (r + N1) = U := by rw [← h2, Nat.add_assoc, Nat.add_comm r N1]
  have h5 := dig_low (q := p) (r := r + N1) h.yy h8 h3
  have h6 : p ≤ (U * 4294967296 + u) / y := by rw [Nat.le_div_iff_mul_le h.pos]; exact h5
  omega
/-- Two digits make the quotient. -/
theorem two_digits {U y : Nat} (hy : 0 < y) : (U * 4294967296 / y) * 4294967296 + ((U * 4294967296 % y) * 4294967296 / y) = U * 18446744073709551616 / y := by
  have h1 := Nat.div_add_mod (U * 4294967296) y
  have e : U * 18446744073709551616 = (U * 4294967296 / y * 4294967296) * y + (U * 4294967296 % y) * 4294967296 := by
    generalize U * 4294967296 / y = a at *
    generalize U * 4294967296 % y = r at *
    have e1 : a * 4294967296 * y = y * a * 4294967296 := by rw [Nat.mul_right_comm, Nat.mul_comm a y]
    omega
  rw [e, Nat.mul_comm _ y, Nat.mul_add_div hy]
theorem leadF_any (v : Nat) (hv : v < 18446744073709551616) (w : World) :
    Calls Tryd.prog 38 #[.int .u64 (v : Int)] w fun e w' => e = .returned (.int .i64 (64 - (sk.lenN v : Int))) ∧ w' = w := by
  have L := sk.len64_any v hv
  have hl : sk.lenN v ≤ 64 := by
    unfold sk.lenN
    split
    · omega
    · obtain ⟨l1, l2⟩ := sk.log2_le (v := v) (by omega)
      rcases Nat.lt_or_ge v.log2 64 with h6 | h6
      · omega
      · have := Nat.pow_le_pow_right (n := 2) (by omega) h6
        omega
  have hl' : (sk.lenN v : Int) ≤ 64 := by omega
  clear hl
  go_enter Tryd.func38, Tryd.ntmps38
  go_wp2_with (go_at_call 53; (with_reducible refine (L _).mono ?_); clear L; rintro e w' ⟨rfl, hw⟩; obtain rfl := hw.symm)
  go_ret
  exact ⟨rfl, rfl⟩
theorem wrapF {a : Int} {n : Nat} (h : a = (n : Int)) (hn : n < 18446744073709551616) : IntKind.u64.wrap a = (n : Int) := by
  rw [h, IntKind.wrap_u64]; omega
theorem quoF (a b : Nat) (ha : a < 18446744073709551616) : IntKind.u64.wrap ((a : Int).tdiv (b : Int)) = ((a / b : Nat) : Int) := by
  refine wrapF ?_ (Nat.lt_of_le_of_lt (Nat.div_le_self _ _) ha)
  rw [Int.tdiv_eq_ediv_of_nonneg (Int.natCast_nonneg a), Int.natCast_ediv]
theorem DigE.pos1 {U N1 N0 y q r : Nat} (h : DigE U N1 N0 y 0) (k : DigI U N1 N0 y 0 q r) (hc : 4294967296 ≤ q ∨ r * 4294967296 < q * N0) : 1 ≤ q := Nat.le_trans (Nat.succ_le_succ (Nat.zero_le _)) (h.more k (by rw [Nat.add_zero]; exact hc))
theorem DigE.stop0 {U N1 N0 y q r : Nat} (h : DigE U N1 N0 y 0) (k : DigI U N1 N0 y 0 q r) (hc : 4294967296 ≤ q ∨ r * 4294967296 < q * N0) (hr : 4294967296 ≤ r + N1) : q - 1 = U * 4294967296 / y := by
  have := h.stop k (by rw [Nat.add_zero]; exact hc) hr
  rwa [Nat.add_zero] at this
theorem DigE.done0 {U N1 N0 y q r : Nat} (h : DigE U N1 N0 y 0) (k : DigI U N1 N0 y 0 q r) (hc : q * N0 ≤ r * 4294967296) : q = U * 4294967296 / y := by
  have := h.done k (by rw [Nat.add_zero]; exact hc)
  rwa [Nat.add_zero] at this
/-- All that one digit asks: the numbers of a round, by names. -/
structure DigW (N1 N0 q r qm rn rb qn : Nat) : Prop where
  eqm : qm = q - 1
  ern : rn = r + N1
  erb : rb = r * 4294967296
  eqn : qn = q * N0
  sub1 : 1 ≤ q → IntKind.u64.wrap ((q : Int) - 1) = (qm : Int)
  addn : IntKind.u64.wrap ((r : Int) + (N1 : Int)) = (rn : Int)
  mulr : IntKind.u64.wrap (4294967296 * (r : Int)) = (rb : Int)
  mulq : q < 4294967296 → IntKind.u64.wrap ((q : Int) * (N0 : Int)) = (qn : Int)
  keep : IntKind.u64.wrap ((rb : Int) + 0) = (rb : Int)
  kept : IntKind.u64.wrap (rb : Int) = (rb : Int)
theorem DigE.words {U N1 N0 Y1 q r : Nat} (h : DigE U N1 N0 Y1 0) (k : DigI U N1 N0 Y1 0 q r) : ∃ qm rn rb qn, DigW N1 N0 q r qm rn rb qn := by
  have h1 := h.n1; have h2 := h.n0; have h3 := k.lt; have h4 := k.le
  have hr : r * 4294967296 < 18446744073709551616 := by omega
  refine ⟨q - 1, r + N1, r * 4294967296, q * N0, rfl, rfl, rfl, rfl, fun h5 => wrapF (by omega) (by omega), wrapF (by omega) (by omega), wrapF (by omega) hr, fun h5 => wrapF (Int.natCast_mul _ _).symm ?_, wrapF (by omega) hr, wrapF rfl hr⟩
  have h6 : q * N0 ≤ q * 4294967296 := Nat.mul_le_mul_left _ (by omega)
  omega
theorem DigE.fresh {U N1 N0 Y1 : Nat} (h : DigE U N1 N0 Y1 0) (hY : Y1 < 18446744073709551616) : ∃ q m r : Nat, IntKind.u64.wrap ((U : Int).tdiv (N1 : Int)) = (q : Int) ∧ IntKind.u64.wrap ((U : Int) / (N1 : Int)) = (q : Int) ∧ IntKind.u64.wrap ((q : Int) * (N1 : Int)) = (m : Int) ∧ IntKind.u64.wrap ((U : Int) - (m : Int)) = (r : Int) ∧ DigI U N1 N0 Y1 0 q r := by
  have hU := h.hU
  have h1 : U / N1 * N1 + U % N1 = U := by rw [Nat.mul_comm]; exact Nat.div_add_mod U N1
  refine ⟨U / N1, U / N1 * N1, U % N1, quoF U N1 (by omega), ?_, wrapF (Int.natCast_mul _ _).symm (by omega), wrapF (by omega) (by omega), h.start⟩
  refine wrapF (Int.natCast_ediv _ _).symm (Nat.lt_of_le_of_lt (Nat.div_le_self _ _) (by omega))
set_option maxHeartbeats 8000000 in
theorem div64_walk (hi y Y1 N1 N0 U V s D1 D2 G P1 B1 Q : Nat) (w : World) (hs : (s : Int) ≤ 64) (hy : ((y : Int) == 0) = false) (hyh : ¬ (y : Int) ≤ (hi : Int)) (hh : ((hi : Int) == 0) = false)
    (LZ : ∀ W, Calls Tryd.prog 38 #[.int .u64 (y : Int)] W fun e w' => e = .returned (.int .i64 (s : Int)) ∧ w' = W)
    (e1 : IntKind.u64.wrap ((y : Int) * 2 ^ s) = (Y1 : Int)) (e2 : (Y1 : Int) / 4294967296 = (N1 : Int)) (e3 : bits .and .u64 (Y1 : Int) 4294967295 = (N0 : Int)) (e4 : IntKind.u64.wrap ((hi : Int) * 2 ^ s) = (U : Int)) (e5 : (0 : Int) / 2 ^ (64 - s) = 0) (e6 : bits .or .u64 (U : Int) 0 = (U : Int)) (e7 : bits .and .u64 0 4294967295 = 0) (hN : (0 : Int) < (N1 : Int)) (hY1 : Y1 < 18446744073709551616)
    (E1 : Hid (DigE U N1 N0 Y1 0)) (E2 : Hid (DigE V N1 N0 Y1 0)) (ED1 : Hid (D1 = U * 4294967296 / Y1)) (ED2 : Hid (D2 = V * 4294967296 / Y1)) (g1 : IntKind.u64.wrap ((U : Int) * 4294967296) = (G : Int)) (g2 : IntKind.u64.wrap (G : Int) = (G : Int)) (g3 : IntKind.u64.wrap ((D1 : Int) * (Y1 : Int)) = (P1 : Int)) (g4 : IntKind.u64.wrap ((G : Int) - (P1 : Int)) = (V : Int))
    (g5 : IntKind.u64.wrap ((D1 : Int) * 4294967296) = (B1 : Int)) (g6 : IntKind.u64.wrap ((B1 : Int) + (D2 : Int)) = (Q : Int)) :
    Calls Tryd.prog 23 #[.int .u64 (hi : Int), .int .u64 0, .int .u64 (y : Int)] w fun e w' => ∃ R : Int, e = .returned (.tuple #[.int .u64 (Q : Int), .int .u64 R]) ∧ w' = w := by
  obtain ⟨q10, m10, r10, a0, a1, a2, a3, S1'⟩ := E1.out.fresh hY1
  obtain ⟨q20, m20, r20, b0, b1, b2, b3, S2'⟩ := E2.out.fresh hY1
  have S1 : Hid (DigI U N1 N0 Y1 0 q10 r10) := S1'
  have S2 : Hid (DigI V N1 N0 Y1 0 q20 r20) := S2'
  clear hY1 S1' S2'
  go_enter Tryd.func23, Tryd.ntmps23
  go_wp2_with (go_at_call 38; (with_reducible refine (LZ _).mono ?_); clear LZ; rintro e w' ⟨rfl, hw⟩; obtain rfl := hw.symm)
  go_loop [15, 16] (fun a b => ∃ q r : Nat, a = .int .u64 (q : Int) ∧ b = .int .u64 (r : Int) ∧ Hid (DigI U N1 N0 Y1 0 q r)) (fun a _ => (intOf a).toNat)
  case atStart => exact ⟨_, _, rfl, rfl, S1⟩
  case round =>
    obtain ⟨q1, r1, rfl, rfl, HI⟩ := hrel
    obtain ⟨qm, rn, rb, qn, eqm, ern, erb, eqn, f1, f2, f3, f4, f5, f6⟩ := E1.out.words HI.out
    have e1m : Hid (qm = q1 - 1) := eqm
    have e1n : Hid (rn = r1 + N1) := ern
    have e1b : Hid (rb = r1 * 4294967296) := erb
    have e1q : Hid (qn = q1 * N0) := eqn
    clear eqm ern erb eqn
    by_cases hq : 4294967296 ≤ q1
    · have hq1 : (4294967296 : Int) ≤ (q1 : Int) := by omega
      clear f4 f3 f5 f6
      have HC : Hid (4294967296 ≤ q1 ∨ r1 * 4294967296 < q1 * N0) := Or.inl hq
      have hp1 := E1.out.pos1 HI.out HC.out
      have f1 := f1 hp1
      by_cases hr : rn < 4294967296
      · have hr1 : ¬ (4294967296 : Int) ≤ (rn : Int) := by omega
        have HN : Hid (DigI U N1 N0 Y1 0 qm rn) := by rw [e1m.out, e1n.out]; exact E1.out.step HI.out (by rw [Nat.add_zero]; exact HC.out) (by rw [← e1n.out]; exact hr)
        have hml : Hid (qm < q1) := by rw [e1m.out]; exact Nat.sub_lt hp1 (by decide)
        clear hr hp1 HI HC e1m e1n e1b e1q
        go_wp2
        go_round
        case rel => exact ⟨qm, rn, rfl, rfl, HN⟩
        case measure => (simp [intOf]; exact hml.out)
      · have hr1 : (4294967296 : Int) ≤ (rn : Int) := by omega
        have HQ : qm = D1 := by rw [e1m.out, ED1.out]; exact E1.out.stop0 HI.out HC.out (by rw [← e1n.out]; exact Nat.le_of_not_lt hr)
        rw [HQ] at f1
        clear hr hp1 HI HC HQ e1m e1n e1b e1q
        go_wp2
        go_loop [18, 16] (fun a b => ∃ q r : Nat, a = .int .u64 (q : Int) ∧ b = .int .u64 (r : Int) ∧ Hid (DigI V N1 N0 Y1 0 q r)) (fun a _ => (intOf a).toNat)
        case atStart => exact ⟨_, _, rfl, rfl, S2⟩
        case round =>
          obtain ⟨q2, r2, rfl, rfl, HI⟩ := hrel
          obtain ⟨qm, rn, rb, qn, eqm, ern, erb, eqn, f1, f2, f3, f4, f5, f6⟩ := E2.out.words HI.out
          have e1m : Hid (qm = q2 - 1) := eqm
          have e1n : Hid (rn = r2 + N1) := ern
          have e1b : Hid (rb = r2 * 4294967296) := erb
          have e1q : Hid (qn = q2 * N0) := eqn
          clear eqm ern erb eqn
          by_cases hq : 4294967296 ≤ q2
          · have hq1 : (4294967296 : Int) ≤ (q2 : Int) := by omega
            clear f4 f3 f5 f6
            have HC : Hid (4294967296 ≤ q2 ∨ r2 * 4294967296 < q2 * N0) := Or.inl hq
            have hp1 := E2.out.pos1 HI.out HC.out
            have f1 := f1 hp1
            by_cases hr : rn < 4294967296
            · have hr1 : ¬ (4294967296 : Int) ≤ (rn : Int) := by omega
              have HN : Hid (DigI V N1 N0 Y1 0 qm rn) := by rw [e1m.out, e1n.out]; exact E2.out.step HI.out (by rw [Nat.add_zero]; exact HC.out) (by rw [← e1n.out]; exact hr)
              have hml : Hid (qm < q2) := by rw [e1m.out]; exact Nat.sub_lt hp1 (by decide)
              clear hr hp1 HI HC e1m e1n e1b e1q
              go_wp2
              go_round
              case rel => exact ⟨qm, rn, rfl, rfl, HN⟩
              case measure => (simp [intOf]; exact hml.out)
            · have hr1 : (4294967296 : Int) ≤ (rn : Int) := by omega
              have HQ : qm = D2 := by rw [e1m.out, ED2.out]; exact E2.out.stop0 HI.out HC.out (by rw [← e1n.out]; exact Nat.le_of_not_lt hr)
              rw [HQ] at f1
              clear hr hp1 HI HC HQ e1m e1n e1b e1q
              go_wp2
              go_returns
              exact ⟨⟨_, rfl⟩, rfl⟩
          · have hq1 : ¬ (4294967296 : Int) ≤ (q2 : Int) := by omega
            have f4 := f4 (Nat.lt_of_not_le hq)
            by_cases hc : rb < qn
            · have hc1 : (rb : Int) < (qn : Int) := by omega
              have HC : Hid (4294967296 ≤ q2 ∨ r2 * 4294967296 < q2 * N0) := Or.inr (by rw [← e1b.out, ← e1q.out]; exact hc)
              have hp1 := E2.out.pos1 HI.out HC.out
              have f1 := f1 hp1
              by_cases hr : rn < 4294967296
              · have hr1 : ¬ (4294967296 : Int) ≤ (rn : Int) := by omega
                have HN : Hid (DigI V N1 N0 Y1 0 qm rn) := by rw [e1m.out, e1n.out]; exact E2.out.step HI.out (by rw [Nat.add_zero]; exact HC.out) (by rw [← e1n.out]; exact hr)
                have hml : Hid (qm < q2) := by rw [e1m.out]; exact Nat.sub_lt hp1 (by decide)
                clear hr hp1 HI HC e1m e1n e1b e1q
                go_wp2
                go_round
                case rel => exact ⟨qm, rn, rfl, rfl, HN⟩
                case measure => (simp [intOf]; exact hml.out)
              · have hr1 : (4294967296 : Int) ≤ (rn : Int) := by omega
                have HQ : qm = D2 := by rw [e1m.out, ED2.out]; exact E2.out.stop0 HI.out HC.out (by rw [← e1n.out]; exact Nat.le_of_not_lt hr)
                rw [HQ] at f1
                clear hr hp1 HI HC HQ e1m e1n e1b e1q
                go_wp2
                go_returns
                exact ⟨⟨_, rfl⟩, rfl⟩
            · have hc1 : ¬ (rb : Int) < (qn : Int) := by omega
              have HQ : q2 = D2 := by rw [ED2.out]; exact E2.out.done0 HI.out (by rw [← e1b.out, ← e1q.out]; exact Nat.le_of_not_lt hc)
              subst HQ
              clear HI f1 f2 e1m e1n e1b e1q
              go_wp2
              go_returns
              exact ⟨⟨_, rfl⟩, rfl⟩
    · have hq1 : ¬ (4294967296 : Int) ≤ (q1 : Int) := by omega
      have f4 := f4 (Nat.lt_of_not_le hq)
      by_cases hc : rb < qn
      · have hc1 : (rb : Int) < (qn : Int) := by omega
        have HC : Hid (4294967296 ≤ q1 ∨ r1 * 4294967296 < q1 * N0) := Or.inr (by rw [← e1b.out, ← e1q.out]; exact hc)
        have hp1 := E1.out.pos1 HI.out HC.out
        have f1 := f1 hp1
        by_cases hr : rn < 4294967296
        · have hr1 : ¬ (4294967296 : Int) ≤ (rn : Int) := by omega
          have HN : Hid (DigI U N1 N0 Y1 0 qm rn) := by rw [e1m.out, e1n.out]; exact E1.out.step HI.out (by rw [Nat.add_zero]; exact HC.out) (by rw [← e1n.out]; exact hr)
          have hml : Hid (qm < q1) := by rw [e1m.out]; exact Nat.sub_lt hp1 (by decide)
          clear hr hp1 HI HC e1m e1n e1b e1q
          go_wp2
          go_round
          case rel => exact ⟨qm, rn, rfl, rfl, HN⟩
          case measure => (simp [intOf]; exact hml.out)
        · have hr1 : (4294967296 : Int) ≤ (rn : Int) := by omega
          have HQ : qm = D1 := by rw [e1m.out, ED1.out]; exact E1.out.stop0 HI.out HC.out (by rw [← e1n.out]; exact Nat.le_of_not_lt hr)
          rw [HQ] at f1
          clear hr hp1 HI HC HQ e1m e1n e1b e1q
          go_wp2
          go_loop [18, 16] (fun a b => ∃ q r : Nat, a = .int .u64 (q : Int) ∧ b = .int .u64 (r : Int) ∧ Hid (DigI V N1 N0 Y1 0 q r)) (fun a _ => (intOf a).toNat)
          case atStart => exact ⟨_, _, rfl, rfl, S2⟩
          case round =>
            obtain ⟨q2, r2, rfl, rfl, HI⟩ := hrel
            obtain ⟨qm, rn, rb, qn, eqm, ern, erb, eqn, f1, f2, f3, f4, f5, f6⟩ := E2.out.words HI.out
            have e1m : Hid (qm = q2 - 1) := eqm
            have e1n : Hid (rn = r2 + N1) := ern
            have e1b : Hid (rb = r2 * 4294967296) := erb
            have e1q : Hid (qn = q2 * N0) := eqn
            clear eqm ern erb eqn
            by_cases hq : 4294967296 ≤ q2
            · have hq1 : (4294967296 : Int) ≤ (q2 : Int) := by omega
              clear f4 f3 f5 f6
              have HC : Hid (4294967296 ≤ q2 ∨ r2 * 4294967296 < q2 * N0) := Or.inl hq
              have hp1 := E2.out.pos1 HI.out HC.out
              have f1 := f1 hp1
              by_cases hr : rn < 4294967296
              · have hr1 : ¬ (4294967296 : Int) ≤ (rn : Int) := by omega
                have HN : Hid (DigI V N1 N0 Y1 0 qm rn) := by rw [e1m.out, e1n.out]; exact E2.out.step HI.out (by rw [Nat.add_zero]; exact HC.out) (by rw [← e1n.out]; exact hr)
                have hml : Hid (qm < q2) := by rw [e1m.out]; exact Nat.sub_lt hp1 (by decide)
                clear hr hp1 HI HC e1m e1n e1b e1q
                go_wp2
                go_round
                case rel => exact ⟨qm, rn, rfl, rfl, HN⟩
                case measure => (simp [intOf]; exact hml.out)
              · have hr1 : (4294967296 : Int) ≤ (rn : Int) := by omega
                have HQ : qm = D2 := by rw [e1m.out, ED2.out]; exact E2.out.stop0 HI.out HC.out (by rw [← e1n.out]; exact Nat.le_of_not_lt hr)
                rw [HQ] at f1
                clear hr hp1 HI HC HQ e1m e1n e1b e1q
                go_wp2
                go_returns
                exact ⟨⟨_, rfl⟩, rfl⟩
            · have hq1 : ¬ (4294967296 : Int) ≤ (q2 : Int) := by omega
              have f4 := f4 (Nat.lt_of_not_le hq)
              by_cases hc : rb < qn
              · have hc1 : (rb : Int) < (qn : Int) := by omega
                have HC : Hid (4294967296 ≤ q2 ∨ r2 * 4294967296 < q2 * N0) := Or.inr (by rw [← e1b.out, ← e1q.out]; exact hc)
                have hp1 := E2.out.pos1 HI.out HC.out
                have f1 := f1 hp1
                by_cases hr : rn < 4294967296
                · have hr1 : ¬ (4294967296 : Int) ≤ (rn : Int) := by omega
                  have HN : Hid (DigI V N1 N0 Y1 0 qm rn) := by rw [e1m.out, e1n.out]; exact E2.out.step HI.out (by rw [Nat.add_zero]; exact HC.out) (by rw [← e1n.out]; exact hr)
                  have hml : Hid (qm < q2) := by rw [e1m.out]; exact Nat.sub_lt hp1 (by decide)
                  clear hr hp1 HI HC e1m e1n e1b e1q
                  go_wp2
                  go_round
                  case rel => exact ⟨qm, rn, rfl, rfl, HN⟩
                  case measure => (simp [intOf]; exact hml.out)
                · have hr1 : (4294967296 : Int) ≤ (rn : Int) := by omega
                  have HQ : qm = D2 := by rw [e1m.out, ED2.out]; exact E2.out.stop0 HI.out HC.out (by rw [← e1n.out]; exact Nat.le_of_not_lt hr)
                  rw [HQ] at f1
                  clear hr hp1 HI HC HQ e1m e1n e1b e1q
                  go_wp2
                  go_returns
                  exact ⟨⟨_, rfl⟩, rfl⟩
              · have hc1 : ¬ (rb : Int) < (qn : Int) := by omega
                have HQ : q2 = D2 := by rw [ED2.out]; exact E2.out.done0 HI.out (by rw [← e1b.out, ← e1q.out]; exact Nat.le_of_not_lt hc)
                subst HQ
                clear HI f1 f2 e1m e1n e1b e1q
                go_wp2
                go_returns
                exact ⟨⟨_, rfl⟩, rfl⟩
      · have hc1 : ¬ (rb : Int) < (qn : Int) := by omega
        have HQ : q1 = D1 := by rw [ED1.out]; exact E1.out.done0 HI.out (by rw [← e1b.out, ← e1q.out]; exact Nat.le_of_not_lt hc)
        subst HQ
        clear HI f1 f2 e1m e1n e1b e1q
        go_wp2
        go_loop [18, 16] (fun a b => ∃ q r : Nat, a = .int .u64 (q : Int) ∧ b = .int .u64 (r : Int) ∧ Hid (DigI V N1 N0 Y1 0 q r)) (fun a _ => (intOf a).toNat)
        case atStart => exact ⟨_, _, rfl, rfl, S2⟩
        case round =>
          obtain ⟨q2, r2, rfl, rfl, HI⟩ := hrel
          obtain ⟨qm, rn, rb, qn, eqm, ern, erb, eqn, f1, f2, f3, f4, f5, f6⟩ := E2.out.words HI.out
          have e1m : Hid (qm = q2 - 1) := eqm
          have e1n : Hid (rn = r2 + N1) := ern
          have e1b : Hid (rb = r2 * 4294967296) := erb
          have e1q : Hid (qn = q2 * N0) := eqn
          clear eqm ern erb eqn
          by_cases hq : 4294967296 ≤ q2
          · have hq1 : (4294967296 : Int) ≤ (q2 : Int) := by omega
            clear f4 f3 f5 f6
            have HC : Hid (4294967296 ≤ q2 ∨ r2 * 4294967296 < q2 * N0) := Or.inl hq
            have hp1 := E2.out.pos1 HI.out HC.out
            have f1 := f1 hp1
            by_cases hr : rn < 4294967296
            · have hr1 : ¬ (4294967296 : Int) ≤ (rn : Int) := by omega
              have HN : Hid (DigI V N1 N0 Y1 0 qm rn) := by rw [e1m.out, e1n.out]; exact E2.out.step HI.out (by rw [Nat.add_zero]; exact HC.out) (by rw [← e1n.out]; exact hr)
              have hml : Hid (qm < q2) := by rw [e1m.out]; exact Nat.sub_lt hp1 (by decide)
              clear hr hp1 HI HC e1m e1n e1b e1q
              go_wp2
              go_round
              case rel => exact ⟨qm, rn, rfl, rfl, HN⟩
              case measure => (simp [intOf]; exact hml.out)
            · have hr1 : (4294967296 : Int) ≤ (rn : Int) := by omega
              have HQ : qm = D2 := by rw [e1m.out, ED2.out]; exact E2.out.stop0 HI.out HC.out (by rw [← e1n.out]; exact Nat.le_of_not_lt hr)
              rw [HQ] at f1
              clear hr hp1 HI HC HQ e1m e1n e1b e1q
              go_wp2
              go_returns
              exact ⟨⟨_, rfl⟩, rfl⟩
          · have hq1 : ¬ (4294967296 : Int) ≤ (q2 : Int) := by omega
            have f4 := f4 (Nat.lt_of_not_le hq)
            by_cases hc : rb < qn
            · have hc1 : (rb : Int) < (qn : Int) := by omega
              have HC : Hid (4294967296 ≤ q2 ∨ r2 * 4294967296 < q2 * N0) := Or.inr (by rw [← e1b.out, ← e1q.out]; exact hc)
              have hp1 := E2.out.pos1 HI.out HC.out
              have f1 := f1 hp1
              by_cases hr : rn < 4294967296
              · have hr1 : ¬ (4294967296 : Int) ≤ (rn : Int) := by omega
                have HN : Hid (DigI V N1 N0 Y1 0 qm rn) := by rw [e1m.out, e1n.out]; exact E2.out.step HI.out (by rw [Nat.add_zero]; exact HC.out) (by rw [← e1n.out]; exact hr)
                have hml : Hid (qm < q2) := by rw [e1m.out]; exact Nat.sub_lt hp1 (by decide)
                clear hr hp1 HI HC e1m e1n e1b e1q
                go_wp2
                go_round
                case rel => exact ⟨qm, rn, rfl, rfl, HN⟩
                case measure => (simp [intOf]; exact hml.out)
              · have hr1 : (4294967296 : Int) ≤ (rn : Int) := by omega
                have HQ : qm = D2 := by rw [e1m.out, ED2.out]; exact E2.out.stop0 HI.out HC.out (by rw [← e1n.out]; exact Nat.le_of_not_lt hr)
                rw [HQ] at f1
                clear hr hp1 HI HC HQ e1m e1n e1b e1q
                go_wp2
                go_returns
                exact ⟨⟨_, rfl⟩, rfl⟩
            · have hc1 : ¬ (rb : Int) < (qn : Int) := by omega
              have HQ : q2 = D2 := by rw [ED2.out]; exact E2.out.done0 HI.out (by rw [← e1b.out, ← e1q.out]; exact Nat.le_of_not_lt hc)
              subst HQ
              clear HI f1 f2 e1m e1n e1b e1q
              go_wp2
              go_returns
              exact ⟨⟨_, rfl⟩, rfl⟩
theorem len_top {y : Nat} (h0 : 0 < y) (hy : y < 18446744073709551616) : ∃ s, s + sk.lenN y = 64 ∧ s ≤ 63 ∧ 9223372036854775808 ≤ y * 2 ^ s ∧ y * 2 ^ s < 18446744073709551616 := by
  rw [sk.lenN_log (by omega)]
  obtain ⟨l1, l2⟩ := sk.log2_le (v := y) (by omega)
  have hl : y.log2 ≤ 63 := by
    rcases Nat.lt_or_ge y.log2 64 with h6 | h6
    · omega
    · have := Nat.pow_le_pow_right (n := 2) (by omega) h6
      omega
  have hc : 2 ^ y.log2 * 2 ^ (63 - y.log2) = 9223372036854775808 := by rw [← Nat.pow_add, show y.log2 + (63 - y.log2) = 63 by omega]
  have hd : 2 ^ (y.log2 + 1) * 2 ^ (63 - y.log2) = 18446744073709551616 := by rw [← Nat.pow_add, show y.log2 + 1 + (63 - y.log2) = 64 by omega]
  refine ⟨63 - y.log2, by omega, by omega, ?_, ?_⟩
  · rw [← hc]
    exact Nat.mul_le_mul_right _ l1
  · rw [← hd]
    exact Nat.mul_lt_mul_of_pos_right l2 (Nat.two_pow_pos _)
theorem maskF (a : Nat) (ha : a < 18446744073709551616) : bits .and .u64 (a : Int) 4294967295 = ((a % 4294967296 : Nat) : Int) := by
  have h := bits_and_u64_nat a 4294967295 ha (by omega)
  have e : a &&& 4294967295 = a % 4294967296 := Nat.and_two_pow_sub_one_eq_mod a 32
  rw [e] at h
  exact h
theorem powF (a s : Nat) : (a : Int) * 2 ^ s = ((a * 2 ^ s : Nat) : Int) := by rw [Int.natCast_mul, Int.natCast_pow]; rfl
theorem modF {D Y G : Nat} (h : G = D * Y + G % Y) (hv : G % Y < 18446744073709551616) : IntKind.u64.wrap (((G % 18446744073709551616 : Nat) : Int) - ((D * Y % 18446744073709551616 : Nat) : Int)) = ((G % Y : Nat) : Int) := by
  rw [IntKind.wrap_u64]
  generalize G % Y = V at *
  generalize D * Y = P at *
  omega
/-- Div64 of a number and 64 noughts: the quotient. -/
theorem div64F_any (hi y : Nat) (h0 : 0 < hi) (hhy : hi < y) (hy : y < 18446744073709551616) (w : World) :
    Calls Tryd.prog 23 #[.int .u64 (hi : Int), .int .u64 0, .int .u64 (y : Int)] w fun e w' => ∃ R : Int, e = .returned (.tuple #[.int .u64 ((hi * 18446744073709551616 / y : Nat) : Int), .int .u64 R]) ∧ w' = w := by
  obtain ⟨s, hs, hs63, hlo, hYt⟩ := len_top (y := y) (by omega) hy
  have LZ := leadF_any y hy
  rw [show (64 - (sk.lenN y : Int)) = (s : Int) by omega] at LZ
  have hUY : hi * 2 ^ s < y * 2 ^ s := Nat.mul_lt_mul_of_pos_right hhy (Nat.two_pow_pos _)
  have p1 := powF y s
  have p2 := powF hi s
  have hquo : hi * 2 ^ s * 18446744073709551616 / (y * 2 ^ s) = hi * 18446744073709551616 / y := by
    rw [Nat.mul_right_comm, Nat.mul_div_mul_right _ _ (Nat.two_pow_pos s)]
  generalize hY1 : y * 2 ^ s = Y1 at *
  generalize hU1 : hi * 2 ^ s = U at *
  have hYpos : 0 < Y1 := by omega
  have E1 : DigE U (Y1 / 4294967296) (Y1 % 4294967296) Y1 0 := ⟨by omega, by omega, by omega, hUY, by omega⟩
  have E2 : DigE (U * 4294967296 % Y1) (Y1 / 4294967296) (Y1 % 4294967296) Y1 0 := ⟨E1.yy, E1.n0, E1.n1, Nat.mod_lt _ hYpos, by omega⟩
  have t1 := E1.top
  have t2 := E2.top
  rw [Nat.add_zero] at t1 t2
  have two := two_digits (U := U) hYpos
  rw [hquo] at two
  have dm := Nat.div_add_mod (U * 4294967296) Y1
  rw [Nat.mul_comm] at dm
  have hml := Nat.mod_lt (U * 4294967296) hYpos
  have g4 := modF (D := U * 4294967296 / Y1) (Y := Y1) (G := U * 4294967296) dm.symm (Nat.lt_trans hml hYt)
  refine div64_walk hi y Y1 (Y1 / 4294967296) (Y1 % 4294967296) U (U * 4294967296 % Y1) s (U * 4294967296 / Y1) (U * 4294967296 % Y1 * 4294967296 / Y1) (U * 4294967296 % 18446744073709551616) (U * 4294967296 / Y1 * Y1 % 18446744073709551616) (U * 4294967296 / Y1 * 4294967296) _ w (by omega) (by simp; omega) (by omega) (by simp; omega) LZ (wrapF p1 hYt) ?_ ?_ (wrapF p2 (Nat.lt_trans hUY hYt)) (Int.zero_ediv _) ?_ (by decide) ?_ hYt E1 E2 rfl rfl ?_ ?_ ?_ g4 ?_ ?_
  · rw [Int.natCast_ediv]; rfl
  · exact maskF Y1 hYt
  · have := bits_or_u64_nat U 0 (Nat.lt_trans hUY hYt) (by decide)
    rwa [Nat.or_zero] at this
  · have := E1.n1
    omega
  · rw [IntKind.wrap_u64]; omega
  · exact wrapF rfl (Nat.mod_lt _ (by decide))
  · rw [← Int.natCast_mul, IntKind.wrap_u64]; omega
  · exact wrapF (by rw [Int.natCast_mul]; rfl) (by omega)
  · rw [← two]
    exact wrapF (Int.natCast_add _ _).symm (by omega)
end Go.Proofs.YtpcfchbiohbcoaaDoor
