/-
  SbM.
-/
import Derived.Test.YtpcfchbiohbcoaaDoorSbEq
namespace Go.Proofs.YtpcfchbiohbcoaaDoor
open Go Go.RowKit
set_option maxRecDepth 100000

theorem bit_step {y X q r : Nat} (hy : 0 < y) (hX : X = q * y + r) (hr : r < y) : 2 * X / y = 2 * q + (if y ≤ 2 * r then 1 else 0) ∧ 2 * X % y = (if y ≤ 2 * r then 2 * r - y else 2 * r) := by
  have e : 2 * X = y * (2 * q) + 2 * r := by
    subst hX
    have : y * (2 * q) = 2 * (q * y) := by rw [Nat.mul_left_comm, Nat.mul_comm y q]
    omega
  by_cases hc : y ≤ 2 * r
  · rw [if_pos hc, if_pos hc]
    have e2 : 2 * X = y * (2 * q + 1) + (2 * r - y) := by
      have : y * (2 * q + 1) = y * (2 * q) + y := by rw [Nat.mul_add, Nat.mul_one]
      omega
    have hl : 2 * r - y < y := by omega
    exact ⟨by rw [e2, Nat.mul_add_div hy, Nat.div_eq_of_lt hl, Nat.add_zero], by rw [e2, Nat.mul_add_mod, Nat.mod_eq_of_lt hl]⟩
  · rw [if_neg hc, if_neg hc]
    have hl : 2 * r < y := by omega
    exact ⟨by rw [e, Nat.mul_add_div hy, Nat.div_eq_of_lt hl], by rw [e, Nat.mul_add_mod, Nat.mod_eq_of_lt hl]⟩
/-- Behind i rounds. -/
structure BitI (h y i q r : Nat) : Prop where
  eqq : q = h * 2 ^ i / y
  eqr : r = h * 2 ^ i % y
  lt : r < y
  qt : q < 2 ^ i
theorem BitI.zero {h y : Nat} (hh : h < y) : BitI h y 0 0 h := ⟨by rw [Nat.pow_zero, Nat.mul_one, Nat.div_eq_of_lt hh], by rw [Nat.pow_zero, Nat.mul_one, Nat.mod_eq_of_lt hh], hh, by simp⟩
theorem BitI.next {h y i q r : Nat} (k : BitI h y i q r) (hh : h < y) : BitI h y (i + 1) (2 * q + (if y ≤ 2 * r then 1 else 0)) (if y ≤ 2 * r then 2 * r - y else 2 * r) := by
  have hy : 0 < y := by omega
  have e : h * 2 ^ (i + 1) = 2 * (h * 2 ^ i) := by rw [Nat.pow_succ]; rw [← Nat.mul_assoc, Nat.mul_comm]
  have hX : h * 2 ^ i = q * y + r := by
    have h9 := Nat.div_add_mod (h * 2 ^ i) y
    rw [Nat.mul_comm y] at h9
    rw [k.eqq, k.eqr]
    exact h9.symm
  obtain ⟨h1, h2⟩ := bit_step hy hX k.lt
  have h3 := k.lt
  have h4 := k.qt
  refine ⟨by rw [e, h1], by rw [e, h2], ?_, ?_⟩
  · split <;> omega
  · rw [Nat.pow_succ]
    split <;> omega
theorem BitI.done {h y q r : Nat} (k : BitI h y 64 q r) : q = h * 18446744073709551616 / y := k.eqq
/-- The words of a round. -/
theorem bit_words {y r : Nat} (hr : r < y) (hy : y ≤ 18446744073709551615) : ∃ (hb r2 : Nat), IntKind.u64.wrap ((r : Int) * 2) = (r2 : Int) ∧ (r : Int) / 9223372036854775808 = (hb : Int) ∧ ((hb = 1 ∧ y ≤ 2 * r ∧ IntKind.u64.wrap ((r2 : Int) - (y : Int)) = ((2 * r - y : Nat) : Int)) ∨ (hb = 0 ∧ r2 = 2 * r ∧ (y ≤ r2 → IntKind.u64.wrap ((r2 : Int) - (y : Int)) = ((2 * r - y : Nat) : Int)))) := by
  refine ⟨r / 9223372036854775808, 2 * r % 18446744073709551616, by rw [IntKind.wrap_u64]; omega, by omega, ?_⟩
  rcases Nat.lt_or_ge r 9223372036854775808 with h | h
  · refine Or.inr ⟨by omega, by omega, fun h2 => by rw [IntKind.wrap_u64]; omega⟩
  · refine Or.inl ⟨by omega, by omega, by rw [IntKind.wrap_u64]; omega⟩
set_option maxHeartbeats 8000000 in
theorem rGuess_any (f base most : Nat) (T : List Tr) (w : World) (hF : FewG 66 w f base most T) :
    Calls Tryd.prog 11 #[.pointer (some ⟨f, 0, none⟩)] w fun e w' => e = .returned (.int .u64 ((gsN most T : Nat) : Int)) ∧ Below w.heap.size w w' := by
  obtain ⟨ao, c, hf, hO⟩ := hF.row
  have c0 : w.cell? ⟨f, 0, none⟩ = some (.int .i64 most) := hf.cell 0 rfl
  have c1 : w.cell? ⟨f, 1, none⟩ = some (.slice ao T.length c) := hf.cell 1 rfl
  have BB : Hid (Below w.heap.size w w) := Below.refl _ _
  have hlen := hF.len
  have hmost := hF.most
  by_cases hl : T.length < most
  · have HG : Hid (gsN most T = T.length) := if_pos hl
    obtain ⟨n, hn⟩ : ∃ n, T.length = n := ⟨_, rfl⟩
    rw [hn] at c1 hl HG
    have hl1 : (n : Int) < (most : Int) := by omega
    have hw : IntKind.u64.wrap (n : Int) = (n : Int) := wrapF rfl (by omega)
    clear hf hO hF hlen hn
    go_enter Tryd.func11, Tryd.ntmps11
    go_upto_region 1 with fail
    go_quiet (fail)
    go_wp2
    go_ret
    rw [HG.out]
    exact ⟨rfl, ⟨BB.out.os, BB.out.tape, BB.out.output, BB.out.size, BB.out.block⟩⟩
  · have hlm : T.length = most := by omega
    have hi : most - 1 < T.length := by omega
    obtain ⟨t, ht⟩ : ∃ t, T[most - 1] = t := ⟨_, rfl⟩
    obtain ⟨m, hm, hm2⟩ := mixT_nat t
    have HG : Hid (gsN most T = gsM most m) := by
      show gsN most T = gsM most m
      unfold gsN
      rw [if_neg hl, List.getElem?_eq_getElem hi, Option.getD_some, ht, hm, Int.toNat_natCast]
    obtain ⟨g, e, _, hc⟩ := hO.at (by omega)
    subst e
    have hci := hc (most - 1) hi
    rw [ht] at hci
    rw [hlm] at c1
    obtain ⟨k, hk⟩ : ∃ k, most = k + 1 := ⟨most - 1, by omega⟩
    have ek : most - 1 = k := by omega
    rw [ek] at hci
    have hwk : IntKind.i64.wrap ((most : Int) - 1) = (k : Int) := by simp [IntKind.wrap, IntKind.bits, IntKind.signed]; omega
    have hwk2 : IntKind.u64.wrap (k : Int) = (k : Int) := wrapF rfl (by omega)
    have hk0 : (0 : Int) ≤ (k : Int) := by omega
    have hkm : (k : Int) < (most : Int) := by omega
    have hnl : ¬ (most : Int) < (most : Int) := by omega
    have MX : Hid (∀ W, Calls Tryd.prog 24 #[.agg #[.int .u64 (bvI t.1), .int .u64 (bvI t.2)]] W fun e w' => e = .returned (.int .u64 (m : Int)) ∧ Below W.heap.size W w') := fun W => by
      have := rMix_any t.1 t.2 W
      have e : bvI (mixB t.1 t.2) = (m : Int) := hm
      rw [e] at this
      exact this
    have KB : ∀ W, Below w.heap.size w W → W.cell? ⟨f, 0, none⟩ = some (.int .i64 most) ∧ W.cell? ⟨f, 1, none⟩ = some (.slice (some ⟨g, 0, none⟩) most c) ∧ W.cell? ⟨g, k * 2, none⟩ = some (.int .u64 (bvI t.1)) ∧ W.cell? ⟨g, k * 2 + 1, none⟩ = some (.int .u64 (bvI t.2)) := fun W hW => by
      have h1 := hf.below hW hf.lt
      have hg := World.block_lt_of_cell? w _ hci.1
      refine ⟨h1.cell 0 rfl, ?_, (hW.cell (p := ⟨g, k * 2, none⟩) hg).trans hci.1, (hW.cell (p := ⟨g, k * 2 + 1, none⟩) hg).trans hci.2⟩
      have := h1.cell 1 rfl
      rw [hlm] at this
      exact this
    have HM : Hid (most = k + 1 ∧ 2 ≤ most ∧ most ≤ 1000 ∧ m < 18446744073709551616) := ⟨hk, hmost.1, hmost.2, hm2⟩
    have HE : Hid (gsM most m = if m = 18446744073709551615 then k else if m < k then 18446744073709551615 else k * 18446744073709551616 / (m + 1)) := by
      show gsM most m = _
      unfold gsM
      rw [ek]
    clear hf hO hF hlen hlm hi hc hci hm hl ht hk ek hm2 hmost
    go_enter Tryd.func11, Tryd.ntmps11
    go_upto_region 1 with fail
    go_quiet (fail)
    go_upto_region 3 with fail
    obtain ⟨w1, hw1⟩ : ∃ w1, w.drewN nq = w1 := ⟨_, rfl⟩
    have BN : Below w.heap.size w w1 := by rw [← hw1]; exact ⟨BB.out.os, BB.out.tape, BB.out.output, BB.out.size, BB.out.block⟩
    have B0 : Below w.heap.size w w1.drew := BN.drew
    rw [hw1]
    clear hw1 c0 c1 BN
    go_region_held3 (fun W => W.cell? ⟨f, 1, none⟩ = some (.slice (some ⟨g, 0, none⟩) most c) ∧ W.cell? ⟨g, k * 2, none⟩ = some (.int .u64 (bvI t.1)) ∧ W.cell? ⟨g, k * 2 + 1, none⟩ = some (.int .u64 (bvI t.2))) (first | exact (KB _ B0).2 | exact (KB _ B1).2) (first
      | (go_at_call 24; (with_reducible refine (MX.out _).mono ?_); clear MX; rintro e w2 ⟨rfl, hb2⟩; have B1 : Below w.heap.size w w2 := B0.trans (hb2.mono B0.size); clear hb2)
      | fail)
    all_goals
      have HB : Hid (Below w.heap.size w w2) := B1
      have c0 := (KB _ B1).1
      clear KB B0 B1
      by_cases h1 : m = 18446744073709551615
      · have e1 : ((m : Int) == 18446744073709551615) = true := by simp; omega
        have HV : Hid (gsN most T = k) := by rw [HG.out, HE.out, if_pos h1]; exact rfl
        clear HG HE h1
        go_wp2
        go_ret
        rw [HV.out]
        exact ⟨rfl, HB.out⟩
      · have e1 : ((m : Int) == 18446744073709551615) = false := by simp; omega
        have ew : IntKind.u64.wrap ((m : Int) + 1) = ((m + 1 : Nat) : Int) := by rw [IntKind.wrap_u64]; have := HM.out; omega
        obtain ⟨y, hy⟩ : ∃ y, m + 1 = y := ⟨_, rfl⟩
        rw [hy] at ew
        have HY : Hid (y = m + 1 ∧ y ≤ 18446744073709551615) := ⟨hy.symm, by have := HM.out; omega⟩
        by_cases h2 : m < k
        · have e2 : (y : Int) ≤ (k : Int) := by omega
          have HV : Hid (gsN most T = 18446744073709551615) := by rw [HG.out, HE.out, if_neg h1, if_pos h2]; exact rfl
          clear HG HE h1 hy h2
          go_wp2
          go_ret
          rw [HV.out]
          exact ⟨rfl, HB.out⟩
        · have e2 : ¬ (y : Int) ≤ (k : Int) := by omega
          have HV : Hid (gsN most T = k * 18446744073709551616 / y) := by rw [HG.out, HE.out, if_neg h1, if_neg h2, HY.out.1]; exact rfl
          have HK : Hid (k < y) := by show k < y; omega
          clear HG HE h1 hy h2 HM
          go_wp2
          go_loop [5, 6, 7] (fun a b z => ∃ (q r i : Nat), a = .int .u64 (r : Int) ∧ b = .int .u64 (q : Int) ∧ z = .int .i64 (i : Int) ∧ i ≤ 64 ∧ Hid (BitI k y i q r)) (fun _ _ z => 64 - (intOf z).toNat)
          case atStart => exact ⟨0, k, 0, rfl, rfl, rfl, by omega, BitI.zero HK.out⟩
          case round =>
            obtain ⟨q, r, i, rfl, rfl, rfl, hi64, HI⟩ := hrel
            by_cases hlt : i < 64
            · have hlt' : (i : Int) < 64 := by omega
              obtain ⟨hb, r2, a1, a2, a3⟩ := bit_words HI.out.lt HY.out.2
              have hql : q < 9223372036854775808 := by
                have h1 := HI.out.qt
                have h2 : 2 ^ i ≤ 2 ^ 63 := Nat.pow_le_pow_right (by decide) (by omega)
                have h3 : (2 : Nat) ^ 63 = 9223372036854775808 := by decide
                omega
              have a4 : IntKind.u64.wrap ((q : Int) * 2) = ((2 * q : Nat) : Int) := by rw [IntKind.wrap_u64]; omega
              obtain ⟨q2, hq2⟩ : ∃ q2, 2 * q = q2 := ⟨_, rfl⟩
              rw [hq2] at a4
              have a5 : IntKind.u64.wrap ((q2 : Int) + 1) = ((q2 + 1 : Nat) : Int) := by rw [IntKind.wrap_u64]; omega
              have HNx : Hid (BitI k y (i + 1) (q2 + (if y ≤ 2 * r then 1 else 0)) (if y ≤ 2 * r then 2 * r - y else 2 * r)) := by rw [← hq2]; exact HI.out.next HK.out
              clear hql hq2 HI
              rcases a3 with ⟨rfl, b2, b3⟩ | ⟨rfl, b2, b3⟩
              · have HN1 : Hid (BitI k y (i + 1) (q2 + 1) (2 * r - y)) := by have h := HNx.out; rw [if_pos b2, if_pos b2] at h; exact h
                obtain ⟨r3, hr3⟩ : ∃ r3, 2 * r - y = r3 := ⟨_, rfl⟩
                rw [hr3] at HN1 b3
                clear HNx b2 hr3
                go_wp2
                go_round
                case rel => exact ⟨q2 + 1, r3, i + 1, rfl, by go_num, by go_num, by omega, HN1⟩
                case measure => (simp [intOf]; omega)
              · by_cases h3 : y ≤ r2
                · have h3' : (y : Int) ≤ (r2 : Int) := by omega
                  have b3 := b3 h3
                  have HN1 : Hid (BitI k y (i + 1) (q2 + 1) (2 * r - y)) := by have h := HNx.out; rw [if_pos (by omega), if_pos (by omega)] at h; exact h
                  obtain ⟨r3, hr3⟩ : ∃ r3, 2 * r - y = r3 := ⟨_, rfl⟩
                  rw [hr3] at HN1 b3
                  clear HNx b2 hr3 h3
                  go_wp2
                  go_round
                  case rel => exact ⟨q2 + 1, r3, i + 1, rfl, by go_num, by go_num, by omega, HN1⟩
                  case measure => (simp [intOf]; omega)
                · have h3' : ¬ (y : Int) ≤ (r2 : Int) := by omega
                  have HN1 : Hid (BitI k y (i + 1) q2 r2) := by have h := HNx.out; rw [if_neg (by omega), if_neg (by omega), Nat.add_zero, ← b2] at h; exact h
                  clear HNx b2 b3 h3
                  go_wp2
                  go_round
                  case rel => exact ⟨q2, r2, i + 1, rfl, rfl, by go_num, by omega, HN1⟩
                  case measure => (simp [intOf]; omega)
            · have hlt' : ¬ (i : Int) < 64 := by omega
              have HQ : Hid (q = k * 18446744073709551616 / y) := by
                have h := HI.out
                rw [show i = 64 by omega] at h
                exact h.done
              clear HI
              go_wp2
              go_ret
              rw [HV.out, ← HQ.out]
              exact ⟨rfl, HB.out⟩
end Go.Proofs.YtpcfchbiohbcoaaDoor
