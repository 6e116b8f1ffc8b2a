/-
  Contracts of layer 13: rank, barOf.
-/
import Derived.Test.YtmegmjhkjaejgaaSkJ
namespace Go.Proofs.Ytmegmjhkjaejgaa.sk
open Go.RowKit
set_option maxRecDepth 100000

/-- Dividing this number tells what it must. -/
def DivOk (m y : Nat) : Prop := ∀ W, Calls Try.prog 45 #[.int .u64 ((hi64 m % y : Nat) : Int), .int .u64 (lo64 m : Int), .int .u64 (y : Int)] W (DivP (lo64 (m / y)) (m % y) W)
theorem hi_div (m y : Nat) : hi64 m / y = hi64 (m / y) := by
  unfold hi64
  rw [Nat.div_div_eq_div_mul, Nat.div_div_eq_div_mul, Nat.mul_comm]
theorem divOk_low {m y : Nat} (h : m < 18446744073709551616) (hy : 0 < y) : DivOk m y := by
  intro W
  have e1 : hi64 m = 0 := by unfold hi64; omega
  have e2 : lo64 m = m := by unfold lo64; omega
  have e3 : m / y ≤ m := Nat.div_le_self m y
  have e4 : lo64 (m / y) = m / y := by unfold lo64; exact Nat.mod_eq_of_lt (Nat.lt_of_le_of_lt e3 h)
  rw [e1, e2, e4, Nat.zero_mod]
  exact div64_low m y h hy W
theorem divide_ok (m y : Nat) (hm : m < 340282366920938463463374607431768211456) (hy : 0 < y) (D : DivOk m y) (w : World) :
    Calls Try.prog 44 #[natV m, .int .u64 (y : Int)] w fun e w' => e = .returned (.tuple #[natV (m / y), .int .u64 ((m % y : Nat) : Int)]) ∧ Below w.heap.size w w' := by
  have := divide_any m y (lo64 (m / y)) (m % y) hm hy D w
  rw [hi_div m y] at this
  exact this
/-- Which one as they rise: 1 at least, and not below n times num of den parts. -/
def rkN (m y : Nat) : Nat := if m % y = 0 ∧ m / y ≠ 0 then m / y else m / y + 1
theorem natV_eq (n : Nat) : natV n = .agg #[.int .u64 (hi64 n : Int), .int .u64 (lo64 n : Int)] := rfl
theorem natAt_second {w w2 : World} {o : Obj} (b2 : Below ((w.alloc o).alloc (.cells #[.int .u64 0, .int .u64 0] 42)).heap.size ((w.alloc o).alloc (.cells #[.int .u64 0, .int .u64 0] 42)) w2) : NatAt w2 (w.heap.size + 1) 0 0 := by
  have := (NatAt.new (w.alloc o) 0 0).below b2
  rw [show (w.alloc o).heap.size = w.heap.size + 1 by simp] at this
  exact this
set_option maxHeartbeats 2000000 in
theorem rank_walk (n num den M R Q T : Nat) (A O : Int) (w : World)
    (MU : ∀ W, Calls Try.prog 43 #[.int .u64 (lo64 n : Int), .int .u64 (num : Int)] W fun e w' => e = .returned (.tuple #[.int .u64 O, .int .u64 (lo64 M : Int)]) ∧ w' = W)
    (m1 : IntKind.u64.wrap ((hi64 n : Int) * (num : Int)) = A) (m2 : IntKind.u64.wrap (A + O) = (hi64 M : Int))
    (DV : ∀ W, Calls Try.prog 44 #[natV M, .int .u64 (den : Int)] W fun e w' => e = .returned (.tuple #[natV Q, .int .u64 (T : Int)]) ∧ Below W.heap.size W w')
    (P : ∀ W, Calls Try.prog 33 #[natV Q, .int .u64 1] W fun e w' => e = .returned (natV (Q + 1)) ∧ Below W.heap.size W w')
    (HR : R = if T = 0 ∧ Q ≠ 0 then Q else Q + 1) :
    Calls Try.prog 32 #[natV n, .int .u64 (num : Int), .int .u64 (den : Int)] w fun e w' => e = .returned (natV R) ∧ Below w.heap.size w w' := by
  have NR := natV_eq R
  have HRH : Hid _ := HR
  clear HR
  generalize hVR : natV R = VR at *
  have hq0 : Q = 0 ↔ (hi64 Q : Int) = 0 ∧ (lo64 Q : Int) = 0 := by have := hilo Q; omega
  have hh0 : (0 : Int) ≤ (hi64 Q : Int) := by omega
  have hl0 : (0 : Int) ≤ (lo64 Q : Int) := by omega
  have ht0 : T = 0 ↔ (T : Int) = 0 := by omega
  have ht1 : (0 : Int) ≤ (T : Int) := by omega
  have HV1 : Hid (R = Q → VR = .agg #[.int .u64 (hi64 Q : Int), .int .u64 (lo64 Q : Int)]) := fun h => by rw [← hVR, h]; rfl
  have HV2 : Hid (R = Q + 1 → VR = .agg #[.int .u64 (hi64 (Q + 1) : Int), .int .u64 (lo64 (Q + 1) : Int)]) := fun h => by rw [← hVR, h]; rfl
  rw [natV_eq, natV_eq] at DV P
  rw [natV_eq n]
  clear NR hVR
  generalize (hi64 n : Int) = X at *
  generalize (lo64 n : Int) = Y at *
  generalize (hi64 M : Int) = U at *
  generalize (lo64 M : Int) = V at *
  generalize (hi64 Q : Int) = qh at *
  generalize (lo64 Q : Int) = ql at *
  generalize (hi64 (Q + 1) : Int) = ph at *
  generalize (lo64 (Q + 1) : Int) = pl at *
  generalize (T : Int) = t at *
  by_cases c1 : t = 0
  · subst c1
    have hT : T = 0 := ht0.mpr rfl
    by_cases c2 : qh = 0
    · subst c2
      by_cases c3 : ql = 0
      · subst c3
        have hQ : Q = 0 := hq0.mpr ⟨rfl, rfl⟩
        clear hq0 ht0 hh0 hl0
        have HE : Hid (VR = .agg #[.int .u64 ph, .int .u64 pl]) := HV2.out (by rw [HRH.out]; rw [if_neg (by omega)])
        clear HV1 HV2 HRH
        go_enter Try.func32, Try.ntmps32
        go_wp2_with (first
          | (go_at_call 43; (with_reducible refine (MU _).mono ?_); clear MU; rintro e w' ⟨rfl, hw⟩; obtain rfl := hw.symm)
          | (go_at_call 44; (with_reducible refine (DV _).mono ?_); clear DV; rintro e w2 ⟨rfl, b2⟩
             have n2 : NatAt w2 (w.heap.size + 1) 0 0 := natAt_second b2
             have hs2 : w.heap.size + 2 ≤ w2.heap.size := by have := b2.size; simp at this; omega
             have HN2 : Hid _ := n2
             have HB2 : Hid _ := b2
             clear n2 b2)
          | (go_at_call 33; (with_reducible refine (P _).mono ?_); clear P; rintro e w3 ⟨rfl, b3⟩
             have n3 := (HN2.out.upd ((Upd.refl (fun _ => False) w2).alloc _) (fun h => h)).below b3
             have m3 := (NatAt.new w2 _ _).below b3
             have HN3 : Hid _ := n3
             have HM3 : Hid _ := m3
             have hs3 : w2.heap.size + 1 ≤ w3.heap.size := by have := b3.size; simpa using this
             have k0 := n3.c0
             have k1 := n3.c1
             have kf0 := n3.free 0
             have kf1 := n3.free 1
             have j0 := m3.c0
             have j1 := m3.c1
             have jf0 := m3.free 0
             have jf1 := m3.free 1
             have HB3 : Hid _ := b3
             clear n3 m3 b3))
        have u1 : Upd (fun k => k = w2.heap.size) w3 ((w3.setCell ⟨w2.heap.size, 0, none⟩ (.int .u64 ph)).setCell ⟨w2.heap.size, 1, none⟩ (.int .u64 pl)) := ((Upd.refl (fun k => k = w2.heap.size) w3).setCell (p := ⟨w2.heap.size, 0, none⟩) (fun _ => rfl) _).setCell (p := ⟨w2.heap.size, 1, none⟩) (fun _ => rfl) _
        have N5 := (HN3.out.upd u1 (show ¬ w.heap.size + 1 = w2.heap.size by omega)).set ph pl
        have e0 := N5.c0
        have e1 := N5.c1
        have u2 : Upd (fun k => w.heap.size ≤ k) w w2 := Upd.ofBelow (((((Below.refl w.heap.size w).alloc (Nat.le_refl _) _).alloc (by simp) _)).trans (HB2.out.mono (by simp; omega))) (fun _ _ h => h)
        have u3 := (u2.alloc _).trans (Upd.ofBelow (S := fun k => w2.heap.size ≤ k) HB3.out (fun i _ h => by simp at h; show w2.heap.size ≤ i; omega)) (fun i _ h => by show w.heap.size ≤ i; omega)
        have u4 := (u3.trans u1 (fun i _ h => by show w.heap.size ≤ i; omega)).setCell (p := ⟨w.heap.size + 1, 0, none⟩) (fun _ => Nat.le_succ _) (.int .u64 ph) |>.setCell (p := ⟨w.heap.size + 1, 1, none⟩) (fun _ => Nat.le_succ _) (.int .u64 pl)
        refine bodyPost_ret (v := .agg #[.int .u64 ph, .int .u64 pl]) (by simp [results, Try.results32, go_sem, e0, e1]; try rfl) rfl ⟨by rw [HE.out], u4.below (Nat.le_refl _) (fun k hk h => by omega)⟩
      · have hQ : Q ≠ 0 := fun h => c3 (hq0.mp h).2
        have c3' : (ql == 0) = false := by simpa using c3
        clear hq0 ht0 hh0 c3
        have HE : Hid (VR = .agg #[.int .u64 0, .int .u64 ql]) := HV1.out (by rw [HRH.out]; rw [if_pos ⟨hT, hQ⟩])
        clear HV1 HV2 HRH
        go_enter Try.func32, Try.ntmps32
        go_wp2_with (first
          | (go_at_call 43; (with_reducible refine (MU _).mono ?_); clear MU; rintro e w' ⟨rfl, hw⟩; obtain rfl := hw.symm)
          | (go_at_call 44; (with_reducible refine (DV _).mono ?_); clear DV; rintro e w2 ⟨rfl, b2⟩
             have n2 : NatAt w2 (w.heap.size + 1) 0 0 := natAt_second b2
             have hs2 : w.heap.size + 2 ≤ w2.heap.size := by have := b2.size; simp at this; omega
             have n3 := n2.upd ((Upd.refl (fun _ => False) w2).alloc (.cells #[.int .u64 0, .int .u64 ql] 42)) (fun h => h)
             have HN3 : Hid _ := n3
             have k0 := n3.c0
             have k1 := n3.c1
             have kf0 := n3.free 0
             have kf1 := n3.free 1
             have HN2 : Hid _ := n2
             have HB2 : Hid _ := b2
             clear n2 b2 n3))
        have N5 := HN3.out.set 0 ql
        have e0 := N5.c0
        have e1 := N5.c1
        have u2 : Upd (fun k => w.heap.size ≤ k) w w2 := Upd.ofBelow (((((Below.refl w.heap.size w).alloc (Nat.le_refl _) _).alloc (by simp) _)).trans (HB2.out.mono (by simp; omega))) (fun _ _ h => h)
        have u4 := (u2.alloc (.cells #[.int .u64 0, .int .u64 ql] 42)).setCell (p := ⟨w.heap.size + 1, 0, none⟩) (fun _ => Nat.le_succ _) (.int .u64 0) |>.setCell (p := ⟨w.heap.size + 1, 1, none⟩) (fun _ => Nat.le_succ _) (.int .u64 ql)
        refine bodyPost_ret (v := .agg #[.int .u64 0, .int .u64 ql]) (by simp [results, Try.results32, go_sem, e0, e1]; try rfl) rfl ⟨by rw [HE.out], u4.below (Nat.le_refl _) (fun k hk h => by omega)⟩
    · have hQ : Q ≠ 0 := fun h => c2 (hq0.mp h).1
      have c2' : (qh == 0) = false := by simpa using c2
      clear hq0 ht0 hl0 c2
      have HE : Hid (VR = .agg #[.int .u64 qh, .int .u64 ql]) := HV1.out (by rw [HRH.out]; rw [if_pos ⟨hT, hQ⟩])
      clear HV1 HV2 HRH
      go_enter Try.func32, Try.ntmps32
      go_wp2_with (first
        | (go_at_call 43; (with_reducible refine (MU _).mono ?_); clear MU; rintro e w' ⟨rfl, hw⟩; obtain rfl := hw.symm)
        | (go_at_call 44; (with_reducible refine (DV _).mono ?_); clear DV; rintro e w2 ⟨rfl, b2⟩
           have n2 : NatAt w2 (w.heap.size + 1) 0 0 := natAt_second b2
           have hs2 : w.heap.size + 2 ≤ w2.heap.size := by have := b2.size; simp at this; omega
           have n3 := n2.upd ((Upd.refl (fun _ => False) w2).alloc (.cells #[.int .u64 qh, .int .u64 ql] 42)) (fun h => h)
           have HN3 : Hid _ := n3
           have k0 := n3.c0
           have k1 := n3.c1
           have kf0 := n3.free 0
           have kf1 := n3.free 1
           have HN2 : Hid _ := n2
           have HB2 : Hid _ := b2
           clear n2 b2 n3))
      have N5 := HN3.out.set qh ql
      have e0 := N5.c0
      have e1 := N5.c1
      have u2 : Upd (fun k => w.heap.size ≤ k) w w2 := Upd.ofBelow (((((Below.refl w.heap.size w).alloc (Nat.le_refl _) _).alloc (by simp) _)).trans (HB2.out.mono (by simp; omega))) (fun _ _ h => h)
      have u4 := (u2.alloc (.cells #[.int .u64 qh, .int .u64 ql] 42)).setCell (p := ⟨w.heap.size + 1, 0, none⟩) (fun _ => Nat.le_succ _) (.int .u64 qh) |>.setCell (p := ⟨w.heap.size + 1, 1, none⟩) (fun _ => Nat.le_succ _) (.int .u64 ql)
      refine bodyPost_ret (v := .agg #[.int .u64 qh, .int .u64 ql]) (by simp [results, Try.results32, go_sem, e0, e1]; try rfl) rfl ⟨by rw [HE.out], u4.below (Nat.le_refl _) (fun k hk h => by omega)⟩
  · have hT : T ≠ 0 := fun h => c1 (ht0.mp h)
    have c1' : (0 : Int) < t := by omega
    clear hq0 ht0 hh0 hl0 c1
    have HE : Hid (VR = .agg #[.int .u64 ph, .int .u64 pl]) := HV2.out (by rw [HRH.out]; rw [if_neg (by omega)])
    clear HV1 HV2 HRH
    go_enter Try.func32, Try.ntmps32
    go_wp2_with (first
      | (go_at_call 43; (with_reducible refine (MU _).mono ?_); clear MU; rintro e w' ⟨rfl, hw⟩; obtain rfl := hw.symm)
      | (go_at_call 44; (with_reducible refine (DV _).mono ?_); clear DV; rintro e w2 ⟨rfl, b2⟩
         have n2 : NatAt w2 (w.heap.size + 1) 0 0 := natAt_second b2
         have hs2 : w.heap.size + 2 ≤ w2.heap.size := by have := b2.size; simp at this; omega
         have HN2 : Hid _ := n2
         have HB2 : Hid _ := b2
         clear n2 b2)
      | (go_at_call 33; (with_reducible refine (P _).mono ?_); clear P; rintro e w3 ⟨rfl, b3⟩
         have n3 := (HN2.out.upd ((Upd.refl (fun _ => False) w2).alloc _) (fun h => h)).below b3
         have m3 := (NatAt.new w2 _ _).below b3
         have HN3 : Hid _ := n3
         have HM3 : Hid _ := m3
         have hs3 : w2.heap.size + 1 ≤ w3.heap.size := by have := b3.size; simpa using this
         have k0 := n3.c0
         have k1 := n3.c1
         have kf0 := n3.free 0
         have kf1 := n3.free 1
         have j0 := m3.c0
         have j1 := m3.c1
         have jf0 := m3.free 0
         have jf1 := m3.free 1
         have HB3 : Hid _ := b3
         clear n3 m3 b3))
    have u1 : Upd (fun k => k = w2.heap.size) w3 ((w3.setCell ⟨w2.heap.size, 0, none⟩ (.int .u64 ph)).setCell ⟨w2.heap.size, 1, none⟩ (.int .u64 pl)) := ((Upd.refl (fun k => k = w2.heap.size) w3).setCell (p := ⟨w2.heap.size, 0, none⟩) (fun _ => rfl) _).setCell (p := ⟨w2.heap.size, 1, none⟩) (fun _ => rfl) _
    have N5 := (HN3.out.upd u1 (show ¬ w.heap.size + 1 = w2.heap.size by omega)).set ph pl
    have e0 := N5.c0
    have e1 := N5.c1
    have u2 : Upd (fun k => w.heap.size ≤ k) w w2 := Upd.ofBelow (((((Below.refl w.heap.size w).alloc (Nat.le_refl _) _).alloc (by simp) _)).trans (HB2.out.mono (by simp; omega))) (fun _ _ h => h)
    have u3 := (u2.alloc _).trans (Upd.ofBelow (S := fun k => w2.heap.size ≤ k) HB3.out (fun i _ h => by simp at h; show w2.heap.size ≤ i; omega)) (fun i _ h => by show w.heap.size ≤ i; omega)
    have u4 := (u3.trans u1 (fun i _ h => by show w.heap.size ≤ i; omega)).setCell (p := ⟨w.heap.size + 1, 0, none⟩) (fun _ => Nat.le_succ _) (.int .u64 ph) |>.setCell (p := ⟨w.heap.size + 1, 1, none⟩) (fun _ => Nat.le_succ _) (.int .u64 pl)
    refine bodyPost_ret (v := .agg #[.int .u64 ph, .int .u64 pl]) (by simp [results, Try.results32, go_sem, e0, e1]; try rfl) rfl ⟨by rw [HE.out], u4.below (Nat.le_refl _) (fun k hk h => by omega)⟩
set_option maxHeartbeats 1000000 in
theorem rank_any (n num den : Nat) (hn : num < 18446744073709551616) (hM : n * num < 170141183460469231731687303715884105728) (hd : 0 < den) (D : DivOk (n * num) den) (w : World) :
    Calls Try.prog 32 #[natV n, .int .u64 (num : Int), .int .u64 (den : Int)] w fun e w' => e = .returned (natV (rkN (n * num) den)) ∧ Below w.heap.size w w' := by
  have MU := mul64_any (lo64 n) num (lo64_lt n) hn
  have eh : hi64 n * num + lo64 n * num / 18446744073709551616 = hi64 (n * num) := by
    have e : n * num = hi64 n * num * 18446744073709551616 + lo64 n * num := by
      have := hilo n
      calc n * num = (hi64 n * 18446744073709551616 + lo64 n) * num := by rw [← this]
        _ = _ := by rw [Nat.add_mul, Nat.mul_right_comm]
    unfold hi64 at *
    omega
  have el : lo64 n * num % 18446744073709551616 = lo64 (n * num) := by
    have e : n * num = hi64 n * num * 18446744073709551616 + lo64 n * num := by
      have := hilo n
      calc n * num = (hi64 n * 18446744073709551616 + lo64 n) * num := by rw [← this]
        _ = _ := by rw [Nat.add_mul, Nat.mul_right_comm]
    show _ = n * num % 18446744073709551616
    omega
  have hh := hi64_lt (n := n * num) (by omega)
  rw [el] at MU
  have DV := divide_ok (n * num) den (by omega) hd D
  have m1 : IntKind.u64.wrap ((hi64 n : Int) * (num : Int)) = ((hi64 n * num : Nat) : Int) := mulw _ _ (by omega)
  have m2 : IntKind.u64.wrap (((hi64 n * num : Nat) : Int) + ((lo64 n * num / 18446744073709551616 : Nat) : Int)) = (hi64 (n * num) : Int) := by
    rw [← eh]; exact addw _ _ (by omega)
  clear eh el hh D
  obtain ⟨M, hMM⟩ : ∃ M, n * num = M := ⟨_, rfl⟩
  rw [hMM] at MU DV m2 hM ⊢
  clear hMM
  have hQM : M / den ≤ M := Nat.div_le_self M den
  generalize hQ : M / den = Q at *
  have P : ∀ W, Calls Try.prog 33 #[natV Q, .int .u64 1] W fun e w' => e = .returned (natV (Q + 1)) ∧ Below W.heap.size W w' := by
    intro W
    by_cases hq : Q + 1 < 340282366920938463463374607431768211456
    · exact plus_any Q 1 (by omega) hq W
    · omega
  have HR : Hid (rkN M den = if M % den = 0 ∧ M / den ≠ 0 then M / den else M / den + 1) := rfl
  rw [hQ] at HR
  generalize rkN M den = R at *
  generalize hT : M % den = T at *
  clear hQ hT hM hn hQM
  exact rank_walk _ _ _ _ _ _ _ _ _ w MU m1 m2 DV P HR.out
end Go.Proofs.Ytmegmjhkjaejgaa.sk
