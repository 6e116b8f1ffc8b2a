/-
  SbS.
-/
import Derived.Test.YtpcfchbiohbcoaaDoorSbRq
namespace Go.Proofs.YtpcfchbiohbcoaaDoor
open Go Go.RowKit
set_option maxRecDepth 100000

set_option maxHeartbeats 8000000 in
theorem sampleFewsB_any (i1 i2 : Int) (sa : Option Addr) (n cs : Nat) (w : World) (hT : Tabs w) (hbad : (i1 < 2 ∨ 1000 < i1) ∨ (i2 < 2 ∨ 1000 < i2)) :
    Calls Tryd.prog 3 #[.int .i64 i1, .int .i64 i2, .slice sa n cs] w fun e w' => e = .returned (.bool true) ∧ Below w.heap.size w w' := by
  have AL := aliveP_any w hT
  clear hT
  by_cases h1 : i1 < 2 ∨ 1000 < i1
  · have N1 : Hid (∀ W, Calls Tryd.prog 5 #[.int .i64 i1] W fun e w' => e = .returned (.tuple #[.pointer none, .int .i64 1]) ∧ Below W.heap.size W w') := fun W => newBad_any i1 h1 W
    have R1 : Hid (∀ W, Calls Tryd.prog 6 #[.int .i64 i1] W fun e w' => e = .returned (.tuple #[.pointer none, .int .i64 1]) ∧ Below W.heap.size W w') := fun W => rNewBad_any i1 h1 W
    by_cases h2 : i2 < 2 ∨ 1000 < i2
    · have N2 : Hid (∀ W, Calls Tryd.prog 5 #[.int .i64 i2] W fun e w' => e = .returned (.tuple #[.pointer none, .int .i64 1]) ∧ Below W.heap.size W w') := fun W => newBad_any i2 h2 W
      have R2 : Hid (∀ W, Calls Tryd.prog 6 #[.int .i64 i2] W fun e w' => e = .returned (.tuple #[.pointer none, .int .i64 1]) ∧ Below W.heap.size W w') := fun W => rNewBad_any i2 h2 W
      clear h1 h2 hbad
      go_enter Tryd.func3, Tryd.ntmps3
      go_wp2_with (first
        | (go_at_call 4; (with_reducible refine AL.mono ?_); clear AL; rintro e w1 ⟨rfl, b1⟩)
        | (go_at_call 5; (with_reducible refine (N1.out _).mono ?_); clear N1; rintro e w2 ⟨rfl, b2⟩)
        | (go_at_call 5; (with_reducible refine (N2.out _).mono ?_); clear N2; rintro e w3 ⟨rfl, b3⟩)
        | (go_at_call 6; (with_reducible refine (R1.out _).mono ?_); clear R1; rintro e w4 ⟨rfl, b4⟩)
        | (go_at_call 6; (with_reducible refine (R2.out _).mono ?_); clear R2; rintro e w5 ⟨rfl, b5⟩))
      go_ret
      exact ⟨rfl, b1.trans (((b2.trans ((b3.trans ((b4.trans (b5.mono b4.size)).mono b3.size)).mono b2.size)).mono b1.size))⟩
    · obtain ⟨m2, rfl⟩ : ∃ m : Nat, i2 = m := ⟨i2.toNat, by omega⟩
      have hm : 2 ≤ m2 ∧ m2 ≤ 1000 := by omega
      have N2 : Hid (∀ W, Calls Tryd.prog 5 #[.int .i64 m2] W fun e w' => ∃ s, e = .returned (.tuple #[.pointer (some ⟨s, 0, none⟩), .int .i64 0]) ∧ Below W.heap.size W w') := fun W => (newF_any m2 hm W).mono fun e w' h => ⟨_, h.1, h.2.2⟩
      have R2 : Hid (∀ W, Calls Tryd.prog 6 #[.int .i64 m2] W fun e w' => ∃ s, e = .returned (.tuple #[.pointer (some ⟨s, 0, none⟩), .int .i64 0]) ∧ Below W.heap.size W w') := fun W => (rNew_any m2 hm W).mono fun e w' h => ⟨_, h.1, h.2.2⟩
      clear h1 h2 hbad hm
      go_enter Tryd.func3, Tryd.ntmps3
      go_wp2_with (first
        | (go_at_call 4; (with_reducible refine AL.mono ?_); clear AL; rintro e w1 ⟨rfl, b1⟩)
        | (go_at_call 5; (with_reducible refine (N1.out _).mono ?_); clear N1; rintro e w2 ⟨rfl, b2⟩)
        | (go_at_call 5; (with_reducible refine (N2.out _).mono ?_); clear N2; rintro e w3 ⟨s3, rfl, b3⟩)
        | (go_at_call 6; (with_reducible refine (R1.out _).mono ?_); clear R1; rintro e w4 ⟨rfl, b4⟩)
        | (go_at_call 6; (with_reducible refine (R2.out _).mono ?_); clear R2; rintro e w5 ⟨s5, rfl, b5⟩))
      go_ret
      exact ⟨rfl, b1.trans (((b2.trans ((b3.trans ((b4.trans (b5.mono b4.size)).mono b3.size)).mono b2.size)).mono b1.size))⟩
  · have h2 : i2 < 2 ∨ 1000 < i2 := by omega
    obtain ⟨m1, rfl⟩ : ∃ m : Nat, i1 = m := ⟨i1.toNat, by omega⟩
    have hm : 2 ≤ m1 ∧ m1 ≤ 1000 := by omega
    have N1 : Hid (∀ W, Calls Tryd.prog 5 #[.int .i64 m1] W fun e w' => ∃ s, e = .returned (.tuple #[.pointer (some ⟨s, 0, none⟩), .int .i64 0]) ∧ Below W.heap.size W w') := fun W => (newF_any m1 hm W).mono fun e w' h => ⟨_, h.1, h.2.2⟩
    have R1 : Hid (∀ W, Calls Tryd.prog 6 #[.int .i64 m1] W fun e w' => ∃ s, e = .returned (.tuple #[.pointer (some ⟨s, 0, none⟩), .int .i64 0]) ∧ Below W.heap.size W w') := fun W => (rNew_any m1 hm W).mono fun e w' h => ⟨_, h.1, h.2.2⟩
    have N2 : Hid (∀ W, Calls Tryd.prog 5 #[.int .i64 i2] W fun e w' => e = .returned (.tuple #[.pointer none, .int .i64 1]) ∧ Below W.heap.size W w') := fun W => newBad_any i2 h2 W
    have R2 : Hid (∀ W, Calls Tryd.prog 6 #[.int .i64 i2] W fun e w' => e = .returned (.tuple #[.pointer none, .int .i64 1]) ∧ Below W.heap.size W w') := fun W => rNewBad_any i2 h2 W
    clear h1 h2 hbad hm
    go_enter Tryd.func3, Tryd.ntmps3
    go_wp2_with (first
      | (go_at_call 4; (with_reducible refine AL.mono ?_); clear AL; rintro e w1 ⟨rfl, b1⟩)
      | (go_at_call 5; (with_reducible refine (N1.out _).mono ?_); clear N1; rintro e w2 ⟨s2, rfl, b2⟩)
      | (go_at_call 5; (with_reducible refine (N2.out _).mono ?_); clear N2; rintro e w3 ⟨rfl, b3⟩)
      | (go_at_call 6; (with_reducible refine (R1.out _).mono ?_); clear R1; rintro e w4 ⟨s4, rfl, b4⟩)
      | (go_at_call 6; (with_reducible refine (R2.out _).mono ?_); clear R2; rintro e w5 ⟨rfl, b5⟩))
    go_ret
    exact ⟨rfl, b1.trans (((b2.trans ((b3.trans ((b4.trans (b5.mono b4.size)).mono b3.size)).mono b2.size)).mono b1.size))⟩
set_option maxHeartbeats 16000000 in
theorem sampleFewsG_any (m1 m2 : Nat) (sa : Option Addr) (n cs : Nat) (O : List OpD) (w : World) (hT : Tabs w) (hm1 : 2 ≤ m1 ∧ m1 ≤ 1000) (hm2 : 2 ≤ m2 ∧ m2 ≤ 1000) (hO : OpsAt w sa O) (hn : O.length = n) (hz : n ≤ 70368744177664) :
    Calls Tryd.prog 3 #[.int .i64 m1, .int .i64 m2, .slice sa n cs] w fun e w' => e = .returned (.bool true) ∧ Below w.heap.size w w' := by
  have AL := aliveP_any w hT
  have N1 : Hid (∀ W, Calls Tryd.prog 5 #[.int .i64 m1] W fun e w' => ∃ s, W.heap.size = s ∧ e = .returned (.tuple #[.pointer (some ⟨s, 0, none⟩), .int .i64 0]) ∧ FewAt w' s (s + 1) m1 [] ∧ Below s W w') := fun W => (newF_any m1 hm1 W).mono fun e w' h => ⟨_, rfl, h⟩
  have N2 : Hid (∀ W, Calls Tryd.prog 5 #[.int .i64 m2] W fun e w' => ∃ s, W.heap.size = s ∧ e = .returned (.tuple #[.pointer (some ⟨s, 0, none⟩), .int .i64 0]) ∧ FewAt w' s (s + 1) m2 [] ∧ Below s W w') := fun W => (newF_any m2 hm2 W).mono fun e w' h => ⟨_, rfl, h⟩
  have R1 : Hid (∀ W, Calls Tryd.prog 6 #[.int .i64 m1] W fun e w' => ∃ s, W.heap.size = s ∧ e = .returned (.tuple #[.pointer (some ⟨s, 0, none⟩), .int .i64 0]) ∧ FewG 66 w' s (s + 1) m1 [] ∧ Below s W w') := fun W => (rNew_any m1 hm1 W).mono fun e w' h => ⟨_, rfl, h⟩
  have R2 : Hid (∀ W, Calls Tryd.prog 6 #[.int .i64 m2] W fun e w' => ∃ s, W.heap.size = s ∧ e = .returned (.tuple #[.pointer (some ⟨s, 0, none⟩), .int .i64 0]) ∧ FewG 66 w' s (s + 1) m2 [] ∧ Below s W w') := fun W => (rNew_any m2 hm2 W).mono fun e w' h => ⟨_, rfl, h⟩
  have HO : Hid (OpsAt w sa O ∧ O.length = n) := ⟨hO, hn⟩
  have hzI : (n : Int) ≤ 70368744177664 := by omega
  clear hT hO hn hm1 hm2
  go_enter Tryd.func3, Tryd.ntmps3
  go_upto_region 6 with (first
    | (go_at_call 4; (with_reducible refine AL.mono ?_); clear AL; rintro e w1 ⟨rfl, b1⟩; have N1' := N1.out w1; clear N1)
    | (go_at_call 5; (with_reducible refine N1'.mono ?_); clear N1'; rintro e w2 ⟨s0, e0, rfl, f0, b2⟩; have N2' := N2.out w2; clear N2; have HH0 : Hid (w1.heap.size = s0) := e0; clear e0)
    | (go_at_call 5; (with_reducible refine N2'.mono ?_); clear N2'; rintro e w3 ⟨s1, e1, rfl, f1, b3⟩; have R1' := R1.out w3; clear R1; have HH1 : Hid (w2.heap.size = s1) := e1; clear e1)
    | (go_at_call 6; (with_reducible refine R1'.mono ?_); clear R1'; rintro e w4 ⟨s2, e2, rfl, f2, b4⟩; have R2' := R2.out w4; clear R2; have HH2 : Hid (w3.heap.size = s2) := e2; clear e2)
    | (go_at_call 6; (with_reducible refine R2'.mono ?_); clear R2'; rintro e w5 ⟨s3, e3, rfl, f3, b5⟩; have HH3 : Hid (w4.heap.size = s3) := e3; clear e3))
  obtain ⟨F, q0, q1, q2, q3, hFam⟩ := four_fews b1 HH0.out f0 b2 HH1.out f1 b3 HH2.out f2 b4 HH3.out f3 b5
  have HF0 : Hid (FamG w w5 kF (mF m1 m2) F (fun _ => []) 4) := hFam
  clear HH0 HH1 HH2 HH3 b1 b2 b3 b4 b5 f0 f1 f2 f3 hFam
  subst q0 q1 q2 q3
  go_wp2
  go_loopw [16] (fun z wr => ∃ (i : Nat) (TT : Nat → List Tr), z = .int .i64 i ∧ i ≤ n ∧ Hid (FamG w wr kF (mF m1 m2) F TT 4 ∧ Alike TT 0 1 2 3)) (fun z _ => n - (intOf z).toNat)
  case atStart => exact ⟨0, _, rfl, by omega, HF0.out, rfl, rfl⟩
  case round =>
    obtain ⟨i, TT, rfl, hin, HE⟩ := hrel
    clear HF0
    by_cases hlt : i < n
    · have hlt' : (i : Int) < (n : Int) := by omega
      have hiO : i < O.length := by rw [HO.out.2]; exact hlt
      obtain ⟨b, o, e, _, hc⟩ := (HO.out.1.below HE.out.1.bel) (by omega)
      subst e
      have hci := hc i hiO
      obtain ⟨x, hx⟩ : ∃ x, O[i] = x := ⟨_, rfl⟩
      rw [hx] at hci
      obtain ⟨oth, kind, hi, lo, back⟩ := x
      have d0 := hci 0 _ rfl
      have d1 := hci 1 _ rfl
      have d2 := hci 2 _ rfl
      have d3 := hci 3 _ rfl
      have d4 := hci 4 _ rfl
      rw [Nat.add_zero] at d0
      clear hc hci hx hiO
      have HFa : Hid (∀ ob, FamG w (wr.alloc ob) kF (mF m1 m2) F TT 4) := fun ob => HE.out.1.below ((Below.refl _ _).alloc (Nat.le_refl _) _)
      have HA1 : Hid (Alike TT 0 1 2 3) := HE.out.2
      have HA2 : Hid (Alike TT 1 0 3 2) := ⟨HE.out.2.2, HE.out.2.1⟩
      clear HE
      cases oth with
      | false =>
        have P1 : Hid (∀ ob, Calls Tryd.prog 7 #[.pointer (some ⟨F 0, 0, none⟩), .pointer (some ⟨F 1, 0, none⟩), .pointer (some ⟨F 2, 0, none⟩), .pointer (some ⟨F 3, 0, none⟩), .agg #[.bool false, .int .i64 kind, .int .u64 (bvI hi), .int .u64 (bvI lo), .bool back]] (wr.alloc ob) (PlP w kF (mF m1 m2) F 0 1 2 3)) := fun ob => play_any kF (mF m1 m2) F 0 1 2 3 TT w (wr.alloc ob) false back kind hi lo (quad1 m1 m2) (HFa.out ob) HA1.out
        go_wp2_with (go_at_call 7; (with_reducible refine (P1.out _).mono ?_); clear P1; rintro e w6 ⟨rfl, TT', H6, A6⟩; have HN : Hid (FamG w w6 kF (mF m1 m2) F TT' 4 ∧ Alike TT' 0 1 2 3) := ⟨H6, A6⟩; clear H6 A6)
        go_roundw
        case rel => exact ⟨i + 1, TT', by go_num, by omega, HN⟩
        case measure => (simp [intOf]; omega)
      | true =>
        have P1 : Hid (∀ ob, Calls Tryd.prog 7 #[.pointer (some ⟨F 1, 0, none⟩), .pointer (some ⟨F 0, 0, none⟩), .pointer (some ⟨F 3, 0, none⟩), .pointer (some ⟨F 2, 0, none⟩), .agg #[.bool true, .int .i64 kind, .int .u64 (bvI hi), .int .u64 (bvI lo), .bool back]] (wr.alloc ob) (PlP w kF (mF m1 m2) F 1 0 3 2)) := fun ob => play_any kF (mF m1 m2) F 1 0 3 2 TT w (wr.alloc ob) true back kind hi lo (quad2 m1 m2) (HFa.out ob) HA2.out
        go_wp2_with (go_at_call 7; (with_reducible refine (P1.out _).mono ?_); clear P1; rintro e w6 ⟨rfl, TT', H6, A6⟩; have HN : Hid (FamG w w6 kF (mF m1 m2) F TT' 4 ∧ Alike TT' 0 1 2 3) := ⟨H6, A6.2, A6.1⟩; clear H6 A6)
        go_roundw
        case rel => exact ⟨i + 1, TT', by go_num, by omega, HN⟩
        case measure => (simp [intOf]; omega)
    · have hlt' : ¬ (i : Int) < (n : Int) := by omega
      have HR : Hid (∀ (W : World), FamG w W kF (mF m1 m2) F TT 4 → (Calls Tryd.prog 9 #[.pointer (some ⟨F 2, 0, none⟩)] W fun e w' => ∃ ao c, e = .returned (.slice ao (TT 0).length c) ∧ TrAt w' ao (TT 0) ∧ Below W.heap.size W w') ∧ (Calls Tryd.prog 9 #[.pointer (some ⟨F 3, 0, none⟩)] W fun e w' => ∃ ao c, e = .returned (.slice ao (TT 1).length c) ∧ TrAt w' ao (TT 1) ∧ Below W.heap.size W w')) := fun W h => by
        have h2 := rTraces_any (F 2) w.heap.size (mF m1 m2 2) (TT 2) W (h.few 2 (by decide))
        have h3 := rTraces_any (F 3) w.heap.size (mF m1 m2 3) (TT 3) W (h.few 3 (by decide))
        rw [HE.out.2.1] at h2
        rw [HE.out.2.2] at h3
        exact ⟨h2, h3⟩
      have HL : Hid (∀ (W : World), FamG w W kF (mF m1 m2) F TT 4 → (∀ a c, TrAt W a (TT 0) → Calls Tryd.prog 8 #[.pointer (some ⟨F 0, 0, none⟩), .slice a (TT 0).length c] W fun e w' => e = .returned (.bool true) ∧ Below W.heap.size W w') ∧ (∀ a c, TrAt W a (TT 1) → Calls Tryd.prog 8 #[.pointer (some ⟨F 1, 0, none⟩), .slice a (TT 1).length c] W fun e w' => e = .returned (.bool true) ∧ Below W.heap.size W w')) := fun W h =>
        ⟨fun a c ha => tracesL_any (F 0) w.heap.size _ (TT 0) a _ c W (FewG.at (h.few 0 (by decide))) ha rfl, fun a c ha => tracesL_any (F 1) w.heap.size _ (TT 1) a _ c W (FewG.at (h.few 1 (by decide))) ha rfl⟩
      obtain ⟨g0, hg0⟩ : ∃ g, gsN m1 (TT 0) = g := ⟨_, rfl⟩
      obtain ⟨g1, hg1⟩ : ∃ g, gsN m2 (TT 1) = g := ⟨_, rfl⟩
      have HG : Hid (∀ (W : World), FamG w W kF (mF m1 m2) F TT 4 → (Calls Tryd.prog 10 #[.pointer (some ⟨F 0, 0, none⟩)] W fun e w' => e = .returned (.int .u64 (g0 : Int)) ∧ Below W.heap.size W w') ∧ (Calls Tryd.prog 10 #[.pointer (some ⟨F 1, 0, none⟩)] W fun e w' => e = .returned (.int .u64 (g1 : Int)) ∧ Below W.heap.size W w') ∧ (Calls Tryd.prog 11 #[.pointer (some ⟨F 2, 0, none⟩)] W fun e w' => e = .returned (.int .u64 (g0 : Int)) ∧ Below W.heap.size W w') ∧ (Calls Tryd.prog 11 #[.pointer (some ⟨F 3, 0, none⟩)] W fun e w' => e = .returned (.int .u64 (g1 : Int)) ∧ Below W.heap.size W w')) := fun W h => by
        have h0 := guessF_any (F 0) w.heap.size m1 (TT 0) W (FewG.at (h.few 0 (by decide)))
        have h1 := guessF_any (F 1) w.heap.size m2 (TT 1) W (FewG.at (h.few 1 (by decide)))
        have h2 := rGuess_any (F 2) w.heap.size m1 (TT 2) W (h.few 2 (by decide))
        have h3 := rGuess_any (F 3) w.heap.size m2 (TT 3) W (h.few 3 (by decide))
        rw [HE.out.2.1, hg0] at h2
        rw [HE.out.2.2, hg1] at h3
        rw [hg0] at h0
        rw [hg1] at h1
        exact ⟨h0, h1, h2, h3⟩
      have A0 := HE.out.1
      have r1 := (HR.out wr A0).1
      have eg0 : ((g0 : Int) == (g0 : Int)) = true := by simp
      have eg1 : ((g1 : Int) == (g1 : Int)) = true := by simp
      clear hg0 hg1 HE
      go_wp2_with (first
        | (go_at_call 9; (with_reducible refine r1.mono ?_); clear r1; rintro e w6 ⟨a6, c6, rfl, t6, b6⟩; have A1 := A0.below b6; have l1 := (HL.out w6 A1).1 a6 c6 t6; clear A0 b6 t6)
        | (go_at_call 8; (with_reducible refine l1.mono ?_); clear l1; rintro e w7 ⟨rfl, b7⟩; have A2 := A1.below b7; have r2 := (HR.out w7 A2).2; clear A1 b7)
        | (go_at_call 9; (with_reducible refine r2.mono ?_); clear r2; rintro e w8 ⟨a8, c8, rfl, t8, b8⟩; have A3 := A2.below b8; have l2 := (HL.out w8 A3).2 a8 c8 t8; clear A2 b8 t8)
        | (go_at_call 8; (with_reducible refine l2.mono ?_); clear l2; rintro e w9 ⟨rfl, b9⟩; have A4 := A3.below b9; have u1 := (HG.out w9 A4).1; clear A3 b9)
        | (go_at_call 10; (with_reducible refine u1.mono ?_); clear u1; rintro e w10 ⟨rfl, b10⟩; have A5 := A4.below b10; have u2 := (HG.out w10 A5).2.2.1; clear A4 b10)
        | (go_at_call 11; (with_reducible refine u2.mono ?_); clear u2; rintro e w11 ⟨rfl, b11⟩; have A6 := A5.below b11; have u3 := (HG.out w11 A6).2.1; clear A5 b11)
        | (go_at_call 10; (with_reducible refine u3.mono ?_); clear u3; rintro e w12 ⟨rfl, b12⟩; have A7 := A6.below b12; have u4 := (HG.out w12 A7).2.2.2; clear A6 b12)
        | (go_at_call 11; (with_reducible refine u4.mono ?_); clear u4; rintro e w13 ⟨rfl, b13⟩; have A8 := A7.below b13; clear A7 b13))
      go_ret
      exact ⟨rfl, A8.bel⟩
theorem sampleFews_any (i1 i2 : Int) (sa : Option Addr) (n cs : Nat) (O : List OpD) (w : World) (hO : OpsAt w sa O) (hn : O.length = n) (hz : n * 40 ≤ 140737488351232) (hT : Tabs w) :
    Calls Tryd.prog 3 #[.int .i64 i1, .int .i64 i2, .slice sa n cs] w fun e w' => e = .returned (.bool true) ∧ Below w.heap.size w w' := by
  by_cases hbad : (i1 < 2 ∨ 1000 < i1) ∨ (i2 < 2 ∨ 1000 < i2)
  · exact sampleFewsB_any i1 i2 sa n cs w hT hbad
  · obtain ⟨m1, rfl⟩ : ∃ m : Nat, i1 = m := ⟨i1.toNat, by omega⟩
    obtain ⟨m2, rfl⟩ : ∃ m : Nat, i2 = m := ⟨i2.toNat, by omega⟩
    exact sampleFewsG_any m1 m2 sa n cs O w hT (by omega) (by omega) hO hn (by omega)
end Go.Proofs.YtpcfchbiohbcoaaDoor
