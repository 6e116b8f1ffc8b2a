/-
  Layer 13: SketchLess' walk.
-/
import Derived.Test.YtefnbljgfealbaaSkT
namespace Go.Proofs.Ytefnbljgfealbaa.sk
open Go.RowKit
set_option maxRecDepth 100000

theorem bars_mem_of {f : Nat → Nat} : ∀ {n i : Nat}, i < n → f i ≠ 0 → ((i : Int), (f i : Int)) ∈ barsN f n
  | 0, i, h, _ => by omega
  | n + 1, i, h, h0 => by
    rw [barsN_succ, List.mem_append]
    by_cases e : i = n
    · subst e
      right
      rw [if_neg h0]
      exact List.mem_singleton.mpr rfl
    · exact Or.inl (bars_mem_of (by omega) h0)
theorem min_plain {f g : Nat → Nat} (h : ∀ b ∈ barsF (minF f g), b.2 ≠ 18446744073709551615) : ∀ i, i < 1920 → minF f g i = f i + g i := by
  intro i hi
  rcases Nat.lt_or_ge (f i + g i) topC with h1 | h1
  · unfold minF; omega
  · exfalso
    have e : minF f g i = topC := by unfold minF; omega
    have hm := bars_mem_of (f := minF f g) hi (by rw [e, topC_eq]; omega)
    refine h _ hm ?_
    rw [e, topC_eq]
    rfl
theorem bars_some {f : Nat → Nat} (h : 0 < (barsF f).length) : ∃ i, i < 1920 ∧ 0 < f i := by
  obtain ⟨b, hb⟩ := List.exists_mem_of_length_pos h
  obtain ⟨i, h1, _, h2⟩ := barsN_mem hb
  exact ⟨i, h1, by omega⟩
theorem bars_no {f : Nat → Nat} (h : (barsF f).length = 0) : ∀ i, i < 1920 → f i = 0 := by
  intro i hi
  rcases Nat.eq_zero_or_pos (f i) with h0 | h0
  · exact h0
  · have := List.length_pos_of_mem (bars_mem_of (f := f) hi (by omega))
    rw [barsF_eq] at h
    omega
set_option maxHeartbeats 4000000 in
theorem sketchLess_any (ad bd : Option Addr) (n m ca cb : Nat) (l k : List (Nat × Nat)) (w : World) (hP : PutAt w ad n l) (hQ : PutAt w bd m k) :
    Calls Try.prog 7 #[.slice ad n ca, .slice bd m cb] w fun e w' => e = .returned (.bool true) ∧ Below w.heap.size w w' := by
  have AW := awake_any w
  have P1 : ∀ W, Below w.heap.size w W → Calls Try.prog 18 #[.slice ad n ca] W (LawPutP (foldP l) W) := fun W hW => put_law ad n ca l W (hP.below hW)
  have P2 : ∀ W, Below w.heap.size w W → Calls Try.prog 18 #[.slice bd m cb] W (LawPutP (foldP k) W) := fun W hW => put_law bd m cb k W (hQ.below hW)
  generalize foldP l = F at *
  generalize foldP k = G at *
  clear hP hQ
  go_enter Try.func7, Try.ntmps7
  go_wp2_with (first
    | (go_at_call 9; (with_reducible refine AW.mono ?_); clear AW; rintro e w1 ⟨rfl, b1⟩; have HB1 : Hid _ := b1; clear b1; have Q1 := P1 w1 HB1.out; clear P1)
    | (go_at_call 18; (with_reducible refine Q1.mono ?_); clear Q1; rintro e w2 ⟨ao, L, co, rfl, HA, b2⟩; have HB2 : Hid _ := HB1.out.trans (b2.mono HB1.out.size); clear b2; have Q2 := P2 w2 HB2.out; clear P2)
    | (go_at_call 18; (with_reducible refine Q2.mono ?_); clear Q2; rintro e w3 ⟨bo, M, cp, rfl, HG, b3⟩; have HB3 : Hid _ := HB2.out.trans (b3.mono HB2.out.size); have HA3 : Hid _ := HA.out.below b3; clear b3; have MG := merge_sk ao bo L M co cp F G w3 HA3.out HG.out)
    | (go_at_call 20; (with_reducible refine MG.mono ?_); clear MG; rintro e w4 ⟨mo, N, cm, rfl, HM, b4⟩; have HB4 : Hid _ := HB3.out.trans (b4.mono HB3.out.size); have HA4 : Hid _ := HA3.out.below b4; have HG4 : Hid _ := HG.out.below b4; clear b4))
  clear HA HG HA3
  have hN := HM.out.few
  have hN' : (N : Int) ≤ 1920 := by omega
  have HLN : Hid _ := HM.out.len
  go_loop [12] (fun t => ∃ (j : Nat), t = .int .i64 j ∧ j ≤ N ∧ Hid (∀ i (h : i < (barsF (minF F G)).length), i < j → (barsF (minF F G))[i].2 ≠ 18446744073709551615)) (fun t => N - (intOf t).toNat)
  case atStart => exact ⟨0, rfl, by omega, fun i h h0 => by omega⟩
  case round =>
    obtain ⟨j, rfl, hj, HJ⟩ := hrel
    by_cases hlt : j < N
    · obtain ⟨b, off, rfl, hc⟩ := HM.out.at_.at_.lies (by omega)
      have hjl : j < (barsF (minF F G)).length := by rw [← HLN.out]; exact hlt
      obtain ⟨c0, c1⟩ := hc j hjl
      have HX : Hid ((barsF (minF F G))[j].2 ≠ 18446744073709551615 → ∀ i (h : i < (barsF (minF F G)).length), i < j + 1 → (barsF (minF F G))[i].2 ≠ 18446744073709551615) := fun h0 i h hi => by
        by_cases e : i = j
        · subst e; exact h0
        · exact HJ.out i h (by omega)
      generalize (barsF (minF F G))[j] = x at c0 c1 HX
      obtain ⟨x1, x2⟩ := x
      simp only at c0 c1 HX
      clear hc HJ hjl
      by_cases h0 : x2 = 18446744073709551615
      · subst h0
        clear HX
        go_wp2
        go_ret
        exact ⟨rfl, HB4.out⟩
      · have h0' : (x2 == 18446744073709551615) = false := by simpa using h0
        have HN : Hid _ := HX.out h0
        clear HX h0
        go_wp2
        go_round
        case rel => exact ⟨j + 1, by go_num, by omega, HN⟩
        case measure => simp [intOf]; omega
    · have hpl : ∀ i, i < 1920 → minF F G i = F i + G i := min_plain (fun b hb => by
        obtain ⟨i, hi, rfl⟩ := List.mem_iff_getElem.mp hb
        exact HJ.out i hi (by have := HLN.out; omega))
      have L1 := less_sk mo bo N M cm cp (minF F G) G w4 HM.out HG4.out (fun i hi => by rw [hpl i hi]; omega)
      have HPL : Hid _ := hpl
      clear HJ hpl
      have hM0 : M = (barsF G).length := HG4.out.len
      by_cases hM : M = 0
      · have hG0 := bars_no (f := G) (by rw [← hM0]; exact hM)
        have HG0 : Hid _ := hG0
        clear hM0 hG0
        subst hM
        go_wp2_with (first
          | (go_at_call 23; (with_reducible refine L1.mono ?_); clear L1; rintro e w5 ⟨xo, LX, cx, rfl, HX, b5⟩; have HB5 : Hid _ := HB4.out.trans (b5.mono HB4.out.size); have HA5 : Hid _ := HA4.out.below b5; have HM5 : Hid _ := HM.out.below b5; clear b5; have L2 := less_sk mo mo N N cm cm (minF F G) (minF F G) w5 HM5.out HM5.out (fun i hi => Nat.le_refl _))
          | (go_at_call 23; (with_reducible refine L2.mono ?_); clear L2; rintro e w6 ⟨yo, LY, cy, rfl, HY, b6⟩; have HB6 : Hid _ := HB5.out.trans (b6.mono HB5.out.size); have HA6 : Hid _ := HA5.out.below b6; have HM6 : Hid _ := HM5.out.below b6; have HX6 : Hid _ := HX.out.below b6; clear b6; have L3 := less_sk ao mo L N co cm F (minF F G) w6 HA6.out HM6.out (fun i hi => by rw [HPL.out i hi, HG0.out i hi]; omega); have hLY : LY = 0 := (SkAt.congr HY.out (g := fun _ => 0) (fun _ => Nat.zero_le _) (fun i _ => Nat.sub_self _)).len.trans numF_zero; subst hLY)
          | (go_at_call 23; (with_reducible refine L3.mono ?_); clear L3; rintro e w7 ⟨zo, LZ, cz, rfl, HZ, b7⟩; have HB7 : Hid _ := HB6.out.trans (b7.mono HB6.out.size); have SM := same_sk xo ao LX L cx co _ F w7 (HX6.out.below b7) (HA6.out.below b7) (fun i hi => by rw [HPL.out i hi]; omega); clear b7)
          | (go_at_call 22; (with_reducible refine SM.mono ?_); clear SM; rintro e w8 ⟨rfl, n8, hw8⟩))
        go_ret
        exact ⟨rfl, below_drewN HB7.out HB7.out.size n8⟩
      · have hMi : (0 : Int) < (M : Int) := by omega
        obtain ⟨i0, hi0, hg0⟩ := bars_some (f := G) (by omega)
        have HI0 : Hid (∃ i, i < 1920 ∧ F i < minF F G i) := ⟨i0, hi0, by rw [HPL.out i0 hi0]; omega⟩
        have HMD : Hid (decide (0 < M) = true) := decide_eq_true (Nat.pos_of_ne_zero hM)
        clear hM0 hM hi0 hg0
        go_wp2_with (first
          | (go_at_call 23; (with_reducible refine L1.mono ?_); clear L1; rintro e w5 ⟨xo, LX, cx, rfl, HX, b5⟩; have HB5 : Hid _ := HB4.out.trans (b5.mono HB4.out.size); have HA5 : Hid _ := HA4.out.below b5; have HM5 : Hid _ := HM.out.below b5; clear b5; have L2 := less_sk mo mo N N cm cm (minF F G) (minF F G) w5 HM5.out HM5.out (fun i hi => Nat.le_refl _))
          | (go_at_call 23; (with_reducible refine L2.mono ?_); clear L2; rintro e w6 ⟨yo, LY, cy, rfl, HY, b6⟩; have HB6 : Hid _ := HB5.out.trans (b6.mono HB5.out.size); have HA6 : Hid _ := HA5.out.below b6; have HM6 : Hid _ := HM5.out.below b6; have HX6 : Hid _ := HX.out.below b6; clear b6; have L3 := less_not ao mo L N co cm F (minF F G) w6 HA6.out HM6.out HI0.out; have hLY : LY = 0 := (SkAt.congr HY.out (g := fun _ => 0) (fun _ => Nat.zero_le _) (fun i _ => Nat.sub_self _)).len.trans numF_zero; subst hLY)
          | (go_at_call 23; (with_reducible refine L3.mono ?_); clear L3; rintro e w7 ⟨rfl, b7⟩; have HB7 : Hid _ := HB6.out.trans (b7.mono HB6.out.size); have SM := same_sk xo ao LX L cx co _ F w7 (HX6.out.below b7) (HA6.out.below b7) (fun i hi => by rw [HPL.out i hi]; omega); clear b7)
          | (go_at_call 22; (with_reducible refine SM.mono ?_); clear SM; rintro e w8 ⟨rfl, n8, hw8⟩))
        go_ret
        exact ⟨congrArg (fun b => Ending.returned (.bool b)) HMD.out, below_drewN HB7.out HB7.out.size n8⟩
end Go.Proofs.Ytefnbljgfealbaa.sk
