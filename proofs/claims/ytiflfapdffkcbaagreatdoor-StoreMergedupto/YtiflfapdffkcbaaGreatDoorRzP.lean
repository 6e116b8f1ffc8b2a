/-
  RzP.
-/
import Derived.Test.YtiflfapdffkcbaaGreatDoorRzO
namespace Go.Proofs.YtiflfapdffkcbaaGreatDoor
open Go Go.RowKit Go.Maps Go.WideMaps
set_option maxRecDepth 100000

set_option maxHeartbeats 8000000 in
theorem storeMerged_any (ad : Option Addr) (n cp : Nat) (L : List Sp) (P : Nat → Pl) (bd : Option Addr) (m dp : Nat) (K : List Sp) (Q : Nat → Pl) (w : World) (hX : SpsAt w ad n L P) (hF : ∀ a ∈ L, a.Fits) (hS : ∀ a ∈ L, a.Small) (hn : n ≤ 2147483647) (hY : SpsAt w bd m K Q) (hF2 : ∀ a ∈ K, a.Fits) (hS2 : ∀ a ∈ K, a.Small) (hm : m ≤ 2147483647) (hT : Tabs w) :
    Calls Tryz.prog 4 #[.slice ad n cp, .slice bd m dp] w fun e w' => e = .returned (.bool true) ∧ Below w.heap.size w w' := by
  have HX : Hid (SpsAt w ad n L P ∧ (∀ a ∈ L, a.Fits) ∧ ∀ a ∈ L, a.Small) := ⟨hX, hF, hS⟩
  have HY : Hid (SpsAt w bd m K Q ∧ (∀ a ∈ K, a.Fits) ∧ ∀ a ∈ K, a.Small) := ⟨hY, hF2, hS2⟩
  have HT : Hid (Tabs w) := hT
  have HLN : Hid (L.length = n ∧ K.length = m) := ⟨hX.len, hY.len⟩
  have AL := alive_any w hT
  obtain ⟨f, hf⟩ : ∃ x, fitsL [] L = x := ⟨_, rfl⟩
  obtain ⟨g, hg⟩ : ∃ x, fitsL [] K = x := ⟨_, rfl⟩
  obtain ⟨A, hA⟩ : ∃ x, aftL [] L = x := ⟨_, rfl⟩
  obtain ⟨B, hB⟩ : ∃ x, aftL [] K = x := ⟨_, rfl⟩
  have HFG : Hid (fitsL [] L = f ∧ fitsL [] K = g ∧ aftL [] L = A ∧ aftL [] K = B) := ⟨hf, hg, hA, hB⟩
  have hgg : (g != g) = false := by simp
  have hge : (g == g) = true := by simp
  clear hX hF hS hY hF2 hS2 hT hf hg hA hB
  go_enter Tryz.func4, Tryz.ntmps4
  go_upto_region 11 with (first
    | (go_at_call 6; (with_reducible refine AL.mono ?_); clear AL; rintro e w0 ⟨rfl, hb⟩; have H0 : Hid (QuE w w0 []) := QuE.nil hb; have NW0 := H0.out.new; clear hb)
    | (go_at_call 7; (with_reducible refine NW0.mono ?_); clear NW0; rintro e w1 ⟨a, Sa, rfl, hq⟩; have H1 : Hid (QuE w w1 [stE a Sa []]) := hq; clear hq H0; have NW1 := H1.out.new)
    | (go_at_call 7; (with_reducible refine NW1.mono ?_); clear NW1; rintro e w2 ⟨b, Sb, rfl, hq⟩; have H2 : Hid (QuE w w2 [stE a Sa [], stE b Sb []]) := hq; clear hq H1; have NW2 := H2.out.new)
    | (go_at_call 7; (with_reducible refine NW2.mono ?_); clear NW2; rintro e w3 ⟨c, Sc, rfl, hq⟩; have H3 : Hid (QuE w w3 [stE a Sa [], stE b Sb [], stE c Sc []]) := hq; clear hq H2; have NW3 := H3.out.new)
    | (go_at_call 7; (with_reducible refine NW3.mono ?_); clear NW3; rintro e w4 ⟨d, Sd, rfl, hq⟩; have H4 : Hid (QuE w w4 [stE a Sa [], stE b Sb [], stE c Sc [], stE d Sd []]) := hq; clear hq H3; have PT1 := H4.out.putC 0 rfl ad n cp L P (H4.out.args 0 rfl HX.out.1) HX.out.2.1 HX.out.2.2 HT.out (by omega) f HFG.out.1 A HFG.out.2.2.1 _ rfl)
    | (go_at_call 8; (with_reducible refine PT1.mono ?_); clear PT1 H4; rintro e w5 ⟨xa1, xn1, xc1, Sa, rfl, hq, -⟩; have H5 : Hid (QuE w w5 [stE a Sa A, stE b Sb [], stE c Sc [], stE d Sd []]) := hq; clear hq; have PT2 := H5.out.putC 1 rfl bd m dp K Q (H5.out.args 1 rfl HY.out.1) HY.out.2.1 HY.out.2.2 HT.out (by omega) g HFG.out.2.1 B HFG.out.2.2.2 _ rfl)
    | (go_at_call 8; (with_reducible refine PT2.mono ?_); clear PT2 H5; rintro e w6 ⟨xa2, xn2, xc2, Sb, rfl, hq, -⟩; have H6 : Hid (QuE w w6 [stE a Sa A, stE b Sb B, stE c Sc [], stE d Sd []]) := hq; clear hq; have PT3 := H6.out.putC 2 rfl bd m dp K Q (H6.out.args 2 rfl HY.out.1) HY.out.2.1 HY.out.2.2 HT.out (by omega) g HFG.out.2.1 B HFG.out.2.2.2 _ rfl)
    | (go_at_call 8; (with_reducible refine PT3.mono ?_); clear PT3 H6; rintro e w7 ⟨xa3, xn3, xc3, Sc, rfl, hq, -⟩; have H7 : Hid (QuE w w7 [stE a Sa A, stE b Sb B, stE c Sc B, stE d Sd []]) := hq; clear hq; skip))
  by_cases hf0 : f = 0
  · have Hf : Hid (f = 0) := hf0
    clear hf0
    by_cases hg0 : g = 0
    · have Hg : Hid (g = 0) := hg0
      clear hg0
      have HR : Hid (fitsL [] L = 0 ∧ fitsL [] K = 0 ∧ A = (runP [] L).1 ∧ B = (runP [] K).1) := ⟨HFG.out.1.trans Hf.out, HFG.out.2.1.trans Hg.out, by rw [← HFG.out.2.2.1, aftL_ok (HFG.out.1.trans Hf.out)], by rw [← HFG.out.2.2.2, aftL_ok (HFG.out.2.1.trans Hg.out)]⟩
      have Hf2 := Hf.out
      have Hg2 := Hg.out
      subst Hf2
      subst Hg2
      clear HFG Hf Hg hgg hge
      obtain ⟨q, hq⟩ : ∃ x, fitsL [] (L ++ K) = x := ⟨_, rfl⟩
      obtain ⟨D, hD⟩ : ∃ x, (runP [] (L ++ K)).1 = x := ⟨_, rfl⟩
      have HQ : Hid (fitsL [] (L ++ K) = q ∧ (runP [] (L ++ K)).1 = D) := ⟨hq, hD⟩
      clear hq hD
      have TD1 := H7.out.told 0 rfl
      by_cases hq0 : q = 0
      · as_aux_lemma =>
          subst hq0
          go_wp2_with (first
            | (go_at_call 10; (with_reducible refine TD1.mono ?_); clear TD1; rintro e w8 ⟨t1, n1, c1, Y1, P1, R1, rfl, hn1, hy1, hq⟩; have HY1 : Hid ((Rise Y1 ∧ ∀ y, y ∈ Y1 ↔ y ∈ A) ∧ n1 ≤ 100000) := ⟨hy1, hn1⟩; have H8 : Hid (QuE w w8 [stE a Sa A, stE b Sb B, stE c Sc B, stE d Sd [], liE R1 t1 n1 Y1 P1]) := hq; clear hy1 hn1 hq H7; have TD2 := H8.out.told 1 rfl)
            | (go_at_call 10; (with_reducible refine TD2.mono ?_); clear TD2; rintro e w9 ⟨t2, n2, c2, Y2, P2, R2, rfl, hn2, hy2, hq⟩; have HY2 : Hid ((Rise Y2 ∧ ∀ y, y ∈ Y2 ↔ y ∈ B) ∧ n2 ≤ 100000) := ⟨hy2, hn2⟩; have H9 : Hid (QuE w w9 [stE a Sa A, stE b Sb B, stE c Sc B, stE d Sd [], liE R1 t1 n1 Y1 P1, liE R2 t2 n2 Y2 P2]) := hq; clear hy2 hn2 hq H8; have MG1 := H9.out.merge 0 1 (by decide) rfl rfl HT.out 0 (fun Z => ∀ x, x ∈ Z ↔ x ∈ D) (fun Y hY => by have h0 : ∀ y, y ∈ Y ↔ y ∈ (runP [] K).1 := (fun y => (hY.2 y).trans (by rw [HR.out.2.2.2])); have h1 := mg_room HR.out.1 HR.out.2.1 h0; rw [← HR.out.2.2.1, HQ.out.1] at h1; exact ⟨h1, fun x => by rw [aftL_ok h1, HR.out.2.2.1, mg_mem h0, HQ.out.2]⟩))
            | (go_at_call 15; (with_reducible refine MG1.mono ?_); clear MG1; rintro e w10 ⟨A1, Sa, rfl, hA1, hq⟩; have HA1 : Hid (∀ x, x ∈ A1 ↔ x ∈ D) := hA1; have H10 : Hid (QuE w w10 [stE a Sa A1, stE b Sb B, stE c Sc B, stE d Sd [], liE R1 t1 n1 Y1 P1, liE R2 t2 n2 Y2 P2]) := hq; clear hq hA1 H9; have TD3 := H10.out.told 1 rfl)
            | (go_at_call 10; (with_reducible refine TD3.mono ?_); clear TD3; rintro e w11 ⟨t3, n3, c3, Y3, P3, R3, rfl, hn3, hy3, hq⟩; have HY3 : Hid ((Rise Y3 ∧ ∀ y, y ∈ Y3 ↔ y ∈ B) ∧ n3 ≤ 100000) := ⟨hy3, hn3⟩; have H11 : Hid (QuE w w11 [stE a Sa A1, stE b Sb B, stE c Sc B, stE d Sd [], liE R1 t1 n1 Y1 P1, liE R2 t2 n2 Y2 P2, liE R3 t3 n3 Y3 P3]) := hq; clear hy3 hn3 hq H10; have SM1 := H11.out.same 6 5 rfl rfl HY3.out.2 HY2.out.2 (told_one HY3.out.1 HY2.out.1 (fun y => Iff.rfl)) c3 c2)
            | (go_at_call 11; (with_reducible refine SM1.mono ?_); clear SM1; rintro e w12 ⟨rfl, hq⟩; have H12 : Hid (QuE w w12 [stE a Sa A1, stE b Sb B, stE c Sc B, stE d Sd [], liE R1 t1 n1 Y1 P1, liE R2 t2 n2 Y2 P2, liE R3 t3 n3 Y3 P3]) := hq; clear hq H11; have MG2 := H12.out.merge 1 0 (by decide) rfl rfl HT.out 0 (fun Z => ∀ x, x ∈ Z ↔ x ∈ D) (fun Y hY => by have h1 := mg_into (Y := Y) HR.out.2.1 HQ.out.1 (fun y => (hY.2 y).trans ((HA1.out y).trans (by rw [HQ.out.2]))); rw [← HR.out.2.2.2] at h1; exact ⟨h1.1, fun x => by rw [aftL_ok h1.1, h1.2 x, HQ.out.2]⟩))
            | (go_at_call 15; (with_reducible refine MG2.mono ?_); clear MG2; rintro e w13 ⟨B1, Sb, rfl, hB1, hq⟩; have HB1 : Hid (∀ x, x ∈ B1 ↔ x ∈ D) := hB1; have H13 : Hid (QuE w w13 [stE a Sa A1, stE b Sb B1, stE c Sc B, stE d Sd [], liE R1 t1 n1 Y1 P1, liE R2 t2 n2 Y2 P2, liE R3 t3 n3 Y3 P3]) := hq; clear hq hB1 H12; have AP1 := World.ownsRow_nil w13 w13.heap.size 41 13)
            | (at_builtin; refine wpList_appK w13 rfl _ _ rfl w13.heap.size (.slice none 0 0) [] 0 rfl AP1 ad n cp L P (HX.out.1.below H13.out.low) rfl (by omega) (Nat.le_refl _) ?_; clear AP1; intro v14 w14 o14 g14 m14; obtain ⟨ga, gl, gc, rfl⟩ := row_shape o14; have HU : Hid (Below w13.heap.size w13 w14) := ⟨g14.os, g14.tape, g14.output, g14.size, fun k hk => g14.block k hk (fun e => by cases e)⟩; have AP2 : Hid (w14.ownsRow w13.heap.size 41 13 (.slice ga gl gc) (0 + n) (([] ++ sqs9 L P).flatMap sqL)) := o14; clear o14 g14 m14)
            | (at_builtin; refine wpList_appK w14 rfl _ _ rfl w13.heap.size (.slice ga gl gc) ([] ++ sqs9 L P) (0 + n) rfl AP2.out bd m dp K Q (HY.out.1.below (H13.out.low.trans (HU.out.mono H13.out.low.size))) rfl (by omega) HU.out.size ?_; intro v15 w15 o15 g15 m15; obtain ⟨gb, gm, gd, rfl⟩ := row_shape o15; have HV := join_any (H13.out) HU.out AP2.out o15 g15 HX.out.1 HY.out.1; obtain ⟨rfl, hv1, hv2⟩ := HV; have H15 : Hid (QuE w w15 [stE a Sa A1, stE b Sb B1, stE c Sc B, stE d Sd [], liE R1 t1 n1 Y1 P1, liE R2 t2 n2 Y2 P2, liE R3 t3 n3 Y3 P3]) := hv1; have PT4 := H15.out.putC 3 rfl gb (n + m) gd (L ++ K) _ (hv2 3 _ rfl) (fun a ha => (List.mem_append.1 ha).elim (HX.out.2.1 a) (HY.out.2.1 a)) (fun a ha => (List.mem_append.1 ha).elim (HX.out.2.2 a) (HY.out.2.2 a)) HT.out (by omega) 0 HQ.out.1 D ((aftL_ok HQ.out.1).trans HQ.out.2) _ rfl; clear AP2 HU H13 o15 g15 m15 hv1 hv2)
            | (go_at_call 8; (with_reducible refine PT4.mono ?_); clear PT4 H15; rintro e w16 ⟨xa4, xn4, xc4, Sd, rfl, hq, -⟩; have H16 : Hid (QuE w w16 [stE a Sa A1, stE b Sb B1, stE c Sc B, stE d Sd D, liE R1 t1 n1 Y1 P1, liE R2 t2 n2 Y2 P2, liE R3 t3 n3 Y3 P3]) := hq; clear hq; have MG3 := H16.out.merge 2 3 (by decide) rfl rfl HT.out 0 (fun Z => ∀ x, x ∈ Z ↔ x ∈ D) (fun Y hY => by have h1 := mg_into (Y := Y) HR.out.2.1 HQ.out.1 (fun y => (hY.2 y).trans (by rw [HQ.out.2])); rw [← HR.out.2.2.2] at h1; exact ⟨h1.1, fun x => by rw [aftL_ok h1.1, h1.2 x, HQ.out.2]⟩))
            | (go_at_call 15; (with_reducible refine MG3.mono ?_); clear MG3; rintro e w17 ⟨C1, Sc, rfl, hC1, hq⟩; have HC1 : Hid (∀ x, x ∈ C1 ↔ x ∈ D) := hC1; have H17 : Hid (QuE w w17 [stE a Sa A1, stE b Sb B1, stE c Sc C1, stE d Sd D, liE R1 t1 n1 Y1 P1, liE R2 t2 n2 Y2 P2, liE R3 t3 n3 Y3 P3]) := hq; clear hq hC1 H16; have TD4 := H17.out.told 0 rfl)
            | (go_at_call 10; (with_reducible refine TD4.mono ?_); clear TD4; rintro e w18 ⟨t4, n4, c4, Y4, P4, R4, rfl, hn4, hy4, hq⟩; have HY4 : Hid ((Rise Y4 ∧ ∀ y, y ∈ Y4 ↔ y ∈ A1) ∧ n4 ≤ 100000) := ⟨hy4, hn4⟩; have H18 : Hid (QuE w w18 [stE a Sa A1, stE b Sb B1, stE c Sc C1, stE d Sd D, liE R1 t1 n1 Y1 P1, liE R2 t2 n2 Y2 P2, liE R3 t3 n3 Y3 P3, liE R4 t4 n4 Y4 P4]) := hq; clear hy4 hn4 hq H17; have TD5 := H18.out.told 1 rfl)
            | (go_at_call 10; (with_reducible refine TD5.mono ?_); clear TD5; rintro e w19 ⟨t5, n5, c5, Y5, P5, R5, rfl, hn5, hy5, hq⟩; have HY5 : Hid ((Rise Y5 ∧ ∀ y, y ∈ Y5 ↔ y ∈ B1) ∧ n5 ≤ 100000) := ⟨hy5, hn5⟩; have H19 : Hid (QuE w w19 [stE a Sa A1, stE b Sb B1, stE c Sc C1, stE d Sd D, liE R1 t1 n1 Y1 P1, liE R2 t2 n2 Y2 P2, liE R3 t3 n3 Y3 P3, liE R4 t4 n4 Y4 P4, liE R5 t5 n5 Y5 P5]) := hq; clear hy5 hn5 hq H18; have SM2 := H19.out.same 7 8 rfl rfl HY4.out.2 HY5.out.2 (told_one HY4.out.1 HY5.out.1 (fun y => (HA1.out y).trans (HB1.out y).symm)) c4 c5)
            | (go_at_call 11; (with_reducible refine SM2.mono ?_); clear SM2; rintro e w20 ⟨rfl, hq⟩; have H20 : Hid (QuE w w20 [stE a Sa A1, stE b Sb B1, stE c Sc C1, stE d Sd D, liE R1 t1 n1 Y1 P1, liE R2 t2 n2 Y2 P2, liE R3 t3 n3 Y3 P3, liE R4 t4 n4 Y4 P4, liE R5 t5 n5 Y5 P5]) := hq; clear hq H19; have TD6 := H20.out.told 2 rfl)
            | (go_at_call 10; (with_reducible refine TD6.mono ?_); clear TD6; rintro e w21 ⟨t6, n6, c6, Y6, P6, R6, rfl, hn6, hy6, hq⟩; have HY6 : Hid ((Rise Y6 ∧ ∀ y, y ∈ Y6 ↔ y ∈ C1) ∧ n6 ≤ 100000) := ⟨hy6, hn6⟩; have H21 : Hid (QuE w w21 [stE a Sa A1, stE b Sb B1, stE c Sc C1, stE d Sd D, liE R1 t1 n1 Y1 P1, liE R2 t2 n2 Y2 P2, liE R3 t3 n3 Y3 P3, liE R4 t4 n4 Y4 P4, liE R5 t5 n5 Y5 P5, liE R6 t6 n6 Y6 P6]) := hq; clear hy6 hn6 hq H20; have SM3 := H21.out.same 7 9 rfl rfl HY4.out.2 HY6.out.2 (told_one HY4.out.1 HY6.out.1 (fun y => (HA1.out y).trans (HC1.out y).symm)) c4 c6)
            | (go_at_call 11; (with_reducible refine SM3.mono ?_); clear SM3; rintro e w22 ⟨rfl, hq⟩; have H22 : Hid (QuE w w22 [stE a Sa A1, stE b Sb B1, stE c Sc C1, stE d Sd D, liE R1 t1 n1 Y1 P1, liE R2 t2 n2 Y2 P2, liE R3 t3 n3 Y3 P3, liE R4 t4 n4 Y4 P4, liE R5 t5 n5 Y5 P5, liE R6 t6 n6 Y6 P6]) := hq; clear hq H21; have TD7 := H22.out.told 3 rfl)
            | (go_at_call 10; (with_reducible refine TD7.mono ?_); clear TD7; rintro e w23 ⟨t7, n7, c7, Y7, P7, R7, rfl, hn7, hy7, hq⟩; have HY7 : Hid ((Rise Y7 ∧ ∀ y, y ∈ Y7 ↔ y ∈ D) ∧ n7 ≤ 100000) := ⟨hy7, hn7⟩; have H23 : Hid (QuE w w23 [stE a Sa A1, stE b Sb B1, stE c Sc C1, stE d Sd D, liE R1 t1 n1 Y1 P1, liE R2 t2 n2 Y2 P2, liE R3 t3 n3 Y3 P3, liE R4 t4 n4 Y4 P4, liE R5 t5 n5 Y5 P5, liE R6 t6 n6 Y6 P6, liE R7 t7 n7 Y7 P7]) := hq; clear hy7 hn7 hq H22; have SM4 := H23.out.same 7 10 rfl rfl HY4.out.2 HY7.out.2 (told_one HY4.out.1 HY7.out.1 HA1.out) c4 c7)
            | (go_at_call 11; (with_reducible refine SM4.mono ?_); clear SM4; rintro e w24 ⟨rfl, hq⟩; have H24 : Hid (QuE w w24 [stE a Sa A1, stE b Sb B1, stE c Sc C1, stE d Sd D, liE R1 t1 n1 Y1 P1, liE R2 t2 n2 Y2 P2, liE R3 t3 n3 Y3 P3, liE R4 t4 n4 Y4 P4, liE R5 t5 n5 Y5 P5, liE R6 t6 n6 Y6 P6, liE R7 t7 n7 Y7 P7]) := hq; clear hq H23; skip))
          go_ret
          exact ⟨rfl, H24.out.low⟩
      · as_aux_lemma =>
          have HQN : Hid (q ≠ 0) := hq0
          have hqb : (q != 0) = true := by simpa using hq0
          have hqq : (q == q) = true := by simp
          clear hq0
          go_wp2_with (first
            | (go_at_call 10; (with_reducible refine TD1.mono ?_); clear TD1; rintro e w8 ⟨t1, n1, c1, Y1, P1, R1, rfl, hn1, hy1, hq⟩; have HY1 : Hid ((Rise Y1 ∧ ∀ y, y ∈ Y1 ↔ y ∈ A) ∧ n1 ≤ 100000) := ⟨hy1, hn1⟩; have H8 : Hid (QuE w w8 [stE a Sa A, stE b Sb B, stE c Sc B, stE d Sd [], liE R1 t1 n1 Y1 P1]) := hq; clear hy1 hn1 hq H7; have TD2 := H8.out.told 1 rfl)
            | (go_at_call 10; (with_reducible refine TD2.mono ?_); clear TD2; rintro e w9 ⟨t2, n2, c2, Y2, P2, R2, rfl, hn2, hy2, hq⟩; have HY2 : Hid ((Rise Y2 ∧ ∀ y, y ∈ Y2 ↔ y ∈ B) ∧ n2 ≤ 100000) := ⟨hy2, hn2⟩; have H9 : Hid (QuE w w9 [stE a Sa A, stE b Sb B, stE c Sc B, stE d Sd [], liE R1 t1 n1 Y1 P1, liE R2 t2 n2 Y2 P2]) := hq; clear hy2 hn2 hq H8; have MG1 := H9.out.merge 0 1 (by decide) rfl rfl HT.out q (fun X => X = A) (fun Y hY => by have h1 := mg_room HR.out.1 HR.out.2.1 (fun y => (hY.2 y).trans (by rw [HR.out.2.2.2])); rw [← HR.out.2.2.1, HQ.out.1] at h1; exact ⟨h1, aftL_no (by rw [h1]; exact HQN.out)⟩))
            | (go_at_call 15; (with_reducible refine MG1.mono ?_); clear MG1; rintro e w10 ⟨XA, Sa, rfl, hx, hq⟩; have hx2 : XA = A := hx; rw [hx2] at hq; clear hx hx2; have H10 : Hid (QuE w w10 [stE a Sa A, stE b Sb B, stE c Sc B, stE d Sd [], liE R1 t1 n1 Y1 P1, liE R2 t2 n2 Y2 P2]) := hq; clear hq H9; have TD3 := H10.out.told 1 rfl)
            | (go_at_call 10; (with_reducible refine TD3.mono ?_); clear TD3; rintro e w11 ⟨t3, n3, c3, Y3, P3, R3, rfl, hn3, hy3, hq⟩; have HY3 : Hid ((Rise Y3 ∧ ∀ y, y ∈ Y3 ↔ y ∈ B) ∧ n3 ≤ 100000) := ⟨hy3, hn3⟩; have H11 : Hid (QuE w w11 [stE a Sa A, stE b Sb B, stE c Sc B, stE d Sd [], liE R1 t1 n1 Y1 P1, liE R2 t2 n2 Y2 P2, liE R3 t3 n3 Y3 P3]) := hq; clear hy3 hn3 hq H10; have SM1 := H11.out.same 6 5 rfl rfl HY3.out.2 HY2.out.2 (told_one HY3.out.1 HY2.out.1 (fun y => Iff.rfl)) c3 c2)
            | (go_at_call 11; (with_reducible refine SM1.mono ?_); clear SM1; rintro e w12 ⟨rfl, hq⟩; have H12 : Hid (QuE w w12 [stE a Sa A, stE b Sb B, stE c Sc B, stE d Sd [], liE R1 t1 n1 Y1 P1, liE R2 t2 n2 Y2 P2, liE R3 t3 n3 Y3 P3]) := hq; clear hq H11; have MG2 := H12.out.merge 1 0 (by decide) rfl rfl HT.out q (fun Z => Z = B) (fun Y hY => by have h1 := mg_room HR.out.2.1 HR.out.1 (fun y => (hY.2 y).trans (by rw [HR.out.2.2.1])); rw [mg_turn HR.out.1 HR.out.2.1, ← HR.out.2.2.2, HQ.out.1] at h1; exact ⟨h1, aftL_no (by rw [h1]; exact HQN.out)⟩))
            | (go_at_call 15; (with_reducible refine MG2.mono ?_); clear MG2; rintro e w13 ⟨ZB, Sb, rfl, hz, hq⟩; have hz2 : ZB = B := hz; rw [hz2] at hq; clear hz hz2; have H13 : Hid (QuE w w13 [stE a Sa A, stE b Sb B, stE c Sc B, stE d Sd [], liE R1 t1 n1 Y1 P1, liE R2 t2 n2 Y2 P2, liE R3 t3 n3 Y3 P3]) := hq; clear hq H12; have TD4 := H13.out.told 0 rfl)
            | (go_at_call 10; (with_reducible refine TD4.mono ?_); clear TD4; rintro e w14 ⟨t4, n4, c4, Y4, P4, R4, rfl, hn4, hy4, hq⟩; have HY4 : Hid ((Rise Y4 ∧ ∀ y, y ∈ Y4 ↔ y ∈ A) ∧ n4 ≤ 100000) := ⟨hy4, hn4⟩; have H14 : Hid (QuE w w14 [stE a Sa A, stE b Sb B, stE c Sc B, stE d Sd [], liE R1 t1 n1 Y1 P1, liE R2 t2 n2 Y2 P2, liE R3 t3 n3 Y3 P3, liE R4 t4 n4 Y4 P4]) := hq; clear hy4 hn4 hq H13; have SM2 := H14.out.same 7 4 rfl rfl HY4.out.2 HY1.out.2 (told_one HY4.out.1 HY1.out.1 (fun y => Iff.rfl)) c4 c1)
            | (go_at_call 11; (with_reducible refine SM2.mono ?_); clear SM2; rintro e w15 ⟨rfl, hq⟩; have H15 : Hid (QuE w w15 [stE a Sa A, stE b Sb B, stE c Sc B, stE d Sd [], liE R1 t1 n1 Y1 P1, liE R2 t2 n2 Y2 P2, liE R3 t3 n3 Y3 P3, liE R4 t4 n4 Y4 P4]) := hq; clear hq H14; have TD5 := H15.out.told 1 rfl)
            | (go_at_call 10; (with_reducible refine TD5.mono ?_); clear TD5; rintro e w16 ⟨t5, n5, c5, Y5, P5, R5, rfl, hn5, hy5, hq⟩; have HY5 : Hid ((Rise Y5 ∧ ∀ y, y ∈ Y5 ↔ y ∈ B) ∧ n5 ≤ 100000) := ⟨hy5, hn5⟩; have H16 : Hid (QuE w w16 [stE a Sa A, stE b Sb B, stE c Sc B, stE d Sd [], liE R1 t1 n1 Y1 P1, liE R2 t2 n2 Y2 P2, liE R3 t3 n3 Y3 P3, liE R4 t4 n4 Y4 P4, liE R5 t5 n5 Y5 P5]) := hq; clear hy5 hn5 hq H15; have SM3 := H16.out.same 8 5 rfl rfl HY5.out.2 HY2.out.2 (told_one HY5.out.1 HY2.out.1 (fun y => Iff.rfl)) c5 c2)
            | (go_at_call 11; (with_reducible refine SM3.mono ?_); clear SM3; rintro e w17 ⟨rfl, hq⟩; have H17 : Hid (QuE w w17 [stE a Sa A, stE b Sb B, stE c Sc B, stE d Sd [], liE R1 t1 n1 Y1 P1, liE R2 t2 n2 Y2 P2, liE R3 t3 n3 Y3 P3, liE R4 t4 n4 Y4 P4, liE R5 t5 n5 Y5 P5]) := hq; clear hq H16; skip))
          go_ret
          exact ⟨rfl, H17.out.low⟩
    · have Hg : Hid (g ≠ 0) := hg0
      clear hg0
      by_cases hn0 : n = 0
      · have Hn : Hid (n = 0) := hn0
        clear hn0
        as_aux_lemma =>
          have Ca := H7.out.count 0 rfl
          have ea : A = [] := by rw [← HFG.out.2.2.1, show L = [] from List.eq_nil_of_length_eq_zero (HLN.out.1.trans Hn.out), aftL_ok rfl]; rfl
          rw [ea] at Ca
          have hza : ((([] : List Sp).length : Nat) : Int) = 0 := rfl
          rw [hza] at Ca
          have hba : (f != 0) = false := by simpa using Hf.out
          have hla : ((n : Int) == 0) = true := by simpa using Hn.out
          clear ea hza
          have Cb := H7.out.count 1 rfl
          have eb : B = [] := by rw [← HFG.out.2.2.2]; exact aftL_no (by rw [HFG.out.2.1]; exact Hg.out)
          rw [eb] at Cb
          have hzb : ((([] : List Sp).length : Nat) : Int) = 0 := rfl
          rw [hzb] at Cb
          have hbb : (g != 0) = true := by simpa using Hg.out
          clear eb hzb
          go_wp2_with (first
            | (go_at_call 9; (with_reducible refine Ca.mono ?_); clear Ca; rintro e w8 ⟨rfl, hw⟩; obtain rfl := hw.symm)
            | (go_at_call 9; (with_reducible refine Cb.mono ?_); clear Cb; rintro e w8 ⟨rfl, hw⟩; obtain rfl := hw.symm))
          go_ret
          exact ⟨rfl, H7.out.low⟩
      · have Hn : Hid (n ≠ 0) := hn0
        clear hn0
        as_aux_lemma =>
          have Ca := H7.out.count 0 rfl
          have ea : 0 < A.length := by rw [← HFG.out.2.2.1, aftL_ok (HFG.out.1.trans Hf.out)]; exact run_empty (fun e => by have := HLN.out.1; rw [e] at this; exact Hn.out this.symm)
          obtain ⟨ka, hka⟩ : ∃ k, A.length = k := ⟨_, rfl⟩
          rw [hka] at Ca ea
          have hza : ((ka : Int) == 0) = false := by simp; omega
          have hba : (f != 0) = false := by simpa using Hf.out
          have hla : ((n : Int) == 0) = false := by simpa using Hn.out
          clear ea hka
          have Cb := H7.out.count 1 rfl
          have eb : B = [] := by rw [← HFG.out.2.2.2]; exact aftL_no (by rw [HFG.out.2.1]; exact Hg.out)
          rw [eb] at Cb
          have hzb : ((([] : List Sp).length : Nat) : Int) = 0 := rfl
          rw [hzb] at Cb
          have hbb : (g != 0) = true := by simpa using Hg.out
          clear eb hzb
          go_wp2_with (first
            | (go_at_call 9; (with_reducible refine Ca.mono ?_); clear Ca; rintro e w8 ⟨rfl, hw⟩; obtain rfl := hw.symm)
            | (go_at_call 9; (with_reducible refine Cb.mono ?_); clear Cb; rintro e w8 ⟨rfl, hw⟩; obtain rfl := hw.symm))
          go_ret
          exact ⟨rfl, H7.out.low⟩
  · have Hf : Hid (f ≠ 0) := hf0
    clear hf0
    by_cases hg0 : g = 0
    · have Hg : Hid (g = 0) := hg0
      clear hg0
      by_cases hm0 : m = 0
      · have Hm : Hid (m = 0) := hm0
        clear hm0
        as_aux_lemma =>
          have Ca := H7.out.count 0 rfl
          have ea : A = [] := by rw [← HFG.out.2.2.1]; exact aftL_no (by rw [HFG.out.1]; exact Hf.out)
          rw [ea] at Ca
          have hza : ((([] : List Sp).length : Nat) : Int) = 0 := rfl
          rw [hza] at Ca
          have hba : (f != 0) = true := by simpa using Hf.out
          clear ea hza
          have Cb := H7.out.count 1 rfl
          have eb : B = [] := by rw [← HFG.out.2.2.2, show K = [] from List.eq_nil_of_length_eq_zero (HLN.out.2.trans Hm.out), aftL_ok rfl]; rfl
          rw [eb] at Cb
          have hzb : ((([] : List Sp).length : Nat) : Int) = 0 := rfl
          rw [hzb] at Cb
          have hbb : (g != 0) = false := by simpa using Hg.out
          have hlb : ((m : Int) == 0) = true := by simpa using Hm.out
          clear eb hzb
          go_wp2_with (first
            | (go_at_call 9; (with_reducible refine Ca.mono ?_); clear Ca; rintro e w8 ⟨rfl, hw⟩; obtain rfl := hw.symm)
            | (go_at_call 9; (with_reducible refine Cb.mono ?_); clear Cb; rintro e w8 ⟨rfl, hw⟩; obtain rfl := hw.symm))
          go_ret
          exact ⟨rfl, H7.out.low⟩
      · have Hm : Hid (m ≠ 0) := hm0
        clear hm0
        as_aux_lemma =>
          have Ca := H7.out.count 0 rfl
          have ea : A = [] := by rw [← HFG.out.2.2.1]; exact aftL_no (by rw [HFG.out.1]; exact Hf.out)
          rw [ea] at Ca
          have hza : ((([] : List Sp).length : Nat) : Int) = 0 := rfl
          rw [hza] at Ca
          have hba : (f != 0) = true := by simpa using Hf.out
          clear ea hza
          have Cb := H7.out.count 1 rfl
          have eb : 0 < B.length := by rw [← HFG.out.2.2.2, aftL_ok (HFG.out.2.1.trans Hg.out)]; exact run_empty (fun e => by have := HLN.out.2; rw [e] at this; exact Hm.out this.symm)
          obtain ⟨kb, hkb⟩ : ∃ k, B.length = k := ⟨_, rfl⟩
          rw [hkb] at Cb eb
          have hzb : ((kb : Int) == 0) = false := by simp; omega
          have hbb : (g != 0) = false := by simpa using Hg.out
          have hlb : ((m : Int) == 0) = false := by simpa using Hm.out
          clear eb hkb
          go_wp2_with (first
            | (go_at_call 9; (with_reducible refine Ca.mono ?_); clear Ca; rintro e w8 ⟨rfl, hw⟩; obtain rfl := hw.symm)
            | (go_at_call 9; (with_reducible refine Cb.mono ?_); clear Cb; rintro e w8 ⟨rfl, hw⟩; obtain rfl := hw.symm))
          go_ret
          exact ⟨rfl, H7.out.low⟩
    · have Hg : Hid (g ≠ 0) := hg0
      clear hg0
      as_aux_lemma =>
        have Ca := H7.out.count 0 rfl
        have ea : A = [] := by rw [← HFG.out.2.2.1]; exact aftL_no (by rw [HFG.out.1]; exact Hf.out)
        rw [ea] at Ca
        have hza : ((([] : List Sp).length : Nat) : Int) = 0 := rfl
        rw [hza] at Ca
        have hba : (f != 0) = true := by simpa using Hf.out
        clear ea hza
        have Cb := H7.out.count 1 rfl
        have eb : B = [] := by rw [← HFG.out.2.2.2]; exact aftL_no (by rw [HFG.out.2.1]; exact Hg.out)
        rw [eb] at Cb
        have hzb : ((([] : List Sp).length : Nat) : Int) = 0 := rfl
        rw [hzb] at Cb
        have hbb : (g != 0) = true := by simpa using Hg.out
        clear eb hzb
        go_wp2_with (first
          | (go_at_call 9; (with_reducible refine Ca.mono ?_); clear Ca; rintro e w8 ⟨rfl, hw⟩; obtain rfl := hw.symm)
          | (go_at_call 9; (with_reducible refine Cb.mono ?_); clear Cb; rintro e w8 ⟨rfl, hw⟩; obtain rfl := hw.symm))
        go_ret
        exact ⟨rfl, H7.out.low⟩
end Go.Proofs.YtiflfapdffkcbaaGreatDoor
