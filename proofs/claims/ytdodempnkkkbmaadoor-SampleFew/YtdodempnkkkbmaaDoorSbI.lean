/-
  SbI.
-/
import Derived.Test.YtdodempnkkkbmaaDoorSbGq
import Derived.Deep.Cut
namespace Go.Proofs.YtdodempnkkkbmaaDoor
open Go Go.RowKit
set_option maxRecDepth 100000

theorem half_i (n : Nat) (hz : n ≤ 70368744177664) : ∃ h : Nat, IntKind.i64.wrap ((n : Int).tdiv 2) = (h : Int) ∧ IntKind.i64.wrap ((n : Int) / 2) = (h : Int) ∧ h ≤ n := by
  have e : (n : Int).tdiv 2 = (n : Int) / 2 := Int.tdiv_eq_ediv_of_nonneg (by omega)
  refine ⟨n / 2, ?_, ?_, by omega⟩
  · rw [e]
    simp [IntKind.wrap, IntKind.bits, IntKind.signed]
    omega
  · simp [IntKind.wrap, IntKind.bits, IntKind.signed]
    omega
theorem ways_i (n : Nat) (ai : Int) (hz : n ≤ 70368744177664) : ∃ c : Nat, c ≤ n ∧ ((ai < 0 ∧ IntKind.i64.wrap ((n : Int).tdiv 2) = (c : Int) ∧ IntKind.i64.wrap ((n : Int) / 2) = (c : Int)) ∨ (¬ ai < 0 ∧ (n : Int) < ai ∧ IntKind.i64.wrap ((n : Int).tdiv 2) = (c : Int) ∧ IntKind.i64.wrap ((n : Int) / 2) = (c : Int)) ∨ (¬ ai < 0 ∧ ¬ (n : Int) < ai ∧ ai = (c : Int))) := by
  obtain ⟨h, q1, q2, hh⟩ := half_i n hz
  by_cases h1 : ai < 0
  · exact ⟨h, hh, Or.inl ⟨h1, q1, q2⟩⟩
  · by_cases h2 : (n : Int) < ai
    · exact ⟨h, hh, Or.inr (Or.inl ⟨h1, h2, q1, q2⟩)⟩
    · exact ⟨ai.toNat, by omega, Or.inr (Or.inr ⟨h1, h2, by omega⟩)⟩
theorem fin_tops {most c : Nat} {L : List Tr} {TT : Nat → List Tr} {T3 T2 : List Tr} (h : TopsE most c L TT) (p3 : ∀ S, TopF most S (TT 3) → TopF most ((TT 2).reverse ++ S) T3) (p2 : ∀ S, TopF most S (upF TT 3 T3 2) → TopF most ((upF TT 3 T3 4).reverse ++ S) T2) :
    ∃ (T : List Tr) (tl : Nat), T.length = tl ∧ Hid (TopF most L T) ∧ Hid (∀ j, j < 4 → upF (upF TT 3 T3) 2 T2 j = T) := by
  obtain ⟨h1, h2⟩ := h.merged p3 p2
  exact ⟨TT 0, _, rfl, h1, h2⟩
theorem tracesN {w : World} {f base most tl : Nat} {T U : List Tr} (hl : T.length = tl) (e : U = T) (hF : FewAt w f base most U) :
    Calls Tryd.prog 8 #[.pointer (some ⟨f, 0, none⟩)] w fun e w' => ∃ ao c, e = .returned (.slice ao tl c) ∧ TrAt w' ao T ∧ Below w.heap.size w w' := by
  subst hl e
  exact tracesF_any f base most U w hF
set_option maxHeartbeats 8000000 in
theorem sampleFewB_any (mi ai : Int) (la : Option Addr) (n cl : Nat) (w : World) (hm : mi < 2 ∨ 1000 < mi) (hT : Tabs w) :
    Calls Tryd.prog 3 #[.int .i64 mi, .slice la n cl, .int .i64 ai] w fun e w' => e = .returned (.bool true) ∧ Below w.heap.size w w' := by
  have AL := aliveP_any w hT
  have NB : Hid (∀ W, Calls Tryd.prog 5 #[.int .i64 mi] W fun e w' => e = .returned (.tuple #[.pointer none, .int .i64 1]) ∧ Below W.heap.size W w') := fun W => newBad_any mi hm W
  clear hT
  rcases hm with h | h
  · go_enter Tryd.func3, Tryd.ntmps3
    go_wp2_with (first
      | (go_at_call 4; (with_reducible refine AL.mono ?_); clear AL; rintro e w1 ⟨rfl, hb1⟩)
      | (go_at_call 5; (with_reducible refine (NB.out _).mono ?_); clear NB; rintro e w2 ⟨rfl, hb2⟩))
    go_ret
    exact ⟨rfl, hb1.trans (hb2.mono hb1.size)⟩
  · have h2 : ¬ mi < 2 := by omega
    go_enter Tryd.func3, Tryd.ntmps3
    go_wp2_with (first
      | (go_at_call 4; (with_reducible refine AL.mono ?_); clear AL; rintro e w1 ⟨rfl, hb1⟩)
      | (go_at_call 5; (with_reducible refine (NB.out _).mono ?_); clear NB; rintro e w2 ⟨rfl, hb2⟩))
    go_ret
    exact ⟨rfl, hb1.trans (hb2.mono hb1.size)⟩
set_option maxHeartbeats 16000000 in
theorem sampleFewG_any (most : Nat) (ai : Int) (la : Option Addr) (n cl : Nat) (L : List Tr) (w : World) (hL : TrO w la L) (hl : L.length = n) (hz : n ≤ 70368744177664) (hm : 2 ≤ most ∧ most ≤ 1000) (hT : Tabs w) :
    Calls Tryd.prog 3 #[.int .i64 most, .slice la n cl, .int .i64 ai] w fun e w' => e = .returned (.bool true) ∧ Below w.heap.size w w' := by
  have AL := aliveP_any w hT
  have HM : Hid (2 ≤ most ∧ most ≤ 1000) := hm
  have HL : Hid (TrO w la L ∧ L.length = n) := ⟨hL, hl⟩
  have m1 : ¬ (most : Int) < 2 := by omega
  have m2 : ¬ (1000 : Int) < (most : Int) := by omega
  have hzi : (n : Int) ≤ 70368744177664 := by omega
  clear hT hL hl
  go_enter Tryd.func3, Tryd.ntmps3
  go_upto_region 5 with (go_at_call 4; (with_reducible refine AL.mono ?_); clear AL; rintro e w1 ⟨rfl, hb1⟩)
  have HF0 : Hid (FamF w (w1.alloc (.cells #[.pointer none, .pointer none, .pointer none, .pointer none, .pointer none] 28)) w1.heap.size most (fun _ => 0) (fun _ => []) 0) := FamF.new w w1 most _ hb1
  clear hb1
  go_wp2
  go_loopw [11] (fun z wr => ∃ (i : Nat) (F : Nat → Nat), z = .int .i64 i ∧ i ≤ 5 ∧ Hid (FamF w wr w1.heap.size most F (fun _ => []) i)) (fun z _ => 5 - (intOf z).toNat)
  case atStart => exact ⟨0, _, rfl, by omega, HF0⟩
  case round =>
    obtain ⟨i, F, rfl, hi5, HF⟩ := hrel
    clear HF0
    by_cases hlt : i < 5
    · have hlt' : (i : Int) < 5 := by omega
      have NF := newF_any most HM.out wr
      have HC : Hid (∀ W, Below wr.heap.size wr W → W.cell? ⟨w1.heap.size, i, none⟩ = some (.pointer none) ∧ W.frozen? ⟨w1.heap.size, i, none⟩ = false) := fun W hW => by
        have k := (HF.out.below hW).arrB
        refine ⟨k.cell i ?_, k.frozen i⟩
        simp [arrF, List.getElem?_range hlt]
      go_wp2_with (go_at_call 5; (with_reducible refine NF.mono ?_); clear NF; rintro e w2 ⟨rfl, hF2, hb2⟩; have HN : Hid (FamF w (w2.setCell ⟨w1.heap.size, i, none⟩ (.pointer (some ⟨wr.heap.size, 0, none⟩))) w1.heap.size most (fun j => if j = i then wr.heap.size else F j) (fun _ => []) (i + 1)) := HF.out.add hlt hb2 hF2; obtain ⟨s0, s1⟩ := HC.out w2 hb2; clear hF2 hb2 HC)
      go_roundw
      case rel => exact ⟨i + 1, _, by go_num, by omega, HN⟩
      case measure => (simp [intOf]; omega)
    · have HF : Hid (FamF w wr w1.heap.size most F (fun _ => []) 5) := by
        have h := HF.out
        rw [show i = 5 by omega] at h
        exact h
      have hlt5 : ¬ (i : Int) < 5 := by omega
      generalize w1.heap.size = arr at *
      obtain ⟨c, hcn, hway⟩ := ways_i n ai hz
      rcases hway with ⟨h1, q1, q2⟩ | ⟨h1, h2, q1, q2⟩ | ⟨h1, h2, rfl⟩
      all_goals
        have HT0 : Hid (Tops most c n 0 L (fun _ => [])) := by
          have := Tops.zero most c L
          rw [HL.out.2] at this
          exact this
        have KC : ∀ (W : World) (TT : Nat → List Tr) (j : Nat), FamF w W arr most F TT 5 → j < 5 → W.cell? ⟨arr, j, none⟩ = some (.pointer (some ⟨F j, 0, none⟩)) := fun W TT j h hj => h.cell j hj hj
        have HKC : Hid _ := KC
        clear KC hi5 hlt
        go_wp2
        go_loopw [14] (fun z wr => ∃ (i : Nat) (TT : Nat → List Tr), z = .int .i64 i ∧ i ≤ n ∧ Hid (FamF w wr arr most F TT 5) ∧ Hid (Tops most c n i L TT)) (fun z _ => n - (intOf z).toNat)
        case atStart => exact ⟨0, _, rfl, by omega, HF, HT0⟩
        case round =>
          obtain ⟨i, TT, rfl, hin, HF, HTT⟩ := hrel
          clear HT0
          by_cases hlt : i < n
          · have hlt' : (i : Int) < (n : Int) := by omega
            have hiL : i < L.length := by rw [HL.out.2]; exact hlt
            obtain ⟨b, o, e, hb, hd⟩ := HL.out.1 (by omega)
            obtain ⟨x, hx⟩ : ∃ x, L[i] = x := ⟨_, rfl⟩
            obtain ⟨p, hp⟩ : ∃ p, p = n - 1 - i := ⟨_, rfl⟩
            have hpL : p < L.length := by rw [HL.out.2]; omega
            obtain ⟨y, hy⟩ : ∃ y, L[p] = y := ⟨_, rfl⟩
            have hdi := hd i hiL
            have hdp := hd p hpL
            rw [hx] at hdi
            rw [hy] at hdp
            subst e
            have HX : Hid (∃ (h1 : i < L.length) (h2 : L.length - 1 - i < L.length), L[i] = x ∧ L[L.length - 1 - i] = y) := ⟨hiL, by omega, hx, by rw [← hy]; congr 1; rw [hp, HL.out.2]⟩
            have HCX : Hid (∀ (W : World) (TT : Nat → List Tr), FamF w W arr most F TT 5 → (W.cell? ⟨b, o + i * 2, none⟩ = some (.int .u64 (bvI x.1)) ∧ W.cell? ⟨b, o + i * 2 + 1, none⟩ = some (.int .u64 (bvI x.2))) ∧ (W.cell? ⟨b, o + p * 2, none⟩ = some (.int .u64 (bvI y.1)) ∧ W.cell? ⟨b, o + p * 2 + 1, none⟩ = some (.int .u64 (bvI y.2)))) := fun W TT h =>
              ⟨⟨(h.bel.cell (p := ⟨b, o + i * 2, none⟩) hb).trans hdi.1, (h.bel.cell (p := ⟨b, o + i * 2 + 1, none⟩) hb).trans hdi.2⟩, (h.bel.cell (p := ⟨b, o + p * 2, none⟩) hb).trans hdp.1, (h.bel.cell (p := ⟨b, o + p * 2 + 1, none⟩) hb).trans hdp.2⟩
            have hq1 : IntKind.i64.wrap ((n : Int) - 1) = (n : Int) - 1 := by rw [IntKind.wrap_i64]; omega
            have hq2 : IntKind.i64.wrap ((n : Int) - 1 - (i : Int)) = (p : Int) := by rw [IntKind.wrap_i64]; omega
            have hp0 : (0 : Int) ≤ (p : Int) := by omega
            have hpn : (p : Int) < (n : Int) := by omega
            clear hd hdi hdp hx hy hp hpL hiL hb
            have H0 : FamF w wr.drew arr most F TT 5 := HF.out.below ((Below.refl _ _).drew)
            have P0 := H0.put 0 (by decide) x
            go_upto_region 18 with fail
            go_region_held3 (fun W => W.cell? ⟨arr, 0, none⟩ = some (.pointer (some ⟨F 0, 0, none⟩)) ∧ W.cell? ⟨b, o + i * 2, none⟩ = some (.int .u64 (bvI x.1)) ∧ W.cell? ⟨b, o + i * 2 + 1, none⟩ = some (.int .u64 (bvI x.2))) (first | exact ⟨HKC.out _ _ 0 H0 (by decide), (HCX.out _ _ H0).1⟩ | exact ⟨HKC.out _ _ 0 H1 (by decide), (HCX.out _ _ H1).1⟩) (first
              | (go_at_call 6; (with_reducible refine P0.mono ?_); clear P0; rintro e w2 ⟨b0, T0, rfl, H1, p0⟩)
              | fail)
            all_goals
              have HP0 : Hid _ := p0
              have H2 := H1.below ((Below.refl _ _).drew)
              have P1 := H2.put 1 (by decide) y
              clear H0 p0 HF
              go_upto_region 19 with fail
              go_region_held3 (fun W => W.cell? ⟨arr, 1, none⟩ = some (.pointer (some ⟨F 1, 0, none⟩)) ∧ W.cell? ⟨b, o + p * 2, none⟩ = some (.int .u64 (bvI y.1)) ∧ W.cell? ⟨b, o + p * 2 + 1, none⟩ = some (.int .u64 (bvI y.2))) (first | exact ⟨HKC.out _ _ 1 H2 (by decide), (HCX.out _ _ H2).2⟩ | exact ⟨HKC.out _ _ 1 H3 (by decide), (HCX.out _ _ H3).2⟩) (first
                | (go_at_call 6; (with_reducible refine P1.mono ?_); clear P1; rintro e w3 ⟨b1, T1, rfl, H3, p1⟩)
                | fail)
              all_goals
                have HP1 : Hid _ := p1
                have H4 := H3.below ((Below.refl _ _).drew)
                clear H1 H2 p1
                by_cases hic : i < c
                · have hic' : (i : Int) < (c : Int) := by omega
                  have P2 := H4.put 2 (by decide) x
                  go_upto_region 21 with fail
                  go_region_held3 (fun W => W.cell? ⟨arr, 2, none⟩ = some (.pointer (some ⟨F 2, 0, none⟩)) ∧ W.cell? ⟨b, o + i * 2, none⟩ = some (.int .u64 (bvI x.1)) ∧ W.cell? ⟨b, o + i * 2 + 1, none⟩ = some (.int .u64 (bvI x.2))) (first | exact ⟨HKC.out _ _ 2 H4 (by decide), (HCX.out _ _ H4).1⟩ | exact ⟨HKC.out _ _ 2 H5 (by decide), (HCX.out _ _ H5).1⟩) (first
                    | (go_at_call 6; (with_reducible refine P2.mono ?_); clear P2; rintro e w4 ⟨b2, T2, rfl, H5, p2⟩)
                    | fail)
                  all_goals
                    have HN1 : Hid (FamF w w4 arr most F (upF (upF (upF TT 0 T0) 1 T1) 2 T2) 5) := H5
                    have HN2 : Hid (Tops most c n (i + 1) L (upF (upF (upF TT 0 T0) 1 T1) 2 T2)) := HTT.out.lowN HL.out.2 HX.out hic HP0.out HP1.out p2
                    clear H3 H4 H5 p2 HP0 HP1 HX HCX HKC HL HTT
                    go_wp2
                    go_roundw
                    case rel => exact ⟨i + 1, _, by go_num, by omega, HN1, HN2⟩
                    case measure => (simp [intOf]; omega)
                · have hic' : ¬ (i : Int) < (c : Int) := by omega
                  have P2 := H4.put 3 (by decide) x
                  go_upto_region 22 with fail
                  go_region_held3 (fun W => W.cell? ⟨arr, 3, none⟩ = some (.pointer (some ⟨F 3, 0, none⟩)) ∧ W.cell? ⟨b, o + i * 2, none⟩ = some (.int .u64 (bvI x.1)) ∧ W.cell? ⟨b, o + i * 2 + 1, none⟩ = some (.int .u64 (bvI x.2))) (first | exact ⟨HKC.out _ _ 3 H4 (by decide), (HCX.out _ _ H4).1⟩ | exact ⟨HKC.out _ _ 3 H5 (by decide), (HCX.out _ _ H5).1⟩) (first
                    | (go_at_call 6; (with_reducible refine P2.mono ?_); clear P2; rintro e w4 ⟨b3, T3, rfl, H5, p3⟩)
                    | fail)
                  all_goals
                    have HP3 : Hid _ := p3
                    have H6 := H5.below ((Below.refl _ _).drew)
                    clear H3 H4 p3
                    have P4 := H6.put 4 (by decide) x
                    go_upto_region 23 with fail
                    go_region_held3 (fun W => W.cell? ⟨arr, 4, none⟩ = some (.pointer (some ⟨F 4, 0, none⟩)) ∧ W.cell? ⟨b, o + i * 2, none⟩ = some (.int .u64 (bvI x.1)) ∧ W.cell? ⟨b, o + i * 2 + 1, none⟩ = some (.int .u64 (bvI x.2))) (first | exact ⟨HKC.out _ _ 4 H6 (by decide), (HCX.out _ _ H6).1⟩ | exact ⟨HKC.out _ _ 4 H7 (by decide), (HCX.out _ _ H7).1⟩) (first
                      | (go_at_call 6; (with_reducible refine P4.mono ?_); clear P4; rintro e w5 ⟨b4, T4, rfl, H7, p4⟩)
                      | fail)
                    all_goals
                      have HN1 : Hid (FamF w w5 arr most F (upF (upF (upF (upF TT 0 T0) 1 T1) 3 T3) 4 T4) 5) := H7
                      have HN2 : Hid (Tops most c n (i + 1) L (upF (upF (upF (upF TT 0 T0) 1 T1) 3 T3) 4 T4)) := HTT.out.highN HL.out.2 HX.out (Nat.le_of_not_lt hic) HP0.out HP1.out HP3.out p4
                      clear H5 H6 H7 p4 HP0 HP1 HP3 HX HCX HKC HL HTT
                      go_wp2
                      go_roundw
                      case rel => exact ⟨i + 1, _, by go_num, by omega, HN1, HN2⟩
                      case measure => (simp [intOf]; omega)
          · obtain rfl : n = i := by omega
            have HE0 : Hid (TopsE most c L TT) := by
              have h := HTT.out
              rw [← HL.out.2] at h
              exact h.done (by rw [HL.out.2]; exact hcn)
            clear HTT hin hlt
            go_wp2
            go_loopw [15] (fun z wr => ∃ (i : Nat) (TT : Nat → List Tr), z = .int .i64 i ∧ i ≤ n ∧ Hid (FamF w wr arr most F TT 5) ∧ Hid (TopsE most c L TT)) (fun z _ => n - (intOf z).toNat)
            case atStart => exact ⟨0, _, rfl, by omega, HF, HE0⟩
            case round =>
              obtain ⟨i, TT, rfl, hin, HF, HTT⟩ := hrel
              clear HE0
              by_cases hlt : i < n
              · have hlt' : (i : Int) < (n : Int) := by omega
                have hiL : i < L.length := by rw [HL.out.2]; exact hlt
                obtain ⟨b, o, e, hb, hd⟩ := HL.out.1 (by omega)
                obtain ⟨x, hx⟩ : ∃ x, L[i] = x := ⟨_, rfl⟩
                have hdi := hd i hiL
                rw [hx] at hdi
                subst e
                have HX : Hid (x ∈ L) := hx ▸ List.getElem_mem hiL
                have HCX : Hid (∀ (W : World) (TT : Nat → List Tr), FamF w W arr most F TT 5 → (W.cell? ⟨b, o + i * 2, none⟩ = some (.int .u64 (bvI x.1)) ∧ W.cell? ⟨b, o + i * 2 + 1, none⟩ = some (.int .u64 (bvI x.2))) ∧ True) := fun W TT h =>
                  ⟨⟨(h.bel.cell (p := ⟨b, o + i * 2, none⟩) hb).trans hdi.1, (h.bel.cell (p := ⟨b, o + i * 2 + 1, none⟩) hb).trans hdi.2⟩, trivial⟩
                clear hd hdi hx hiL hb
                have H0 : FamF w wr.drew arr most F TT 5 := HF.out.below ((Below.refl _ _).drew)
                have P1 := H0.put 1 (by decide) x
                go_upto_region 27 with fail
                go_region_held3 (fun W => W.cell? ⟨arr, 1, none⟩ = some (.pointer (some ⟨F 1, 0, none⟩)) ∧ W.cell? ⟨b, o + i * 2, none⟩ = some (.int .u64 (bvI x.1)) ∧ W.cell? ⟨b, o + i * 2 + 1, none⟩ = some (.int .u64 (bvI x.2))) (first | exact ⟨HKC.out _ _ 1 H0 (by decide), (HCX.out _ _ H0).1⟩ | exact ⟨HKC.out _ _ 1 H1 (by decide), (HCX.out _ _ H1).1⟩) (first
                  | (go_at_call 6; (with_reducible refine P1.mono ?_); clear P1; rintro e w2 ⟨b1, T1, rfl, H1, p1⟩)
                  | fail)
                all_goals
                  have HN1 : Hid (FamF w w2 arr most F (upF TT 1 T1) 5) := H1
                  have HN2 : Hid (TopsE most c L (upF TT 1 T1)) := HTT.out.again HX.out p1
                  clear H0 H1 p1 HX HCX HKC HL HTT HF
                  go_wp2
                  go_roundw
                  case rel => exact ⟨i + 1, _, by go_num, by omega, HN1, HN2⟩
                  case measure => (simp [intOf]; omega)
              · obtain rfl : n = i := by omega
                clear hin hlt
                have c3 := HKC.out wr TT 3 HF.out (by decide)
                have c2 := HKC.out wr TT 2 HF.out (by decide)
                have M1 := HF.out.merge 3 2 (by decide) (by decide) (by decide)
                go_wp2_with (first
                  | (go_at_call 7; (with_reducible refine M1.mono ?_); clear M1; rintro e w2 ⟨T3, rfl, H2, p3⟩; have d2 := HKC.out w2 _ 2 H2 (by decide); have d4 := HKC.out w2 _ 4 H2 (by decide); have HP3 : Hid _ := p3; clear p3 c2 c3; have M2 := H2.merge 2 4 (by decide) (by decide) (by decide))
                  | (go_at_call 7; (with_reducible refine M2.mono ?_); clear M2; rintro e w3 ⟨T2, rfl, H3, p2⟩; have c0 := HKC.out w3 _ 0 H3 (by decide); have HP2 : Hid _ := p2; clear p2 d2 d4; obtain ⟨T, tl, hTl, HTop, HAll⟩ := fin_tops HTT.out HP3.out HP2.out; have TR := tracesN hTl (HAll.out 0 (by decide)) (H3.few 0 (by decide)))
                  | (go_at_call 8; (with_reducible refine TR.mono ?_); clear TR; rintro e w4 ⟨ao, ca, rfl, hA, hb4⟩; clear c0))
                generalize upF (upF TT 3 T3) 2 T2 = TU at *
                have HE : Hid (FamF w w4 arr most F TU 5 ∧ TrAt w4 ao T) := ⟨H3.below hb4, hA⟩
                have HTL : Hid (T.length = tl) := hTl
                have htm : tl ≤ most := by rw [← HTL.out]; exact HTop.out.len
                have HKD : Hid (∀ (W : World) (j : Nat), (FamF w W arr most F TU 5 ∧ TrAt W ao T) → j < 5 → W.cell? ⟨arr, j, none⟩ = some (.pointer (some ⟨F j, 0, none⟩))) := fun W j h hj => HKC.out W TU j h.1 hj
                clear H2 H3 hA hb4 HP2 HP3 HTT HF HKC hTl
                go_wp2
                go_loopw [19] (fun z wr => ∃ i : Nat, z = .int .i64 i ∧ 1 ≤ i ∧ i ≤ 4 ∧ Hid (FamF w wr arr most F TU 5 ∧ TrAt wr ao T)) (fun z _ => 4 - (intOf z).toNat)
                case atStart => exact ⟨1, rfl, by omega, by omega, HE⟩
                case round =>
                  obtain ⟨j, rfl, hj1, hj4, HEr⟩ := hrel
                  clear HE
                  by_cases hlt : j < 4
                  · have hlt' : (j : Int) < 4 := by omega
                    have hj0 : (0 : Int) ≤ (j : Int) := by omega
                    have hj5 : (j : Int) < 5 := by omega
                    have HB : Hid (∀ (W W' : World), (FamF w W arr most F TU 5 ∧ TrAt W ao T) → Below W.heap.size W W' → (FamF w W' arr most F TU 5 ∧ TrAt W' ao T)) := fun W W' h hb => ⟨h.1.below hb, h.2.below hb⟩
                    have E0 := HB.out wr wr.drew HEr.out ((Below.refl _ _).drew)
                    have TR := tracesN HTL.out (HAll.out j hlt) (E0.1.few j (by omega))
                    have SM : Hid (∀ (W : World) (a : Option Addr) (c : Nat), TrAt W a T → TrAt W ao T → Calls Tryd.prog 9 #[.slice a tl c, .slice ao tl ca] W fun e w' => e = .returned (.bool true) ∧ Below W.heap.size W w') := fun W a c h1 h2 => by
                      have := sameT_any a ao tl tl c ca T T W h1 h2 HTL.out HTL.out (by have := HM.out; omega) (by have := HM.out; omega)
                      rw [show decide (T = T) = true from decide_eq_true rfl] at this
                      exact this
                    obtain ⟨gs, hgs⟩ : ∃ gs, gsN most T = gs := ⟨_, rfl⟩
                    have GU : Hid (∀ (W : World) (j : Nat), (FamF w W arr most F TU 5 ∧ TrAt W ao T) → j < 4 → Calls Tryd.prog 10 #[.pointer (some ⟨F j, 0, none⟩)] W fun e w' => e = .returned (.int .u64 (gs : Int)) ∧ Below W.heap.size W w') := fun W j h hj => by
                      have := guessF_any (F j) w.heap.size most (TU j) W (h.1.few j (by omega))
                      rw [HAll.out j hj, hgs] at this
                      exact this
                    have egs : ((gs : Int) != (gs : Int)) = false := by simp
                    have j5 : j < 5 := by omega
                    clear hgs HEr
                    go_upto_region 36 with fail
                    go_region_held3 (fun W => W.cell? ⟨arr, j, none⟩ = some (.pointer (some ⟨F j, 0, none⟩)) ∧ W.cell? ⟨arr, 0, none⟩ = some (.pointer (some ⟨F 0, 0, none⟩))) (first | exact ⟨HKD.out _ j E0 j5, HKD.out _ 0 E0 (by decide)⟩ | exact ⟨HKD.out _ j E1 j5, HKD.out _ 0 E1 (by decide)⟩ | exact ⟨HKD.out _ j E2 j5, HKD.out _ 0 E2 (by decide)⟩ | exact ⟨HKD.out _ j E3 j5, HKD.out _ 0 E3 (by decide)⟩ | exact ⟨HKD.out _ j E4 j5, HKD.out _ 0 E4 (by decide)⟩) (first
                      | (go_at_call 8; (with_reducible refine TR.mono ?_); clear TR; rintro e w5 ⟨a5, c5, rfl, hA5, hb5⟩; have E1 := HB.out _ w5 E0 hb5; have S1 := SM.out w5 a5 c5 hA5 E1.2; clear hA5 hb5)
                      | (go_at_call 9; (with_reducible refine S1.mono ?_); clear S1; rintro e w6 ⟨rfl, hb6⟩; have E2 := HB.out _ w6 E1 hb6; have G1 := GU.out w6 j E2 hlt; clear hb6)
                      | (go_at_call 10; (with_reducible refine G1.mono ?_); clear G1; rintro e w7 ⟨rfl, hb7⟩; have E3 := HB.out _ w7 E2 hb7; have G2 := GU.out w7 0 E3 (by decide); clear hb7)
                      | (go_at_call 10; (with_reducible refine G2.mono ?_); clear G2; rintro e w8 ⟨rfl, hb8⟩; have E4 := HB.out _ w8 E3 hb8; clear hb8))
                    all_goals
                      have HN : Hid (FamF w w8 arr most F TU 5 ∧ TrAt w8 ao T) := E4
                      clear E0 E1 E2 E3 E4 HB SM GU
                      go_wp2
                      go_roundw
                      case rel => exact ⟨j + 1, by go_num, by omega, by omega, HN⟩
                      case measure => (simp [intOf]; omega)
                  · have hlt' : ¬ (j : Int) < 4 := by omega
                    have c0 := HKD.out wr 0 HEr.out (by decide)
                    have CH := chosen_any ao la tl n ca cl most T L wr HEr.out.2 (HL.out.1.below HEr.out.1.bel) HTL.out HL.out.2 HTop.out hz HM.out
                    have HGU : Hid (tl < most → ∀ (W : World), Below wr.heap.size wr W → W.cell? ⟨arr, 0, none⟩ = some (.pointer (some ⟨F 0, 0, none⟩)) ∧ Calls Tryd.prog 10 #[.pointer (some ⟨F 0, 0, none⟩)] W fun e w' => e = .returned (.int .u64 (tl : Int)) ∧ Below W.heap.size W w') := fun hlt W hW => by
                      have h := HEr.out.1.below hW
                      have := guessF_any (F 0) w.heap.size most (TU 0) W (h.few 0 (by decide))
                      have e : gsN most T = tl := by unfold gsN; rw [if_pos (by rw [HTL.out]; exact hlt), HTL.out]
                      rw [HAll.out 0 (by decide), e] at this
                      exact ⟨HKD.out W 0 ⟨h, HEr.out.2.below hW⟩ (by decide), this⟩
                    have HW : Hid (Below w.heap.size w wr) := HEr.out.1.bel
                    have hwt : IntKind.u64.wrap (tl : Int) = (tl : Int) := wrapF rfl (by have := HM.out; omega)
                    have ett : ((tl : Int) == (tl : Int)) = true := by simp
                    clear HEr HKD c0
                    by_cases hfull : tl = most
                    · have e1 : ((tl : Int) == (most : Int)) = true := by simp [hfull]
                      clear HGU hfull
                      go_wp2_with (go_at_call 11; (with_reducible refine CH.mono ?_); clear CH; rintro e w5 ⟨rfl, hb5⟩)
                      go_ret
                      exact ⟨rfl, HW.out.trans (hb5.mono HW.out.size)⟩
                    · have e1 : ((tl : Int) == (most : Int)) = false := by simp; omega
                      have GG := HGU.out (by omega)
                      have HGG : Hid _ := GG
                      clear HGU GG
                      go_wp2_with (first
                        | (go_at_call 11; (with_reducible refine CH.mono ?_); clear CH; rintro e w5 ⟨rfl, hb5⟩; obtain ⟨c5, G5⟩ := HGG.out w5 hb5)
                        | (go_at_call 10; (with_reducible refine G5.mono ?_); clear G5; rintro e w6 ⟨rfl, hb6⟩))
                      go_ret
                      exact ⟨rfl, HW.out.trans ((hb5.trans (hb6.mono hb5.size)).mono HW.out.size)⟩
theorem sampleFew_any (mi ai : Int) (la : Option Addr) (n cl : Nat) (L : List Tr) (w : World) (hL : TrO w la L) (hl : L.length = n) (hz : n * 16 ≤ 140737488351232) (hT : Tabs w) :
    Calls Tryd.prog 3 #[.int .i64 mi, .slice la n cl, .int .i64 ai] w fun e w' => e = .returned (.bool true) ∧ Below w.heap.size w w' := by
  by_cases hm : mi < 2 ∨ 1000 < mi
  · exact sampleFewB_any mi ai la n cl w hm hT
  · obtain ⟨m, rfl⟩ : ∃ m : Nat, mi = m := ⟨mi.toNat, by omega⟩
    exact sampleFewG_any m ai la n cl L w hL hl (by omega) (by omega) hT
end Go.Proofs.YtdodempnkkkbmaaDoor
