/-
  FrameCut: the walk.
-/
import Derived.Test.YthnfpapaknejnabCu
namespace Go.Proofs.Ythnfpapaknejnab
open Go.RowKit
set_option maxRecDepth 100000

set_option maxHeartbeats 400000 in
theorem cut_any (ad : Option Addr) (n cap : Nat) (at_ : Int) (w : World) (h : ParcAt w ad n) (hn : n ≤ 140737488355328) (ha0 : -9223372036854775808 ≤ at_) (ha1 : at_ ≤ 9223372036854775807) :
    Calls Try.prog 4 #[.slice ad n cap, .int .i64 at_] w fun e w' => e = .returned (.bool true) ∧ Below w.heap.size w w' := by
  go_enter Try.func4, Try.ntmps4
  go_wp2_with (first
    | (go_at_call 7; refine (shown_any _).mono ?_; rintro e w1 ⟨rfl, b1⟩; have LA := laid_any ad n cap w1 (h.below b1) hn)
    | (go_at_call 8; refine LA.mono ?_; rintro e w2 ⟨vb, vw, fs, rfl, M⟩; obtain ⟨aob, lb, cb, rfl⟩ := row_shape M.ownB; obtain ⟨aow, lw, cw, rfl⟩ := row_shape M.ownW; have HLB : Hid (lb = (catL fs).length ∧ (catL fs).length ≤ cb ∧ cb ≤ maxLen) := own_cap M.ownB; have HLW : Hid (lw = (pcsL 0 fs).length ∧ (pcsL 0 fs).length ≤ cw ∧ cw ≤ maxLen) := own_cap M.ownW; have hfew : lb ≤ 2147483647 := (by rw [HLB.out.1]; exact M.few); have PK := pick_any at_ ((lb : Int) + 1) ha0 ha1 (by omega) (by omega); have p0 := pick_lo at_ ((lb : Int) + 1) (by omega); have p1 := pick_hi at_ ((lb : Int) + 1) (by omega); have HM : Hid (Lm w1 w2 (.slice aob lb cb) (.slice aow lw cw) fs) := M; have B2 := b1.trans (M.below.mono b1.size); generalize pickI at_ ((lb : Int) + 1) = pn at PK p0 p1; obtain ⟨N, rfl⟩ : ∃ N : Nat, pn = (N : Int) := ⟨pn.toNat, by omega⟩; clear M LA)
    | (go_at_call 11; refine (PK _).mono ?_; rintro e w' ⟨rfl, hw⟩; obtain rfl := hw.symm))
  have hwl : lw = fs.length := by rw [HLW.out.1, pcsL_len]
  have PH : PHolds w2 aow lw (pcsL 0 fs) := OwnP.holds HM.out.ownW
  have HB : Holds w2 aob lb (catL fs) := Holds.ofRow HM.out.ownB
  have hNl : N ≤ lb := by omega
  have hNc : (N : Int) ≤ (cb : Int) := by have := HLB.out.2.1; have := HLB.out.1; omega
  have hlwc : lw ≤ cw := by have := HLW.out.2.1; have := HLW.out.1; omega
  have hfl : fs.length ≤ 2147483647 := by have := catL_len fs; have := HLB.out.1; omega
  have HTK : Hid (∀ i, i ≤ lw → endAt fs i ≤ N → (i < lw → N < endAt fs (i + 1)) → ∀ m, Calls Try.prog 9 #[.slice aob N cb] (w2.drewN m) fun e w' => ∃ v, e = .returned (.tuple #[v, .int .i64 (endAt fs i : Int), .int .i64 (if endAt fs i = N then 0 else 23)]) ∧ OwnP w2.heap.size w' v ((pcsL 0 fs).take i) ∧ Below w2.heap.size w2 w') := by
    intro i hi h1 h2 m
    have hsc := scan_cut fs HM.out.ok N i (by rw [← HLB.out.1]; exact hNl) (by omega) h1 (fun hh => h2 (by omega))
    have hTH : Holds (w2.drewN m) aob N ((catL fs).take N) := by
      by_cases h0 : 0 < (catL fs).length
      · obtain ⟨bb, oo, rfl⟩ := HB.some_of h0
        exact (HB.part 0 N (by omega)).drewN m
      · have h00 : catL fs = [] := List.eq_nil_of_length_eq_zero (by omega)
        have hN0 : N = 0 := by have := HLB.out.1; omega
        rw [h00, hN0]
        exact ⟨rfl, fun j u hj => by simp at hj⟩
    have S := scan_any aob N cb ((catL fs).take N) (w2.drewN m) hTH ((catL_bytes fs HM.out.ok).take N) (by have := HLB.out.2.1; have := HLB.out.1; omega) (by omega)
    rw [hsc] at S
    refine S.mono ?_
    rintro e w' ⟨v, q1, q2, q3⟩
    exact ⟨v, q1, q2, ⟨q3.os, q3.tape, q3.output, q3.size, q3.block⟩⟩
  have hcell : Hid (∀ i, i < lw → ∃ g o, aow = some ⟨g, o, none⟩ ∧ w2.cell? ⟨g, o + i * 4 + 2, none⟩ = some (.int .i64 ((endAt fs i : Int) + 24)) ∧ w2.cell? ⟨g, o + i * 4 + 3, none⟩ = some (.int .i64 ((endAt fs (i + 1) : Int) - (endAt fs i : Int) - 24))) := by
    intro i hi
    obtain ⟨g, o, e, hc⟩ := PH.cells i (by rw [pcsL_len]; omega)
    rw [pcsL_get fs 0 i (by omega)] at hc
    refine ⟨g, o, e, ?_, ?_⟩
    · have := hc 2 _ rfl
      rw [this]; simp
    · have := hc 3 _ rfl
      rw [this, endAt_succ fs i (by omega)]
      simp; omega
  have HEA : Hid (∀ i, endAt fs i ≤ lb) := fun i => by have := endAt_le fs i; have := HLB.out.1; omega
  have HMO : Hid (∀ i, i < lw → endAt fs i + 24 ≤ endAt fs (i + 1)) := fun i hi => by rw [endAt_succ fs i (by omega)]; omega
  clear hwl p0 p1 PK HB
  go_loopw [10, 11] (fun a b wr => ∃ (i m : Nat), a = .int .i64 i ∧ b = .int .i64 (endAt fs i) ∧ i ≤ lw ∧ endAt fs i ≤ N ∧ wr = w2.drewN m) (fun a _ _ => lw - (intOf a).toNat)
  case atStart => exact ⟨0, 0, rfl, by rw [endAt_zero]; rfl, by omega, by rw [endAt_zero]; omega, rfl⟩
  case round =>
    obtain ⟨i, m, rfl, rfl, hi, he, rfl⟩ := hrel
    have hlwl : lw ≤ 2147483647 := by have := HLW.out.1; rw [pcsL_len] at this; omega
    by_cases hgo : i < lw ∧ endAt fs (i + 1) ≤ N
    · obtain ⟨h1, h2⟩ := hgo
      obtain ⟨g, o, rfl, c2, c3⟩ := hcell.out i h1
      have hmo := HMO.out i h1
      have hz : (i : Int) < (lw : Int) := by omega
      generalize hE : endAt fs i = E at *
      generalize hF : endAt fs (i + 1) = F at *
      have e1 : (E : Int) + 24 + ((F : Int) - (E : Int) - 24) = (F : Int) := by omega
      have e1' : IntKind.i64.wrap ((E : Int) + 24 + ((F : Int) - (E : Int) - 24)) = (F : Int) := by rw [e1, IntKind.wrap_i64]; omega
      have e2 : (F : Int) ≤ (N : Int) := by omega
      go_wp2
      go_quiet (fail)
      go_wp2
      go_quiet (fail)
      go_wp2
      go_roundw
      case rel => exact ⟨i + 1, _, by go_num, by rw [hF], by omega, by rw [hF]; omega, rfl⟩
      case measure => simp [intOf]; omega
    · have hlwN : lw ≤ 2147483647 := by omega
      by_cases hil : i < lw
      · by_cases hcase : endAt fs i = N
        · have hex : i < lw → N < endAt fs (i + 1) := fun _ => (by omega)
          have SCN := HTK.out i hi he hex
          have hTk : PHolds w2 aow i ((pcsL 0 fs).take i) := PH.take i hi
          have hEN : endAt fs i = N := hcase
          obtain ⟨E, hE⟩ : ∃ E, endAt fs i = E := ⟨_, rfl⟩
          rw [hE] at SCN hEN ⊢
          simp only [hEN, if_true] at SCN
          have hEN2 := hEN.symm
          subst hEN2
          have hic : (i : Int) ≤ (cw : Int) := by omega
          have hiw : i ≤ 140737488355328 := by omega
          obtain ⟨g, o, rfl, c2, c3⟩ := hcell.out i hil
          have hmo := HMO.out i hil
          have hz : (i : Int) < (lw : Int) := by omega
          have hFb := HEA.out (i + 1)
          rw [hE] at c2 c3 hmo
          generalize endAt fs (i + 1) = F at c3 hmo hex hFb
          have hexF : N < F := hex hil
          have e1 : (N : Int) + 24 + ((F : Int) - (N : Int) - 24) = (F : Int) := by omega
          have e1' : IntKind.i64.wrap ((N : Int) + 24 + ((F : Int) - (N : Int) - 24)) = (F : Int) := by rw [e1, IntKind.wrap_i64]; omega
          have e2 : ¬ ((F : Int) ≤ (N : Int)) := by omega
          have e2' : decide ((F : Int) ≤ (N : Int)) = false := by simpa using e2
          clear hex hE
          go_wp2
          go_quiet (fail)
          go_wp2_with (go_at_call 9; fail)
          refine (SCN _).mono ?_
          rintro e w6 ⟨v6, rfl, o6, b6⟩
          obtain ⟨ao6, l6, c6, rfl⟩ := row_shape o6
          have PH6 := o6.holds
          have hl6 : l6 = i := by rw [(own_cap o6).1, List.length_take, pcsL_len]; have := HLW.out.1; rw [pcsL_len] at this; omega
          subst hl6
          have SP := samePieces_eq ao6 _ l6 c6 cw _ w6 PH6 (hTk.below b6) hiw
          have hB6 := B2.trans (b6.mono B2.size)
          clear o6 b6 SCN
          go_wp2_with (go_at_call 10; refine SP.mono ?_; rintro e w7 ⟨rfl, b7⟩)
          go_ret
          exact ⟨rfl, hB6.trans (b7.mono hB6.size)⟩
        · have hex : i < lw → N < endAt fs (i + 1) := fun _ => (by omega)
          have SCN := HTK.out i hi he hex
          have hTk : PHolds w2 aow i ((pcsL 0 fs).take i) := PH.take i hi
          have hEN : ¬ endAt fs i = N := hcase
          obtain ⟨E, hE⟩ : ∃ E, endAt fs i = E := ⟨_, rfl⟩
          rw [hE] at SCN hEN ⊢
          simp only [hEN, if_false] at SCN
          have hEN' : ((E : Int) == (N : Int)) = false := by apply beq_eq_false_iff_ne.2; omega
          have hic : (i : Int) ≤ (cw : Int) := by omega
          have hiw : i ≤ 140737488355328 := by omega
          obtain ⟨g, o, rfl, c2, c3⟩ := hcell.out i hil
          have hmo := HMO.out i hil
          have hz : (i : Int) < (lw : Int) := by omega
          have hFb := HEA.out (i + 1)
          rw [hE] at c2 c3 hmo
          generalize endAt fs (i + 1) = F at c3 hmo hex hFb
          have hexF : N < F := hex hil
          have e1 : (E : Int) + 24 + ((F : Int) - (E : Int) - 24) = (F : Int) := by omega
          have e1' : IntKind.i64.wrap ((E : Int) + 24 + ((F : Int) - (E : Int) - 24)) = (F : Int) := by rw [e1, IntKind.wrap_i64]; omega
          have e2 : ¬ ((F : Int) ≤ (N : Int)) := by omega
          have e2' : decide ((F : Int) ≤ (N : Int)) = false := by simpa using e2
          clear hex hE
          go_wp2
          go_quiet (fail)
          go_wp2_with (go_at_call 9; fail)
          refine (SCN _).mono ?_
          rintro e w6 ⟨v6, rfl, o6, b6⟩
          obtain ⟨ao6, l6, c6, rfl⟩ := row_shape o6
          have PH6 := o6.holds
          have hl6 : l6 = i := by rw [(own_cap o6).1, List.length_take, pcsL_len]; have := HLW.out.1; rw [pcsL_len] at this; omega
          subst hl6
          have SP := samePieces_eq ao6 _ l6 c6 cw _ w6 PH6 (hTk.below b6) hiw
          have hB6 := B2.trans (b6.mono B2.size)
          clear o6 b6 SCN
          go_wp2_with (go_at_call 10; refine SP.mono ?_; rintro e w7 ⟨rfl, b7⟩)
          go_ret
          exact ⟨rfl, hB6.trans (b7.mono hB6.size)⟩
      · by_cases hcase : endAt fs i = N
        · have hex : i < lw → N < endAt fs (i + 1) := fun hh => absurd hh hil
          have SCN := HTK.out i hi he hex
          have hTk : PHolds w2 aow i ((pcsL 0 fs).take i) := PH.take i hi
          have hEN : endAt fs i = N := hcase
          obtain ⟨E, hE⟩ : ∃ E, endAt fs i = E := ⟨_, rfl⟩
          rw [hE] at SCN hEN ⊢
          simp only [hEN, if_true] at SCN
          have hEN2 := hEN.symm
          subst hEN2
          have hic : (i : Int) ≤ (cw : Int) := by omega
          have hiw : i ≤ 140737488355328 := by omega
          have hz : ¬ ((i : Int) < (lw : Int)) := by omega
          have hz' : decide ((i : Int) < (lw : Int)) = false := by simpa using hz
          clear hex hE
          go_wp2
          go_quiet (fail)
          go_wp2_with (go_at_call 9; fail)
          refine (SCN _).mono ?_
          rintro e w6 ⟨v6, rfl, o6, b6⟩
          obtain ⟨ao6, l6, c6, rfl⟩ := row_shape o6
          have PH6 := o6.holds
          have hl6 : l6 = i := by rw [(own_cap o6).1, List.length_take, pcsL_len]; have := HLW.out.1; rw [pcsL_len] at this; omega
          subst hl6
          have SP := samePieces_eq ao6 _ l6 c6 cw _ w6 PH6 (hTk.below b6) hiw
          have hB6 := B2.trans (b6.mono B2.size)
          clear o6 b6 SCN
          go_wp2_with (go_at_call 10; refine SP.mono ?_; rintro e w7 ⟨rfl, b7⟩)
          go_ret
          exact ⟨rfl, hB6.trans (b7.mono hB6.size)⟩
        · have hex : i < lw → N < endAt fs (i + 1) := fun hh => absurd hh hil
          have SCN := HTK.out i hi he hex
          have hTk : PHolds w2 aow i ((pcsL 0 fs).take i) := PH.take i hi
          have hEN : ¬ endAt fs i = N := hcase
          obtain ⟨E, hE⟩ : ∃ E, endAt fs i = E := ⟨_, rfl⟩
          rw [hE] at SCN hEN ⊢
          simp only [hEN, if_false] at SCN
          have hEN' : ((E : Int) == (N : Int)) = false := by apply beq_eq_false_iff_ne.2; omega
          have hic : (i : Int) ≤ (cw : Int) := by omega
          have hiw : i ≤ 140737488355328 := by omega
          have hz : ¬ ((i : Int) < (lw : Int)) := by omega
          have hz' : decide ((i : Int) < (lw : Int)) = false := by simpa using hz
          clear hex hE
          go_wp2
          go_quiet (fail)
          go_wp2_with (go_at_call 9; fail)
          refine (SCN _).mono ?_
          rintro e w6 ⟨v6, rfl, o6, b6⟩
          obtain ⟨ao6, l6, c6, rfl⟩ := row_shape o6
          have PH6 := o6.holds
          have hl6 : l6 = i := by rw [(own_cap o6).1, List.length_take, pcsL_len]; have := HLW.out.1; rw [pcsL_len] at this; omega
          subst hl6
          have SP := samePieces_eq ao6 _ l6 c6 cw _ w6 PH6 (hTk.below b6) hiw
          have hB6 := B2.trans (b6.mono B2.size)
          clear o6 b6 SCN
          go_wp2_with (go_at_call 10; refine SP.mono ?_; rintro e w7 ⟨rfl, b7⟩)
          go_ret
          exact ⟨rfl, hB6.trans (b7.mono hB6.size)⟩
end Go.Proofs.Ythnfpapaknejnab
