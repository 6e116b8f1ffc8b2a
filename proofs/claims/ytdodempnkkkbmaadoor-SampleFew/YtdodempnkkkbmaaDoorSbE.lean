/-
  SbE.
-/
import Derived.Test.YtdodempnkkkbmaaDoorSbD
import Derived.Test.YtdodempnkkkbmaaDoorSbA
namespace Go.Proofs.YtdodempnkkkbmaaDoor
open Go Go.RowKit
set_option maxRecDepth 100000

/-- What is guessed of a full Few whose last mix is m. -/
def gsM (most m : Nat) : Nat := if m = 18446744073709551615 then most - 1 else if m < most - 1 then 18446744073709551615 else (most - 1) * 18446744073709551616 / (m + 1)
/-- What is guessed. -/
def gsN (most : Nat) (T : List Tr) : Nat := if T.length < most then T.length else gsM most (mixT (T[most - 1]?.getD (0#64, 0#64))).toNat
theorem mixT_nat (t : Tr) : ∃ m : Nat, mixT t = (m : Int) ∧ m < 18446744073709551616 := ⟨(mixB t.1 t.2).toNat, rfl, (mixB t.1 t.2).isLt⟩
set_option maxHeartbeats 4000000 in
theorem guessF_any (f base most : Nat) (T : List Tr) (w : World) (hF : FewAt w f base most T) :
    Calls Tryd.prog 10 #[.pointer (some ⟨f, 0, none⟩)] w fun e w' => e = .returned (.int .u64 ((gsN most T : Nat) : Int)) ∧ Below w.heap.size w w' := by
  obtain ⟨ao, c, hf, hO⟩ := hF.row
  have c0 : w.cell? ⟨f, 0, none⟩ = some (.int .i64 most) := hf.cell 0 rfl
  have c1 : w.cell? ⟨f, 1, none⟩ = some (.slice ao T.length c) := hf.cell 1 rfl
  have BB : Hid (Below w.heap.size w w) := Below.refl _ _
  have hlen := hF.len
  have hmost := hF.most
  by_cases hl : T.length < most
  · have HG : Hid (gsN most T = T.length) := if_pos hl
    obtain ⟨n, hn⟩ : ∃ n, T.length = n := ⟨_, rfl⟩
    rw [hn] at c1 hl HG
    have hl1 : (n : Int) < (most : Int) := by omega
    have hw : IntKind.u64.wrap (n : Int) = (n : Int) := wrapF rfl (by omega)
    clear hf hO hF hlen hn
    go_enter Tryd.func10, Tryd.ntmps10
    go_upto_region 1 with fail
    go_quiet (fail)
    go_wp2
    go_ret
    rw [HG.out]
    exact ⟨rfl, ⟨BB.out.os, BB.out.tape, BB.out.output, BB.out.size, BB.out.block⟩⟩
  · have hlm : T.length = most := by omega
    have hi : most - 1 < T.length := by omega
    obtain ⟨t, ht⟩ : ∃ t, T[most - 1] = t := ⟨_, rfl⟩
    obtain ⟨m, hm, hm2⟩ := mixT_nat t
    have HG : Hid (gsN most T = gsM most m) := by
      show gsN most T = gsM most m
      unfold gsN
      rw [if_neg hl, List.getElem?_eq_getElem hi, Option.getD_some, ht, hm, Int.toNat_natCast]
    obtain ⟨g, e, _, hc⟩ := hO.at (by omega)
    subst e
    have hci := hc (most - 1) hi
    rw [ht] at hci
    rw [hlm] at c1
    obtain ⟨k, hk⟩ : ∃ k, most = k + 1 := ⟨most - 1, by omega⟩
    have ek : most - 1 = k := by omega
    rw [ek] at hci
    have hwk : IntKind.i64.wrap ((most : Int) - 1) = (k : Int) := by simp [IntKind.wrap, IntKind.bits, IntKind.signed]; omega
    have hwk2 : IntKind.u64.wrap (k : Int) = (k : Int) := wrapF rfl (by omega)
    have hk0 : (0 : Int) ≤ (k : Int) := by omega
    have hkm : (k : Int) < (most : Int) := by omega
    have hnl : ¬ (most : Int) < (most : Int) := by omega
    have MX : Hid (∀ W, Calls Tryd.prog 18 #[.agg #[.int .u64 (bvI t.1), .int .u64 (bvI t.2)]] W fun e w' => e = .returned (.int .u64 (m : Int)) ∧ Below W.heap.size W w') := fun W => by
      have := mix_any t.1 t.2 W
      have e : bvI (mixB t.1 t.2) = (m : Int) := hm
      rw [e] at this
      exact this
    have KB : ∀ W, Below w.heap.size w W → W.cell? ⟨f, 0, none⟩ = some (.int .i64 most) ∧ W.cell? ⟨f, 1, none⟩ = some (.slice (some ⟨g, 0, none⟩) most c) ∧ W.cell? ⟨g, k * 2, none⟩ = some (.int .u64 (bvI t.1)) ∧ W.cell? ⟨g, k * 2 + 1, none⟩ = some (.int .u64 (bvI t.2)) := fun W hW => by
      have h1 := hf.below hW hf.lt
      have hg := World.block_lt_of_cell? w _ hci.1
      refine ⟨h1.cell 0 rfl, ?_, (hW.cell (p := ⟨g, k * 2, none⟩) hg).trans hci.1, (hW.cell (p := ⟨g, k * 2 + 1, none⟩) hg).trans hci.2⟩
      have := h1.cell 1 rfl
      rw [hlm] at this
      exact this
    have HM : Hid (most = k + 1 ∧ 2 ≤ most ∧ most ≤ 1000 ∧ m < 18446744073709551616) := ⟨hk, hmost.1, hmost.2, hm2⟩
    have HD : Hid (k ≤ m → m < 18446744073709551615 → ∀ W, Calls Tryd.prog 19 #[.int .u64 (k : Int), .int .u64 0, .int .u64 ((m : Int) + 1)] W fun e w' => ∃ R : Int, e = .returned (.tuple #[.int .u64 ((k * 18446744073709551616 / (m + 1) : Nat) : Int), .int .u64 R]) ∧ w' = W) := fun h1 h2 W => div64F_any k (m + 1) (by omega) (by omega) (by omega) W
    have HE : Hid (gsM most m = if m = 18446744073709551615 then k else if m < k then 18446744073709551615 else k * 18446744073709551616 / (m + 1)) := by
      show gsM most m = _
      unfold gsM
      rw [ek]
    clear hf hO hF hlen hlm hi hc hci hm hl ht hk ek hm2 hmost
    go_enter Tryd.func10, Tryd.ntmps10
    go_upto_region 1 with fail
    go_quiet (fail)
    go_upto_region 3 with fail
    obtain ⟨w1, hw1⟩ : ∃ w1, w.drewN nq = w1 := ⟨_, rfl⟩
    have BN : Below w.heap.size w w1 := by rw [← hw1]; exact ⟨BB.out.os, BB.out.tape, BB.out.output, BB.out.size, BB.out.block⟩
    have B0 : Below w.heap.size w w1.drew := BN.drew
    rw [hw1]
    clear hw1 c0 c1 BN
    go_region_held3 (fun W => W.cell? ⟨f, 0, none⟩ = some (.int .i64 most) ∧ W.cell? ⟨f, 1, none⟩ = some (.slice (some ⟨g, 0, none⟩) most c) ∧ W.cell? ⟨g, k * 2, none⟩ = some (.int .u64 (bvI t.1)) ∧ W.cell? ⟨g, k * 2 + 1, none⟩ = some (.int .u64 (bvI t.2))) (first | exact KB _ B0 | exact KB _ B1) (first
      | (go_at_call 18; (with_reducible refine (MX.out _).mono ?_); clear MX; rintro e w2 ⟨rfl, hb2⟩; have B1 : Below w.heap.size w w2 := B0.trans (hb2.mono B0.size); clear hb2)
      | fail)
    all_goals
      have HB : Hid (Below w.heap.size w w2) := B1
      clear KB B0 B1
      by_cases h1 : m = 18446744073709551615
      · have e1 : ((m : Int) == 18446744073709551615) = true := by simp; omega
        have HV : Hid (gsN most T = k) := by rw [HG.out, HE.out, if_pos h1]; exact rfl
        clear HG HE HD h1
        go_wp2
        go_ret
        rw [HV.out]
        exact ⟨rfl, HB.out⟩
      · have e1 : ((m : Int) == 18446744073709551615) = false := by simp; omega
        by_cases h2 : m < k
        · have e2 : (m : Int) < (k : Int) := by omega
          have HV : Hid (gsN most T = 18446744073709551615) := by rw [HG.out, HE.out, if_neg h1, if_pos h2]; exact rfl
          clear HG HE HD h1
          go_wp2
          go_ret
          rw [HV.out]
          exact ⟨rfl, HB.out⟩
        · have e2 : ¬ (m : Int) < (k : Int) := by omega
          have HV : Hid (gsN most T = k * 18446744073709551616 / (m + 1)) := by rw [HG.out, HE.out, if_neg h1, if_neg h2]; exact rfl
          have DV := HD.out (by omega) (by have := HM.out; omega)
          have ew : IntKind.u64.wrap ((m : Int) + 1) = (m : Int) + 1 := by rw [IntKind.wrap_u64]; have := HM.out; omega
          obtain ⟨Q, hQ⟩ : ∃ Q, k * 18446744073709551616 / (m + 1) = Q := ⟨_, rfl⟩
          rw [hQ] at DV HV
          clear HG HE HD h1 HM hQ
          go_wp2_with (go_at_call 19; (with_reducible refine (DV _).mono ?_); clear DV; rintro e w3 ⟨R, rfl, hw⟩; obtain rfl := hw.symm)
          go_ret
          rw [HV.out]
          exact ⟨rfl, HB.out⟩
end Go.Proofs.YtdodempnkkkbmaaDoor
