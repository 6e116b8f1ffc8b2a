/-
  Layer 21 (sample): the reference's Check.
-/
import Derived.Test.YtdagoabapchniaaDoorSaC
import Derived.Test.YtdagoabapchniaaDoorTB
namespace Go.Proofs.YtdagoabapchniaaDoor
open Go Go.RowKit
set_option maxRecDepth 100000

theorem emptyL (s : ByteArray) : s.toList.isEmpty = decide (s = emptyB) := by
  have e0 : emptyB.toList = [] := by decide +kernel
  by_cases h : s = emptyB
  · subst h; rw [e0]; simp
  · have : s.toList ≠ [] := fun e => h (bytes_ext _ _ (e.trans e0.symm))
    simp [h, this]
set_option maxHeartbeats 4000000 in
theorem rMay_any (p : Pol) (hs : p.name.size ≤ 140737488355328) (w : World) :
    Calls Tryd.prog 20 #[polV p] w fun e w' => e = .returned (.bool (mayP p)) ∧ Below w.heap.size w w' := by
  obtain ⟨k, n, s, q⟩ := p
  have BB : Hid (∀ o, Below w.heap.size w (w.alloc o)) := fun o => (Below.refl _ _).alloc (Nat.le_refl _) _
  have PL : Hid (∀ W, Calls Tryd.prog 31 #[.string s, .int .i64 60, .int .u8 33] W fun e w' => e = .returned (.bool (plainB s 60 33)) ∧ w' = W) := fun W => rPlain_any s 60 33 W hs
  unfold polV
  clear hs
  go_enter Tryd.func20, Tryd.ntmps20
  by_cases k0 : k < 0
  · go_wp2
    go_ret
    refine ⟨congrArg (fun z => Ending.returned (.bool z)) (?_ : false = mayP ⟨k, n, s, q⟩), BB.out _⟩
    unfold mayP
    rw [if_neg (by simp only; omega), if_neg (by simp only; omega), if_neg (by simp only; omega), if_neg (by simp only; omega)]
  by_cases k5 : 4 < k
  · go_wp2
    go_ret
    refine ⟨congrArg (fun z => Ending.returned (.bool z)) (?_ : false = mayP ⟨k, n, s, q⟩), BB.out _⟩
    unfold mayP
    rw [if_neg (by simp only; omega), if_neg (by simp only; omega), if_neg (by simp only; omega), if_neg (by simp only; omega)]
  have hk : k = 0 ∨ k = 1 ∨ k = 2 ∨ k = 3 ∨ k = 4 := by omega
  clear k0 k5
  rcases hk with rfl | rfl | rfl | rfl | rfl
  · go_wp2
    all_goals go_ret
    all_goals refine ⟨?_, BB.out _⟩
    all_goals simp_all [mayP, emptyL]
  · go_wp2
    all_goals go_ret
    all_goals refine ⟨?_, BB.out _⟩
    all_goals simp_all [mayP, emptyL]
  · go_wp2
    all_goals go_ret
    all_goals refine ⟨?_, BB.out _⟩
    all_goals simp_all [mayP, emptyL]
  · go_wp2_with (go_at_call 31; (with_reducible refine (PL.out _).mono ?_); clear PL; rintro e w1 ⟨rfl, rfl⟩)
    all_goals go_ret
    all_goals refine ⟨?_, BB.out _⟩
    all_goals simp_all [mayP, emptyL]
  · by_cases q1 : 0 < q
    · by_cases q2 : q ≤ 65536
      · go_wp2
        all_goals go_ret
        all_goals refine ⟨?_, BB.out _⟩
        all_goals simp_all [mayP, emptyL]
        all_goals (intros; omega)
      · go_wp2
        all_goals go_ret
        all_goals refine ⟨?_, BB.out _⟩
        all_goals simp_all [mayP, emptyL]
    · go_wp2
      all_goals go_ret
      all_goals refine ⟨?_, BB.out _⟩
      all_goals simp_all [mayP, emptyL]
      all_goals (intros; omega)
set_option maxHeartbeats 4000000 in
theorem rCheckP_any (ad : Option Addr) (n cap : Nat) (L : List Pol) (w : World) (hL : PolAt w ad n L) (hs : ∀ p ∈ L, p.name.size ≤ 140737488355328) (hn : n ≤ 140737488355328) :
    Calls Tryd.prog 10 #[.slice ad n cap] w fun e w' => e = .returned (.int .i64 (chkP L)) ∧ Below w.heap.size w w' := by
  have HL : Hid (PolAt w ad n L) := hL
  have MB : Hid (∀ i (hi : i < L.length) W, Below w.heap.size w W → Calls Tryd.prog 20 #[polV L[i]] W fun e w' => e = .returned (.bool (mayP L[i])) ∧ Below W.heap.size W w') := fun i hi W hb => rMay_any L[i] (hs _ (List.getElem_mem hi)) W
  clear hL
  go_enter Tryd.func10, Tryd.ntmps10
  by_cases h20 : (20 : Int) < (n : Int)
  · have HE : Hid (chkP L = 211) := chkP_many (by rw [HL.out.1]; omega)
    have B0 : Hid (Below w.heap.size w w) := Below.refl _ _
    go_wp2
    go_ret
    rw [HE.out]
    exact ⟨rfl, B0.out⟩
  · go_wp2
    go_loopw [3] (fun z wr => ∃ i : Nat, z = .int .i64 i ∧ i ≤ n ∧ Hid (Below w.heap.size w wr) ∧ Hid (∀ j (hj : j < L.length), j < i → mayP L[j] = true)) (fun z _ => n - (intOf z).toNat)
    case atStart => exact ⟨0, rfl, by omega, Below.refl _ _, fun j hj h => absurd h (Nat.not_lt_zero _)⟩
    case round =>
      obtain ⟨i, rfl, hin, HB, HA⟩ := hrel
      by_cases hlt : i < n
      · have hlt' : (i : Int) < (n : Int) := by omega
        have hiL : i < L.length := by rw [HL.out.1]; exact hlt
        obtain ⟨b, o, rfl, hbl, hc⟩ := (HL.out.below HB.out).2 (by omega)
        have hci := hc i hiL
        obtain ⟨y, hy⟩ : ∃ y, L[i] = y := ⟨_, rfl⟩
        have M1 : Hid (∀ W, Below w.heap.size w W → Calls Tryd.prog 20 #[polV y] W fun e w' => e = .returned (.bool (mayP y)) ∧ Below W.heap.size W w') := fun W hb => by rw [← hy]; exact MB.out i hiL W hb
        rw [hy] at hci
        have HY : Hid (∃ h : i < L.length, L[i] = y) := ⟨hiL, hy⟩
        have c0 := hci 0 _ rfl
        have c1 := hci 1 _ rfl
        have c2 := hci 2 _ rfl
        have c3 := hci 3 _ rfl
        rw [Nat.add_zero] at c0
        unfold polV at M1
        clear hc hci hy MB
        cases hm : mayP y with
        | true =>
          rw [hm] at M1
          go_wp2_with (go_at_call 20; (with_reducible refine (M1.out _ HB.out).mono ?_); rintro e w1 ⟨rfl, hb1⟩; have HB1 : Hid (Below w.heap.size w w1) := HB.out.trans (hb1.mono HB.out.size); clear hb1)
          go_roundw
          case rel => exact ⟨i + 1, by go_num, by omega, HB1, all_take_next HY.out.1 HA.out (by rw [HY.out.2]; exact hm)⟩
          case measure => (simp [intOf]; omega)
        | false =>
          rw [hm] at M1
          go_wp2_with (go_at_call 20; (with_reducible refine (M1.out _ HB.out).mono ?_); rintro e w1 ⟨rfl, hb1⟩; have HB1 : Hid (Below w.heap.size w w1) := HB.out.trans (hb1.mono HB.out.size); clear hb1)
          go_ret
          rw [chkP_no HY.out.1 (by rw [HY.out.2]; exact hm)]
          exact ⟨rfl, HB1.out⟩
      · obtain rfl : n = i := by omega
        have HE : Hid (chkP L = 0) := chkP_ok (by rw [HL.out.1]; omega) (fun j hj => HA.out j hj (by rw [← HL.out.1]; exact hj))
        clear HL MB HA
        go_wp2
        go_ret
        rw [HE.out]
        exact ⟨rfl, HB.out⟩
end Go.Proofs.YtdagoabapchniaaDoor
