/-
  Contracts of layer 6: form.
-/
import Derived.Test.YtmpjoenjnpafcaaVp
namespace Go.Proofs.Ytmpjoenjnpafcaa
open Go.Shelf Go.RowKit Go.Lib
set_option maxRecDepth 100000

set_option maxHeartbeats 1000000 in
theorem form_any (ad : Option Addr) (n ca : Nat) (X : List (Int × Int)) (w : World) (hX : IvAt w ad n X) (hF : Form X) (hn : n ≤ 1099511627776) :
    Calls Try.prog 29 #[.slice ad n ca] w fun e w' => e = .returned (.bool true) ∧ Below w.heap.size w w' := by
  have hl := hX.len
  go_enter Try.func29, Try.ntmps29
  go_wp2
  go_loopw [3] (fun a wr => ∃ (k : Nat), a = .int .i64 k ∧ k ≤ n ∧ Below w.heap.size w wr) (fun a _ => n - (intOf a).toNat)
  case atStart => exact ⟨0, rfl, by omega, Below.refl _ _⟩
  case round =>
    obtain ⟨k, rfl, hkn, hb⟩ := hrel
    by_cases hlt : k < n
    · have hz : (k : Int) < (n : Int) := by omega
      obtain ⟨b1, o1, had, hc1⟩ := (hX.below hb).lies (by omega)
      subst had
      obtain ⟨c0, c1⟩ := hc1 k (by omega)
      have f0 := hF.1 X[k] (List.getElem_mem (by omega))
      by_cases h0 : k = 0
      · subst h0
        generalize X[0]'(by omega) = y at c0 c1 f0
        obtain ⟨x1, x2⟩ := y
        simp only [Nat.zero_mul, Nat.add_zero] at c0 c1 f0
        have d1 : decide (x2 ≤ x1) = false := decide_eq_false (by omega)
        have d2 : decide ((0 : Int) < ((0 : Nat) : Int)) = false := by decide
        clear hc1
        go_wp2
        go_quiet (fail)
        go_wp2
        go_roundw
        case rel => exact ⟨1, by go_num, by omega, hb.trans (Below.mono (B := wr.heap.size) ⟨rfl, rfl, rfl, Nat.le_refl _, fun _ _ => rfl⟩ hb.size)⟩
        case measure => simp [intOf]; omega
      · obtain ⟨q, rfl⟩ : ∃ q, k = q + 1 := ⟨k - 1, by omega⟩
        obtain ⟨e0, e1⟩ := hc1 q (by omega)
        have f1 := (List.pairwise_iff_getElem.mp hF.2) q (q + 1) (by omega) (by omega) (by omega)
        generalize X[q + 1]'(by omega) = y at c0 c1 f0 f1
        generalize X[q]'(by omega) = z at e0 e1 f1
        obtain ⟨x1, x2⟩ := y
        obtain ⟨z1, z2⟩ := z
        simp only at c0 c1 e0 e1 f0 f1
        have d1 : decide (x2 ≤ x1) = false := decide_eq_false (by omega)
        have d2 : decide ((0 : Int) < ((q : Int) + 1)) = true := decide_eq_true (by omega)
        have d3 : decide (x1 ≤ z2) = false := decide_eq_false (by omega)
        have q1 : IntKind.i64.wrap (q : Int) = (q : Int) := wrap_i64_in _ (by omega) (by omega)
        have q2 : IntKind.i64.wrap ((q : Int) + 1 - 1) = (q : Int) := by rw [Int.add_sub_cancel]; exact q1
        have q3 : (q : Int) < (n : Int) := by omega
        have q4 : (q : Int) + 1 < (n : Int) := by omega
        have q5 : (0 : Int) ≤ (q : Int) := by omega
        clear hc1
        go_wp2
        go_quiet (fail)
        go_wp2
        go_roundw
        case rel => exact ⟨q + 1 + 1, by go_num, by omega, hb.trans (Below.mono (B := wr.heap.size) ⟨rfl, rfl, rfl, Nat.le_refl _, fun _ _ => rfl⟩ hb.size)⟩
        case measure => simp [intOf]; omega
    · have hz : ¬ (k : Int) < (n : Int) := by omega
      go_wp2
      go_ret
      exact ⟨rfl, hb⟩
end Go.Proofs.Ytmpjoenjnpafcaa
