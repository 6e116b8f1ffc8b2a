/-
  The reference of layer 13: Quantile.
-/
import Derived.Test.YtmegmjhkjaejgaaSlM
namespace Go.Proofs.Ytmegmjhkjaejgaa.sk
open Go.RowKit
set_option maxRecDepth 100000

theorem rk_iff {m y S : Nat} (hy : 0 < y) (hS : 1 ≤ S) : (m ≤ S * y) ↔ rkN m y ≤ S := by
  have dm := Nat.div_add_mod m y
  have ml := Nat.mod_lt m hy
  unfold rkN
  generalize m / y = q at *
  generalize m % y = s at *
  have h1 : q ≤ S ↔ y * q ≤ y * S := ⟨fun h => Nat.mul_le_mul_left y h, fun h => Nat.le_of_mul_le_mul_left h hy⟩
  have h2 : q + 1 ≤ S ↔ y * (q + 1) ≤ y * S := ⟨fun h => Nat.mul_le_mul_left y h, fun h => Nat.le_of_mul_le_mul_left h hy⟩
  rw [Nat.mul_comm S y, ← dm]
  split
  · rename_i h
    rw [h1, h.1]
    omega
  · rename_i h
    constructor
    · intro h3
      by_cases hs : s = 0
      · have : q = 0 := by
          rcases Nat.eq_zero_or_pos q with h4 | h4
          · exact h4
          · exact absurd ⟨hs, by omega⟩ h
        omega
      · have h5 : q < S := by
          rcases Nat.lt_or_ge q S with h6 | h6
          · exact h6
          · have := Nat.mul_le_mul_left y h6
            omega
        omega
    · intro h3
      have := h2.mp h3
      rw [Nat.mul_add] at this
      omega
theorem rk_dec {m y S : Nat} (hy : 0 < y) (hS : 1 ≤ S) : decide (S * y < m) = decide (S < rkN m y) := by
  have := rk_iff (m := m) hy hS
  by_cases h : S * y < m
  · have h2 : S < rkN m y := by omega
    simp [h, h2]
  · have h2 : ¬ S < rkN m y := by omega
    simp [h, h2]
theorem take_pos {l : List (Int × Int)} (h : chkF (-1) l = true) (hi : Bin l) {k : Nat} (hk : k < l.length) : 1 ≤ sumB (l.take (k + 1)) := by
  have a := sumB_take l k hk
  have b := in_pos h hi (List.getElem_mem hk)
  omega
set_option maxHeartbeats 400000 in
theorem refQuan_bars (ad : Option Addr) (n c : Nat) (l : List (Int × Int)) (num den : Nat) (w : World) (hI : InAt w ad n l) (hc : chkF (-1) l = false) :
    Calls Try.prog 26 #[.slice ad n c, .int .u64 (num : Int), .int .u64 (den : Int)] w fun e w' => e = .returned (.tuple #[.int .u64 0, .int .u64 0, .int .i64 131]) ∧ Below w.heap.size w w' := by
  have K := refCheck_any ad n c l w hI.at_ hI.len hI.bin
  rw [chkE_no hc] at K
  have hu : ∀ q, Below w.heap.size w (w.drewN q) := fun q => ((Upd.refl (fun _ => False) w).drewN q).below (Nat.le_refl _) (fun _ _ h => h)
  go_enter Try.func26, Try.ntmps26
  go_wp2_with (go_at_call 18; (with_reducible refine K.mono ?_); clear K; rintro e w1 ⟨rfl, q1, rfl⟩)
  go_returns
  exact ⟨rfl, hu _⟩
set_option maxHeartbeats 400000 in
theorem refQuan_none (c : Nat) (ad : Option Addr) (num den : Nat) (w : World) (hI : InAt w ad 0 []) :
    Calls Try.prog 26 #[.slice ad 0 c, .int .u64 (num : Int), .int .u64 (den : Int)] w fun e w' => e = .returned (.tuple #[.int .u64 0, .int .u64 0, .int .i64 132]) ∧ Below w.heap.size w w' := by
  have K := refCheck_any ad 0 c [] w hI.at_ hI.len hI.bin
  rw [chkE_ok rfl] at K
  have hu : ∀ q, Below w.heap.size w (w.drewN q) := fun q => ((Upd.refl (fun _ => False) w).drewN q).below (Nat.le_refl _) (fun _ _ h => h)
  go_enter Try.func26, Try.ntmps26
  go_wp2_with (go_at_call 18; (with_reducible refine K.mono ?_); clear K; rintro e w1 ⟨rfl, q1, rfl⟩)
  go_returns
  exact ⟨rfl, hu _⟩
set_option maxHeartbeats 400000 in
theorem refQuan_ratio (ad : Option Addr) (n c : Nat) (l : List (Int × Int)) (num den : Nat) (w : World) (hI : InAt w ad n l) (hc : chkF (-1) l = true) (hn : 0 < n) (hr : den = 0 ∨ 1000000 < den ∨ den < num) :
    Calls Try.prog 26 #[.slice ad n c, .int .u64 (num : Int), .int .u64 (den : Int)] w fun e w' => e = .returned (.tuple #[.int .u64 0, .int .u64 0, .int .i64 133]) ∧ Below w.heap.size w w' := by
  have K := refCheck_any ad n c l w hI.at_ hI.len hI.bin
  rw [chkE_ok hc] at K
  have hu : ∀ q, Below w.heap.size w (w.drewN q) := fun q => ((Upd.refl (fun _ => False) w).drewN q).below (Nat.le_refl _) (fun _ _ h => h)
  have hn1' : ¬ (n : Int) = 0 := by omega
  have hn1 : ((n : Int) == 0) = false := by simpa using hn1'
  clear hn1'
  have hr' : (den : Int) = 0 ∨ (1000000 : Int) < (den : Int) ∨ (den : Int) < (num : Int) := by omega
  have hd0 : (0 : Int) ≤ (den : Int) := by omega
  generalize (den : Int) = D at *
  generalize (num : Int) = N at *
  clear hr hI hc hn
  by_cases h1 : D = 0
  · subst h1
    clear hr'
    go_enter Try.func26, Try.ntmps26
    go_wp2_with (go_at_call 18; (with_reducible refine K.mono ?_); clear K; rintro e w1 ⟨rfl, q1, rfl⟩)
    go_returns
    exact ⟨rfl, hu _⟩
  · have h1' : (D == 0) = false := by simpa using h1
    by_cases h2 : (1000000 : Int) < D
    · clear hr' h1
      go_enter Try.func26, Try.ntmps26
      go_wp2_with (go_at_call 18; (with_reducible refine K.mono ?_); clear K; rintro e w1 ⟨rfl, q1, rfl⟩)
      go_returns
      exact ⟨rfl, hu _⟩
    · have h3 : D < N := by omega
      clear hr' h1
      go_enter Try.func26, Try.ntmps26
      go_wp2_with (go_at_call 18; (with_reducible refine K.mono ?_); clear K; rintro e w1 ⟨rfl, q1, rfl⟩)
      go_returns
      exact ⟨rfl, hu _⟩
end Go.Proofs.Ytmegmjhkjaejgaa.sk
