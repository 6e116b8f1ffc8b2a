/-
  Contracts of layer 13: Quantile.
-/
import Derived.Test.YtmegmjhkjaejgaaSkL
namespace Go.Proofs.Ytmegmjhkjaejgaa.sk
open Go.RowKit
set_option maxRecDepth 100000

theorem sum_small {l : List (Int × Int)} (h : chkF (-1) l = true) (hi : Bin l) : sumB l ≤ 35417748621522339101695 := by
  have a := sumB_le (fun b hb => (hi b hb).2.2.2)
  have b := chk_len (by omega) h
  have c : l.length ≤ 1920 := by omega
  have d := Nat.mul_le_mul_right 18446744073709551615 c
  omega
theorem sum_pos {l : List (Int × Int)} (h : chkF (-1) l = true) (hi : Bin l) (hl : 0 < l.length) : 1 ≤ sumB l := by
  cases l with
  | nil => simp at hl
  | cons b l =>
    have := (chkF_iff.mp h).1 b (List.mem_cons_self ..)
    have := hi b (List.mem_cons_self ..)
    unfold sumB
    rw [List.map_cons, List.sum_cons]
    omega
theorem rk_le {n num den : Nat} (hnd : num ≤ den) (hn : 1 ≤ n) : 1 ≤ rkN (n * num) den ∧ rkN (n * num) den ≤ n := by
  have h1 : n * num ≤ n * den := Nat.mul_le_mul_left n hnd
  have h2 : n * num / den ≤ n := Nat.div_le_of_le_mul (by rw [Nat.mul_comm den n]; exact h1)
  have dm := Nat.div_add_mod (n * num) den
  unfold rkN
  generalize n * num / den = q at *
  generalize n * num % den = s at *
  split
  · rename_i h
    omega
  · rename_i h
    refine ⟨by omega, ?_⟩
    rcases Nat.lt_or_ge q n with h3 | h3
    · omega
    · have e : q = n := by omega
      rw [e, Nat.mul_comm den n] at dm
      omega
def QuanP (l : List (Int × Int)) (num den : Nat) (w : World) (e : Ending) (w' : World) : Prop :=
  ∃ i k, AtBar l (rkN (sumB l * num) den) i ∧ (l[i]?).map (·.1) = some ((k : Nat) : Int) ∧ k < 1920 ∧ e = .returned (.tuple #[.int .u64 (loN k : Int), .int .u64 (hiN k : Int), .int .i64 0]) ∧ Below w.heap.size w w'
set_option maxHeartbeats 400000 in
theorem quan_bars (ad : Option Addr) (n c : Nat) (l : List (Int × Int)) (num den : Nat) (w : World) (hI : InAt w ad n l) (hc : chkF (-1) l = false) :
    Calls Try.prog 11 #[.slice ad n c, .int .u64 (num : Int), .int .u64 (den : Int)] w fun e w' => e = .returned (.tuple #[.int .u64 0, .int .u64 0, .int .i64 131]) ∧ Below w.heap.size w w' := by
  have K := count_no ad n c l w hI hc
  rw [natV_eq] at K
  go_enter Try.func11, Try.ntmps11
  go_wp2_with (go_at_call 12; (with_reducible refine K.mono ?_); clear K; rintro e w1 ⟨rfl, b1⟩)
  go_returns
  exact ⟨rfl, b1.alloc b1.size _⟩
set_option maxHeartbeats 400000 in
theorem quan_none (c : Nat) (ad : Option Addr) (num den : Nat) (w : World) (hI : InAt w ad 0 []) :
    Calls Try.prog 11 #[.slice ad 0 c, .int .u64 (num : Int), .int .u64 (den : Int)] w fun e w' => e = .returned (.tuple #[.int .u64 0, .int .u64 0, .int .i64 132]) ∧ Below w.heap.size w w' := by
  have K := count_ok ad 0 c [] w hI rfl
  unfold CountP at K
  rw [natV_eq] at K
  go_enter Try.func11, Try.ntmps11
  go_wp2_with (go_at_call 12; (with_reducible refine K.mono ?_); clear K; rintro e w1 ⟨rfl, b1⟩)
  go_returns
  exact ⟨rfl, b1.alloc b1.size _⟩
set_option maxHeartbeats 400000 in
theorem quan_ratio (ad : Option Addr) (n c : Nat) (l : List (Int × Int)) (num den : Nat) (w : World) (hI : InAt w ad n l) (hc : chkF (-1) l = true) (hn : 0 < n) (hr : den = 0 ∨ 1000000 < den ∨ den < num) :
    Calls Try.prog 11 #[.slice ad n c, .int .u64 (num : Int), .int .u64 (den : Int)] w fun e w' => e = .returned (.tuple #[.int .u64 0, .int .u64 0, .int .i64 133]) ∧ Below w.heap.size w w' := by
  have K := count_ok ad n c l w hI hc
  unfold CountP at K
  rw [natV_eq] at K
  have hn1' : ¬ (n : Int) = 0 := by omega
  have hn1 : ((n : Int) == 0) = false := by simpa using hn1'
  clear hn1'
  generalize (hi64 (sumB l) : Int) = X at K
  generalize (lo64 (sumB l) : Int) = Y at K
  have hr' : (den : Int) = 0 ∨ (1000000 : Int) < (den : Int) ∨ (den : Int) < (num : Int) := by omega
  have hd0 : (0 : Int) ≤ (den : Int) := by omega
  generalize (den : Int) = D at *
  generalize (num : Int) = N at *
  clear hr hI hc hn
  by_cases h1 : D = 0
  · subst h1
    clear hr'
    go_enter Try.func11, Try.ntmps11
    go_wp2_with (go_at_call 12; (with_reducible refine K.mono ?_); clear K; rintro e w1 ⟨rfl, b1⟩)
    go_returns
    exact ⟨rfl, b1.alloc b1.size _⟩
  · have h1' : (D == 0) = false := by simpa using h1
    by_cases h2 : (1000000 : Int) < D
    · clear hr' h1
      go_enter Try.func11, Try.ntmps11
      go_wp2_with (go_at_call 12; (with_reducible refine K.mono ?_); clear K; rintro e w1 ⟨rfl, b1⟩)
      go_returns
      exact ⟨rfl, b1.alloc b1.size _⟩
    · have h3 : D < N := by omega
      clear hr' h1
      go_enter Try.func11, Try.ntmps11
      go_wp2_with (go_at_call 12; (with_reducible refine K.mono ?_); clear K; rintro e w1 ⟨rfl, b1⟩)
      go_returns
      exact ⟨rfl, b1.alloc b1.size _⟩
set_option maxHeartbeats 1000000 in
theorem quan_ok (ad : Option Addr) (n c : Nat) (l : List (Int × Int)) (num den : Nat) (w : World) (hI : InAt w ad n l) (hc : chkF (-1) l = true) (hn : 0 < n) (h1 : 0 < den) (h2 : den ≤ 1000000) (h3 : num ≤ den) (D : DivOk (sumB l * num) den) :
    Calls Try.prog 11 #[.slice ad n c, .int .u64 (num : Int), .int .u64 (den : Int)] w (QuanP l num den w) := by
  have K := count_ok ad n c l w hI hc
  unfold CountP at K
  have hn1' : ¬ (n : Int) = 0 := by omega
  have hn1 : ((n : Int) == 0) = false := by simpa using hn1'
  have hs := sum_small hc hI.bin
  have hp := sum_pos hc hI.bin (by rw [hI.at_.len]; exact hn)
  have hrk := rk_le h3 hp
  have hm : sumB l * num ≤ 35417748621522339101695 * 1000000 := Nat.mul_le_mul hs (by omega)
  have RK := rank_any (sumB l) num den (by omega) (by omega) h1 D
  have BO := fun W (h : InAt W ad n l) => barOf_any ad n c l _ W h hn (by omega) hrk.1 hrk.2
  have d1' : ¬ (den : Int) = 0 := by omega
  have d1 : ((den : Int) == 0) = false := by simpa using d1'
  have d2 : ¬ (1000000 : Int) < (den : Int) := by omega
  have d3 : ¬ (den : Int) < (num : Int) := by omega
  unfold QuanP
  have HC : Hid _ := hc
  have HI : Hid _ := hI
  generalize rkN (sumB l * num) den = r at *
  clear hn1' d1' hs hp hrk hm D hc hI h1 h2 h3
  rw [natV_eq (sumB l)] at K RK
  generalize (hi64 (sumB l) : Int) = X at K RK
  generalize (lo64 (sumB l) : Int) = Y at K RK
  obtain ⟨V, hV⟩ : ∃ V, natV r = V := ⟨_, rfl⟩
  rw [hV] at RK BO
  go_enter Try.func11, Try.ntmps11
  go_wp2_with (first
    | (go_at_call 12; (with_reducible refine K.mono ?_); clear K; rintro e w1 ⟨rfl, b1⟩; have HB1 : Hid _ := b1; clear b1)
    | (go_at_call 32; (with_reducible refine (RK _).mono ?_); clear RK; rintro e w2 ⟨rfl, b2⟩
       have b12 : Below w.heap.size w w2 := HB1.out.trans (((Below.refl w1.heap.size w1).alloc (Nat.le_refl _) _).trans (b2.mono (by simp)) |>.mono HB1.out.size)
       have HB2 : Hid _ := b12
       have B2 := BO w2 (HI.out.below b12)
       clear b2 BO b12)
    | (go_at_call 31; (with_reducible refine B2.mono ?_); clear B2; rintro e w3 ⟨i, hi, rfl, ha, b3⟩
       have hin := chk_in HC.out l[i] (List.getElem_mem hi)
       obtain ⟨k, hk⟩ := Int.eq_ofNat_of_zero_le hin.1
       rw [hk]
       have SP := skSpan k w3 (by omega)
       have HK : Hid _ := hk
       have hk19 : k < 1920 := by omega
       have HA : Hid _ := ha
       have HB3 : Hid _ := HB2.out.trans (b3.mono HB2.out.size)
       clear hin hk ha b3)
    | (go_at_call 14; (with_reducible refine SP.mono ?_); clear SP; rintro e w4 ⟨rfl, n4, hw4⟩))
  go_returns
  refine ⟨i, k, HA.out, by rw [List.getElem?_eq_getElem hi]; simp [HK.out], hk19, rfl, ?_⟩
  exact HB3.out.trans (((Upd.refl (fun _ => False) w3).drewN n4).below (B := w.heap.size) HB3.out.size (fun _ _ h => h))
end Go.Proofs.Ytmegmjhkjaejgaa.sk
