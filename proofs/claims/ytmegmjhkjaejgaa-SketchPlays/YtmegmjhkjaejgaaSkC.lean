/-
  Contracts of layer 13: Len64, Index, Span.
-/
import Derived.Test.YtmegmjhkjaejgaaSkB
import Derived.Test.YtmegmjhkjaejgaaMw
import Derived.Test.YtmegmjhkjaejgaaProg
import Derived.Lib.Walk
import Derived.Lib.BitFns
import Derived.Deep.QuietTactic
import Derived.BigQuiet
import Derived.WalkMore
import Derived.Handy
namespace Go.Proofs.Ytmegmjhkjaejgaa.sk
open Go.RowKit
set_option maxRecDepth 100000

def lenN (v : Nat) : Nat := if v = 0 then 0 else v.log2 + 1
theorem tab8 : ∀ n : Fin 256, ((Lib.len8tab.data[n.val]?).getD 0).toNat = lenN n.val ∧ lenN n.val ≤ 8 := by decide +kernel
theorem len_shift {v b : Nat} (h : 1 ≤ v / 2 ^ b) : lenN v = b + lenN (v / 2 ^ b) := by
  have hb := two_pos b
  obtain ⟨l1, l2⟩ := log2_le (v := v / 2 ^ b) (by omega)
  have hv : v ≠ 0 := by rintro rfl; rw [Nat.zero_div] at h; omega
  have dm := Nat.div_add_mod v (2 ^ b)
  have ml := Nat.mod_lt v (show 2 ^ b > 0 by omega)
  have : v.log2 = b + (v / 2 ^ b).log2 := by
    refine log2_of ?_ ?_
    · rw [Nat.pow_add]
      have := Nat.mul_le_mul_left (2 ^ b) l1
      omega
    · rw [Nat.add_assoc, Nat.pow_add]
      have := Nat.mul_le_mul_left (2 ^ b) (show v / 2 ^ b + 1 ≤ 2 ^ ((v / 2 ^ b).log2 + 1) by omega)
      rw [Nat.mul_add] at this
      omega
  unfold lenN
  rw [if_neg hv, if_neg (by omega), this]
  omega
theorem tab_at (q : Nat) (h : q < Lib.len8tab.size) : Lib.len8tab[q].toNat = lenN q ∧ lenN q ≤ 8 := by
  have h256 : q < 256 := by rw [← Lib.len8tab_size]; exact h
  have := tab8 ⟨q, h256⟩
  have e : Lib.len8tab.data[q]? = some Lib.len8tab[q] := by
    rw [Array.getElem?_eq_getElem (show q < Lib.len8tab.data.size from h)]
    rfl
  simp only [e, Option.getD_some] at this
  exact this
theorem len_fin (b : Nat) (c : Int) (hc : c = (b : Int)) (hb : b ≤ 56) (v q : Nat) (hq : q = v / 2 ^ b) (h1 : b = 0 ∨ 1 ≤ q) (hsz : q < Lib.len8tab.size) : wrap64 (c + wrap64 (Lib.len8tab[q].toNat : Int)) = (lenN v : Int) := by
  obtain ⟨e1, e2⟩ := tab_at q hsz
  have : lenN v = b + lenN q := by
    rcases h1 with rfl | h1
    · rw [hq, Nat.pow_zero, Nat.div_one, Nat.zero_add]
    · rw [hq]; exact len_shift (by rw [← hq]; exact h1)
  rw [e1, this, hc]
  unfold wrap64
  omega
set_option maxHeartbeats 1000000 in
theorem len64_int (x : Int) (w : World) (h0 : 0 ≤ x) (h1 : x ≤ 18446744073709551615) :
    Calls Try.prog 34 #[.int .u64 x] w fun e w' => e = .returned (.int .i64 (lenN x.toNat : Nat)) ∧ w' = w := by
  have hs : Lib.len8tab.size = 256 := Lib.len8tab_size
  have hu : Try.prog.underlying 9 = some .string := Try.underlying9
  go_enter Try.func34, Try.ntmps34
  go_wp2
  all_goals go_ret
  all_goals (refine ⟨congrArg Ending.returned (congrArg (Value.int IntKind.i64) ?_), rfl⟩)
  · exact len_fin 56 56 rfl (by omega) _ _ (by omega) (by omega) _
  · exact len_fin 48 48 rfl (by omega) _ _ (by omega) (by omega) _
  · exact len_fin 40 40 rfl (by omega) _ _ (by omega) (by omega) _
  · exact len_fin 32 32 rfl (by omega) _ _ (by omega) (by omega) _
  · exact len_fin 24 24 rfl (by omega) _ _ (by omega) (by omega) _
  · exact len_fin 16 16 rfl (by omega) _ _ (by omega) (by omega) _
  · exact len_fin 8 8 rfl (by omega) _ _ (by omega) (by omega) _
  · have := len_fin 0 0 rfl (by omega) x.toNat x.toNat (by omega) (by omega) (by rw [hs]; omega)
    rwa [Int.zero_add] at this
theorem len64_any (v : Nat) (hv : v < 18446744073709551616) (w : World) :
    Calls Try.prog 34 #[.int .u64 v] w fun e w' => e = .returned (.int .i64 (lenN v : Nat)) ∧ w' = w := by
  have := len64_int (v : Int) w (by omega) (by omega)
  rwa [Int.toNat_natCast] at this
theorem lenN_log {v : Nat} (h : v ≠ 0) : lenN v = v.log2 + 1 := by unfold lenN; rw [if_neg h]
theorem lenN_b {v : Nat} (h : 64 ≤ v) (hv : v < 18446744073709551616) : 7 ≤ lenN v ∧ lenN v ≤ 64 := by
  rw [lenN_log (by omega)]
  obtain ⟨l1, l2⟩ := log2_le (v := v) (by omega)
  constructor
  · rcases Nat.lt_or_ge v.log2 6 with h6 | h6
    · have := Nat.pow_le_pow_right (n := 2) (by omega) (show v.log2 + 1 ≤ 6 by omega)
      omega
    · omega
  · rcases Nat.lt_or_ge v.log2 64 with h6 | h6
    · omega
    · have := Nat.pow_le_pow_right (n := 2) (by omega) h6
      omega
theorem index_eq {v : Nat} (h : 64 ≤ v) (hv : v < 18446744073709551616) : wrap64 (64 + 32 * ((lenN v : Int) - 1 - 6) + wrap64 (wrap64 ((v : Int) / 2 ^ (lenN v - 1 - 5)) - 32)) = (idxN v : Int) := by
  obtain ⟨b1, b2⟩ := lenN_b h hv
  have hi := idxN_lt hv
  have e : ((v : Int) / 2 ^ (lenN v - 1 - 5)) = ((v / 2 ^ (lenN v - 1 - 5) : Nat) : Int) := by
    rw [Int.natCast_ediv, Int.natCast_pow]
    rfl
  have hx : idxN v = 32 * (v.log2 - 6) + 32 + v / 2 ^ (v.log2 - 5) := by unfold idxN; rw [if_neg (by omega)]
  rw [lenN_log (by omega)] at *
  rw [e, show v.log2 + 1 - 1 - 5 = v.log2 - 5 by omega]
  generalize v / 2 ^ (v.log2 - 5) = q at *
  unfold wrap64
  omega
set_option maxHeartbeats 400000 in
theorem skIndex (v : Nat) (hv : v < 18446744073709551616) (w : World) :
    Calls Try.prog 13 #[.int .u64 v] w fun e w' => e = .returned (.int .i64 (idxN v : Nat)) ∧ w' = w := by
  by_cases h : v < 64
  · have h1 : (v : Int) < 64 := by omega
    have e : idxN v = v := (idx_small h).1
    rw [e]
    clear e
    go_enter Try.func13, Try.ntmps13
    go_wp2
    go_ret
    exact ⟨rfl, rfl⟩
  · have h1 : ¬ (v : Int) < 64 := by omega
    obtain ⟨b1, b2⟩ := lenN_b (v := v) (by omega) hv
    have b1' : (7 : Int) ≤ (lenN v : Int) := by omega
    have b2' : (lenN v : Int) ≤ 64 := by omega
    go_enter Try.func13, Try.ntmps13
    go_wp2_with (go_at_call 34; refine (len64_any v hv _).mono ?_; rintro e w' ⟨rfl, rfl⟩)
    go_ret
    exact ⟨congrArg (fun x => Ending.returned (.int .i64 x)) (index_eq (by omega) hv), rfl⟩

theorem span_no (i : Int) (w : World) (h : i < 0 ∨ 1920 ≤ i) :
    Calls Try.prog 14 #[.int .i64 i] w fun e w' => e = .returned (.tuple #[.int .u64 0, .int .u64 0, .int .i64 1]) ∧ w' = w := by
  rcases h with h | h
  · go_enter Try.func14, Try.ntmps14
    go_wp2
    go_returns
    exact ⟨rfl, rfl⟩
  · have h' : ¬ i < 0 := by omega
    go_enter Try.func14, Try.ntmps14
    go_wp2
    go_returns
    exact ⟨rfl, rfl⟩
theorem span_low (i : Nat) (w : World) (h : i < 64) :
    Calls Try.prog 14 #[.int .i64 (i : Int)] w fun e w' => e = .returned (.tuple #[.int .u64 (loN i : Int), .int .u64 (hiN i : Int), .int .i64 0]) ∧ w' = w := by
  have h1 : (i : Int) < 64 := by omega
  obtain ⟨_, e1, e2⟩ := idx_small h
  rw [e1, e2]
  clear e1 e2
  go_enter Try.func14, Try.ntmps14
  go_wp2
  go_returns
  exact ⟨rfl, rfl⟩
theorem ret_span {a b a' b' : Int} (h1 : a = a') (h2 : b = b') : Ending.returned (.tuple #[.int .u64 a, .int .u64 b, .int .i64 0]) = Ending.returned (.tuple #[.int .u64 a', .int .u64 b', .int .i64 0]) := by rw [h1, h2]
theorem lo_eq {i : Nat} (h : 64 ≤ i) (h' : i < 1920) : IntKind.u64.wrap ((32 + ((i : Int) - 64) % 32) * 2 ^ (6 + (i - 64) / 32 - 5)) = (loN i : Int) := by
  have hl := lo_le_hi i
  have hh := hi_lt h'
  obtain ⟨k, m, hi, hm, ek, em⟩ := bar_parts h
  have e : loN i = (32 + m) * 2 ^ (k + 1) := by unfold loN; rw [if_neg (by omega), ek, em]
  have e2 : (32 + ((i : Int) - 64) % 32) * 2 ^ (6 + (i - 64) / 32 - 5) = (((32 + m) * 2 ^ (k + 1) : Nat) : Int) := by
    rw [ek, show 6 + k - 5 = k + 1 by omega, show (32 + ((i : Int) - 64) % 32) = ((32 + m : Nat) : Int) by omega, Int.natCast_mul, Int.natCast_pow]
    rfl
  rw [e2, ← e, IntKind.wrap_u64]
  omega
theorem hi_eq {i : Nat} (h : 64 ≤ i) (h' : i < 1920) : IntKind.u64.wrap (IntKind.u64.wrap ((32 + ((i : Int) - 64) % 32) * 2 ^ (6 + (i - 64) / 32 - 5)) + IntKind.u64.wrap (IntKind.u64.wrap (2 ^ (6 + (i - 64) / 32 - 5)) - 1)) = (hiN i : Int) := by
  rw [lo_eq h h']
  have hl := lo_le_hi i
  have hh := hi_lt h'
  obtain ⟨k, m, hi, hm, ek, em⟩ := bar_parts h
  have e : loN i = (32 + m) * 2 ^ (k + 1) := by unfold loN; rw [if_neg (by omega), ek, em]
  have e' : hiN i = loN i + (2 ^ (k + 1) - 1) := by unfold hiN loN; rw [if_neg (by omega), if_neg (by omega), ek, em]
  have hp := two_pos (k + 1)
  have e2 : (2 : Int) ^ (6 + (i - 64) / 32 - 5) = ((2 ^ (k + 1) : Nat) : Int) := by
    rw [ek, show 6 + k - 5 = k + 1 by omega, Int.natCast_pow]
    rfl
  rw [e2, IntKind.wrap_u64, IntKind.wrap_u64, IntKind.wrap_u64]
  omega
set_option maxHeartbeats 400000 in
theorem span_high (i : Nat) (w : World) (h : 64 ≤ i) (h' : i < 1920) :
    Calls Try.prog 14 #[.int .i64 (i : Int)] w fun e w' => e = .returned (.tuple #[.int .u64 (loN i : Int), .int .u64 (hiN i : Int), .int .i64 0]) ∧ ∃ n, w' = w.drewN n := by
  have h1 : (64 : Int) ≤ (i : Int) := by omega
  have h2 : (i : Int) < 1920 := by omega
  go_enter Try.func14, Try.ntmps14
  go_wp2
  go_quiet (fail)
  go_wp2
  go_returns
  exact ⟨ret_span (lo_eq h h') (hi_eq h h'), nq, rfl⟩
theorem skSpan (i : Nat) (w : World) (h : i < 1920) :
    Calls Try.prog 14 #[.int .i64 (i : Int)] w fun e w' => e = .returned (.tuple #[.int .u64 (loN i : Int), .int .u64 (hiN i : Int), .int .i64 0]) ∧ ∃ n, w' = w.drewN n := by
  by_cases h' : i < 64
  · exact (span_low i w h').mono fun e w' ⟨h1, h2⟩ => ⟨h1, 0, h2⟩
  · exact span_high i w (by omega) h
end Go.Proofs.Ytmegmjhkjaejgaa.sk
