/-
  Merged: SkA, SkC, SkM.
-/
import Derived.WalkKit
import Derived.Test.YtpcfchbiohbcoaaDoorMw
import Derived.Test.YtpcfchbiohbcoaaDoorProg
import Derived.Lib.Walk
import Derived.Lib.BitFns
import Derived.Deep.QuietTactic
import Derived.BigQuiet
import Derived.WalkMore
import Derived.Handy
namespace Go.Proofs.YtpcfchbiohbcoaaDoor.sk
set_option maxRecDepth 100000

def idxN (v : Nat) : Nat := if v < 64 then v else 32 * (v.log2 - 6) + 32 + v / 2 ^ (v.log2 - 5)
def loN (i : Nat) : Nat := if i < 64 then i else (32 + (i - 64) % 32) * 2 ^ ((i - 64) / 32 + 1)
def hiN (i : Nat) : Nat := if i < 64 then i else (32 + (i - 64) % 32) * 2 ^ ((i - 64) / 32 + 1) + (2 ^ ((i - 64) / 32 + 1) - 1)

theorem two_pos (k : Nat) : 1 ≤ 2 ^ k := Nat.one_le_two_pow
theorem log2_of {v k : Nat} (h1 : 2 ^ k ≤ v) (h2 : v < 2 ^ (k + 1)) : v.log2 = k := by
  have h0 : v ≠ 0 := by have := two_pos k; omega
  exact (Nat.log2_eq_iff h0).mpr ⟨h1, h2⟩
theorem log2_le {v : Nat} (h : v ≠ 0) : 2 ^ v.log2 ≤ v ∧ v < 2 ^ (v.log2 + 1) := (Nat.log2_eq_iff h).mp rfl
theorem lo_le_hi (i : Nat) : loN i ≤ hiN i := by
  unfold loN hiN
  split
  · exact Nat.le_refl _
  · omega
theorem bar_parts {i : Nat} (h : 64 ≤ i) : ∃ k m, i = 64 + 32 * k + m ∧ m < 32 ∧ (i - 64) / 32 = k ∧ (i - 64) % 32 = m := ⟨(i - 64) / 32, (i - 64) % 32, by omega, by omega, rfl, rfl⟩
theorem idx_of {i v : Nat} (h1 : loN i ≤ v) (h2 : v ≤ hiN i) : idxN v = i := by
  by_cases h : i < 64
  · unfold loN at h1
    unfold hiN at h2
    rw [if_pos h] at h1 h2
    unfold idxN
    rw [if_pos (by omega)]
    omega
  · obtain ⟨k, m, hi, hm, ek, em⟩ := bar_parts (i := i) (by omega)
    unfold loN at h1
    unfold hiN at h2
    rw [if_neg h, ek, em] at h1 h2
    have hp := two_pos (k + 1)
    have e6 : 2 ^ (k + 6) = 32 * 2 ^ (k + 1) := by rw [show k + 6 = (k + 1) + 5 by omega, Nat.pow_add]; omega
    have e7 : 2 ^ (k + 6 + 1) = 64 * 2 ^ (k + 1) := by rw [show k + 6 + 1 = (k + 1) + 6 by omega, Nat.pow_add]; omega
    have e1 : 2 ^ (k + 1) = 2 * 2 ^ k := by rw [Nat.pow_add]; omega
    have hk := two_pos k
    generalize hP : 2 ^ (k + 1) = p at *
    have m1 : 32 * p ≤ (32 + m) * p := Nat.mul_le_mul_right _ (by omega)
    have m2 : (32 + m) * p + p ≤ 64 * p := by
      have := Nat.mul_le_mul_right p (show 32 + m + 1 ≤ 64 by omega)
      rw [Nat.add_mul (32 + m) 1 p] at this
      omega
    have hl : v.log2 = k + 6 := log2_of (by omega) (by omega)
    have hd : v / p = 32 + m := by
      rw [Nat.div_eq_iff (by omega)]
      omega
    unfold idxN
    rw [if_neg (by omega), hl, show k + 6 - 5 = k + 1 by omega, hP, hd]
    omega
theorem idx_span (v : Nat) : loN (idxN v) ≤ v ∧ v ≤ hiN (idxN v) := by
  by_cases h : v < 64
  · have e : idxN v = v := by unfold idxN; rw [if_pos h]
    unfold loN hiN
    rw [e, if_pos h, if_pos h]
    omega
  · obtain ⟨l1, l2⟩ := log2_le (v := v) (by omega)
    have e6 : 6 ≤ v.log2 := by
      rcases Nat.lt_or_ge v.log2 6 with h6 | h6
      · have := Nat.pow_le_pow_right (n := 2) (by omega) (show v.log2 + 1 ≤ 6 by omega)
        omega
      · exact h6
    obtain ⟨k, hk⟩ : ∃ k, v.log2 = k + 6 := ⟨v.log2 - 6, by omega⟩
    have e1 : idxN v = 32 * k + 32 + v / 2 ^ (k + 1) := by
      unfold idxN
      rw [if_neg h, hk, show k + 6 - 6 = k by omega, show k + 6 - 5 = k + 1 by omega]
    have e6 : 2 ^ (k + 6) = 32 * 2 ^ (k + 1) := by rw [show k + 6 = (k + 1) + 5 by omega, Nat.pow_add]; omega
    have e7 : 2 ^ (k + 6 + 1) = 64 * 2 ^ (k + 1) := by rw [show k + 6 + 1 = (k + 1) + 6 by omega, Nat.pow_add]; omega
    rw [hk] at l1 l2
    have hp := two_pos (k + 1)
    have q1 : 32 ≤ v / 2 ^ (k + 1) := (Nat.le_div_iff_mul_le (by omega)).mpr (by omega)
    have q2 : v / 2 ^ (k + 1) < 64 := (Nat.div_lt_iff_lt_mul (by omega)).mpr (by omega)
    have dm := Nat.div_add_mod v (2 ^ (k + 1))
    have ml := Nat.mod_lt v (show 2 ^ (k + 1) > 0 by omega)
    have a : (idxN v - 64) / 32 = k := by omega
    have b : (idxN v - 64) % 32 = v / 2 ^ (k + 1) - 32 := by omega
    unfold loN hiN
    rw [if_neg (by omega), if_neg (by omega), a, b, show 32 + (v / 2 ^ (k + 1) - 32) = v / 2 ^ (k + 1) by omega, Nat.mul_comm (v / 2 ^ (k + 1))]
    omega
theorem idxN_lt {v : Nat} (h : v < 18446744073709551616) : idxN v < 1920 := by
  unfold idxN
  split
  · omega
  · obtain ⟨l1, l2⟩ := log2_le (v := v) (by omega)
    have e64 : v.log2 < 64 := by
      rcases Nat.lt_or_ge v.log2 64 with h6 | h6
      · exact h6
      · have := Nat.pow_le_pow_right (n := 2) (by omega) h6
        omega
    have e6 : 6 ≤ v.log2 := by
      rcases Nat.lt_or_ge v.log2 6 with h6 | h6
      · have := Nat.pow_le_pow_right (n := 2) (by omega) (show v.log2 + 1 ≤ 6 by omega)
        omega
      · exact h6
    have hp := two_pos (v.log2 - 5)
    have e7 : 2 ^ (v.log2 + 1) = 64 * 2 ^ (v.log2 - 5) := by rw [show v.log2 + 1 = (v.log2 - 5) + 6 by omega, Nat.pow_add]; omega
    have q2 : v / 2 ^ (v.log2 - 5) < 64 := (Nat.div_lt_iff_lt_mul (by omega)).mpr (by omega)
    omega
theorem lo_next (i : Nat) : loN (i + 1) = hiN i + 1 := by
  by_cases h : i < 63
  · unfold loN hiN
    rw [if_pos (by omega), if_pos (by omega)]
  · by_cases h' : i = 63
    · subst h'; decide
    · obtain ⟨k, m, hi, hm, ek, em⟩ := bar_parts (i := i) (by omega)
      have hp := two_pos (k + 1)
      unfold loN hiN
      rw [if_neg (by omega), if_neg (by omega), ek, em]
      by_cases hm31 : m = 31
      · rw [show (i + 1 - 64) / 32 = k + 1 by omega, show (i + 1 - 64) % 32 = 0 by omega, hm31, show k + 1 + 1 = (k + 1) + 1 by omega, Nat.pow_succ 2 (k + 1)]
        omega
      · rw [show (i + 1 - 64) / 32 = k by omega, show (i + 1 - 64) % 32 = m + 1 by omega, show 32 + (m + 1) = (32 + m) + 1 by omega, Nat.add_mul (32 + m) 1]
        omega
theorem hi_last : hiN 1919 = 18446744073709551615 := by decide
theorem lo_first : loN 0 = 0 := by decide
theorem hi_lt_lo {i : Nat} : ∀ {j : Nat}, i < j → hiN i < loN j
  | 0, h => by omega
  | j + 1, h => by
    rw [lo_next]
    rcases Nat.lt_or_ge i j with h1 | h1
    · have := hi_lt_lo h1
      have := lo_le_hi j
      omega
    · obtain rfl : i = j := by omega
      omega
theorem idx_mono {u v : Nat} (h : u ≤ v) : idxN u ≤ idxN v := by
  rcases Nat.lt_or_ge (idxN v) (idxN u) with h1 | h1
  · have := hi_lt_lo h1
    have a := idx_span u
    have b := idx_span v
    omega
  · exact h1
theorem hi_lt {i : Nat} (h : i < 1920) : hiN i < 18446744073709551616 := by
  rcases Nat.lt_or_ge i 1919 with h1 | h1
  · have a := hi_lt_lo h1
    have b := lo_le_hi 1919
    rw [hi_last] at b
    omega
  · obtain rfl : i = 1919 := by omega
    rw [hi_last]; omega
theorem lo_mono {i j : Nat} (h : i ≤ j) : loN i ≤ loN j ∧ hiN i ≤ hiN j := by
  rcases Nat.lt_or_ge i j with h1 | h1
  · have a := hi_lt_lo h1
    have b := lo_le_hi i
    have c := lo_le_hi j
    omega
  · obtain rfl : i = j := by omega
    omega
theorem wide_of {i : Nat} (h : 64 ≤ i) : hiN i - loN i ≤ loN i / 32 := by
  obtain ⟨k, m, hi, hm, ek, em⟩ := bar_parts h
  have hp := two_pos (k + 1)
  unfold loN hiN
  rw [if_neg (by omega), if_neg (by omega), ek, em]
  have m1 : 32 * 2 ^ (k + 1) ≤ (32 + m) * 2 ^ (k + 1) := Nat.mul_le_mul_right _ (by omega)
  omega
theorem idx_ge {v : Nat} (h : 64 ≤ v) : 64 ≤ idxN v := by
  have := idx_mono h
  have e : idxN 64 = 64 := by decide
  omega
theorem idx_small {v : Nat} (h : v < 64) : idxN v = v ∧ loN v = v ∧ hiN v = v := by
  refine ⟨?_, ?_, ?_⟩
  · unfold idxN; rw [if_pos h]
  · unfold loN; rw [if_pos h]
  · unfold hiN; rw [if_pos h]
end Go.Proofs.YtpcfchbiohbcoaaDoor.sk

namespace Go.Proofs.YtpcfchbiohbcoaaDoor.sk
open Go.RowKit
set_option maxRecDepth 100000

def lenN (v : Nat) : Nat := if v = 0 then 0 else v.log2 + 1
theorem tab8 : ∀ n : Fin 256, ((Lib.len8tab.data[n.val]?).getD 0).toNat = lenN n.val ∧ lenN n.val ≤ 8 := by decide +kernel
theorem len_shift {v b : Nat} (h : 1 ≤ v / 2 ^ b) : lenN v = b + lenN (v / 2 ^ b) := by
  have hb := two_pos b
  obtain ⟨l1, l2⟩ := log2_le (v := v / 2 ^ b) (by omega)
  have hv : v ≠ 0 := by rintro rfl; rw [Nat.zero_div] at h; omega
  have dm := Nat.div_add_mod v (2 ^ b)
  have ml := Nat.mod_lt v (show 2 ^ b > 0 by omega)
  have : v.log2 = b + (v / 2 ^ b).log2 := by
    refine log2_of ?_ ?_
    · rw [Nat.pow_add]
      have := Nat.mul_le_mul_left (2 ^ b) l1
      omega
    · rw [Nat.add_assoc, Nat.pow_add]
      have := Nat.mul_le_mul_left (2 ^ b) (show v / 2 ^ b + 1 ≤ 2 ^ ((v / 2 ^ b).log2 + 1) by omega)
      rw [Nat.mul_add] at this
      omega
  unfold lenN
  rw [if_neg hv, if_neg (by omega), this]
  omega
theorem tab_at (q : Nat) (h : q < Lib.len8tab.size) : Lib.len8tab[q].toNat = lenN q ∧ lenN q ≤ 8 := by
  have h256 : q < 256 := by rw [← Lib.len8tab_size]; exact h
  have := tab8 ⟨q, h256⟩
  have e : Lib.len8tab.data[q]? = some Lib.len8tab[q] := by
    rw [Array.getElem?_eq_getElem (show q < Lib.len8tab.data.size from h)]
    rfl
  simp only [e, Option.getD_some] at this
  exact this
theorem len_fin (b : Nat) (c : Int) (hc : c = (b : Int)) (hb : b ≤ 56) (v q : Nat) (hq : q = v / 2 ^ b) (h1 : b = 0 ∨ 1 ≤ q) (hsz : q < Lib.len8tab.size) : wrap64 (c + wrap64 (Lib.len8tab[q].toNat : Int)) = (lenN v : Int) := by
  obtain ⟨e1, e2⟩ := tab_at q hsz
  have : lenN v = b + lenN q := by
    rcases h1 with rfl | h1
    · rw [hq, Nat.pow_zero, Nat.div_one, Nat.zero_add]
    · rw [hq]; exact len_shift (by rw [← hq]; exact h1)
  rw [e1, this, hc]
  unfold wrap64
  omega
set_option maxHeartbeats 1000000 in
theorem len64_int (x : Int) (w : World) (h0 : 0 ≤ x) (h1 : x ≤ 18446744073709551615) :
    Calls Tryd.prog 53 #[.int .u64 x] w fun e w' => e = .returned (.int .i64 (lenN x.toNat : Nat)) ∧ w' = w := by
  have hs : Lib.len8tab.size = 256 := Lib.len8tab_size
  have hu : Tryd.prog.underlying 9 = some .string := Tryd.underlying9
  go_enter Tryd.func53, Tryd.ntmps53
  go_wp2
  all_goals go_ret
  all_goals (refine ⟨congrArg Ending.returned (congrArg (Value.int IntKind.i64) ?_), rfl⟩)
  · exact len_fin 56 56 rfl (by omega) _ _ (by omega) (by omega) _
  · exact len_fin 48 48 rfl (by omega) _ _ (by omega) (by omega) _
  · exact len_fin 40 40 rfl (by omega) _ _ (by omega) (by omega) _
  · exact len_fin 32 32 rfl (by omega) _ _ (by omega) (by omega) _
  · exact len_fin 24 24 rfl (by omega) _ _ (by omega) (by omega) _
  · exact len_fin 16 16 rfl (by omega) _ _ (by omega) (by omega) _
  · exact len_fin 8 8 rfl (by omega) _ _ (by omega) (by omega) _
  · have := len_fin 0 0 rfl (by omega) x.toNat x.toNat (by omega) (by omega) (by rw [hs]; omega)
    rwa [Int.zero_add] at this
theorem len64_any (v : Nat) (hv : v < 18446744073709551616) (w : World) :
    Calls Tryd.prog 53 #[.int .u64 v] w fun e w' => e = .returned (.int .i64 (lenN v : Nat)) ∧ w' = w := by
  have := len64_int (v : Int) w (by omega) (by omega)
  rwa [Int.toNat_natCast] at this
theorem lenN_log {v : Nat} (h : v ≠ 0) : lenN v = v.log2 + 1 := by unfold lenN; rw [if_neg h]
theorem lenN_b {v : Nat} (h : 64 ≤ v) (hv : v < 18446744073709551616) : 7 ≤ lenN v ∧ lenN v ≤ 64 := by
  rw [lenN_log (by omega)]
  obtain ⟨l1, l2⟩ := log2_le (v := v) (by omega)
  constructor
  · rcases Nat.lt_or_ge v.log2 6 with h6 | h6
    · have := Nat.pow_le_pow_right (n := 2) (by omega) (show v.log2 + 1 ≤ 6 by omega)
      omega
    · omega
  · rcases Nat.lt_or_ge v.log2 64 with h6 | h6
    · omega
    · have := Nat.pow_le_pow_right (n := 2) (by omega) h6
      omega
theorem index_eq {v : Nat} (h : 64 ≤ v) (hv : v < 18446744073709551616) : wrap64 (64 + 32 * ((lenN v : Int) - 1 - 6) + wrap64 (wrap64 ((v : Int) / 2 ^ (lenN v - 1 - 5)) - 32)) = (idxN v : Int) := by
  obtain ⟨b1, b2⟩ := lenN_b h hv
  have hi := idxN_lt hv
  have e : ((v : Int) / 2 ^ (lenN v - 1 - 5)) = ((v / 2 ^ (lenN v - 1 - 5) : Nat) : Int) := by
    rw [Int.natCast_ediv, Int.natCast_pow]
    rfl
  have hx : idxN v = 32 * (v.log2 - 6) + 32 + v / 2 ^ (v.log2 - 5) := by unfold idxN; rw [if_neg (by omega)]
  rw [lenN_log (by omega)] at *
  rw [e, show v.log2 + 1 - 1 - 5 = v.log2 - 5 by omega]
  generalize v / 2 ^ (v.log2 - 5) = q at *
  unfold wrap64
  omega
theorem ret_span {a b a' b' : Int} (h1 : a = a') (h2 : b = b') : Ending.returned (.tuple #[.int .u64 a, .int .u64 b, .int .i64 0]) = Ending.returned (.tuple #[.int .u64 a', .int .u64 b', .int .i64 0]) := by rw [h1, h2]
theorem lo_eq {i : Nat} (h : 64 ≤ i) (h' : i < 1920) : IntKind.u64.wrap ((32 + ((i : Int) - 64) % 32) * 2 ^ (6 + (i - 64) / 32 - 5)) = (loN i : Int) := by
  have hl := lo_le_hi i
  have hh := hi_lt h'
  obtain ⟨k, m, hi, hm, ek, em⟩ := bar_parts h
  have e : loN i = (32 + m) * 2 ^ (k + 1) := by unfold loN; rw [if_neg (by omega), ek, em]
  have e2 : (32 + ((i : Int) - 64) % 32) * 2 ^ (6 + (i - 64) / 32 - 5) = (((32 + m) * 2 ^ (k + 1) : Nat) : Int) := by
    rw [ek, show 6 + k - 5 = k + 1 by omega, show (32 + ((i : Int) - 64) % 32) = ((32 + m : Nat) : Int) by omega, Int.natCast_mul, Int.natCast_pow]
    rfl
  rw [e2, ← e, IntKind.wrap_u64]
  omega
theorem hi_eq {i : Nat} (h : 64 ≤ i) (h' : i < 1920) : IntKind.u64.wrap (IntKind.u64.wrap ((32 + ((i : Int) - 64) % 32) * 2 ^ (6 + (i - 64) / 32 - 5)) + IntKind.u64.wrap (IntKind.u64.wrap (2 ^ (6 + (i - 64) / 32 - 5)) - 1)) = (hiN i : Int) := by
  rw [lo_eq h h']
  have hl := lo_le_hi i
  have hh := hi_lt h'
  obtain ⟨k, m, hi, hm, ek, em⟩ := bar_parts h
  have e : loN i = (32 + m) * 2 ^ (k + 1) := by unfold loN; rw [if_neg (by omega), ek, em]
  have e' : hiN i = loN i + (2 ^ (k + 1) - 1) := by unfold hiN loN; rw [if_neg (by omega), if_neg (by omega), ek, em]
  have hp := two_pos (k + 1)
  have e2 : (2 : Int) ^ (6 + (i - 64) / 32 - 5) = ((2 ^ (k + 1) : Nat) : Int) := by
    rw [ek, show 6 + k - 5 = k + 1 by omega, Int.natCast_pow]
    rfl
  rw [e2, IntKind.wrap_u64, IntKind.wrap_u64, IntKind.wrap_u64]
  omega
end Go.Proofs.YtpcfchbiohbcoaaDoor.sk

namespace Go.Proofs.YtpcfchbiohbcoaaDoor.sk
open Go.RowKit
set_option maxRecDepth 100000

theorem row_shape {base : Nat} {w : World} {e : TypeId} {size n : Nat} {v : Value} {xs : List Value} (h : w.ownsRow base e size v n xs) : ∃ ao l c, v = .slice ao l c := by
  rcases h.2 with ⟨rfl, _⟩ | ⟨g, cap, cur, rfl, _⟩
  · exact ⟨_, _, _, rfl⟩
  · exact ⟨_, _, _, rfl⟩
theorem cell_upd {S : Nat → Prop} {w w' : World} (hu : Upd S w w') {a : Addr} {v : Value} (h : w.cell? a = some v) (hS : ¬ S a.block) : w'.cell? a = some v := by
  have hlt := World.block_lt_of_cell? w a h
  have hb := hu.block a.block hlt hS
  unfold World.cell? at h ⊢
  rw [hb]; exact h
theorem own_some {base : Nat} {w : World} {e : TypeId} {size : Nat} {v : Value} {n : Nat} {xs : List Value} (h : w.ownsRow base e size v n xs) (hn : 0 < n) : ∃ g cap, v = .slice (some ⟨g, 0, none⟩) n cap ∧ n ≤ cap ∧ cap ≤ maxLen ∧ base ≤ g ∧ ∀ j u, xs[j]? = some u → w.cell? ⟨g, j, none⟩ = some u := by
  have h0 := h
  rcases h.2 with ⟨rfl, h1⟩ | ⟨g, cap, cur, rfl, hb, hg, h1, h2, _⟩
  · omega
  · refine ⟨g, cap, rfl, h1, h2, hb, fun j u hj => ?_⟩
    have := h0.cells (g := g) rfl j u hj
    rw [Addr.add_lit, Nat.zero_add] at this
    exact this
theorem own_cap {base : Nat} {w : World} {e : TypeId} {size : Nat} {ao : Option Addr} {l c : Nat} {n : Nat} {xs : List Value} (h : w.ownsRow base e size (.slice ao l c) n xs) : l = n ∧ n ≤ c ∧ c ≤ maxLen := by
  rcases h.2 with ⟨e, h1⟩ | ⟨g, cap, cur, e, hb, hg, h1, h2, _⟩
  · simp at e; obtain ⟨rfl, rfl, rfl⟩ := e; simp [h1, maxLen]
  · simp at e; obtain ⟨rfl, rfl, rfl⟩ := e; exact ⟨rfl, h1, h2⟩
theorem blk_cell {w : World} {g : Nat} {cs : Array Value} {t : TypeId} {fz : Nat × Nat} (h : w.heap[g]? = some (.cells cs t fz)) (j : Nat) {u : Value} (hu : cs[j]? = some u) : w.cell? ⟨g, j, none⟩ = some u := by
  simp [World.cell?, h, hu]
theorem blk_free {w : World} {g : Nat} {cs : Array Value} {t : TypeId} (h : w.heap[g]? = some (.cells cs t (0, 0))) (j : Nat) : w.frozen? ⟨g, j, none⟩ = false := by
  simp [World.frozen?, h]
theorem ne_of_types {w : World} {a b : Nat} {c d : Array Value} {s t : TypeId} {f h : Nat × Nat} (h1 : w.heap[a]? = some (.cells c s f)) (h2 : w.heap[b]? = some (.cells d t h)) (hne : s ≠ t) : a ≠ b := by
  rintro rfl
  rw [h1] at h2
  simp at h2
  exact hne h2.2.1
theorem set_block {w : World} {B : Nat} {cs : Array Value} {t : TypeId} {fr : Nat × Nat} (h : w.heap[B]? = some (.cells cs t fr)) (i : Nat) (v : Value) : (w.setCell ⟨B, i, none⟩ v).heap[B]? = some (.cells (cs.setIfInBounds i v) t fr) := by
  have hlt := lt_of_block h
  have h' : w.heap[B] = .cells cs t fr := by simpa [Array.getElem?_eq_getElem hlt] using h
  show (w.heap.modify B _)[B]? = _
  rw [Array.getElem?_eq_getElem (by simpa using hlt), Array.getElem_modify_self, h']
  rfl
theorem own_block {base : Nat} {w : World} {e : TypeId} {size : Nat} {v : Value} {n : Nat} {xs : List Value} (h : w.ownsRow base e size v n xs) {k : Nat} (hk : v.ownBlock = some k) : base ≤ k ∧ ∃ cs fz, w.heap[k]? = some (.cells cs e fz) := by
  rcases h.2 with ⟨rfl, _⟩ | ⟨g, cap, cur, rfl, hg, hh, _⟩
  · simp [Value.ownBlock] at hk
  · simp [Value.ownBlock] at hk; subst hk; exact ⟨hg, _, _, hh⟩
theorem own_base {w : World} {b b' : Nat} {e : TypeId} {size : Nat} {v : Value} {n : Nat} {xs : List Value} (h : w.ownsRow b e size v n xs) (hb : b' ≤ b) : w.ownsRow b' e size v n xs := by
  obtain ⟨h1, h2⟩ := h
  refine ⟨h1, ?_⟩
  rcases h2 with h2 | ⟨g, cap, cur, rfl, hg, r⟩
  · exact Or.inl h2
  · exact Or.inr ⟨g, cap, cur, rfl, Nat.le_trans hb hg, r⟩
theorem upd_one (w : World) (b i : Nat) (v : Value) : Upd (fun k => k = b) w (w.setCell ⟨b, i, none⟩ v) := Upd.setCell (S := fun k => k = b) (p := ⟨b, i, none⟩) (Upd.refl _ w) (fun _ => rfl) v
theorem ownsRow_set {w : World} {base : Nat} {e : TypeId} {s g n cap : Nat} {xs : List Value} (h : w.ownsRow base e s (.slice (some ⟨g, 0, none⟩) n cap) n xs) (i : Nat) (v : Value) :
    (w.setCell ⟨g, i, none⟩ v).ownsRow base e s (.slice (some ⟨g, 0, none⟩) n cap) n (xs.set i v) := by
  obtain ⟨h1, h2⟩ := h
  rcases h2 with ⟨h2, _⟩ | ⟨g', cap', cur, y0, y1, y2, y3, y4, y5, y6⟩
  · cases h2
  · injection y0 with z1 z2 z3
    injection z1 with z1
    injection z1 with z1
    subst z1; subst z3
    refine ⟨by simpa using h1, Or.inr ⟨g, cap, cur.setIfInBounds i v, rfl, y1, set_block y2 i v, y3, y4, by simpa using y5, ?_⟩⟩
    rw [← y6]
    rw [Array.toList_setIfInBounds, List.take_set]
end Go.Proofs.YtpcfchbiohbcoaaDoor.sk
