/-
  Merged: SkA, SkB, SkC.
-/
import Derived.WalkKit
import Derived.Test.YtiflfapdffkcbaaGreatDoorMw
import Derived.Test.YtiflfapdffkcbaaGreatDoorProg
import Derived.Lib.Walk
import Derived.Lib.BitFns
import Derived.Deep.QuietTactic
import Derived.BigQuiet
import Derived.WalkMore
import Derived.Handy
namespace Go.Proofs.YtiflfapdffkcbaaGreatDoor.sk
set_option maxRecDepth 100000

def idxN (v : Nat) : Nat := if v < 64 then v else 32 * (v.log2 - 6) + 32 + v / 2 ^ (v.log2 - 5)
def loN (i : Nat) : Nat := if i < 64 then i else (32 + (i - 64) % 32) * 2 ^ ((i - 64) / 32 + 1)
def hiN (i : Nat) : Nat := if i < 64 then i else (32 + (i - 64) % 32) * 2 ^ ((i - 64) / 32 + 1) + (2 ^ ((i - 64) / 32 + 1) - 1)

theorem two_pos (k : Nat) : 1 ≤ 2 ^ k := Nat.one_le_two_pow
theorem log2_of {v k : Nat} (h1 : 2 ^ k ≤ v) (h2 : v < 2 ^ (k + 1)) : v.log2 = k := by
  have h0 : v ≠ 0 := by have := two_pos k; omega
  exact (Nat.log2_eq_iff h0).mpr ⟨h1, h2⟩
theorem log2_le {v : Nat} (h : v ≠ 0) : 2 ^ v.log2 ≤ v ∧ v < 2 ^ (v.log2 + 1) := (Nat.log2_eq_iff h).mp rfl
theorem lo_le_hi (i : Nat) : loN i ≤ hiN i := by
  unfold loN hiN
  split
  · exact Nat.le_refl _
  · omega
theorem bar_parts {i : Nat} (h : 64 ≤ i) : ∃ k m, i = 64 + 32 * k + m ∧ m < 32 ∧ (i - 64) / 32 = k ∧ (i - 64) % 32 = m := ⟨(i - 64) / 32, (i - 64) % 32, by omega, by omega, rfl, rfl⟩
theorem idx_of {i v : Nat} (h1 : loN i ≤ v) (h2 : v ≤ hiN i) : idxN v = i := by
  by_cases h : i < 64
  · unfold loN at h1
    unfold hiN at h2
    rw [if_pos h] at h1 h2
    unfold idxN
    rw [if_pos (by omega)]
    omega
  · obtain ⟨k, m, hi, hm, ek, em⟩ := bar_parts (i := i) (by omega)
    unfold loN at h1
    unfold hiN at h2
    rw [if_neg h, ek, em] at h1 h2
    have hp := two_pos (k + 1)
    have e6 : 2 ^ (k + 6) = 32 * 2 ^ (k + 1) := by rw [show k + 6 = (k + 1) + 5 by omega, Nat.pow_add]; omega
    have e7 : 2 ^ (k + 6 + 1) = 64 * 2 ^ (k + 1) := by rw [show k + 6 + 1 = (k + 1) + 6 by omega, Nat.pow_add]; omega
    have e1 : 2 ^ (k + 1) = 2 * 2 ^ k := by rw [Nat.pow_add]; omega
    have hk := two_pos k
    generalize hP : 2 ^ (k + 1) = p at *
    have m1 : 32 * p ≤ (32 + m) * p := Nat.mul_le_mul_right _ (by omega)
    have m2 : (32 + m) * p + p ≤ 64 * p := by
      have := Nat.mul_le_mul_right p (show 32 + m + 1 ≤ 64 by omega)
      rw [Nat.add_mul (32 + m) 1 p] at this
      omega
    have hl : v.log2 = k + 6 := log2_of (by omega) (by omega)
    have hd : v / p = 32 + m := by
      rw [Nat.div_eq_iff (by omega)]
      omega
    unfold idxN
    rw [if_neg (by omega), hl, show k + 6 - 5 = k + 1 by omega, hP, hd]
    omega
theorem idx_span (v : Nat) : loN (idxN v) ≤ v ∧ v ≤ hiN (idxN v) := by
  by_cases h : v < 64
  · have e : idxN v = v := by unfold idxN; rw [if_pos h]
    unfold loN hiN
    rw [e, if_pos h, if_pos h]
    omega
  · obtain ⟨l1, l2⟩ := log2_le (v := v) (by omega)
    have e6 : 6 ≤ v.log2 := by
      rcases Nat.lt_or_ge v.log2 6 with h6 | h6
      · have := Nat.pow_le_pow_right (n := 2) (by omega) (show v.log2 + 1 ≤ 6 by omega)
        omega
      · exact h6
    obtain ⟨k, hk⟩ : ∃ k, v.log2 = k + 6 := ⟨v.log2 - 6, by omega⟩
    have e1 : idxN v = 32 * k + 32 + v / 2 ^ (k + 1) := by
      unfold idxN
      rw [if_neg h, hk, show k + 6 - 6 = k by omega, show k + 6 - 5 = k + 1 by omega]
    have e6 : 2 ^ (k + 6) = 32 * 2 ^ (k + 1) := by rw [show k + 6 = (k + 1) + 5 by omega, Nat.pow_add]; omega
    have e7 : 2 ^ (k + 6 + 1) = 64 * 2 ^ (k + 1) := by rw [show k + 6 + 1 = (k + 1) + 6 by omega, Nat.pow_add]; omega
    rw [hk] at l1 l2
    have hp := two_pos (k + 1)
    have q1 : 32 ≤ v / 2 ^ (k + 1) := (Nat.le_div_iff_mul_le (by omega)).mpr (by omega)
    have q2 : v / 2 ^ (k + 1) < 64 := (Nat.div_lt_iff_lt_mul (by omega)).mpr (by omega)
    have dm := Nat.div_add_mod v (2 ^ (k + 1))
    have ml := Nat.mod_lt v (show 2 ^ (k + 1) > 0 by omega)
    have a : (idxN v - 64) / 32 = k := by omega
    have b : (idxN v - 64) % 32 = v / 2 ^ (k + 1) - 32 := by omega
    unfold loN hiN
    rw [if_neg (by omega), if_neg (by omega), a, b, show 32 + (v / 2 ^ (k + 1) - 32) = v / 2 ^ (k + 1) by omega, Nat.mul_comm (v / 2 ^ (k + 1))]
    omega
theorem idxN_lt {v : Nat} (h : v < 18446744073709551616) : idxN v < 1920 := by
  unfold idxN
  split
  · omega
  · obtain ⟨l1, l2⟩ := log2_le (v := v) (by omega)
    have e64 : v.log2 < 64 := by
      rcases Nat.lt_or_ge v.log2 64 with h6 | h6
      · exact h6
      · have := Nat.pow_le_pow_right (n := 2) (by omega) h6
        omega
    have e6 : 6 ≤ v.log2 := by
      rcases Nat.lt_or_ge v.log2 6 with h6 | h6
      · have := Nat.pow_le_pow_right (n := 2) (by omega) (show v.log2 + 1 ≤ 6 by omega)
        omega
      · exact h6
    have hp := two_pos (v.log2 - 5)
    have e7 : 2 ^ (v.log2 + 1) = 64 * 2 ^ (v.log2 - 5) := by rw [show v.log2 + 1 = (v.log2 - 5) + 6 by omega, Nat.pow_add]; omega
    have q2 : v / 2 ^ (v.log2 - 5) < 64 := (Nat.div_lt_iff_lt_mul (by omega)).mpr (by omega)
    omega
theorem lo_next (i : Nat) : loN (i + 1) = hiN i + 1 := by
  by_cases h : i < 63
  · unfold loN hiN
    rw [if_pos (by omega), if_pos (by omega)]
  · by_cases h' : i = 63
    · subst h'; decide
    · obtain ⟨k, m, hi, hm, ek, em⟩ := bar_parts (i := i) (by omega)
      have hp := two_pos (k + 1)
      unfold loN hiN
      rw [if_neg (by omega), if_neg (by omega), ek, em]
      by_cases hm31 : m = 31
      · rw [show (i + 1 - 64) / 32 = k + 1 by omega, show (i + 1 - 64) % 32 = 0 by omega, hm31, show k + 1 + 1 = (k + 1) + 1 by omega, Nat.pow_succ 2 (k + 1)]
        omega
      · rw [show (i + 1 - 64) / 32 = k by omega, show (i + 1 - 64) % 32 = m + 1 by omega, show 32 + (m + 1) = (32 + m) + 1 by omega, Nat.add_mul (32 + m) 1]
        omega
theorem hi_last : hiN 1919 = 18446744073709551615 := by decide
theorem lo_first : loN 0 = 0 := by decide
theorem hi_lt_lo {i : Nat} : ∀ {j : Nat}, i < j → hiN i < loN j
  | 0, h => by omega
  | j + 1, h => by
    rw [lo_next]
    rcases Nat.lt_or_ge i j with h1 | h1
    · have := hi_lt_lo h1
      have := lo_le_hi j
      omega
    · obtain rfl : i = j := by omega
      omega
theorem idx_mono {u v : Nat} (h : u ≤ v) : idxN u ≤ idxN v := by
  rcases Nat.lt_or_ge (idxN v) (idxN u) with h1 | h1
  · have := hi_lt_lo h1
    have a := idx_span u
    have b := idx_span v
    omega
  · exact h1
theorem hi_lt {i : Nat} (h : i < 1920) : hiN i < 18446744073709551616 := by
  rcases Nat.lt_or_ge i 1919 with h1 | h1
  · have a := hi_lt_lo h1
    have b := lo_le_hi 1919
    rw [hi_last] at b
    omega
  · obtain rfl : i = 1919 := by omega
    rw [hi_last]; omega
theorem lo_mono {i j : Nat} (h : i ≤ j) : loN i ≤ loN j ∧ hiN i ≤ hiN j := by
  rcases Nat.lt_or_ge i j with h1 | h1
  · have a := hi_lt_lo h1
    have b := lo_le_hi i
    have c := lo_le_hi j
    omega
  · obtain rfl : i = j := by omega
    omega
theorem wide_of {i : Nat} (h : 64 ≤ i) : hiN i - loN i ≤ loN i / 32 := by
  obtain ⟨k, m, hi, hm, ek, em⟩ := bar_parts h
  have hp := two_pos (k + 1)
  unfold loN hiN
  rw [if_neg (by omega), if_neg (by omega), ek, em]
  have m1 : 32 * 2 ^ (k + 1) ≤ (32 + m) * 2 ^ (k + 1) := Nat.mul_le_mul_right _ (by omega)
  omega
theorem idx_ge {v : Nat} (h : 64 ≤ v) : 64 ≤ idxN v := by
  have := idx_mono h
  have e : idxN 64 = 64 := by decide
  omega
theorem idx_small {v : Nat} (h : v < 64) : idxN v = v ∧ loN v = v ∧ hiN v = v := by
  refine ⟨?_, ?_, ?_⟩
  · unfold idxN; rw [if_pos h]
  · unfold loN; rw [if_pos h]
  · unfold hiN; rw [if_pos h]
end Go.Proofs.YtiflfapdffkcbaaGreatDoor.sk

namespace Go.Proofs.YtiflfapdffkcbaaGreatDoor.sk
set_option maxRecDepth 100000

def topC : Nat := 18446744073709551615
theorem topC_eq : topC = 18446744073709551615 := rfl
/-- May these bars be, behind the bar a? -/
def chkF (a : Int) : List (Int × Int) → Bool
  | [] => true
  | b :: l => !(decide (b.1 ≤ a)) && !(decide (1920 ≤ b.1)) && !(b.2 == 0) && chkF b.1 l
theorem chkF_cons (a : Int) (b : Int × Int) (l : List (Int × Int)) : chkF a (b :: l) = (!(decide (b.1 ≤ a)) && !(decide (1920 ≤ b.1)) && !(b.2 == 0) && chkF b.1 l) := rfl
theorem chkF_iff : ∀ {l : List (Int × Int)} {a : Int}, chkF a l = true ↔ (∀ b ∈ l, a < b.1 ∧ b.1 < 1920 ∧ b.2 ≠ 0) ∧ l.Pairwise fun x y => x.1 < y.1
  | [], a => by simp [chkF]
  | b :: l, a => by
    have ih := chkF_iff (l := l) (a := b.1)
    rw [chkF_cons, Bool.and_eq_true, Bool.and_eq_true, Bool.and_eq_true, ih, List.pairwise_cons]
    simp only [Bool.not_eq_true', decide_eq_false_iff_not, beq_eq_false_iff_ne, ne_eq, List.mem_cons]
    constructor
    · rintro ⟨⟨⟨h1, h2⟩, h3⟩, h4, h5⟩
      refine ⟨?_, fun y hy => (h4 y hy).1, h5⟩
      rintro y (rfl | hy)
      · exact ⟨by omega, by omega, h3⟩
      · have := h4 y hy
        exact ⟨by omega, this.2.1, this.2.2⟩
    · rintro ⟨h1, h2, h3⟩
      have hb := h1 b (Or.inl rfl)
      refine ⟨⟨⟨by omega, by omega⟩, hb.2.2⟩, fun y hy => ?_, h3⟩
      have := h1 y (Or.inr hy)
      exact ⟨h2 y hy, this.2.1, this.2.2⟩

def cntF : List (Int × Int) → Nat → Nat
  | [], _ => 0
  | b :: l, i => if b.1 = (i : Int) then b.2.toNat else cntF l i
theorem cntF_cons (b : Int × Int) (l : List (Int × Int)) (i : Nat) : cntF (b :: l) i = if b.1 = (i : Int) then b.2.toNat else cntF l i := rfl
theorem cntF_none : ∀ {l : List (Int × Int)} {i : Nat}, (∀ b ∈ l, b.1 ≠ (i : Int)) → cntF l i = 0
  | [], _, _ => rfl
  | b :: l, i, h => by
    rw [cntF_cons, if_neg (h b (List.mem_cons_self ..))]
    exact cntF_none fun y hy => h y (List.mem_cons_of_mem _ hy)
theorem cntF_snoc_ne {x : Int × Int} {i : Nat} (hx : x.1 ≠ (i : Int)) : ∀ l : List (Int × Int), cntF (l ++ [x]) i = cntF l i
  | [] => by rw [List.nil_append, cntF_cons, if_neg hx]
  | b :: l => by rw [List.cons_append, cntF_cons, cntF_cons, cntF_snoc_ne hx l]
theorem cntF_snoc_eq {x : Int × Int} {i : Nat} (hx : x.1 = (i : Int)) : ∀ {l : List (Int × Int)}, (∀ b ∈ l, b.1 ≠ (i : Int)) → cntF (l ++ [x]) i = x.2.toNat
  | [], _ => by rw [List.nil_append, cntF_cons, if_pos hx]
  | b :: l, h => by
    rw [List.cons_append, cntF_cons, if_neg (h b (List.mem_cons_self ..))]
    exact cntF_snoc_eq hx fun y hy => h y (List.mem_cons_of_mem _ hy)
theorem cntF_mem : ∀ {l : List (Int × Int)} {a : Int}, chkF a l = true → -1 ≤ a → ∀ b ∈ l, cntF l b.1.toNat = b.2.toNat
  | [], _, _, _, b, hb => by cases hb
  | c :: l, a, h, ha, b, hb => by
    have h' := chkF_iff.mp h
    rcases List.mem_cons.mp hb with rfl | hb
    · have := (h'.1 b (List.mem_cons_self ..)).1
      rw [cntF_cons, if_pos (by omega)]
    · have hc := (h'.1 c (List.mem_cons_self ..)).1
      have hlt := (List.pairwise_cons.mp h'.2).1 b hb
      rw [cntF_cons, if_neg (by omega)]
      rw [chkF_cons, Bool.and_eq_true] at h
      exact cntF_mem h.2 (by omega) b hb
/-- One list for one function. -/
theorem bars_ext : ∀ {l m : List (Int × Int)} {a : Int}, -1 ≤ a → chkF a l = true → chkF a m = true → (∀ b ∈ l, 0 ≤ b.2) → (∀ b ∈ m, 0 ≤ b.2) → (∀ i : Nat, i < 1920 → a < (i : Int) → cntF l i = cntF m i) → l = m
  | [], [], _, _, _, _, _, _, _ => rfl
  | [], c :: m, a, ha, _, hm, _, pm, he => by
    have hc := (chkF_iff.mp hm).1 c (List.mem_cons_self ..)
    have h1 := he c.1.toNat (by omega) (by omega)
    have p := pm c (List.mem_cons_self ..)
    rw [cntF_cons, if_pos (by omega)] at h1
    have : cntF [] c.1.toNat = 0 := rfl
    omega
  | b :: l, [], a, ha, hl, _, pl, _, he => by
    have hc := (chkF_iff.mp hl).1 b (List.mem_cons_self ..)
    have h1 := he b.1.toNat (by omega) (by omega)
    have p := pl b (List.mem_cons_self ..)
    rw [cntF_cons, if_pos (by omega)] at h1
    have : cntF [] b.1.toNat = 0 := rfl
    omega
  | b :: l, c :: m, a, ha, hl, hm, pl, pm, he => by
    have hb := (chkF_iff.mp hl).1 b (List.mem_cons_self ..)
    have hc := (chkF_iff.mp hm).1 c (List.mem_cons_self ..)
    have qb := pl b (List.mem_cons_self ..)
    have qc := pm c (List.mem_cons_self ..)
    have wl := (List.pairwise_cons.mp (chkF_iff.mp hl).2).1
    have wm := (List.pairwise_cons.mp (chkF_iff.mp hm).2).1
    have e1 : b.1 = c.1 := by
      rcases Int.lt_trichotomy b.1 c.1 with h | h | h
      · have h1 := he b.1.toNat (by omega) (by omega)
        rw [cntF_cons, if_pos (by omega), cntF_cons, if_neg (by omega), cntF_none (fun y hy => by have := wm y hy; omega)] at h1
        omega
      · exact h
      · have h1 := he c.1.toNat (by omega) (by omega)
        rw [cntF_cons, if_neg (by omega), cntF_cons, if_pos (by omega), cntF_none (fun y hy => by have := wl y hy; omega)] at h1
        omega
    have e2 : b.2 = c.2 := by
      have h1 := he b.1.toNat (by omega) (by omega)
      rw [cntF_cons, if_pos (by omega), cntF_cons, if_pos (by omega)] at h1
      omega
    have e : b = c := Prod.ext e1 e2
    subst e
    rw [chkF_cons, Bool.and_eq_true] at hl hm
    have IH := bars_ext (by omega) hl.2 hm.2 (fun y hy => pl y (List.mem_cons_of_mem _ hy)) (fun y hy => pm y (List.mem_cons_of_mem _ hy)) (fun i h1 h2 => by
      have := he i h1 (by omega)
      rwa [cntF_cons, if_neg (by omega), cntF_cons, if_neg (by omega)] at this)
    rw [IH]

def barsN (f : Nat → Nat) : Nat → List (Int × Int)
  | 0 => []
  | n + 1 => barsN f n ++ if f n = 0 then [] else [((n : Int), (f n : Int))]
def barsF (f : Nat → Nat) : List (Int × Int) := barsN f 1920
theorem barsN_succ (f : Nat → Nat) (n : Nat) : barsN f (n + 1) = barsN f n ++ if f n = 0 then [] else [((n : Int), (f n : Int))] := rfl
theorem barsF_eq (f : Nat → Nat) : barsF f = barsN f 1920 := rfl
theorem barsN_mem {f : Nat → Nat} : ∀ {n : Nat} {b : Int × Int}, b ∈ barsN f n → ∃ i : Nat, i < n ∧ b = ((i : Int), (f i : Int)) ∧ f i ≠ 0
  | 0, _, h => by cases h
  | n + 1, b, h => by
    rw [barsN_succ, List.mem_append] at h
    rcases h with h | h
    · obtain ⟨i, h1, h2⟩ := barsN_mem h
      exact ⟨i, by omega, h2⟩
    · split at h
      · cases h
      · rename_i hn
        rw [List.mem_singleton] at h
        exact ⟨n, by omega, h, hn⟩
theorem barsN_chk (f : Nat → Nat) {n : Nat} (hn : n ≤ 1920) : chkF (-1) (barsN f n) = true := by
  rw [chkF_iff]
  constructor
  · intro b hb
    obtain ⟨i, h1, rfl, h2⟩ := barsN_mem hb
    simp only
    omega
  · clear hn
    induction n with
    | zero => exact List.Pairwise.nil
    | succ n ih =>
      rw [barsN_succ, List.pairwise_append]
      refine ⟨ih, ?_, ?_⟩
      · split
        · exact List.Pairwise.nil
        · exact List.pairwise_singleton _ _
      · intro x hx y hy
        obtain ⟨i, h1, rfl, _⟩ := barsN_mem hx
        split at hy
        · cases hy
        · rw [List.mem_singleton] at hy
          subst hy
          simp only
          omega
theorem barsF_chk (f : Nat → Nat) : chkF (-1) (barsF f) = true := barsN_chk f (Nat.le_refl _)
theorem barsN_cnt (f : Nat → Nat) : ∀ (n i : Nat), cntF (barsN f n) i = if i < n then f i else 0
  | 0, i => by rw [if_neg (by omega)]; rfl
  | n + 1, i => by
    have ih := barsN_cnt f n i
    rw [barsN_succ]
    by_cases h0 : f n = 0
    · rw [if_pos h0, List.append_nil, ih]
      by_cases h : i < n
      · rw [if_pos h, if_pos (by omega)]
      · rw [if_neg h]
        split
        · obtain rfl : i = n := by omega
          exact h0.symm
        · rfl
    · rw [if_neg h0]
      by_cases h : i = n
      · subst h
        rw [cntF_snoc_eq rfl (fun b hb => by obtain ⟨k, h1, rfl, _⟩ := barsN_mem hb; simp only; omega), if_pos (by omega)]
        simp
      · rw [cntF_snoc_ne (by simp only; omega), ih]
        by_cases h1 : i < n
        · rw [if_pos h1, if_pos (by omega)]
        · rw [if_neg h1, if_neg (by omega)]
theorem barsF_cnt (f : Nat → Nat) {i : Nat} (h : i < 1920) : cntF (barsF f) i = f i := by rw [barsF_eq, barsN_cnt, if_pos h]
theorem barsF_pos (f : Nat → Nat) : ∀ b ∈ barsF f, 0 ≤ b.2 := by
  intro b hb
  obtain ⟨i, _, rfl, _⟩ := barsN_mem hb
  simp
theorem bars_of {l : List (Int × Int)} (h : chkF (-1) l = true) (hp : ∀ b ∈ l, 0 ≤ b.2) : l = barsF (cntF l) :=
  bars_ext (by omega) h (barsF_chk _) hp (barsF_pos _) fun i h1 _ => (barsF_cnt _ h1).symm
theorem barsN_congr {f g : Nat → Nat} : ∀ {n : Nat}, (∀ i, i < n → f i = g i) → barsN f n = barsN g n
  | 0, _ => rfl
  | n + 1, h => by rw [barsN_succ, barsN_succ, barsN_congr (n := n) fun i hi => h i (by omega), h n (by omega)]
theorem barsF_congr {f g : Nat → Nat} (h : ∀ i, i < 1920 → f i = g i) : barsF f = barsF g := barsN_congr h
theorem barsF_inj {f g : Nat → Nat} (h : barsF f = barsF g) : ∀ i, i < 1920 → f i = g i := fun i hi => by rw [← barsF_cnt f hi, h, barsF_cnt g hi]
theorem barsN_le (f : Nat → Nat) : ∀ n, (barsN f n).length ≤ n
  | 0 => Nat.le_refl _
  | n + 1 => by
    have := barsN_le f n
    rw [barsN_succ, List.length_append]
    split <;> simp <;> omega
theorem barsN_pre (f : Nat → Nat) : ∀ {m n : Nat}, n ≤ m → ∃ r, barsN f m = barsN f n ++ r
  | 0, n, h => by obtain rfl : n = 0 := by omega
                  exact ⟨[], rfl⟩
  | m + 1, n, h => by
    rcases Nat.lt_or_ge m n with h1 | h1
    · obtain rfl : n = m + 1 := by omega
      exact ⟨[], by rw [List.append_nil]⟩
    · obtain ⟨r, hr⟩ := barsN_pre f h1
      rw [barsN_succ, hr, List.append_assoc]
      exact ⟨_, rfl⟩
def numF (f : Nat → Nat) : Nat := (barsF f).length
theorem numF_le (f : Nat → Nat) : numF f ≤ 1920 := barsN_le f 1920
theorem barsN_len_le (f : Nat → Nat) {n : Nat} (h : n ≤ 1920) : (barsN f n).length ≤ numF f := by
  obtain ⟨r, hr⟩ := barsN_pre f h
  unfold numF
  rw [barsF_eq, hr, List.length_append]
  omega
theorem barsN_whole (f : Nat → Nat) {n : Nat} (h : n ≤ 1920) (hl : numF f ≤ (barsN f n).length) : barsN f n = barsF f := by
  obtain ⟨r, hr⟩ := barsN_pre f h
  unfold numF at hl
  rw [barsF_eq, hr, List.length_append] at hl
  have : r = [] := List.eq_nil_of_length_eq_zero (by omega)
  rw [barsF_eq, hr, this, List.append_nil]

def setF (f : Nat → Nat) (i x : Nat) : Nat → Nat := fun j => if j = i then x else f j
theorem setF_same (f : Nat → Nat) (i x : Nat) : setF f i x i = x := by unfold setF; rw [if_pos rfl]
theorem setF_other {f : Nat → Nat} {i x j : Nat} (h : j ≠ i) : setF f i x j = f j := by unfold setF; rw [if_neg h]
theorem num_set (f : Nat → Nat) (i x : Nat) : ∀ n, i < n → (barsN (setF f i x) n).length + (if f i = 0 then 0 else 1) = (barsN f n).length + (if x = 0 then 0 else 1)
  | 0, h => by omega
  | n + 1, h => by
    rw [barsN_succ, barsN_succ, List.length_append, List.length_append]
    by_cases hn : i = n
    · subst hn
      rw [barsN_congr (f := setF f i x) (g := f) (fun j hj => setF_other (by omega)), setF_same]
      by_cases h1 : x = 0 <;> by_cases h2 : f i = 0 <;> simp [h1, h2]
    · have ih := num_set f i x n (by omega)
      rw [setF_other (f := f) (i := i) (x := x) (j := n) (by omega)]
      omega
theorem numF_set {f : Nat → Nat} {i x : Nat} (h : i < 1920) : numF (setF f i x) + (if f i = 0 then 0 else 1) = numF f + (if x = 0 then 0 else 1) := num_set f i x 1920 h
theorem numF_zero : numF (fun _ => 0) = 0 := by
  have : ∀ n, (barsN (fun _ => 0) n) = [] := by
    intro n
    induction n with
    | zero => rfl
    | succ n ih => rw [barsN_succ, ih]; rfl
  unfold numF
  rw [barsF_eq, this]
  rfl

def putF (f : Nat → Nat) (i m : Nat) : Nat → Nat := setF f i (min (f i + m) topC)
theorem putF_at (f : Nat → Nat) (i m j : Nat) : putF f i m j = if j = i then min (f i + m) topC else f j := rfl
theorem putF_le {f : Nat → Nat} (h : ∀ j, f j ≤ topC) (i m : Nat) : ∀ j, putF f i m j ≤ topC := by
  intro j
  rw [putF_at]
  split
  · omega
  · exact h j
def putsF : (Nat → Nat) → List (Int × Int) → Nat → Nat
  | f, [] => f
  | f, b :: l => putsF (putF f b.1.toNat b.2.toNat) l
theorem putsF_cons (f : Nat → Nat) (b : Int × Int) (l : List (Int × Int)) : putsF f (b :: l) = putsF (putF f b.1.toNat b.2.toNat) l := rfl
theorem putsF_at : ∀ {l : List (Int × Int)} {a : Int} {f : Nat → Nat}, -1 ≤ a → chkF a l = true → (∀ j, f j ≤ topC) → ∀ j, putsF f l j = min (f j + cntF l j) topC
  | [], a, f, _, _, hf, j => by
    have := hf j
    show f j = min (f j + 0) topC
    omega
  | b :: l, a, f, ha, h, hf, j => by
    have h' := chkF_iff.mp h
    have hb := h'.1 b (List.mem_cons_self ..)
    have wl := (List.pairwise_cons.mp h'.2).1
    rw [chkF_cons, Bool.and_eq_true] at h
    rw [putsF_cons, putsF_at (by omega) h.2 (putF_le hf _ _), putF_at, cntF_cons]
    by_cases hj : j = b.1.toNat
    · subst hj
      rw [if_pos rfl, if_pos (by omega), cntF_none (fun y hy => by have := wl y hy; omega)]
      omega
    · rw [if_neg hj, if_neg (by omega)]
theorem putsF_zero {l : List (Int × Int)} (h : chkF (-1) l = true) (hp : ∀ b ∈ l, b.2 ≤ 18446744073709551615) (j : Nat) : putsF (fun _ => 0) l j = cntF l j := by
  rw [putsF_at (by omega) h (fun _ => Nat.zero_le _)]
  have : cntF l j ≤ topC := by
    by_cases hm : ∃ b ∈ l, b.1 = (j : Int)
    · obtain ⟨b, hb, e⟩ := hm
      have := cntF_mem h (by omega) b hb
      rw [show b.1.toNat = j by omega] at this
      have := hp b hb
      rw [topC_eq]
      omega
    · rw [cntF_none fun b hb e => hm ⟨b, hb, e⟩]
      omega
  omega
theorem putsF_le : ∀ {l : List (Int × Int)} {f : Nat → Nat}, (∀ j, f j ≤ topC) → ∀ j, putsF f l j ≤ topC
  | [], _, h => h
  | b :: l, f, h => by
    rw [putsF_cons]
    exact putsF_le (putF_le h _ _)
/-- Taking all of a list: what is left, if there was as much. -/
def takeL : (Nat → Nat) → List (Int × Int) → Option (Nat → Nat)
  | f, [] => some f
  | f, b :: l => if f b.1.toNat < b.2.toNat then none else takeL (setF f b.1.toNat (f b.1.toNat - b.2.toNat)) l
theorem takeL_cons (f : Nat → Nat) (b : Int × Int) (l : List (Int × Int)) : takeL f (b :: l) = if f b.1.toNat < b.2.toNat then none else takeL (setF f b.1.toNat (f b.1.toNat - b.2.toNat)) l := rfl
theorem takeL_some : ∀ {l : List (Int × Int)} {a : Int} {f : Nat → Nat}, -1 ≤ a → chkF a l = true → (∀ j, cntF l j ≤ f j) → ∃ g, takeL f l = some g ∧ ∀ j, g j = f j - cntF l j
  | [], _, f, _, _, _ => ⟨f, rfl, fun j => rfl⟩
  | b :: l, a, f, ha, h, hf => by
    have h' := chkF_iff.mp h
    have hb := h'.1 b (List.mem_cons_self ..)
    have wl := (List.pairwise_cons.mp h'.2).1
    have h0 := hf b.1.toNat
    rw [cntF_cons, if_pos (by omega)] at h0
    rw [chkF_cons, Bool.and_eq_true] at h
    rw [takeL_cons, if_neg (by omega)]
    obtain ⟨g, e, hg⟩ := takeL_some (l := l) (a := b.1) (f := setF f b.1.toNat (f b.1.toNat - b.2.toNat)) (by omega) h.2 (fun j => by
      by_cases hj : j = b.1.toNat
      · subst hj
        rw [cntF_none (fun y hy => by have := wl y hy; omega)]
        exact Nat.zero_le _
      · rw [setF_other hj]
        have := hf j
        rwa [cntF_cons, if_neg (by omega)] at this)
    refine ⟨g, e, fun j => ?_⟩
    rw [hg j, cntF_cons]
    by_cases hj : j = b.1.toNat
    · subst hj
      rw [setF_same, if_pos (by omega), cntF_none (fun y hy => by have := wl y hy; omega)]
      omega
    · rw [setF_other hj, if_neg (by omega)]
theorem takeL_none : ∀ {l : List (Int × Int)} {a : Int} {f : Nat → Nat}, -1 ≤ a → chkF a l = true → (∃ j, f j < cntF l j) → takeL f l = none
  | [], _, f, _, _, ⟨j, hj⟩ => by
    have : cntF [] j = 0 := rfl
    omega
  | b :: l, a, f, ha, h, ⟨j, hj⟩ => by
    have h' := chkF_iff.mp h
    have hb := h'.1 b (List.mem_cons_self ..)
    have wl := (List.pairwise_cons.mp h'.2).1
    rw [chkF_cons, Bool.and_eq_true] at h
    rw [takeL_cons]
    split
    · rfl
    · rename_i hn
      refine takeL_none (by omega) h.2 ⟨j, ?_⟩
      rw [cntF_cons] at hj
      by_cases hjb : j = b.1.toNat
      · subst hjb
        rw [if_pos (by omega)] at hj
        omega
      · rw [if_neg (by omega)] at hj
        rwa [setF_other hjb]
/-- All of them together. -/
def sumB (l : List (Int × Int)) : Nat := (l.map fun b => b.2.toNat).sum
theorem sumB_snoc (l : List (Int × Int)) (b : Int × Int) : sumB (l ++ [b]) = sumB l + b.2.toNat := by
  unfold sumB
  rw [List.map_append, List.sum_append]
  simp
theorem sumB_take (l : List (Int × Int)) (k : Nat) (h : k < l.length) : sumB (l.take (k + 1)) = sumB (l.take k) + l[k].2.toNat := by
  rw [List.take_succ_eq_append_getElem h, sumB_snoc]
theorem sumB_le {l : List (Int × Int)} (hp : ∀ b ∈ l, b.2 ≤ 18446744073709551615) : sumB l ≤ l.length * 18446744073709551615 := by
  induction l with
  | nil => exact Nat.le_refl _
  | cons b l ih =>
    have := ih fun y hy => hp y (List.mem_cons_of_mem _ hy)
    have := hp b (List.mem_cons_self ..)
    unfold sumB at *
    simp only [List.map_cons, List.sum_cons, List.length_cons]
    omega
theorem chk_len : ∀ {l : List (Int × Int)} {a : Int}, -1 ≤ a → chkF a l = true → (l.length : Int) ≤ 1919 - min a 1919
  | [], a, _, _ => by simp; omega
  | b :: l, a, ha, h => by
    have hb := (chkF_iff.mp h).1 b (List.mem_cons_self ..)
    rw [chkF_cons, Bool.and_eq_true] at h
    have := chk_len (by omega) h.2
    simp only [List.length_cons]
    omega
end Go.Proofs.YtiflfapdffkcbaaGreatDoor.sk

namespace Go.Proofs.YtiflfapdffkcbaaGreatDoor.sk
open Go.RowKit
set_option maxRecDepth 100000

def lenN (v : Nat) : Nat := if v = 0 then 0 else v.log2 + 1
theorem tab8 : ∀ n : Fin 256, ((Lib.len8tab.data[n.val]?).getD 0).toNat = lenN n.val ∧ lenN n.val ≤ 8 := by decide +kernel
theorem len_shift {v b : Nat} (h : 1 ≤ v / 2 ^ b) : lenN v = b + lenN (v / 2 ^ b) := by
  have hb := two_pos b
  obtain ⟨l1, l2⟩ := log2_le (v := v / 2 ^ b) (by omega)
  have hv : v ≠ 0 := by rintro rfl; rw [Nat.zero_div] at h; omega
  have dm := Nat.div_add_mod v (2 ^ b)
  have ml := Nat.mod_lt v (show 2 ^ b > 0 by omega)
  have : v.log2 = b + (v / 2 ^ b).log2 := by
    refine log2_of ?_ ?_
    · rw [Nat.pow_add]
      have := Nat.mul_le_mul_left (2 ^ b) l1
      omega
    · rw [Nat.add_assoc, Nat.pow_add]
      have := Nat.mul_le_mul_left (2 ^ b) (show v / 2 ^ b + 1 ≤ 2 ^ ((v / 2 ^ b).log2 + 1) by omega)
      rw [Nat.mul_add] at this
      omega
  unfold lenN
  rw [if_neg hv, if_neg (by omega), this]
  omega
theorem tab_at (q : Nat) (h : q < Lib.len8tab.size) : Lib.len8tab[q].toNat = lenN q ∧ lenN q ≤ 8 := by
  have h256 : q < 256 := by rw [← Lib.len8tab_size]; exact h
  have := tab8 ⟨q, h256⟩
  have e : Lib.len8tab.data[q]? = some Lib.len8tab[q] := by
    rw [Array.getElem?_eq_getElem (show q < Lib.len8tab.data.size from h)]
    rfl
  simp only [e, Option.getD_some] at this
  exact this
theorem len_fin (b : Nat) (c : Int) (hc : c = (b : Int)) (hb : b ≤ 56) (v q : Nat) (hq : q = v / 2 ^ b) (h1 : b = 0 ∨ 1 ≤ q) (hsz : q < Lib.len8tab.size) : wrap64 (c + wrap64 (Lib.len8tab[q].toNat : Int)) = (lenN v : Int) := by
  obtain ⟨e1, e2⟩ := tab_at q hsz
  have : lenN v = b + lenN q := by
    rcases h1 with rfl | h1
    · rw [hq, Nat.pow_zero, Nat.div_one, Nat.zero_add]
    · rw [hq]; exact len_shift (by rw [← hq]; exact h1)
  rw [e1, this, hc]
  unfold wrap64
  omega
set_option maxHeartbeats 1000000 in
theorem len64_int (x : Int) (w : World) (h0 : 0 ≤ x) (h1 : x ≤ 18446744073709551615) :
    Calls Tryz.prog 86 #[.int .u64 x] w fun e w' => e = .returned (.int .i64 (lenN x.toNat : Nat)) ∧ w' = w := by
  have hs : Lib.len8tab.size = 256 := Lib.len8tab_size
  have hu : Tryz.prog.underlying 9 = some .string := Tryz.underlying9
  go_enter Tryz.func86, Tryz.ntmps86
  go_wp2
  all_goals go_ret
  all_goals (refine ⟨congrArg Ending.returned (congrArg (Value.int IntKind.i64) ?_), rfl⟩)
  · exact len_fin 56 56 rfl (by omega) _ _ (by omega) (by omega) _
  · exact len_fin 48 48 rfl (by omega) _ _ (by omega) (by omega) _
  · exact len_fin 40 40 rfl (by omega) _ _ (by omega) (by omega) _
  · exact len_fin 32 32 rfl (by omega) _ _ (by omega) (by omega) _
  · exact len_fin 24 24 rfl (by omega) _ _ (by omega) (by omega) _
  · exact len_fin 16 16 rfl (by omega) _ _ (by omega) (by omega) _
  · exact len_fin 8 8 rfl (by omega) _ _ (by omega) (by omega) _
  · have := len_fin 0 0 rfl (by omega) x.toNat x.toNat (by omega) (by omega) (by rw [hs]; omega)
    rwa [Int.zero_add] at this
theorem len64_any (v : Nat) (hv : v < 18446744073709551616) (w : World) :
    Calls Tryz.prog 86 #[.int .u64 v] w fun e w' => e = .returned (.int .i64 (lenN v : Nat)) ∧ w' = w := by
  have := len64_int (v : Int) w (by omega) (by omega)
  rwa [Int.toNat_natCast] at this
theorem lenN_log {v : Nat} (h : v ≠ 0) : lenN v = v.log2 + 1 := by unfold lenN; rw [if_neg h]
theorem lenN_b {v : Nat} (h : 64 ≤ v) (hv : v < 18446744073709551616) : 7 ≤ lenN v ∧ lenN v ≤ 64 := by
  rw [lenN_log (by omega)]
  obtain ⟨l1, l2⟩ := log2_le (v := v) (by omega)
  constructor
  · rcases Nat.lt_or_ge v.log2 6 with h6 | h6
    · have := Nat.pow_le_pow_right (n := 2) (by omega) (show v.log2 + 1 ≤ 6 by omega)
      omega
    · omega
  · rcases Nat.lt_or_ge v.log2 64 with h6 | h6
    · omega
    · have := Nat.pow_le_pow_right (n := 2) (by omega) h6
      omega
theorem index_eq {v : Nat} (h : 64 ≤ v) (hv : v < 18446744073709551616) : wrap64 (64 + 32 * ((lenN v : Int) - 1 - 6) + wrap64 (wrap64 ((v : Int) / 2 ^ (lenN v - 1 - 5)) - 32)) = (idxN v : Int) := by
  obtain ⟨b1, b2⟩ := lenN_b h hv
  have hi := idxN_lt hv
  have e : ((v : Int) / 2 ^ (lenN v - 1 - 5)) = ((v / 2 ^ (lenN v - 1 - 5) : Nat) : Int) := by
    rw [Int.natCast_ediv, Int.natCast_pow]
    rfl
  have hx : idxN v = 32 * (v.log2 - 6) + 32 + v / 2 ^ (v.log2 - 5) := by unfold idxN; rw [if_neg (by omega)]
  rw [lenN_log (by omega)] at *
  rw [e, show v.log2 + 1 - 1 - 5 = v.log2 - 5 by omega]
  generalize v / 2 ^ (v.log2 - 5) = q at *
  unfold wrap64
  omega
theorem ret_span {a b a' b' : Int} (h1 : a = a') (h2 : b = b') : Ending.returned (.tuple #[.int .u64 a, .int .u64 b, .int .i64 0]) = Ending.returned (.tuple #[.int .u64 a', .int .u64 b', .int .i64 0]) := by rw [h1, h2]
theorem lo_eq {i : Nat} (h : 64 ≤ i) (h' : i < 1920) : IntKind.u64.wrap ((32 + ((i : Int) - 64) % 32) * 2 ^ (6 + (i - 64) / 32 - 5)) = (loN i : Int) := by
  have hl := lo_le_hi i
  have hh := hi_lt h'
  obtain ⟨k, m, hi, hm, ek, em⟩ := bar_parts h
  have e : loN i = (32 + m) * 2 ^ (k + 1) := by unfold loN; rw [if_neg (by omega), ek, em]
  have e2 : (32 + ((i : Int) - 64) % 32) * 2 ^ (6 + (i - 64) / 32 - 5) = (((32 + m) * 2 ^ (k + 1) : Nat) : Int) := by
    rw [ek, show 6 + k - 5 = k + 1 by omega, show (32 + ((i : Int) - 64) % 32) = ((32 + m : Nat) : Int) by omega, Int.natCast_mul, Int.natCast_pow]
    rfl
  rw [e2, ← e, IntKind.wrap_u64]
  omega
theorem hi_eq {i : Nat} (h : 64 ≤ i) (h' : i < 1920) : IntKind.u64.wrap (IntKind.u64.wrap ((32 + ((i : Int) - 64) % 32) * 2 ^ (6 + (i - 64) / 32 - 5)) + IntKind.u64.wrap (IntKind.u64.wrap (2 ^ (6 + (i - 64) / 32 - 5)) - 1)) = (hiN i : Int) := by
  rw [lo_eq h h']
  have hl := lo_le_hi i
  have hh := hi_lt h'
  obtain ⟨k, m, hi, hm, ek, em⟩ := bar_parts h
  have e : loN i = (32 + m) * 2 ^ (k + 1) := by unfold loN; rw [if_neg (by omega), ek, em]
  have e' : hiN i = loN i + (2 ^ (k + 1) - 1) := by unfold hiN loN; rw [if_neg (by omega), if_neg (by omega), ek, em]
  have hp := two_pos (k + 1)
  have e2 : (2 : Int) ^ (6 + (i - 64) / 32 - 5) = ((2 ^ (k + 1) : Nat) : Int) := by
    rw [ek, show 6 + k - 5 = k + 1 by omega, Int.natCast_pow]
    rfl
  rw [e2, IntKind.wrap_u64, IntKind.wrap_u64, IntKind.wrap_u64]
  omega
end Go.Proofs.YtiflfapdffkcbaaGreatDoor.sk
