/-
  Merged: SkA, SkB, SkM, SkC, SkD, SkE, SkF, SkG.
-/
import Derived.WalkKit
import Derived.Test.YtbefeobikjnlpaaGreatDoorMwq
import Derived.Test.YtbefeobikjnlpaaGreatDoorProg
import Derived.Lib.Walk
import Derived.Lib.BitFns
import Derived.Deep.QuietTactic
import Derived.BigQuiet
import Derived.WalkMore
import Derived.Handy
import Derived.Laws.Externs
import Derived.OwnWalk
import Derived.Deep.AppendLies
namespace Go.Proofs.YtbefeobikjnlpaaGreatDoor.sk
set_option maxRecDepth 100000

def idxN (v : Nat) : Nat := if v < 64 then v else 32 * (v.log2 - 6) + 32 + v / 2 ^ (v.log2 - 5)
def loN (i : Nat) : Nat := if i < 64 then i else (32 + (i - 64) % 32) * 2 ^ ((i - 64) / 32 + 1)
def hiN (i : Nat) : Nat := if i < 64 then i else (32 + (i - 64) % 32) * 2 ^ ((i - 64) / 32 + 1) + (2 ^ ((i - 64) / 32 + 1) - 1)

theorem two_pos (k : Nat) : 1 ≤ 2 ^ k := Nat.one_le_two_pow
theorem log2_of {v k : Nat} (h1 : 2 ^ k ≤ v) (h2 : v < 2 ^ (k + 1)) : v.log2 = k := by
  have h0 : v ≠ 0 := by have := two_pos k; omega
  exact (Nat.log2_eq_iff h0).mpr ⟨h1, h2⟩
theorem log2_le {v : Nat} (h : v ≠ 0) : 2 ^ v.log2 ≤ v ∧ v < 2 ^ (v.log2 + 1) := (Nat.log2_eq_iff h).mp rfl
theorem idxN_lt {v : Nat} (h : v < 18446744073709551616) : idxN v < 1920 := by
  unfold idxN
  split
  · omega
  · obtain ⟨l1, l2⟩ := log2_le (v := v) (by omega)
    have e64 : v.log2 < 64 := by
      rcases Nat.lt_or_ge v.log2 64 with h6 | h6
      · exact h6
      · have := Nat.pow_le_pow_right (n := 2) (by omega) h6
        omega
    have e6 : 6 ≤ v.log2 := by
      rcases Nat.lt_or_ge v.log2 6 with h6 | h6
      · have := Nat.pow_le_pow_right (n := 2) (by omega) (show v.log2 + 1 ≤ 6 by omega)
        omega
      · exact h6
    have hp := two_pos (v.log2 - 5)
    have e7 : 2 ^ (v.log2 + 1) = 64 * 2 ^ (v.log2 - 5) := by rw [show v.log2 + 1 = (v.log2 - 5) + 6 by omega, Nat.pow_add]; omega
    have q2 : v / 2 ^ (v.log2 - 5) < 64 := (Nat.div_lt_iff_lt_mul (by omega)).mpr (by omega)
    omega
theorem idx_small {v : Nat} (h : v < 64) : idxN v = v ∧ loN v = v ∧ hiN v = v := by
  refine ⟨?_, ?_, ?_⟩
  · unfold idxN; rw [if_pos h]
  · unfold loN; rw [if_pos h]
  · unfold hiN; rw [if_pos h]
end Go.Proofs.YtbefeobikjnlpaaGreatDoor.sk

namespace Go.Proofs.YtbefeobikjnlpaaGreatDoor.sk
set_option maxRecDepth 100000

def topC : Nat := 18446744073709551615
theorem topC_eq : topC = 18446744073709551615 := rfl
/-- May these bars be, behind the bar a? -/
def chkF (a : Int) : List (Int × Int) → Bool
  | [] => true
  | b :: l => !(decide (b.1 ≤ a)) && !(decide (1920 ≤ b.1)) && !(b.2 == 0) && chkF b.1 l
theorem chkF_cons (a : Int) (b : Int × Int) (l : List (Int × Int)) : chkF a (b :: l) = (!(decide (b.1 ≤ a)) && !(decide (1920 ≤ b.1)) && !(b.2 == 0) && chkF b.1 l) := rfl
theorem chkF_iff : ∀ {l : List (Int × Int)} {a : Int}, chkF a l = true ↔ (∀ b ∈ l, a < b.1 ∧ b.1 < 1920 ∧ b.2 ≠ 0) ∧ l.Pairwise fun x y => x.1 < y.1
  | [], a => by simp [chkF]
  | b :: l, a => by
    have ih := chkF_iff (l := l) (a := b.1)
    rw [chkF_cons, Bool.and_eq_true, Bool.and_eq_true, Bool.and_eq_true, ih, List.pairwise_cons]
    simp only [Bool.not_eq_true', decide_eq_false_iff_not, beq_eq_false_iff_ne, ne_eq, List.mem_cons]
    constructor
    · rintro ⟨⟨⟨h1, h2⟩, h3⟩, h4, h5⟩
      refine ⟨?_, fun y hy => (h4 y hy).1, h5⟩
      rintro y (rfl | hy)
      · exact ⟨by omega, by omega, h3⟩
      · have := h4 y hy
        exact ⟨by omega, this.2.1, this.2.2⟩
    · rintro ⟨h1, h2, h3⟩
      have hb := h1 b (Or.inl rfl)
      refine ⟨⟨⟨by omega, by omega⟩, hb.2.2⟩, fun y hy => ?_, h3⟩
      have := h1 y (Or.inr hy)
      exact ⟨h2 y hy, this.2.1, this.2.2⟩

def cntF : List (Int × Int) → Nat → Nat
  | [], _ => 0
  | b :: l, i => if b.1 = (i : Int) then b.2.toNat else cntF l i
theorem cntF_cons (b : Int × Int) (l : List (Int × Int)) (i : Nat) : cntF (b :: l) i = if b.1 = (i : Int) then b.2.toNat else cntF l i := rfl
theorem cntF_none : ∀ {l : List (Int × Int)} {i : Nat}, (∀ b ∈ l, b.1 ≠ (i : Int)) → cntF l i = 0
  | [], _, _ => rfl
  | b :: l, i, h => by
    rw [cntF_cons, if_neg (h b (List.mem_cons_self ..))]
    exact cntF_none fun y hy => h y (List.mem_cons_of_mem _ hy)
theorem cntF_snoc_ne {x : Int × Int} {i : Nat} (hx : x.1 ≠ (i : Int)) : ∀ l : List (Int × Int), cntF (l ++ [x]) i = cntF l i
  | [] => by rw [List.nil_append, cntF_cons, if_neg hx]
  | b :: l => by rw [List.cons_append, cntF_cons, cntF_cons, cntF_snoc_ne hx l]
theorem cntF_snoc_eq {x : Int × Int} {i : Nat} (hx : x.1 = (i : Int)) : ∀ {l : List (Int × Int)}, (∀ b ∈ l, b.1 ≠ (i : Int)) → cntF (l ++ [x]) i = x.2.toNat
  | [], _ => by rw [List.nil_append, cntF_cons, if_pos hx]
  | b :: l, h => by
    rw [List.cons_append, cntF_cons, if_neg (h b (List.mem_cons_self ..))]
    exact cntF_snoc_eq hx fun y hy => h y (List.mem_cons_of_mem _ hy)
theorem cntF_mem : ∀ {l : List (Int × Int)} {a : Int}, chkF a l = true → -1 ≤ a → ∀ b ∈ l, cntF l b.1.toNat = b.2.toNat
  | [], _, _, _, b, hb => by cases hb
  | c :: l, a, h, ha, b, hb => by
    have h' := chkF_iff.mp h
    rcases List.mem_cons.mp hb with rfl | hb
    · have := (h'.1 b (List.mem_cons_self ..)).1
      rw [cntF_cons, if_pos (by omega)]
    · have hc := (h'.1 c (List.mem_cons_self ..)).1
      have hlt := (List.pairwise_cons.mp h'.2).1 b hb
      rw [cntF_cons, if_neg (by omega)]
      rw [chkF_cons, Bool.and_eq_true] at h
      exact cntF_mem h.2 (by omega) b hb
/-- One list for one function. -/
theorem bars_ext : ∀ {l m : List (Int × Int)} {a : Int}, -1 ≤ a → chkF a l = true → chkF a m = true → (∀ b ∈ l, 0 ≤ b.2) → (∀ b ∈ m, 0 ≤ b.2) → (∀ i : Nat, i < 1920 → a < (i : Int) → cntF l i = cntF m i) → l = m
  | [], [], _, _, _, _, _, _, _ => rfl
  | [], c :: m, a, ha, _, hm, _, pm, he => by
    have hc := (chkF_iff.mp hm).1 c (List.mem_cons_self ..)
    have h1 := he c.1.toNat (by omega) (by omega)
    have p := pm c (List.mem_cons_self ..)
    rw [cntF_cons, if_pos (by omega)] at h1
    have : cntF [] c.1.toNat = 0 := rfl
    omega
  | b :: l, [], a, ha, hl, _, pl, _, he => by
    have hc := (chkF_iff.mp hl).1 b (List.mem_cons_self ..)
    have h1 := he b.1.toNat (by omega) (by omega)
    have p := pl b (List.mem_cons_self ..)
    rw [cntF_cons, if_pos (by omega)] at h1
    have : cntF [] b.1.toNat = 0 := rfl
    omega
  | b :: l, c :: m, a, ha, hl, hm, pl, pm, he => by
    have hb := (chkF_iff.mp hl).1 b (List.mem_cons_self ..)
    have hc := (chkF_iff.mp hm).1 c (List.mem_cons_self ..)
    have qb := pl b (List.mem_cons_self ..)
    have qc := pm c (List.mem_cons_self ..)
    have wl := (List.pairwise_cons.mp (chkF_iff.mp hl).2).1
    have wm := (List.pairwise_cons.mp (chkF_iff.mp hm).2).1
    have e1 : b.1 = c.1 := by
      rcases Int.lt_trichotomy b.1 c.1 with h | h | h
      · have h1 := he b.1.toNat (by omega) (by omega)
        rw [cntF_cons, if_pos (by omega), cntF_cons, if_neg (by omega), cntF_none (fun y hy => by have := wm y hy; omega)] at h1
        omega
      · exact h
      · have h1 := he c.1.toNat (by omega) (by omega)
        rw [cntF_cons, if_neg (by omega), cntF_cons, if_pos (by omega), cntF_none (fun y hy => by have := wl y hy; omega)] at h1
        omega
    have e2 : b.2 = c.2 := by
      have h1 := he b.1.toNat (by omega) (by omega)
      rw [cntF_cons, if_pos (by omega), cntF_cons, if_pos (by omega)] at h1
      omega
    have e : b = c := Prod.ext e1 e2
    subst e
    rw [chkF_cons, Bool.and_eq_true] at hl hm
    have IH := bars_ext (by omega) hl.2 hm.2 (fun y hy => pl y (List.mem_cons_of_mem _ hy)) (fun y hy => pm y (List.mem_cons_of_mem _ hy)) (fun i h1 h2 => by
      have := he i h1 (by omega)
      rwa [cntF_cons, if_neg (by omega), cntF_cons, if_neg (by omega)] at this)
    rw [IH]

def barsN (f : Nat → Nat) : Nat → List (Int × Int)
  | 0 => []
  | n + 1 => barsN f n ++ if f n = 0 then [] else [((n : Int), (f n : Int))]
def barsF (f : Nat → Nat) : List (Int × Int) := barsN f 1920
theorem barsN_succ (f : Nat → Nat) (n : Nat) : barsN f (n + 1) = barsN f n ++ if f n = 0 then [] else [((n : Int), (f n : Int))] := rfl
theorem barsF_eq (f : Nat → Nat) : barsF f = barsN f 1920 := rfl
theorem barsN_mem {f : Nat → Nat} : ∀ {n : Nat} {b : Int × Int}, b ∈ barsN f n → ∃ i : Nat, i < n ∧ b = ((i : Int), (f i : Int)) ∧ f i ≠ 0
  | 0, _, h => by cases h
  | n + 1, b, h => by
    rw [barsN_succ, List.mem_append] at h
    rcases h with h | h
    · obtain ⟨i, h1, h2⟩ := barsN_mem h
      exact ⟨i, by omega, h2⟩
    · split at h
      · cases h
      · rename_i hn
        rw [List.mem_singleton] at h
        exact ⟨n, by omega, h, hn⟩
theorem barsN_chk (f : Nat → Nat) {n : Nat} (hn : n ≤ 1920) : chkF (-1) (barsN f n) = true := by
  rw [chkF_iff]
  constructor
  · intro b hb
    obtain ⟨i, h1, rfl, h2⟩ := barsN_mem hb
    simp only
    omega
  · clear hn
    induction n with
    | zero => exact List.Pairwise.nil
    | succ n ih =>
      rw [barsN_succ, List.pairwise_append]
      refine ⟨ih, ?_, ?_⟩
      · split
        · exact List.Pairwise.nil
        · exact List.pairwise_singleton _ _
      · intro x hx y hy
        obtain ⟨i, h1, rfl, _⟩ := barsN_mem hx
        split at hy
        · cases hy
        · rw [List.mem_singleton] at hy
          subst hy
          simp only
          omega
theorem barsF_chk (f : Nat → Nat) : chkF (-1) (barsF f) = true := barsN_chk f (Nat.le_refl _)
theorem barsN_cnt (f : Nat → Nat) : ∀ (n i : Nat), cntF (barsN f n) i = if i < n then f i else 0
  | 0, i => by rw [if_neg (by omega)]; rfl
  | n + 1, i => by
    have ih := barsN_cnt f n i
    rw [barsN_succ]
    by_cases h0 : f n = 0
    · rw [if_pos h0, List.append_nil, ih]
      by_cases h : i < n
      · rw [if_pos h, if_pos (by omega)]
      · rw [if_neg h]
        split
        · obtain rfl : i = n := by omega
          exact h0.symm
        · rfl
    · rw [if_neg h0]
      by_cases h : i = n
      · subst h
        rw [cntF_snoc_eq rfl (fun b hb => by obtain ⟨k, h1, rfl, _⟩ := barsN_mem hb; simp only; omega), if_pos (by omega)]
        simp
      · rw [cntF_snoc_ne (by simp only; omega), ih]
        by_cases h1 : i < n
        · rw [if_pos h1, if_pos (by omega)]
        · rw [if_neg h1, if_neg (by omega)]
theorem barsF_cnt (f : Nat → Nat) {i : Nat} (h : i < 1920) : cntF (barsF f) i = f i := by rw [barsF_eq, barsN_cnt, if_pos h]
theorem barsF_pos (f : Nat → Nat) : ∀ b ∈ barsF f, 0 ≤ b.2 := by
  intro b hb
  obtain ⟨i, _, rfl, _⟩ := barsN_mem hb
  simp
theorem bars_of {l : List (Int × Int)} (h : chkF (-1) l = true) (hp : ∀ b ∈ l, 0 ≤ b.2) : l = barsF (cntF l) :=
  bars_ext (by omega) h (barsF_chk _) hp (barsF_pos _) fun i h1 _ => (barsF_cnt _ h1).symm
theorem barsN_congr {f g : Nat → Nat} : ∀ {n : Nat}, (∀ i, i < n → f i = g i) → barsN f n = barsN g n
  | 0, _ => rfl
  | n + 1, h => by rw [barsN_succ, barsN_succ, barsN_congr (n := n) fun i hi => h i (by omega), h n (by omega)]
theorem barsF_congr {f g : Nat → Nat} (h : ∀ i, i < 1920 → f i = g i) : barsF f = barsF g := barsN_congr h
theorem barsN_le (f : Nat → Nat) : ∀ n, (barsN f n).length ≤ n
  | 0 => Nat.le_refl _
  | n + 1 => by
    have := barsN_le f n
    rw [barsN_succ, List.length_append]
    split <;> simp <;> omega
theorem barsN_pre (f : Nat → Nat) : ∀ {m n : Nat}, n ≤ m → ∃ r, barsN f m = barsN f n ++ r
  | 0, n, h => by obtain rfl : n = 0 := by omega
                  exact ⟨[], rfl⟩
  | m + 1, n, h => by
    rcases Nat.lt_or_ge m n with h1 | h1
    · obtain rfl : n = m + 1 := by omega
      exact ⟨[], by rw [List.append_nil]⟩
    · obtain ⟨r, hr⟩ := barsN_pre f h1
      rw [barsN_succ, hr, List.append_assoc]
      exact ⟨_, rfl⟩
def numF (f : Nat → Nat) : Nat := (barsF f).length
theorem numF_le (f : Nat → Nat) : numF f ≤ 1920 := barsN_le f 1920
theorem barsN_len_le (f : Nat → Nat) {n : Nat} (h : n ≤ 1920) : (barsN f n).length ≤ numF f := by
  obtain ⟨r, hr⟩ := barsN_pre f h
  unfold numF
  rw [barsF_eq, hr, List.length_append]
  omega
theorem barsN_whole (f : Nat → Nat) {n : Nat} (h : n ≤ 1920) (hl : numF f ≤ (barsN f n).length) : barsN f n = barsF f := by
  obtain ⟨r, hr⟩ := barsN_pre f h
  unfold numF at hl
  rw [barsF_eq, hr, List.length_append] at hl
  have : r = [] := List.eq_nil_of_length_eq_zero (by omega)
  rw [barsF_eq, hr, this, List.append_nil]

def setF (f : Nat → Nat) (i x : Nat) : Nat → Nat := fun j => if j = i then x else f j
theorem setF_same (f : Nat → Nat) (i x : Nat) : setF f i x i = x := by unfold setF; rw [if_pos rfl]
theorem setF_other {f : Nat → Nat} {i x j : Nat} (h : j ≠ i) : setF f i x j = f j := by unfold setF; rw [if_neg h]
theorem num_set (f : Nat → Nat) (i x : Nat) : ∀ n, i < n → (barsN (setF f i x) n).length + (if f i = 0 then 0 else 1) = (barsN f n).length + (if x = 0 then 0 else 1)
  | 0, h => by omega
  | n + 1, h => by
    rw [barsN_succ, barsN_succ, List.length_append, List.length_append]
    by_cases hn : i = n
    · subst hn
      rw [barsN_congr (f := setF f i x) (g := f) (fun j hj => setF_other (by omega)), setF_same]
      by_cases h1 : x = 0 <;> by_cases h2 : f i = 0 <;> simp [h1, h2]
    · have ih := num_set f i x n (by omega)
      rw [setF_other (f := f) (i := i) (x := x) (j := n) (by omega)]
      omega
theorem numF_set {f : Nat → Nat} {i x : Nat} (h : i < 1920) : numF (setF f i x) + (if f i = 0 then 0 else 1) = numF f + (if x = 0 then 0 else 1) := num_set f i x 1920 h
theorem numF_zero : numF (fun _ => 0) = 0 := by
  have : ∀ n, (barsN (fun _ => 0) n) = [] := by
    intro n
    induction n with
    | zero => rfl
    | succ n ih => rw [barsN_succ, ih]; rfl
  unfold numF
  rw [barsF_eq, this]
  rfl

def putF (f : Nat → Nat) (i m : Nat) : Nat → Nat := setF f i (min (f i + m) topC)
theorem putF_at (f : Nat → Nat) (i m j : Nat) : putF f i m j = if j = i then min (f i + m) topC else f j := rfl
theorem putF_le {f : Nat → Nat} (h : ∀ j, f j ≤ topC) (i m : Nat) : ∀ j, putF f i m j ≤ topC := by
  intro j
  rw [putF_at]
  split
  · omega
  · exact h j
def putsF : (Nat → Nat) → List (Int × Int) → Nat → Nat
  | f, [] => f
  | f, b :: l => putsF (putF f b.1.toNat b.2.toNat) l
theorem putsF_cons (f : Nat → Nat) (b : Int × Int) (l : List (Int × Int)) : putsF f (b :: l) = putsF (putF f b.1.toNat b.2.toNat) l := rfl
theorem putsF_at : ∀ {l : List (Int × Int)} {a : Int} {f : Nat → Nat}, -1 ≤ a → chkF a l = true → (∀ j, f j ≤ topC) → ∀ j, putsF f l j = min (f j + cntF l j) topC
  | [], a, f, _, _, hf, j => by
    have := hf j
    show f j = min (f j + 0) topC
    omega
  | b :: l, a, f, ha, h, hf, j => by
    have h' := chkF_iff.mp h
    have hb := h'.1 b (List.mem_cons_self ..)
    have wl := (List.pairwise_cons.mp h'.2).1
    rw [chkF_cons, Bool.and_eq_true] at h
    rw [putsF_cons, putsF_at (by omega) h.2 (putF_le hf _ _), putF_at, cntF_cons]
    by_cases hj : j = b.1.toNat
    · subst hj
      rw [if_pos rfl, if_pos (by omega), cntF_none (fun y hy => by have := wl y hy; omega)]
      omega
    · rw [if_neg hj, if_neg (by omega)]
theorem putsF_zero {l : List (Int × Int)} (h : chkF (-1) l = true) (hp : ∀ b ∈ l, b.2 ≤ 18446744073709551615) (j : Nat) : putsF (fun _ => 0) l j = cntF l j := by
  rw [putsF_at (by omega) h (fun _ => Nat.zero_le _)]
  have : cntF l j ≤ topC := by
    by_cases hm : ∃ b ∈ l, b.1 = (j : Int)
    · obtain ⟨b, hb, e⟩ := hm
      have := cntF_mem h (by omega) b hb
      rw [show b.1.toNat = j by omega] at this
      have := hp b hb
      rw [topC_eq]
      omega
    · rw [cntF_none fun b hb e => hm ⟨b, hb, e⟩]
      omega
  omega
/-- All of them together. -/
def sumB (l : List (Int × Int)) : Nat := (l.map fun b => b.2.toNat).sum
end Go.Proofs.YtbefeobikjnlpaaGreatDoor.sk

namespace Go.Proofs.YtbefeobikjnlpaaGreatDoor.sk
open Go.RowKit
set_option maxRecDepth 100000

theorem row_shape {base : Nat} {w : World} {e : TypeId} {size n : Nat} {v : Value} {xs : List Value} (h : w.ownsRow base e size v n xs) : ∃ ao l c, v = .slice ao l c := by
  rcases h.2 with ⟨rfl, _⟩ | ⟨g, cap, cur, rfl, _⟩
  · exact ⟨_, _, _, rfl⟩
  · exact ⟨_, _, _, rfl⟩
theorem cell_upd {S : Nat → Prop} {w w' : World} (hu : Upd S w w') {a : Addr} {v : Value} (h : w.cell? a = some v) (hS : ¬ S a.block) : w'.cell? a = some v := by
  have hlt := World.block_lt_of_cell? w a h
  have hb := hu.block a.block hlt hS
  unfold World.cell? at h ⊢
  rw [hb]; exact h
theorem own_some {base : Nat} {w : World} {e : TypeId} {size : Nat} {v : Value} {n : Nat} {xs : List Value} (h : w.ownsRow base e size v n xs) (hn : 0 < n) : ∃ g cap, v = .slice (some ⟨g, 0, none⟩) n cap ∧ n ≤ cap ∧ cap ≤ maxLen ∧ base ≤ g ∧ ∀ j u, xs[j]? = some u → w.cell? ⟨g, j, none⟩ = some u := by
  have h0 := h
  rcases h.2 with ⟨rfl, h1⟩ | ⟨g, cap, cur, rfl, hb, hg, h1, h2, _⟩
  · omega
  · refine ⟨g, cap, rfl, h1, h2, hb, fun j u hj => ?_⟩
    have := h0.cells (g := g) rfl j u hj
    rw [Addr.add_lit, Nat.zero_add] at this
    exact this
theorem own_cap {base : Nat} {w : World} {e : TypeId} {size : Nat} {ao : Option Addr} {l c : Nat} {n : Nat} {xs : List Value} (h : w.ownsRow base e size (.slice ao l c) n xs) : l = n ∧ n ≤ c ∧ c ≤ maxLen := by
  rcases h.2 with ⟨e, h1⟩ | ⟨g, cap, cur, e, hb, hg, h1, h2, _⟩
  · simp at e; obtain ⟨rfl, rfl, rfl⟩ := e; simp [h1, maxLen]
  · simp at e; obtain ⟨rfl, rfl, rfl⟩ := e; exact ⟨rfl, h1, h2⟩
theorem blk_cell {w : World} {g : Nat} {cs : Array Value} {t : TypeId} {fz : Nat × Nat} (h : w.heap[g]? = some (.cells cs t fz)) (j : Nat) {u : Value} (hu : cs[j]? = some u) : w.cell? ⟨g, j, none⟩ = some u := by
  simp [World.cell?, h, hu]
theorem blk_free {w : World} {g : Nat} {cs : Array Value} {t : TypeId} (h : w.heap[g]? = some (.cells cs t (0, 0))) (j : Nat) : w.frozen? ⟨g, j, none⟩ = false := by
  simp [World.frozen?, h]
theorem set_block {w : World} {B : Nat} {cs : Array Value} {t : TypeId} {fr : Nat × Nat} (h : w.heap[B]? = some (.cells cs t fr)) (i : Nat) (v : Value) : (w.setCell ⟨B, i, none⟩ v).heap[B]? = some (.cells (cs.setIfInBounds i v) t fr) := by
  have hlt := lt_of_block h
  have h' : w.heap[B] = .cells cs t fr := by simpa [Array.getElem?_eq_getElem hlt] using h
  show (w.heap.modify B _)[B]? = _
  rw [Array.getElem?_eq_getElem (by simpa using hlt), Array.getElem_modify_self, h']
  rfl
theorem own_block {base : Nat} {w : World} {e : TypeId} {size : Nat} {v : Value} {n : Nat} {xs : List Value} (h : w.ownsRow base e size v n xs) {k : Nat} (hk : v.ownBlock = some k) : base ≤ k ∧ ∃ cs fz, w.heap[k]? = some (.cells cs e fz) := by
  rcases h.2 with ⟨rfl, _⟩ | ⟨g, cap, cur, rfl, hg, hh, _⟩
  · simp [Value.ownBlock] at hk
  · simp [Value.ownBlock] at hk; subst hk; exact ⟨hg, _, _, hh⟩
theorem own_base {w : World} {b b' : Nat} {e : TypeId} {size : Nat} {v : Value} {n : Nat} {xs : List Value} (h : w.ownsRow b e size v n xs) (hb : b' ≤ b) : w.ownsRow b' e size v n xs := by
  obtain ⟨h1, h2⟩ := h
  refine ⟨h1, ?_⟩
  rcases h2 with h2 | ⟨g, cap, cur, rfl, hg, r⟩
  · exact Or.inl h2
  · exact Or.inr ⟨g, cap, cur, rfl, Nat.le_trans hb hg, r⟩
theorem upd_one (w : World) (b i : Nat) (v : Value) : Upd (fun k => k = b) w (w.setCell ⟨b, i, none⟩ v) := Upd.setCell (S := fun k => k = b) (p := ⟨b, i, none⟩) (Upd.refl _ w) (fun _ => rfl) v
end Go.Proofs.YtbefeobikjnlpaaGreatDoor.sk

namespace Go.Proofs.YtbefeobikjnlpaaGreatDoor.sk
open Go.RowKit
set_option maxRecDepth 100000

def lenN (v : Nat) : Nat := if v = 0 then 0 else v.log2 + 1
theorem tab8 : ∀ n : Fin 256, ((Lib.len8tab.data[n.val]?).getD 0).toNat = lenN n.val ∧ lenN n.val ≤ 8 := by decide +kernel
theorem len_shift {v b : Nat} (h : 1 ≤ v / 2 ^ b) : lenN v = b + lenN (v / 2 ^ b) := by
  have hb := two_pos b
  obtain ⟨l1, l2⟩ := log2_le (v := v / 2 ^ b) (by omega)
  have hv : v ≠ 0 := by rintro rfl; rw [Nat.zero_div] at h; omega
  have dm := Nat.div_add_mod v (2 ^ b)
  have ml := Nat.mod_lt v (show 2 ^ b > 0 by omega)
  have : v.log2 = b + (v / 2 ^ b).log2 := by
    refine log2_of ?_ ?_
    · rw [Nat.pow_add]
      have := Nat.mul_le_mul_left (2 ^ b) l1
      omega
    · rw [Nat.add_assoc, Nat.pow_add]
      have := Nat.mul_le_mul_left (2 ^ b) (show v / 2 ^ b + 1 ≤ 2 ^ ((v / 2 ^ b).log2 + 1) by omega)
      rw [Nat.mul_add] at this
      omega
  unfold lenN
  rw [if_neg hv, if_neg (by omega), this]
  omega
theorem tab_at (q : Nat) (h : q < Lib.len8tab.size) : Lib.len8tab[q].toNat = lenN q ∧ lenN q ≤ 8 := by
  have h256 : q < 256 := by rw [← Lib.len8tab_size]; exact h
  have := tab8 ⟨q, h256⟩
  have e : Lib.len8tab.data[q]? = some Lib.len8tab[q] := by
    rw [Array.getElem?_eq_getElem (show q < Lib.len8tab.data.size from h)]
    rfl
  simp only [e, Option.getD_some] at this
  exact this
theorem len_fin (b : Nat) (c : Int) (hc : c = (b : Int)) (hb : b ≤ 56) (v q : Nat) (hq : q = v / 2 ^ b) (h1 : b = 0 ∨ 1 ≤ q) (hsz : q < Lib.len8tab.size) : wrap64 (c + wrap64 (Lib.len8tab[q].toNat : Int)) = (lenN v : Int) := by
  obtain ⟨e1, e2⟩ := tab_at q hsz
  have : lenN v = b + lenN q := by
    rcases h1 with rfl | h1
    · rw [hq, Nat.pow_zero, Nat.div_one, Nat.zero_add]
    · rw [hq]; exact len_shift (by rw [← hq]; exact h1)
  rw [e1, this, hc]
  unfold wrap64
  omega
set_option maxHeartbeats 1000000 in
theorem len64_int (x : Int) (w : World) (h0 : 0 ≤ x) (h1 : x ≤ 18446744073709551615) :
    Calls Tryz.prog 65 #[.int .u64 x] w fun e w' => e = .returned (.int .i64 (lenN x.toNat : Nat)) ∧ w' = w := by
  have hs : Lib.len8tab.size = 256 := Lib.len8tab_size
  have hu : Tryz.prog.underlying 9 = some .string := Tryz.underlying9
  go_enter Tryz.func65, Tryz.ntmps65
  go_wp2
  all_goals go_ret
  all_goals (refine ⟨congrArg Ending.returned (congrArg (Value.int IntKind.i64) ?_), rfl⟩)
  · exact len_fin 56 56 rfl (by omega) _ _ (by omega) (by omega) _
  · exact len_fin 48 48 rfl (by omega) _ _ (by omega) (by omega) _
  · exact len_fin 40 40 rfl (by omega) _ _ (by omega) (by omega) _
  · exact len_fin 32 32 rfl (by omega) _ _ (by omega) (by omega) _
  · exact len_fin 24 24 rfl (by omega) _ _ (by omega) (by omega) _
  · exact len_fin 16 16 rfl (by omega) _ _ (by omega) (by omega) _
  · exact len_fin 8 8 rfl (by omega) _ _ (by omega) (by omega) _
  · have := len_fin 0 0 rfl (by omega) x.toNat x.toNat (by omega) (by omega) (by rw [hs]; omega)
    rwa [Int.zero_add] at this
theorem len64_any (v : Nat) (hv : v < 18446744073709551616) (w : World) :
    Calls Tryz.prog 65 #[.int .u64 v] w fun e w' => e = .returned (.int .i64 (lenN v : Nat)) ∧ w' = w := by
  have := len64_int (v : Int) w (by omega) (by omega)
  rwa [Int.toNat_natCast] at this
theorem lenN_log {v : Nat} (h : v ≠ 0) : lenN v = v.log2 + 1 := by unfold lenN; rw [if_neg h]
theorem lenN_b {v : Nat} (h : 64 ≤ v) (hv : v < 18446744073709551616) : 7 ≤ lenN v ∧ lenN v ≤ 64 := by
  rw [lenN_log (by omega)]
  obtain ⟨l1, l2⟩ := log2_le (v := v) (by omega)
  constructor
  · rcases Nat.lt_or_ge v.log2 6 with h6 | h6
    · have := Nat.pow_le_pow_right (n := 2) (by omega) (show v.log2 + 1 ≤ 6 by omega)
      omega
    · omega
  · rcases Nat.lt_or_ge v.log2 64 with h6 | h6
    · omega
    · have := Nat.pow_le_pow_right (n := 2) (by omega) h6
      omega
theorem index_eq {v : Nat} (h : 64 ≤ v) (hv : v < 18446744073709551616) : wrap64 (64 + 32 * ((lenN v : Int) - 1 - 6) + wrap64 (wrap64 ((v : Int) / 2 ^ (lenN v - 1 - 5)) - 32)) = (idxN v : Int) := by
  obtain ⟨b1, b2⟩ := lenN_b h hv
  have hi := idxN_lt hv
  have e : ((v : Int) / 2 ^ (lenN v - 1 - 5)) = ((v / 2 ^ (lenN v - 1 - 5) : Nat) : Int) := by
    rw [Int.natCast_ediv, Int.natCast_pow]
    rfl
  have hx : idxN v = 32 * (v.log2 - 6) + 32 + v / 2 ^ (v.log2 - 5) := by unfold idxN; rw [if_neg (by omega)]
  rw [lenN_log (by omega)] at *
  rw [e, show v.log2 + 1 - 1 - 5 = v.log2 - 5 by omega]
  generalize v / 2 ^ (v.log2 - 5) = q at *
  unfold wrap64
  omega
set_option maxHeartbeats 400000 in
theorem skIndex (v : Nat) (hv : v < 18446744073709551616) (w : World) :
    Calls Tryz.prog 40 #[.int .u64 v] w fun e w' => e = .returned (.int .i64 (idxN v : Nat)) ∧ w' = w := by
  by_cases h : v < 64
  · have h1 : (v : Int) < 64 := by omega
    have e : idxN v = v := (idx_small h).1
    rw [e]
    clear e
    go_enter Tryz.func40, Tryz.ntmps40
    go_wp2
    go_ret
    exact ⟨rfl, rfl⟩
  · have h1 : ¬ (v : Int) < 64 := by omega
    obtain ⟨b1, b2⟩ := lenN_b (v := v) (by omega) hv
    have b1' : (7 : Int) ≤ (lenN v : Int) := by omega
    have b2' : (lenN v : Int) ≤ 64 := by omega
    go_enter Tryz.func40, Tryz.ntmps40
    go_wp2_with (go_at_call 65; refine (len64_any v hv _).mono ?_; rintro e w' ⟨rfl, rfl⟩)
    go_ret
    exact ⟨congrArg (fun x => Ending.returned (.int .i64 x)) (index_eq (by omega) hv), rfl⟩

end Go.Proofs.YtbefeobikjnlpaaGreatDoor.sk

namespace Go.Proofs.YtbefeobikjnlpaaGreatDoor.sk
open Go.RowKit
set_option maxRecDepth 100000

theorem Tryz.info75 : (Tryz.prog.info? 75).map (fun i => (i.zero, i.size, i.bytes)) = some (some (.agg #[.int .i64 0, .int .u64 0]), 2, 16) := by kernel_rfl

def barC (b : Int × Int) : List Value := [.int .i64 b.1, .int .u64 b.2]
def OwnBar (base : Nat) (w : World) (v : Value) (l : List (Int × Int)) : Prop := w.ownsRow base 75 2 v l.length (l.flatMap barC)
theorem barC_at (l : List (Int × Int)) : ∀ i (hi : i < l.length), (l.flatMap barC)[i * 2]? = some (.int .i64 l[i].1) ∧ (l.flatMap barC)[i * 2 + 1]? = some (.int .u64 l[i].2) := by
  induction l with
  | nil => intro i hi; simp at hi
  | cons p r ih =>
    intro i hi
    rw [List.flatMap_cons]
    cases i with
    | zero => exact ⟨rfl, rfl⟩
    | succ i =>
      have h2 : (barC p).length = 2 := rfl
      rw [List.getElem?_append_right (by omega), List.getElem?_append_right (by omega), h2, show (i + 1) * 2 - 2 = i * 2 by omega, show (i + 1) * 2 + 1 - 2 = i * 2 + 1 by omega]
      exact ih i (by simpa using hi)
/-- Bars lie here. -/
structure BarAt (w : World) (ad : Option Addr) (n : Nat) (l : List (Int × Int)) : Prop where
  len : l.length = n
  lies : 0 < n → ∃ b off, ad = some ⟨b, off, none⟩ ∧ ∀ i (_ : i < l.length), w.cell? ⟨b, off + i * 2, none⟩ = some (.int .i64 l[i].1) ∧ w.cell? ⟨b, off + i * 2 + 1, none⟩ = some (.int .u64 l[i].2)
theorem BarAt.upd {S : Nat → Prop} {w w' : World} {ad : Option Addr} {n : Nat} {l : List (Int × Int)} (h : BarAt w ad n l) (hu : Upd S w w') (hS : ∀ a, ad = some a → ¬ S a.block) : BarAt w' ad n l := by
  refine ⟨h.len, fun hp => ?_⟩
  obtain ⟨b, off, ha, hc⟩ := h.lies hp
  refine ⟨b, off, ha, fun i hi => ?_⟩
  obtain ⟨c0, c1⟩ := hc i hi
  exact ⟨cell_upd hu c0 (hS ⟨b, off, none⟩ ha), cell_upd hu c1 (hS ⟨b, off, none⟩ ha)⟩
theorem BarAt.below {w w' : World} {ad : Option Addr} {n : Nat} {l : List (Int × Int)} (h : BarAt w ad n l) (hb : Below w.heap.size w w') : BarAt w' ad n l :=
  h.upd (Upd.ofBelow (S := fun _ => False) hb (fun k hk hk' => by omega)) (fun _ _ h => h)
theorem BarAt.drewN {w : World} {ad : Option Addr} {n : Nat} {l : List (Int × Int)} (h : BarAt w ad n l) (m : Nat) : BarAt (w.drewN m) ad n l := ⟨h.len, h.lies⟩
theorem OwnBar.at {base : Nat} {w : World} {ao : Option Addr} {n c : Nat} {l : List (Int × Int)} (h : OwnBar base w (.slice ao n c) l) : BarAt w ao n l := by
  have hc := own_cap h
  refine ⟨hc.1.symm, fun hp => ?_⟩
  obtain ⟨g, cap, e, _, _, _, hx⟩ := own_some h (by omega)
  simp at e
  refine ⟨g, 0, e.1, fun i hi => ?_⟩
  obtain ⟨a, b⟩ := barC_at l i hi
  rw [Nat.zero_add]
  exact ⟨hx _ _ a, hx _ _ b⟩
theorem BarAt.nil (w : World) (ad : Option Addr) : BarAt w ad 0 [] := ⟨rfl, fun h => absurd h (Nat.lt_irrefl 0)⟩
/-- What a bar's two numbers may be. -/
def Bin (l : List (Int × Int)) : Prop := ∀ b ∈ l, -9223372036854775808 ≤ b.1 ∧ b.1 ≤ 9223372036854775807 ∧ 0 ≤ b.2 ∧ b.2 ≤ 18446744073709551615
theorem chk_drop {a c : Int} {l : List (Int × Int)} {k : Nat} (hk : k < l.length) (h : chkF a l = chkF c (l.drop k)) : chkF a l = (!(decide (l[k].1 ≤ c)) && !(decide (1920 ≤ l[k].1)) && !(l[k].2 == 0) && chkF l[k].1 (l.drop (k + 1))) := by
  rw [h, List.drop_eq_getElem_cons hk, chkF_cons]
def chkE (l : List (Int × Int)) : Int := if chkF (-1) l then 0 else 131
theorem chkE_ok {l : List (Int × Int)} (h : chkF (-1) l = true) : chkE l = 0 := by unfold chkE; rw [h]; rfl
theorem chkE_no {l : List (Int × Int)} (h : chkF (-1) l = false) : chkE l = 131 := by unfold chkE; rw [h]; rfl
theorem ret_chk {a b : Int} (h : b = a) : Ending.returned (.int .i64 a) = .returned (.int .i64 b) := by rw [h]
set_option maxHeartbeats 1000000 in
theorem check_any (ad : Option Addr) (n c : Nat) (l : List (Int × Int)) (w : World) (hA : BarAt w ad n l) (hn : n ≤ maxLen) (hi : Bin l) :
    Calls Tryz.prog 94 #[.slice ad n c] w fun e w' => e = .returned (.int .i64 (chkE l)) ∧ Below w.heap.size w w' := by
  unfold maxLen at hn
  have HL : Hid (l.length = n) := hA.len
  go_enter Tryz.func94, Tryz.ntmps94
  go_wp2
  go_loopw [3, 8] (fun a t wr => ∃ (k : Nat) (p : Int), t = .int .i64 k ∧ a = .int .i64 p ∧ k ≤ n ∧ Hid (chkF (-1) l = chkF p (l.drop k)) ∧ -1 ≤ p ∧ p < 1920 ∧ Below w.heap.size w wr) (fun _ t _ => n - (intOf t).toNat)
  case atStart => exact ⟨0, -1, rfl, rfl, by omega, rfl, by omega, by omega, Below.refl _ _⟩
  case round =>
    obtain ⟨k, p, rfl, rfl, hk, HC, hp1, hp2, hb⟩ := hrel
    by_cases hlt : k < n
    · obtain ⟨b, off, rfl, hc⟩ := (hA.below hb).lies (by omega)
      have hkl : k < l.length := by rw [HL.out]; exact hlt
      obtain ⟨c0, c1⟩ := hc k hkl
      clear hc
      have hik := hi l[k] (List.getElem_mem hkl)
      have HD : Hid _ := chk_drop hkl HC.out
      obtain ⟨x, hx⟩ : ∃ x, l[k] = x := ⟨_, rfl⟩
      rw [hx] at c0 c1 hik HD
      obtain ⟨i, m⟩ := x
      simp only at c0 c1 hik HD
      obtain ⟨i1, i2, m1, m2⟩ := hik
      clear hx hkl
      by_cases t1 : i ≤ p
      · have HN : Hid (chkE l = 131) := chkE_no (by rw [HD.out]; simp [t1])
        go_wp2
        go_ret
        exact ⟨ret_chk HN.out, hb.alloc hb.size _⟩
      · by_cases t2 : 1920 ≤ i
        · have HN : Hid (chkE l = 131) := chkE_no (by rw [HD.out]; simp [t2])
          go_wp2
          go_ret
          exact ⟨ret_chk HN.out, hb.alloc hb.size _⟩
        · by_cases t3 : m = 0
          · subst t3
            have HN : Hid (chkE l = 131) := chkE_no (by rw [HD.out]; simp)
            go_wp2
            go_ret
            exact ⟨ret_chk HN.out, hb.alloc hb.size _⟩
          · have HE : Hid (chkF (-1) l = chkF i (l.drop (k + 1))) := by
              have e1 : decide (i ≤ p) = false := by simpa using t1
              have e2 : decide (1920 ≤ i) = false := by simpa using t2
              have e3 : (m == 0) = false := by simpa using t3
              have := HD.out
              rw [e1, e2, e3] at this
              have h' : chkF (-1) l = chkF i (l.drop (k + 1)) := by simpa using this
              exact h'
            clear HD HC
            go_wp2
            go_roundw
            case rel => exact ⟨k + 1, i, by go_num, rfl, by omega, HE, by omega, by omega, hb.alloc hb.size _⟩
            case measure => simp [intOf]; omega
    · have HN : Hid (chkE l = 0) := chkE_ok (by rw [HC.out, List.drop_eq_nil_of_le (by rw [HL.out]; omega)]; rfl)
      go_wp2
      go_ret
      exact ⟨ret_chk HN.out, hb⟩
end Go.Proofs.YtbefeobikjnlpaaGreatDoor.sk

namespace Go.Proofs.YtbefeobikjnlpaaGreatDoor.sk
open Go.RowKit
set_option maxRecDepth 100000

def zeroC : Array Value := Array.replicate 1920 (Value.int .u64 0) ++ #[.int .i64 0]
theorem Tryz.info134 : (Tryz.prog.info? 134).map (fun i => (i.zero, i.size)) = some (some (.agg zeroC), 1921) := by kernel_rfl

/-- How many of each bar, and how many bars have any. -/
structure CntAt (w : World) (g : Nat) (f : Nat → Nat) (u : Nat) : Prop where
  blk : ∃ cs, w.heap[g]? = some (.cells cs 134 (0, 0)) ∧ cs.size = 1921
  of_ : ∀ i : Nat, i < 1920 → w.cell? ⟨g, i, none⟩ = some (.int .u64 (f i : Int))
  used : w.cell? ⟨g, 1920, none⟩ = some (.int .i64 (u : Int))
theorem CntAt.free {w : World} {g : Nat} {f : Nat → Nat} {u : Nat} (h : CntAt w g f u) (i : Nat) : w.frozen? ⟨g, i, none⟩ = false := by
  obtain ⟨cs, hb, _⟩ := h.blk
  exact blk_free hb i
theorem cell_set_same {w : World} {g i : Nat} {cs : Array Value} {t : TypeId} {fz : Nat × Nat} (hb : w.heap[g]? = some (.cells cs t fz)) (hi : i < cs.size) (v : Value) : (w.setCell ⟨g, i, none⟩ v).cell? ⟨g, i, none⟩ = some v := by
  exact blk_cell (set_block hb i v) i (by simp [hi])
theorem cell_set_other {w : World} {g i j : Nat} {cs : Array Value} {t : TypeId} {fz : Nat × Nat} (hb : w.heap[g]? = some (.cells cs t fz)) (hij : i ≠ j) (v : Value) : (w.setCell ⟨g, i, none⟩ v).cell? ⟨g, j, none⟩ = w.cell? ⟨g, j, none⟩ := by
  have h2 := set_block hb i v
  simp only [World.cell?, h2, hb]
  simp [hij]
theorem CntAt.set {w : World} {g : Nat} {f : Nat → Nat} {u : Nat} (h : CntAt w g f u) {i : Nat} (hi : i < 1920) (x : Nat) : CntAt (w.setCell ⟨g, i, none⟩ (.int .u64 (x : Int))) g (setF f i x) u := by
  obtain ⟨cs, hb, hs⟩ := h.blk
  refine ⟨⟨_, set_block hb i _, by simpa using hs⟩, fun j hj => ?_, ?_⟩
  · by_cases e : i = j
    · subst e
      rw [cell_set_same hb (by omega), setF_same]
    · rw [cell_set_other hb e, setF_other (Ne.symm e)]
      exact h.of_ j hj
  · rw [cell_set_other hb (by omega)]
    exact h.used
theorem CntAt.setU {w : World} {g : Nat} {f : Nat → Nat} {u : Nat} (h : CntAt w g f u) (x : Nat) : CntAt (w.setCell ⟨g, 1920, none⟩ (.int .i64 (x : Int))) g f x := by
  obtain ⟨cs, hb, hs⟩ := h.blk
  refine ⟨⟨_, set_block hb _ _, by simpa using hs⟩, fun j hj => ?_, ?_⟩
  · rw [cell_set_other hb (by omega)]
    exact h.of_ j hj
  · exact cell_set_same hb (by omega) _
theorem CntAt.upd {S : Nat → Prop} {w w' : World} {g : Nat} {f : Nat → Nat} {u : Nat} (h : CntAt w g f u) (hu : Upd S w w') (hS : ¬ S g) : CntAt w' g f u := by
  obtain ⟨cs, hb, hs⟩ := h.blk
  exact ⟨⟨cs, by rw [hu.block g (lt_of_block hb) hS]; exact hb, hs⟩, fun i hi => cell_upd hu (h.of_ i hi) hS, cell_upd hu h.used hS⟩
theorem CntAt.lt {w : World} {g : Nat} {f : Nat → Nat} {u : Nat} (h : CntAt w g f u) : g < w.heap.size := by
  obtain ⟨cs, hb, _⟩ := h.blk
  exact lt_of_block hb
theorem CntAt.new (w : World) : CntAt (w.alloc (.cells zeroC 134)) w.heap.size (fun _ => 0) (numF (fun _ => 0)) := by
  rw [numF_zero]
  have hb := heap_alloc_new w (.cells zeroC 134)
  refine ⟨⟨_, hb, by simp [zeroC]⟩, fun i hi => blk_cell hb i ?_, blk_cell hb 1920 ?_⟩
  · unfold zeroC
    rw [Array.getElem?_append_left (by simpa using hi), Array.getElem?_replicate, if_pos hi]
    rfl
  · unfold zeroC
    rw [Array.getElem?_append_right (by simp)]
    simp
theorem add64_run (x y : Nat) (w : World) :
    (callFunc 64 #[.int .u64 (x : Int), .int .u64 (y : Int), .int .u64 0]).run Tryz.prog w =
      .ok (.value (.tuple #[.int .u64 (((x + y) % 18446744073709551616 : Nat) : Int), .int .u64 (((x + y) / 18446744073709551616 : Nat) : Int)])) w := by
  rw [run_callFunc_extern Tryz.func64 (by kernel_rfl) (by kernel_rfl) (by kernel_rfl) (e := add64Entry) (by kernel_rfl), run_add64 x y 0 (by omega) (by omega) (by omega) (by omega)]
  simp only [Result.andThen]
  congr 5 <;> omega
/-- What putting leaves. -/
def PutP (g : Nat) (f : Nat → Nat) (i m : Nat) (w : World) (e : Ending) (w' : World) : Prop := e = .returned (.tuple #[]) ∧ CntAt w' g (putF f i m) (numF (putF f i m)) ∧ Upd (fun k => k = g) w w'
theorem put_end {g : Nat} {f : Nat → Nat} {i m : Nat} {w : World} (hi : i < 1920) (h : CntAt w g f (numF f)) {x : Nat} (hx : x = min (f i + m) topC) (hne : f i = 0 → x = 0) : PutP g f i m w (.returned (.tuple #[])) (w.setCell ⟨g, i, none⟩ (.int .u64 (x : Int))) := by
  have h1 := h.set hi x
  have e : putF f i m = setF f i x := by unfold putF; rw [hx]
  have hn := numF_set (f := f) (i := i) (x := x) hi
  have hn' : numF (setF f i x) = numF f := by
    by_cases h0 : f i = 0
    · rw [if_pos h0, if_pos (hne h0)] at hn; omega
    · have : x ≠ 0 := by rw [hx, topC_eq]; omega
      rw [if_neg h0, if_neg this] at hn; omega
  refine ⟨rfl, ?_, upd_one w g i _⟩
  rw [e, hn']
  exact h1
theorem put_end1 {g : Nat} {f : Nat → Nat} {i m : Nat} {w : World} (hi : i < 1920) (h : CntAt w g f (numF f)) {x : Nat} (hx : x = min (f i + m) topC) (h0 : f i = 0) (h1 : x ≠ 0) : PutP g f i m w (.returned (.tuple #[])) ((w.setCell ⟨g, i, none⟩ (.int .u64 (x : Int))).setCell ⟨g, 1920, none⟩ (.int .i64 ((numF f : Int) + 1))) := by
  have h2 := (h.set hi x).setU (numF f + 1)
  have e : putF f i m = setF f i x := by unfold putF; rw [hx]
  have hn := numF_set (f := f) (i := i) (x := x) hi
  have hn' : numF (setF f i x) = numF f + 1 := by rw [if_pos h0, if_neg h1] at hn; omega
  refine ⟨rfl, ?_, (upd_one w g i _).trans (upd_one _ g 1920 _) (fun _ _ h => h)⟩
  rw [e, hn']
  rw [Int.natCast_add] at h2
  exact h2
set_option maxHeartbeats 1000000 in
theorem put_any (g : Nat) (f : Nat → Nat) (i m : Nat) (hi : i < 1920) (hm : m < 18446744073709551616) (hf : ∀ j, f j ≤ topC) (w : World) (h : CntAt w g f (numF f)) :
    Calls Tryz.prog 95 #[.pointer (some ⟨g, 0, none⟩), .int .i64 (i : Int), .int .u64 (m : Int)] w (PutP g f i m w) := by
  have c0 := h.of_ i hi
  have cu := h.used
  have f0 := h.free i
  have fu := h.free 1920
  have hi' : (i : Int) < 1920 := by omega
  have hn := numF_le f
  have E1 := fun x => put_end1 (m := m) (x := x) hi h
  obtain ⟨u, hu⟩ : ∃ u, numF f = u := ⟨_, rfl⟩
  rw [hu] at hn cu E1
  clear hu
  have hn' : (u : Int) ≤ 1920 := by omega
  have hft := hf i
  rw [topC_eq] at hft
  by_cases hs : f i + m < 18446744073709551616
  · obtain ⟨x, hx⟩ : ∃ x, f i + m = x := ⟨_, rfl⟩
    have A := add64_run (f i) m
    rw [Nat.mod_eq_of_lt hs, Nat.div_eq_of_lt hs, hx] at A
    have HX : Hid (x = min (f i + m) topC) := by show x = _; rw [topC_eq]; omega
    by_cases h0 : f i = 0
    · have A' : ∀ W, (callFunc 64 #[.int .u64 0, .int .u64 (m : Int), .int .u64 0]).run Tryz.prog W = .ok (.value (.tuple #[.int .u64 (x : Int), .int .u64 0])) W := fun W => by
        have := A W
        rw [h0] at this
        exact this
      have c0' : w.cell? ⟨g, i, none⟩ = some (.int .u64 0) := by rw [c0, h0]; rfl
      clear c0 A
      by_cases h1 : x = 0
      · subst h1
        have h1' : ¬ (0 : Int) < ((0 : Nat) : Int) := by omega
        have E := put_end hi h HX.out (fun _ => rfl)
        clear HX hx h hf hft hs E1
        go_enter Tryz.func95, Tryz.ntmps95
        go_wp2_with (simp only [A'])
        go_end0
        exact E
      · have E := E1 x HX.out h0 h1
        have h1' : (0 : Int) < (x : Int) := by omega
        clear HX hx h hf hft hs E1
        go_enter Tryz.func95, Tryz.ntmps95
        go_wp2_with (simp only [A'])
        go_end0
        exact E
    · have E := put_end hi h HX.out (fun h => absurd h h0)
      have h1' : ¬ ((f i : Int) = 0) := by omega
      clear HX hx h hf hft hs E1
      go_enter Tryz.func95, Tryz.ntmps95
      go_wp2_with (simp only [A])
      go_end0
      exact E
  · obtain ⟨y, hy⟩ : ∃ y, (f i + m) % 18446744073709551616 = y := ⟨_, rfl⟩
    have A := add64_run (f i) m
    rw [hy, show (f i + m) / 18446744073709551616 = 1 by omega] at A
    have h0 : ¬ f i = 0 := by omega
    have E := put_end (m := m) hi h (x := topC) (by rw [topC_eq]; omega) (fun h => absurd h h0)
    have h1' : ¬ ((f i : Int) = 0) := by omega
    clear hy h hf hft hs E1
    rw [topC_eq] at E
    go_enter Tryz.func95, Tryz.ntmps95
    go_wp2_with (simp only [A])
    go_end0
    exact E
end Go.Proofs.YtbefeobikjnlpaaGreatDoor.sk

namespace Go.Proofs.YtbefeobikjnlpaaGreatDoor.sk
open Go.RowKit
set_option maxRecDepth 100000

def PutsP (g : Nat) (f : Nat → Nat) (l : List (Int × Int)) (w : World) (e : Ending) (w' : World) : Prop := e = .returned (.tuple #[]) ∧ CntAt w' g (putsF f l) (numF (putsF f l)) ∧ Upd (fun k => k = g) w w'
theorem puts_drop {f h : Nat → Nat} {l : List (Int × Int)} {k : Nat} (hk : k < l.length) (e : putsF f l = putsF h (l.drop k)) : putsF f l = putsF (putF h l[k].1.toNat l[k].2.toNat) (l.drop (k + 1)) := by
  rw [e, List.drop_eq_getElem_cons hk, putsF_cons]
/-- Midway: the counts so far. -/
def Mid (g : Nat) (f : Nat → Nat) (l : List (Int × Int)) (k : Nat) (w wr : World) : Prop := ∃ h, putsF f l = putsF h (l.drop k) ∧ (∀ j, h j ≤ topC) ∧ CntAt wr g h (numF h) ∧ Upd (fun k => k = g) w wr
set_option maxHeartbeats 1000000 in
theorem putAll_any (g : Nat) (f : Nat → Nat) (ad : Option Addr) (n c : Nat) (l : List (Int × Int)) (w : World) (hA : BarAt w ad n l) (hn : n ≤ maxLen) (hi : Bin l) (hx : ∀ b ∈ l, 0 ≤ b.1 ∧ b.1 < 1920) (hg : ∀ a, ad = some a → a.block ≠ g) (hf : ∀ j, f j ≤ topC) (h : CntAt w g f (numF f)) :
    Calls Tryz.prog 62 #[.pointer (some ⟨g, 0, none⟩), .slice ad n c] w (PutsP g f l w) := by
  unfold maxLen at hn
  have HL : Hid (l.length = n) := hA.len
  have hlt0 := h.lt
  have HM : Hid (Mid g f l 0 w w) := ⟨f, rfl, hf, h, Upd.refl _ _⟩
  clear h hf
  go_enter Tryz.func62, Tryz.ntmps62
  go_wp2
  go_loopw [8] (fun t wr => ∃ (k : Nat), t = .int .i64 k ∧ k ≤ n ∧ Hid (Mid g f l k w wr)) (fun t _ => n - (intOf t).toNat)
  case atStart => exact ⟨0, rfl, by omega, HM⟩
  case round =>
    obtain ⟨k, rfl, hk, HK⟩ := hrel
    by_cases hlt : k < n
    · obtain ⟨h, hd, hb, hC, hu⟩ := HK.out
      have hsz := hu.size
      obtain ⟨b, off, rfl, hc⟩ := (hA.upd hu (fun a ha => hg a ha)).lies (by omega)
      have hkl : k < l.length := by rw [HL.out]; exact hlt
      obtain ⟨c0, c1⟩ := hc k hkl
      clear hc
      have hik := hi l[k] (List.getElem_mem hkl)
      have hxk := hx l[k] (List.getElem_mem hkl)
      have HD : Hid _ := puts_drop hkl hd
      obtain ⟨x, hx⟩ : ∃ x, l[k] = x := ⟨_, rfl⟩
      rw [hx] at c0 c1 hik HD hxk
      obtain ⟨i, m⟩ := x
      simp only at c0 c1 hik HD hxk
      obtain ⟨i1, i2, m1, m2⟩ := hik
      clear hx hkl hd
      obtain ⟨p, rfl⟩ := Int.eq_ofNat_of_zero_le hxk.1
      obtain ⟨q, rfl⟩ := Int.eq_ofNat_of_zero_le m1
      have uA := (Upd.refl (fun _ => False) wr).alloc (.cells #[.int .i64 (p : Int), .int .u64 (q : Int)] 75)
      have PA := put_any g h p q (by omega) (by omega) hb _ (hC.upd uA (fun h => h))
      have HB : Hid _ := hb
      have HU : Hid _ := hu
      clear hC uA hb hu i1 i2 m1 m2 hxk
      go_wp2_with (go_at_call 95; (with_reducible refine PA.mono ?_); clear PA; rintro e w2 ⟨rfl, h2, u2⟩; have H2 : Hid _ := h2; clear h2)
      go_roundw
      case rel =>
        refine ⟨k + 1, by go_num, by omega, ?_⟩
        exact ⟨_, HD.out, putF_le HB.out _ _, H2.out, (HU.out.alloc _).trans u2 (fun _ _ h => h)⟩
      case measure => simp [intOf]; omega
    · have HE : Hid (PutsP g f l w (.returned (.tuple #[])) wr) := by
        obtain ⟨h, hd, hb, hC, hu⟩ := HK.out
        rw [List.drop_eq_nil_of_le (by rw [HL.out]; omega)] at hd
        have hd' : putsF f l = h := hd
        refine ⟨rfl, ?_, hu⟩
        rw [hd']
        exact hC
      go_wp2
      go_end0
      exact HE.out
/-- What bars tells. -/
def BarsP (f : Nat → Nat) (w : World) (e : Ending) (w' : World) : Prop := ∃ v, e = .returned v ∧ OwnBar w.heap.size w' v (barsF f) ∧ Below w.heap.size w w'
theorem BarAt_of {base : Nat} {w : World} {v : Value} {l : List (Int × Int)} (h : OwnBar base w v l) : ∃ ao c, v = .slice ao l.length c ∧ BarAt w ao l.length l ∧ ∀ a, ao = some a → base ≤ a.block := by
  obtain ⟨ao, n, c, rfl⟩ := row_shape h
  obtain ⟨rfl, _, _⟩ := own_cap h
  refine ⟨ao, c, rfl, h.at, ?_⟩
  rintro a rfl
  rcases h.2 with ⟨e, _⟩ | ⟨g, cap, cur, e, hg, _⟩
  · simp at e
  · simp at e
    obtain ⟨rfl, _⟩ := e
    exact hg
set_option maxHeartbeats 1000000 in
theorem bars_any (g : Nat) (f : Nat → Nat) (w : World) (h : CntAt w g f (numF f)) :
    Calls Tryz.prog 63 #[.pointer (some ⟨g, 0, none⟩)] w (BarsP f w) := by
  obtain ⟨i0, hi, hz0, hz1, hz2⟩ := info_parts Tryz.info75
  have hn := numF_le f
  have hW : ∀ {k : Nat}, k ≤ 1920 → numF f ≤ (barsN f k).length → barsN f k = barsF f := fun a b => barsN_whole f a b
  have hLe : ∀ {k : Nat}, k ≤ 1920 → (barsN f k).length ≤ numF f := fun a => barsN_len_le f a
  have hTop : (barsN f 1920).length = numF f := rfl
  have cu := h.used
  have hlt0 := h.lt
  obtain ⟨u, hu⟩ : ∃ u, numF f = u := ⟨_, rfl⟩
  rw [hu] at hn h hW hLe hTop cu
  have HW : Hid (∀ {k : Nat}, k ≤ 1920 → u ≤ (barsN f k).length → barsN f k = barsF f) := hW
  have HLe : Hid (∀ {k : Nat}, k ≤ 1920 → (barsN f k).length ≤ u) := hLe
  have HTop : Hid ((barsN f 1920).length = u) := hTop
  clear hu hW hLe hTop
  have hn' : (u : Int) ≤ 1920 := by omega
  have HC : Hid (CntAt w g f u) := h
  clear h
  go_enter Tryz.func63, Tryz.ntmps63
  go_wp2_with (at_make; refine wpList_make_own _ rfl _ _ 41 rfl w.heap.size 75 i0 _ 2 Tryz.underlying41 hi hz0 hz1 .i64 .i64 _ u rfl rfl (by omega) (by rw [hz2]; omega) (by unfold maxLen; omega) (Nat.le_refl _) ?_; intro w1 o1 g1)
  clear cu
  go_loopw [3, 4] (fun a t wr => ∃ (k L : Nat), t = .int .i64 k ∧ k ≤ 1920 ∧ a = .slice (some ⟨w.heap.size, 0, none⟩) L u ∧ Hid (L = (barsN f k).length) ∧ Hid (OwnBar w.heap.size wr a (barsN f k)) ∧ Below w.heap.size w wr) (fun _ t _ => 1920 - (intOf t).toNat)
  case atStart => exact ⟨0, 0, rfl, by omega, rfl, rfl, o1, g1.os, g1.tape, g1.output, g1.size, fun k hk => g1.block k hk (by simp)⟩
  case round =>
    obtain ⟨k, L, rfl, hk, rfl, HL, HO, hb⟩ := hrel
    have hsz := hb.size
    have hC : CntAt wr g f u := HC.out.upd (Upd.ofBelow (S := fun k => w.heap.size ≤ k) hb (fun _ _ h => h)) (by omega)
    have cu := hC.used
    by_cases hlt : L < u
    · have hkk : k < 1920 := by
        rcases Nat.lt_or_ge k 1920 with h | h
        · exact h
        · obtain rfl : k = 1920 := by omega
          have := HTop.out
          have := HL.out
          omega
      have hlt' : (L : Int) < (u : Int) := by omega
      have hkk' : (k : Int) < 1920 := by omega
      have c0 := hC.of_ k hkk
      have HS : Hid _ := barsN_succ f k
      obtain ⟨y, hy⟩ : ∃ y, f k = y := ⟨_, rfl⟩
      rw [hy] at c0 HS
      clear hy hC
      by_cases hy0 : y = 0
      · subst hy0
        have c0' : wr.cell? ⟨g, k, none⟩ = some (.int .u64 0) := c0
        clear c0
        go_wp2
        go_roundw
        case rel =>
          have e : barsN f (k + 1) = barsN f k := by rw [HS.out, if_pos rfl, List.append_nil]
          refine ⟨k + 1, L, by go_num, by omega, rfl, ?_, ?_, hb⟩
          · show L = _
            rw [e]; exact HL.out
          · show OwnBar _ _ _ _
            rw [e]; exact HO.out
        case measure => simp [intOf]; omega
      · obtain ⟨Y, hY⟩ : ∃ Y : Int, (y : Int) = Y := ⟨_, rfl⟩
        have hy1 : (0 : Int) < Y := by omega
        have e : barsN f (k + 1) = barsN f k ++ [((k : Int), Y)] := by rw [HS.out, if_neg hy0, hY]
        have HE : Hid _ := e
        rw [hY] at c0
        clear hY hy0 HS e
        have OW : (wr.alloc (.cells #[.int .i64 (k : Int), .int .u64 Y] 75)).ownsRow w.heap.size 75 2 (.slice (some ⟨w.heap.size, 0, none⟩) L u) L ((barsN f k).flatMap barC) := by
          have := ownsRow_upd HO.out ((Upd.refl (fun _ => False) wr).alloc (.cells #[.int .i64 (k : Int), .int .u64 Y] 75)) (fun _ _ h => h)
          rw [← HL.out] at this
          exact this
        have hN : ∀ q v, ([.int .i64 (k : Int), .int .u64 Y] : List Value)[q]? = some v → (wr.alloc (.cells #[.int .i64 (k : Int), .int .u64 Y] 75)).cell? ((⟨wr.heap.size, 0, none⟩ : Addr).add q) = some v :=
          World.news_of_block (cs := #[.int .i64 (k : Int), .int .u64 Y]) (t := 75) (fr := (0, 0)) (heap_alloc_new wr _)
        go_wp2_with (at_builtin; refine wpList_append_fits _ rfl _ _ 41 rfl w.heap.size 75 i0 2 Tryz.underlying41 hi hz1 w.heap.size L u _ rfl OW ⟨wr.heap.size, 0, none⟩ 1 1 [.int .i64 (k : Int), .int .u64 Y] rfl rfl hN (by simp [Value.oneCell']) (by omega) ?_; clear OW hN; intro w3 o3 g3)
        go_roundw
        case rel =>
          have e := HE.out
          refine ⟨k + 1, L + 1, by go_num, by omega, rfl, ?_, ?_, ?_⟩
          · show L + 1 = _
            rw [e, List.length_append, ← HL.out]; rfl
          · show OwnBar _ _ _ _
            unfold OwnBar
            rw [e, List.length_append, ← HL.out, List.flatMap_append]
            exact o3
          · have b3 := hb.alloc hb.size (.cells #[.int .i64 (k : Int), .int .u64 Y] 75)
            exact b3.trans ⟨g3.os, g3.tape, g3.output, g3.size, fun q hq => g3.block q (by simp; omega) (fun e => by cases e; omega)⟩
        case measure => simp [intOf]; omega
    · have hlt' : ¬ (L : Int) < (u : Int) := by omega
      have HE : Hid (BarsP f w (.returned (.slice (some ⟨w.heap.size, 0, none⟩) L u)) wr) := by
        have e := HW.out hk (by rw [← HL.out]; omega)
        have ho := HO.out
        rw [e] at ho
        exact ⟨_, rfl, ho, hb⟩
      clear hC
      go_wp2
      go_ret
      exact HE.out
end Go.Proofs.YtbefeobikjnlpaaGreatDoor.sk

namespace Go.Proofs.YtbefeobikjnlpaaGreatDoor.sk
open Go.RowKit
set_option maxRecDepth 100000

end Go.Proofs.YtbefeobikjnlpaaGreatDoor.sk
