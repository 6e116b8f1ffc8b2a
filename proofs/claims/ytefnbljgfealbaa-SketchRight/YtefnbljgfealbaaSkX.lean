/-
  Mathematics of layer 13: the value that a part of all are not above.
-/
import Derived.Test.YtefnbljgfealbaaSkW
namespace Go.Proofs.Ytefnbljgfealbaa.sk
set_option maxRecDepth 100000

/-- How many there are in the bars ahead of one. -/
def sumF (f : Nat → Nat) : Nat → Nat
  | 0 => 0
  | k + 1 => sumF f k + f k
theorem sumF_succ (f : Nat → Nat) (k : Nat) : sumF f (k + 1) = sumF f k + f k := rfl
theorem sumF_mono (f : Nat → Nat) : ∀ {k m : Nat}, k ≤ m → sumF f k ≤ sumF f m
  | k, 0, h => by obtain rfl : k = 0 := by omega
                  exact Nat.le_refl _
  | k, m + 1, h => by
    rcases Nat.lt_or_ge m k with h1 | h1
    · obtain rfl : k = m + 1 := by omega
      exact Nat.le_refl _
    · have := sumF_mono f h1
      rw [sumF_succ]
      omega
theorem sumB_append (a b : List (Int × Int)) : sumB (a ++ b) = sumB a + sumB b := by
  unfold sumB
  rw [List.map_append, List.sum_append]
theorem sumB_bars (f : Nat → Nat) : ∀ n, sumB (barsN f n) = sumF f n
  | 0 => rfl
  | n + 1 => by
    rw [barsN_succ, sumB_append, sumB_bars f n, sumF_succ]
    split
    · rename_i h
      rw [h]; rfl
    · unfold sumB
      simp
theorem barsN_place (f : Nat → Nat) : ∀ (n i : Nat) (b : Int × Int), (barsN f n)[i]? = some b → ∃ k : Nat, b.1 = (k : Int) ∧ k < n ∧ f k ≠ 0 ∧ (barsN f n).take i = barsN f k ∧ b.2 = (f k : Int)
  | 0, i, b, h => by simp [barsN] at h
  | n + 1, i, b, h => by
    rw [barsN_succ] at h ⊢
    rcases Nat.lt_or_ge i (barsN f n).length with hi | hi
    · rw [List.getElem?_append_left hi] at h
      obtain ⟨k, h1, h2, h3, h4, h5⟩ := barsN_place f n i b h
      exact ⟨k, h1, by omega, h3, by rw [List.take_append_of_le_length (by omega)]; exact h4, h5⟩
    · rw [List.getElem?_append_right hi] at h
      split at h
      · simp at h
      · rename_i h0
        have h' : i - (barsN f n).length = 0 := by
          rcases Nat.eq_zero_or_pos (i - (barsN f n).length) with h' | h'
          · exact h'
          · rw [List.getElem?_eq_none (by simp only [List.length_cons, List.length_nil]; omega)] at h
            simp at h
        rw [h'] at h
        simp at h
        subst h
        refine ⟨n, rfl, by omega, h0, ?_, rfl⟩
        rw [show i = (barsN f n).length by omega, List.take_left]
/-- Which bar the r-th value is in. -/
def AtK (f : Nat → Nat) (r k : Nat) : Prop := k < 1920 ∧ sumF f k < r ∧ r ≤ sumF f (k + 1)
theorem atK_of {f : Nat → Nat} {r i k : Nat} (h : AtBar (barsF f) r i) (hk : ((barsF f)[i]?).map (·.1) = some ((k : Nat) : Int)) : AtK f r k := by
  obtain ⟨hi, h1, h2⟩ := h
  have hg := List.getElem?_eq_getElem hi
  rw [hg] at hk
  obtain ⟨k', e1, e2, e3, e4, e5⟩ := barsN_place f 1920 i _ hg
  simp only [Option.map_some, Option.some.injEq] at hk
  have e : k' = k := by rw [hk] at e1; omega
  subst e
  have t := sumB_take (barsF f) i hi
  have e4' : (barsF f).take i = barsN f k' := e4
  rw [e4', sumB_bars] at t h1
  refine ⟨e2, h1, ?_⟩
  rw [sumF_succ]
  rw [t] at h2
  have : (barsF f)[i].2 = (f k' : Int) := e5
  rw [this, Int.toNat_natCast] at h2
  exact h2
theorem atK_mono {f : Nat → Nat} {r r' k k' : Nat} (h : AtK f r k) (h' : AtK f r' k') (hr : r' ≤ r) : k' ≤ k := by
  rcases Nat.lt_or_ge k k' with h1 | h1
  · have := sumF_mono f (show k + 1 ≤ k' by omega)
    have a := h.2.2
    have b := h'.2.1
    omega
  · exact h1
/-- How many values there are in a bar; ahead of it. -/
theorem cnt_lt_succ (V : List Nat) (k : Nat) : V.countP (fun v => decide (idxN v < k + 1)) = V.countP (fun v => decide (idxN v < k)) + V.countP (fun v => decide (idxN v = k)) := by
  induction V with
  | nil => rfl
  | cons v V ih =>
    rw [List.countP_cons, List.countP_cons, List.countP_cons, ih]
    by_cases h1 : idxN v < k
    · have h2 : ¬ idxN v = k := by omega
      have h3 : idxN v < k + 1 := by omega
      simp only [h1, h2, h3, decide_true, decide_false]
      simp
      omega
    · by_cases h2 : idxN v = k
      · simp [h2]
        omega
      · have h3 : ¬ idxN v < k + 1 := by omega
        simp only [h1, h2, h3, decide_false]
        simp
def cntV (V : List Nat) : Nat → Nat := fun i => V.countP (fun v => decide (idxN v = i))
theorem sumF_cnt (V : List Nat) : ∀ k, sumF (cntV V) k = V.countP (fun v => decide (idxN v < k))
  | 0 => by
    show 0 = _
    rw [List.countP_eq_zero.mpr]
    intro v _
    simp
  | k + 1 => by
    rw [sumF_succ, sumF_cnt V k, cnt_lt_succ]
    rfl
theorem sumF_all {V : List Nat} (h : ∀ v ∈ V, v < 18446744073709551616) : sumF (cntV V) 1920 = V.length := by
  rw [sumF_cnt, List.countP_eq_length]
  intro v hv
  simpa using idxN_lt (h v hv)
theorem foldP_ones (V : List Nat) (hV : V.length ≤ 2147483647) (i : Nat) : foldP (V.map fun v => (v, 1)) i = cntV V i := by
  rw [foldP_at]
  have e : totP (V.map fun v => (v, 1)) i = cntV V i := by
    unfold totP cntV
    rw [List.map_map]
    induction V with
    | nil => rfl
    | cons v V ih =>
      have := ih (by simp at hV; omega)
      rw [List.map_cons, List.sum_cons, this, List.countP_cons]
      by_cases h : idxN v = i
      · simp [h, Nat.add_comm]
      · simp [h]
  rw [e]
  have : cntV V i ≤ V.length := List.countP_le_length
  rw [topC_eq]
  omega
/-- The r-th one of those in their order. -/
theorem right_one {S V : List Nat} (hp : V.Perm S) (hs : S.Pairwise (· ≤ ·)) {r : Nat} (hr : 1 ≤ r) (hrl : r - 1 < S.length) {k : Nat} (hk : AtK (cntV V) r k) : idxN S[r - 1] = k := by
  obtain ⟨_, h1, h2⟩ := hk
  rw [sumF_cnt, hp.countP_eq] at h1 h2
  have hsplit : S = S.take (r - 1) ++ S.drop (r - 1) := (List.take_append_drop _ _).symm
  have hlow : ∀ x ∈ S.take (r - 1), x ≤ S[r - 1] := by
    intro x hx
    obtain ⟨j, hj, rfl⟩ := List.mem_iff_getElem.mp hx
    rw [List.getElem_take]
    have hj' : j < r - 1 := by simp at hj; omega
    exact List.pairwise_iff_getElem.mp hs j (r - 1) _ hrl hj'
  have hhigh : ∀ x ∈ S.drop (r - 1), S[r - 1] ≤ x := by
    intro x hx
    obtain ⟨j, hj, rfl⟩ := List.mem_iff_getElem.mp hx
    rw [List.getElem_drop]
    rcases Nat.eq_zero_or_pos j with h0 | h0
    · subst h0
      exact Nat.le_of_eq (by simp)
    · exact List.pairwise_iff_getElem.mp hs (r - 1) (r - 1 + j) hrl (by simp at hj; omega) (by omega)
  rcases Nat.lt_trichotomy (idxN S[r - 1]) k with h | h | h
  · exfalso
    have c : r ≤ S.countP (fun v => decide (idxN v < k)) := by
      have e : (S.take r).countP (fun v => decide (idxN v < k)) = (S.take r).length := by
        rw [List.countP_eq_length]
        intro x hx
        have hxl : x ≤ S[r - 1] := by
          obtain ⟨j, hj, rfl⟩ := List.mem_iff_getElem.mp hx
          rw [List.getElem_take]
          have hj' : j < r := by simp at hj; omega
          rcases Nat.lt_or_ge j (r - 1) with hjr | hjr
          · exact List.pairwise_iff_getElem.mp hs j (r - 1) _ hrl hjr
          · have : j = r - 1 := by omega
            subst this
            exact Nat.le_refl _
        have := idx_mono hxl
        simp
        omega
      have e2 : S.countP (fun v => decide (idxN v < k)) = (S.take r).countP (fun v => decide (idxN v < k)) + (S.drop r).countP (fun v => decide (idxN v < k)) := by
        rw [← List.countP_append, List.take_append_drop]
      have e3 : (S.take r).length = r := by rw [List.length_take]; omega
      omega
    omega
  · exact h
  · exfalso
    have c : S.countP (fun v => decide (idxN v < k + 1)) ≤ r - 1 := by
      have e2 : S.countP (fun v => decide (idxN v < k + 1)) = (S.take (r - 1)).countP (fun v => decide (idxN v < k + 1)) + (S.drop (r - 1)).countP (fun v => decide (idxN v < k + 1)) := by
        rw [← List.countP_append, List.take_append_drop]
      have e0 : (S.drop (r - 1)).countP (fun v => decide (idxN v < k + 1)) = 0 := by
        rw [List.countP_eq_zero]
        intro x hx
        have := idx_mono (hhigh x hx)
        simp
        omega
      have e3 : (S.take (r - 1)).countP (fun v => decide (idxN v < k + 1)) ≤ (S.take (r - 1)).length := List.countP_le_length
      have e4 : (S.take (r - 1)).length ≤ r - 1 := List.length_take_le _ _
      omega
    omega
theorem rk_eq (n num den : Nat) (hd : 0 < den) : rkN (n * num) den = max 1 ((num * n + den - 1) / den) := by
  rw [Nat.mul_comm num n]
  generalize n * num = m
  have dm := Nat.div_add_mod m den
  have ml := Nat.mod_lt m hd
  unfold rkN
  generalize m / den = q at *
  generalize m % den = s at *
  by_cases h0 : s = 0
  · have e : (m + den - 1) / den = q := by
      have e1 : m + den - 1 = (den - 1) + den * q := by omega
      rw [e1, Nat.add_mul_div_left _ _ hd, Nat.div_eq_of_lt (by omega)]
      omega
    rw [e]
    split
    · omega
    · rename_i h
      have : q = 0 := by
        rcases Nat.eq_zero_or_pos q with h2 | h2
        · exact h2
        · exact absurd ⟨h0, by omega⟩ h
      omega
  · have e : (m + den - 1) / den = q + 1 := by
      have e1 : m + den - 1 = (s - 1) + den * (q + 1) := by rw [Nat.mul_add]; omega
      rw [e1, Nat.add_mul_div_left _ _ hd, Nat.div_eq_of_lt (by omega)]
      omega
    rw [e, if_neg (fun h => h0 h.1)]
    omega
theorem rk_mono {n a b den : Nat} (h : a ≤ b) (hd : 0 < den) : rkN (n * a) den ≤ rkN (n * b) den := by
  rw [rk_eq n a den hd, rk_eq n b den hd]
  have h1 : a * n ≤ b * n := Nat.mul_le_mul_right n h
  have := Nat.div_le_div_right (c := den) (show a * n + den - 1 ≤ b * n + den - 1 by omega)
  omega
end Go.Proofs.Ytefnbljgfealbaa.sk
