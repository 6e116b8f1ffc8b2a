/-
  Plain mathematics: frames one behind the other, cut off, with bytes behind.
-/
import Derived.Test.YthnfpapaknejnabLa
namespace Go.Proofs.Ythnfpapaknejnab
open Go

theorem catL_cons (f : Fr) (r : List Fr) : catL (f :: r) = makeL f.1 f.2.1 f.2.2 ++ catL r := by simp [catL]
theorem catL_append (a b : List Fr) : catL (a ++ b) = catL a ++ catL b := by simp [catL]
theorem scan_cat (gs : List Fr) : ∀ (R : List Int) (p f f' : Nat), (∀ g ∈ gs, okF g) → (catL gs ++ R).length ≤ f → R.length ≤ f' →
    scanG f (catL gs ++ R) p = (pcsL p gs ++ (scanG f' R (p + (catL gs).length)).1, (scanG f' R (p + (catL gs).length)).2) := by
  induction gs with
  | nil =>
    intro R p f f' _ hf hf'
    have e : catL [] = [] := rfl
    rw [e] at *
    simp only [List.nil_append, List.length_nil, Nat.add_zero, pcsL] at *
    rw [scanG_fuel f R p f' hf hf']
  | cons g r ih =>
    intro R p f f' hok hf hf'
    obtain ⟨h1, h2, h3, h4⟩ := hok g (by simp)
    have hml := makeL_len g.1 g.2.1 g.2.2
    rw [catL_cons, List.append_assoc] at hf ⊢
    obtain ⟨f0, rfl⟩ : ∃ f0, f = f0 + 1 := ⟨f - 1, by simp [hml] at hf; omega⟩
    have hst := stepS_make g.1 g.2.1 g.2.2 (catL r ++ R) h1 h2 h3
    rw [scanG_ok f0 p _ _ _ _ (by simp [hml]; omega) hst, List.drop_append, List.drop_of_length_le (by rw [hml]; exact Nat.le_refl _), hml, Nat.sub_self, List.drop_zero, List.nil_append]
    rw [ih R (p + 24 + g.2.2.length) f0 f' (fun x hx => hok x (by simp [hx])) (by simp [hml] at hf; simp; omega) hf']
    simp only [pcsL, List.length_append, hml, List.cons_append]
    rw [show p + 24 + g.2.2.length + (catL r).length = p + (24 + g.2.2.length + (catL r).length) by omega]

/-- A frame that is cut off. -/
theorem stepS_prefix (k : Int) (q : Nat) (P : List Int) (m : Nat) (hk : 1 ≤ k ∧ k ≤ 9) (hP : P.length ≤ 1048576) (hm : m < 24 + P.length) : stepS ((makeL k q P).take m) = .error 23 := by
  have hml := makeL_len k q P
  by_cases h24 : m < 24
  · unfold stepS
    rw [if_pos (by simp [hml]; omega)]
  · have e : (makeL k q P).take m = headL k q P.length (moreB 0#32 P).toNat ++ P.take (m - 24) := by
      unfold makeL
      rw [List.take_append, headL_len, List.take_of_length_le (by rw [headL_len]; omega)]
    obtain ⟨h1, h2, h3, h4, h5, h6, h7⟩ := head_parts k q P.length (moreB 0#32 P).toNat (P.take (m - 24))
    have hR := (rightB_iff _).2 (right_head k q P.length (moreB 0#32 P).toNat (P.take (m - 24)) hk hP)
    have hl : (headL k q P.length (moreB 0#32 P).toNat ++ P.take (m - 24)).length = m := by simp [headL_len]; omega
    unfold stepS
    rw [e, if_neg (by omega), hR, if_pos rfl, h4, numI_big 4 _ (by omega), if_pos (by omega)]
/-- Where the i-th frame begins. -/
def endAt (fs : List Fr) (i : Nat) : Nat := (catL (fs.take i)).length
theorem endAt_zero (fs : List Fr) : endAt fs 0 = 0 := by simp [endAt, catL]
theorem endAt_succ (fs : List Fr) (i : Nat) (hi : i < fs.length) : endAt fs (i + 1) = endAt fs i + 24 + fs[i].2.2.length := by
  unfold endAt
  rw [List.take_succ_eq_append_getElem hi, catL_snoc, List.length_append, makeL_len]
  omega
theorem endAt_all (fs : List Fr) : endAt fs fs.length = (catL fs).length := by unfold endAt; rw [List.take_length]
theorem endAt_le (fs : List Fr) (i : Nat) : endAt fs i ≤ (catL fs).length := by
  unfold endAt
  conv => rhs; rw [← List.take_append_drop i fs, catL_append]
  simp
theorem pcsL_get (fs : List Fr) : ∀ (p i : Nat) (hi : i < fs.length), (pcsL p fs)[i]'(by rw [pcsL_len]; exact hi) = (fs[i].1, fs[i].2.1, p + endAt fs i + 24, fs[i].2.2.length) := by
  induction fs with
  | nil => intro p i hi; simp at hi
  | cons g r ih =>
    intro p i hi
    cases i with
    | zero => simp [pcsL, endAt, catL]
    | succ i =>
      simp only [pcsL, List.getElem_cons_succ]
      rw [ih (p + 24 + g.2.2.length) i (by simpa using hi)]
      have : p + 24 + g.2.2.length + endAt r i = p + endAt (g :: r) (i + 1) := by
        unfold endAt; rw [List.take_succ_cons, catL_cons, List.length_append, makeL_len]; omega
      rw [this]
theorem pcsL_take (fs : List Fr) : ∀ (p i : Nat), (pcsL p fs).take i = pcsL p (fs.take i) := by
  induction fs with
  | nil => intro p i; simp [pcsL]
  | cons g r ih =>
    intro p i
    cases i with
    | zero => simp [pcsL]
    | succ i => simp [pcsL, ih]
theorem scan_cut (fs : List Fr) (hok : ∀ f ∈ fs, okF f) (n i : Nat) (hn : n ≤ (catL fs).length) (hi : i ≤ fs.length) (h1 : endAt fs i ≤ n) (h2 : i < fs.length → n < endAt fs (i + 1)) :
    scanL ((catL fs).take n) = ((pcsL 0 fs).take i, endAt fs i, if endAt fs i = n then 0 else 23) := by
  have hsplit : (catL fs).take n = catL (fs.take i) ++ (catL (fs.drop i)).take (n - endAt fs i) := by
    conv => lhs; rw [← List.take_append_drop i fs, catL_append]
    rw [List.take_append, List.take_of_length_le (by exact h1)]
    rfl
  have hokt : ∀ f ∈ fs.take i, okF f := fun f hf => hok f (List.mem_of_mem_take hf)
  unfold scanL
  rw [hsplit, scan_cat (fs.take i) _ 0 _ ((catL (fs.drop i)).take (n - endAt fs i)).length hokt (Nat.le_refl _) (Nat.le_refl _), pcsL_take, Nat.zero_add]
  show (pcsL 0 (fs.take i) ++ (scanG _ _ (endAt fs i)).1, (scanG _ _ (endAt fs i)).2) = _
  by_cases he : endAt fs i = n
  · rw [if_pos he, he, Nat.sub_self, List.take_zero, scanG_nil]
    simp
  · rw [if_neg he]
    have hil : i < fs.length := by
      by_cases h : i < fs.length
      · exact h
      · have : i = fs.length := by omega
        rw [this, endAt_all] at h1 he
        omega
    have h3 := h2 hil
    rw [endAt_succ fs i hil] at h3
    obtain ⟨g1, g2, g3, g4⟩ := hok fs[i] (List.getElem_mem hil)
    have hml := makeL_len fs[i].1 fs[i].2.1 fs[i].2.2
    have hd : (catL (fs.drop i)).take (n - endAt fs i) = (makeL fs[i].1 fs[i].2.1 fs[i].2.2).take (n - endAt fs i) := by
      rw [List.drop_eq_getElem_cons hil, catL_cons, List.take_append_of_le_length (by omega)]
    rw [hd]
    have hl : ((makeL fs[i].1 fs[i].2.1 fs[i].2.2).take (n - endAt fs i)).length = n - endAt fs i := by simp [hml]; omega
    obtain ⟨m, hm⟩ : ∃ m, n - endAt fs i = m + 1 := ⟨n - endAt fs i - 1, by omega⟩
    rw [hl, hm, ← hm, show n - endAt fs i = m + 1 from hm]
    rw [scanG_err m (endAt fs i) _ 23 (by rw [← hm, hl]; omega) (stepS_prefix _ _ _ _ g1 g3 (by omega))]
    simp
end Go.Proofs.Ythnfpapaknejnab
