/-
  Mathematics of layer 6's reference: what pieces tells is what the walk along the ends tells.
-/
import Derived.Test.YtakannfkbmnlfaaVa
namespace Go.Proofs.Ytakannfkbmnlfaa
open Go

/-- What pieces wants. -/
def wantW (u : Bool) (p q : Bool) : Bool := p && (q == u)
theorem wantW_no (u : Bool) : wantW u false false = false := rfl
/-- The first end tells nothing. -/
theorem run_one (want : Bool → Bool → Bool) (hw : want false false = false) (E : List (Int × Int × Int)) : (runL want (E.take 1)).out = [] := by
  cases E with
  | nil => rfl
  | cons e E =>
    show closeL want ⟨0, 0, 0, []⟩ e.1 = []
    unfold closeL
    rw [show want (decide (0 < (0 : Int))) (decide (0 < (0 : Int))) = false from hw]
    simp
theorem run_at (want : Bool → Bool → Bool) (E : List (Int × Int × Int)) (i : Nat) (hi : i < E.length) : (runL want (E.take (i + 1))).at_ = E[i].1 := by
  rw [List.take_succ_eq_append_getElem hi, runL_snoc]; rfl
theorem run_n0 (want : Bool → Bool → Bool) (E : List (Int × Int × Int)) (i : Nat) (hi : i < E.length) : (runL want (E.take (i + 1))).n0 = if E[i].2.2 = 0 then (runL want (E.take i)).n0 + stepE E[i] else (runL want (E.take i)).n0 := by
  rw [List.take_succ_eq_append_getElem hi, runL_snoc]; rfl
theorem run_n1 (want : Bool → Bool → Bool) (E : List (Int × Int × Int)) (i : Nat) (hi : i < E.length) : (runL want (E.take (i + 1))).n1 = if E[i].2.2 = 1 then (runL want (E.take i)).n1 + stepE E[i] else (runL want (E.take i)).n1 := by
  rw [List.take_succ_eq_append_getElem hi, runL_snoc]; rfl
theorem run_out (want : Bool → Bool → Bool) (E : List (Int × Int × Int)) (i : Nat) (hi : i < E.length) : (runL want (E.take (i + 1))).out = closeL want (runL want (E.take i)) E[i].1 := by
  rw [List.take_succ_eq_append_getElem hi, runL_snoc]; rfl

/-! ## Two lists put together in order -/
abbrev SortE (E : List (Int × Int × Int)) : Prop := E.Pairwise fun e f => e.1 ≤ f.1
structure MrgE (A B : List (Int × Int × Int)) (i k : Nat) (P : List (Int × Int × Int)) : Prop where
  srt : SortE P
  le : ∀ x ∈ P, ∀ y ∈ A.drop i ++ B.drop k, x.1 ≤ y.1
  perm : (P ++ (A.drop i ++ B.drop k)).Perm (A ++ B)
  len : P.length = i + k
theorem sortE_more {P : List (Int × Int × Int)} {c : Int × Int × Int} (h : SortE P) (hl : ∀ x ∈ P, x.1 ≤ c.1) : SortE (P ++ [c]) := by
  refine List.pairwise_append.2 ⟨h, List.pairwise_singleton _ _, fun x hx y hy => ?_⟩
  simp at hy
  subst hy
  exact hl x hx
theorem MrgE.left {A B : List (Int × Int × Int)} {i k : Nat} {P : List (Int × Int × Int)} {c : Int × Int × Int} (h : MrgE A B i k P) (hd : A.drop i = c :: A.drop (i + 1)) (hA : SortE A) (hB : ∀ y ∈ B.drop k, c.1 ≤ y.1) : MrgE A B (i + 1) k (P ++ [c]) := by
  have hs : SortE (c :: A.drop (i + 1)) := by rw [← hd]; exact List.Pairwise.sublist (List.drop_sublist _ _) hA
  have hp := h.perm
  have hl := h.le
  rw [hd] at hp hl
  refine ⟨sortE_more h.srt (fun x hx => hl x hx c (by simp)), fun x hx y hy => ?_, ?_, by have := h.len; simp; omega⟩
  · rcases List.mem_append.1 hx with hx | hx
    · exact hl x hx y (by rw [List.cons_append]; exact List.mem_cons_of_mem _ hy)
    · simp at hx
      subst hx
      rcases List.mem_append.1 hy with hy | hy
      · exact (List.pairwise_cons.1 hs).1 y hy
      · exact hB y hy
  · rw [List.append_assoc]
    exact hp
theorem MrgE.right {A B : List (Int × Int × Int)} {i k : Nat} {P : List (Int × Int × Int)} {d : Int × Int × Int} (h : MrgE A B i k P) (hd : B.drop k = d :: B.drop (k + 1)) (hB : SortE B) (hA : ∀ y ∈ A.drop i, d.1 ≤ y.1) : MrgE A B i (k + 1) (P ++ [d]) := by
  have hs : SortE (d :: B.drop (k + 1)) := by rw [← hd]; exact List.Pairwise.sublist (List.drop_sublist _ _) hB
  have hp := h.perm
  have hl := h.le
  rw [hd] at hp hl
  refine ⟨sortE_more h.srt (fun x hx => hl x hx d (by simp)), fun x hx y hy => ?_, ?_, by have := h.len; simp; omega⟩
  · rcases List.mem_append.1 hx with hx | hx
    · refine hl x hx y ?_
      rcases List.mem_append.1 hy with hy | hy
      · exact List.mem_append_left _ hy
      · exact List.mem_append_right _ (List.mem_cons_of_mem _ hy)
    · simp at hx
      subst hx
      rcases List.mem_append.1 hy with hy | hy
      · exact hA y hy
      · exact (List.pairwise_cons.1 hs).1 y hy
  · rw [List.append_assoc]
    refine List.Perm.trans (List.Perm.append_left _ ?_) hp
    show (d :: (A.drop i ++ B.drop (k + 1))).Perm _
    exact List.perm_middle.symm
theorem sortE_through {c : Int} {d : Int × Int × Int} {L : List (Int × Int × Int)} {n : Nat} (hs : SortE L) (hd : L.drop n = d :: L.drop (n + 1)) (h : c ≤ d.1) : ∀ y ∈ L.drop n, c ≤ y.1 := by
  have hs' : SortE (d :: L.drop (n + 1)) := by rw [← hd]; exact List.Pairwise.sublist (List.drop_sublist _ _) hs
  intro y hy
  rw [hd] at hy
  rcases List.mem_cons.1 hy with rfl | hy
  · exact h
  · exact Int.le_trans h ((List.pairwise_cons.1 hs').1 y hy)
/-! ## The ends of a list, one more -/
theorem cutU_cons (j : Int) (i : Int × Int) (a : List (Int × Int)) : endsL j (i :: a) = if i.2 ≤ i.1 then endsL j a else (i.1, 0, j) :: (i.2, 1, j) :: endsL j a := rfl
theorem cutU_append (j : Int) : ∀ (a b : List (Int × Int)), endsL j (a ++ b) = endsL j a ++ endsL j b
  | [], _ => rfl
  | i :: a, b => by
    rw [List.cons_append, cutU_cons, cutU_cons, cutU_append j a b]
    split <;> rfl
theorem cutU_len (j : Int) : ∀ (a : List (Int × Int)), (endsL j a).length ≤ 2 * a.length
  | [] => Nat.le_refl _
  | i :: a => by
    have := cutU_len j a
    unfold endsL
    split <;> simp <;> omega
theorem cutU_take (j : Int) (A : List (Int × Int)) (i : Nat) (hi : i < A.length) : endsL j (A.take (i + 1)) = endsL j (A.take i) ++ if A[i].2 ≤ A[i].1 then [] else [(A[i].1, 0, j), (A[i].2, 1, j)] := by
  rw [List.take_succ_eq_append_getElem hi, cutU_append]
  rfl
end Go.Proofs.Ytakannfkbmnlfaa
