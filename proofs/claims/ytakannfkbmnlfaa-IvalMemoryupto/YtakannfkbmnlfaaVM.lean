/-
  Layer 6, the law's own: lists of lists of intervals (IvalMemory).
-/
import Derived.Test.YtakannfkbmnlfaaVL
namespace Go.Proofs.Ytakannfkbmnlfaa
open Go.Shelf Go.RowKit Go.Lib
set_option maxRecDepth 100000

/-- Lists, each in a block of its own. -/
structure LsAt (base : Nat) (w : World) (vs : List Value) (Xs : List (List (Int × Int))) : Prop where
  len : vs.length = Xs.length
  own : ∀ (i : Nat) v X, vs[i]? = some v → Xs[i]? = some X → OwnI base w v X
  apart : vs.Pairwise fun a b => ∀ k, a.ownBlock = some k → b.ownBlock ≠ some k
theorem LsAt.nil (base : Nat) (w : World) : LsAt base w [] [] := ⟨rfl, (fun i v X h => by simp at h), List.Pairwise.nil⟩
theorem LsAt.below {base : Nat} {w w' : World} {vs : List Value} {Xs : List (List (Int × Int))} (h : LsAt base w vs Xs) (hb : Below w.heap.size w w') : LsAt base w' vs Xs :=
  ⟨h.len, fun i v X h1 h2 => ownI_bel (h.own i v X h1 h2) hb, h.apart⟩
theorem LsAt.push {base : Nat} {w w' : World} {vs : List Value} {Xs : List (List (Int × Int))} {v : Value} {X : List (Int × Int)} (h : LsAt base w vs Xs) (hb : Below w.heap.size w w') (ho : OwnI w.heap.size w' v X) (hbase : base ≤ w.heap.size) : LsAt base w' (vs ++ [v]) (Xs ++ [X]) := by
  refine ⟨by simp [h.len], fun i u Y h1 h2 => ?_, ?_⟩
  · rcases Nat.lt_trichotomy i vs.length with hi | hi | hi
    · rw [List.getElem?_append_left hi] at h1
      rw [List.getElem?_append_left (by rw [← h.len]; exact hi)] at h2
      exact ownI_bel (h.own i u Y h1 h2) hb
    · subst hi
      rw [List.getElem?_append_right (Nat.le_refl _), Nat.sub_self] at h1
      rw [h.len, List.getElem?_append_right (Nat.le_refl _), Nat.sub_self] at h2
      simp at h1 h2
      subst h1 h2
      exact own_base ho hbase
    · rw [List.getElem?_eq_none (by simp; omega)] at h1
      simp at h1
  · refine List.pairwise_append.mpr ⟨h.apart, List.pairwise_singleton _ _, fun a ha b hb' k hk hk' => ?_⟩
    simp at hb'
    subst hb'
    obtain ⟨i, hi, rfl⟩ := List.getElem_of_mem ha
    have h1 := h.own i vs[i] (Xs[i]'(by rw [← h.len]; exact hi)) (List.getElem?_eq_getElem hi) (List.getElem?_eq_getElem _)
    obtain ⟨_, cs, fz, hx⟩ := own_block h1 hk
    have := lt_of_block hx
    have := (own_block ho hk').1
    omega
theorem LsAt.ne {base : Nat} {w : World} {vs : List Value} {Xs : List (List (Int × Int))} (h : LsAt base w vs Xs) {i j : Nat} {u v : Value} (hi : vs[i]? = some u) (hj : vs[j]? = some v) (hij : i ≠ j) : ∀ k, u.ownBlock = some k → v.ownBlock ≠ some k := by
  have hp := List.pairwise_iff_getElem.mp h.apart
  obtain ⟨hi', ei⟩ := List.getElem?_eq_some_iff.mp hi
  obtain ⟨hj', ej⟩ := List.getElem?_eq_some_iff.mp hj
  subst ei ej
  rcases Nat.lt_or_ge i j with h1 | h1
  · exact hp i j hi' hj' h1
  · intro k hk hk'
    exact hp j i hj' hi' (by omega) k hk' hk
/-- Rows of lists that stay: where the ten lie, and the five. -/
structure MsI (w0 : World) (gl gw : Nat) (vs : List Value) (w : World) : Prop where
  rl : ∀ (i : Nat) v, i < 10 → vs[i]? = some v → w.cell? ⟨gl, i, none⟩ = some v
  rw_ : ∀ (j : Nat) v, j < 5 → vs[10 + j]? = some v → w.cell? ⟨gw, j, none⟩ = some v
  tl : ∃ cs fz, w.heap[gl]? = some (.cells cs 22 fz)
  tw : ∃ cs fz, w.heap[gw]? = some (.cells cs 22 fz)
  bel : Below w0.heap.size w0 w
theorem MsI.upd {S : Nat → Prop} {w0 : World} {gl gw : Nat} {vs : List Value} {w w' : World} (h : MsI w0 gl gw vs w) (hu : Upd S w w') (h1 : ¬ S gl) (h2 : ¬ S gw) (h0 : ∀ k, S k → w0.heap.size ≤ k) : MsI w0 gl gw vs w' := by
  refine ⟨fun i v hi hv => cell_upd hu (h.rl i v hi hv) h1, fun j v hj hv => cell_upd hu (h.rw_ j v hj hv) h2, ?_, ?_, h.bel.trans (hu.below h.bel.size (fun k hk e => by have := h0 k e; omega))⟩
  · obtain ⟨cs, fz, hx⟩ := h.tl
    exact ⟨cs, fz, (hu.block gl (lt_of_block hx) h1).trans hx⟩
  · obtain ⟨cs, fz, hx⟩ := h.tw
    exact ⟨cs, fz, (hu.block gw (lt_of_block hx) h2).trans hx⟩
theorem MsI.below {w0 : World} {gl gw : Nat} {vs : List Value} {w w' : World} (h : MsI w0 gl gw vs w) (hb : Below w.heap.size w w') : MsI w0 gl gw vs w' :=
  h.upd (Upd.ofBelow (S := fun _ => False) hb (fun k hk hk' => by omega)) (fun h => h) (fun h => h) (fun _ h => h.elim)
/-- A block of intervals is written: the rows of lists stay. -/
theorem MsI.ivs {w0 : World} {gl gw : Nat} {vs : List Value} {w w' : World} {v : Value} {n : Nat} {xs : List Value} (h : MsI w0 gl gw vs w) (ho : w.ownsRow w0.heap.size 35 2 v n xs) (hu : Upd (fun k => v.ownBlock = some k) w w') : MsI w0 gl gw vs w' := by
  refine h.upd hu (fun e => ?_) (fun e => ?_) (fun k e => (own_block ho e).1)
  · obtain ⟨cs, fz, hx⟩ := h.tl
    obtain ⟨_, cs', fz', hy⟩ := own_block ho e
    exact ne_of_types hx hy (by decide) rfl
  · obtain ⟨cs, fz, hx⟩ := h.tw
    obtain ⟨_, cs', fz', hy⟩ := own_block ho e
    exact ne_of_types hx hy (by decide) rfl
/-- The first i lists are marked, the others are as they were. -/
def PhB (base : Nat) (w : World) (vs : List Value) (Xs : List (List (Int × Int))) (i : Nat) : Prop :=
  ∀ (j : Nat) v, vs[j]? = some v → (j < i ∧ Full base 35 (mkI j) w v) ∨ (i ≤ j ∧ ∃ X, Xs[j]? = some X ∧ OwnI base w v X)
theorem LsAt.phB {base : Nat} {w : World} {vs : List Value} {Xs : List (List (Int × Int))} (h : LsAt base w vs Xs) : PhB base w vs Xs 0 := fun j v hj => by
  have hl : j < Xs.length := by rw [← h.len]; exact (List.getElem?_eq_some_iff.mp hj).1
  exact Or.inr ⟨Nat.zero_le _, Xs[j], List.getElem?_eq_getElem hl, h.own j v _ hj (List.getElem?_eq_getElem hl)⟩
theorem PhB.step {base : Nat} {w w' : World} {vs : List Value} {Xs : List (List (Int × Int))} {i : Nat} {v : Value} {n : Nat} (h : PhB base w vs Xs i) (hv : vs[i]? = some v) (hne : ∀ (j : Nat) u, vs[j]? = some u → j ≠ i → ∀ k, v.ownBlock = some k → u.ownBlock ≠ some k) (hu : Upd (fun k => v.ownBlock = some k) w w') (ho : OwnI base w' v (List.replicate n ((i : Int) + 1, -((i : Int) + 1)))) : PhB base w' vs Xs (i + 1) := fun j u hj => by
  by_cases hji : j = i
  · subst hji
    rw [hv] at hj
    injection hj with hj
    subst hj
    exact Or.inl ⟨by omega, own_full ho⟩
  · rcases h j u hj with ⟨h1, h2⟩ | ⟨h1, X, h2, h3⟩
    · exact Or.inl ⟨by omega, h2.upd hu (fun k hk e => hne j u hj hji k e hk)⟩
    · exact Or.inr ⟨by omega, X, h2, ownsRow_upd h3 hu (fun k hk e => hne j u hj hji k e hk)⟩
/-- The lists that were grown, and those that they were grown of. -/
def famG (vs gs : List Value) : Nat → Value → Prop := fun j v => (j < 10 ∧ vs[j]? = some v) ∨ gs[j]? = some v
theorem PhB.fam {base : Nat} {w : World} {vs : List Value} {Xs Ys : List (List (Int × Int))} {w1 : World} (h : PhB base w vs Xs 10) (hl : LsAt base w1 vs Ys) : FamI base w (famG vs []) := by
  refine ⟨fun j v hv => ?_, fun a u b v h1 h2 hne k hk => ?_⟩
  · rcases hv with ⟨h1, h2⟩ | h1
    · rcases h j v h2 with ⟨_, h3⟩ | ⟨h3, _⟩
      · exact h3
      · omega
    · simp at h1
  · rcases h1 with ⟨_, h1⟩ | h1
    · rcases h2 with ⟨_, h2⟩ | h2
      · exact hl.ne h1 h2 hne k hk
      · simp at h2
    · simp at h1
theorem famG_push {vs gs : List Value} {i : Nat} {g : Value} (hi : gs.length = i) : ∀ j u, famG vs (gs ++ [g]) j u → plus i g (famG vs gs) j u := fun j u h => by
  rcases h with h | h
  · exact Or.inr (Or.inl h)
  · rcases Nat.lt_trichotomy j gs.length with h1 | h1 | h1
    · rw [List.getElem?_append_left h1] at h
      exact Or.inr (Or.inr h)
    · subst h1
      rw [List.getElem?_append_right (Nat.le_refl _), Nat.sub_self] at h
      simp at h
      exact Or.inl ⟨hi, h.symm⟩
    · rw [List.getElem?_eq_none (by simp; omega)] at h
      simp at h
/-- The five that are held against. -/
def WantI (base : Nat) (w : World) (vs : List Value) (Xs : List (List (Int × Int))) : Prop := ∀ (j : Nat) v X, j < 5 → vs[10 + j]? = some v → Xs[10 + j]? = some X → OwnI base w v X
theorem PhB.want {base : Nat} {w : World} {vs : List Value} {Xs : List (List (Int × Int))} (h : PhB base w vs Xs 10) : WantI base w vs Xs := fun j v X _ hv hX => by
  rcases h (10 + j) v hv with ⟨h1, _⟩ | ⟨_, Y, h2, h3⟩
  · omega
  · rw [hX] at h2
    injection h2 with h2
    subst h2
    exact h3
theorem WantI.upd {S : Nat → Prop} {base : Nat} {w w' : World} {vs : List Value} {Xs : List (List (Int × Int))} (h : WantI base w vs Xs) (hu : Upd S w w') (hS : ∀ (j : Nat) v X, j < 5 → vs[10 + j]? = some v → Xs[10 + j]? = some X → ∀ k, v.ownBlock = some k → ¬ S k) : WantI base w' vs Xs :=
  fun j v X hj hv hX => ownsRow_upd (h j v X hj hv hX) hu (hS j v X hj hv hX)
/-- The lists' lengths are known. -/
def FewI (vs : List Value) : Prop := ∀ (j : Nat) v, vs[j]? = some v → ∃ (ao : Option Addr) (l c : Nat), v = Value.slice ao l c ∧ l ≤ 8388608
theorem LsAt.few {base : Nat} {w : World} {vs : List Value} {Xs : List (List (Int × Int))} (h : LsAt base w vs Xs) (hX : ∀ X ∈ Xs, X.length ≤ 8388608) : FewI vs := fun j v hj => by
  have hl : j < Xs.length := by rw [← h.len]; exact (List.getElem?_eq_some_iff.mp hj).1
  have ho := h.own j v Xs[j] hj (List.getElem?_eq_getElem hl)
  obtain ⟨ao, l, c, rfl⟩ := row_shape ho
  exact ⟨ao, l, c, rfl, by rw [ho.len]; exact hX _ (List.getElem_mem hl)⟩
/-- The ten lists' sets are those of the five. -/
theorem fif_eq {α : Type} (a b c d e : α) (i : Nat) (hi : i < 10) : ([a, b, c, d, e] ++ [a, b, c, d, e] ++ [a, b, c, d, e])[i]? = ([a, b, c, d, e] ++ [a, b, c, d, e] ++ [a, b, c, d, e])[10 + i % 5]? := by
  have : i = 0 ∨ i = 1 ∨ i = 2 ∨ i = 3 ∨ i = 4 ∨ i = 5 ∨ i = 6 ∨ i = 7 ∨ i = 8 ∨ i = 9 := by omega
  rcases this with rfl | rfl | rfl | rfl | rfl | rfl | rfl | rfl | rfl | rfl <;> rfl
end Go.Proofs.Ytakannfkbmnlfaa
