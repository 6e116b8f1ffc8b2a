/-
  Rows that are full of marks, a mark for each number; several rows of one number may lie in one block.
-/
import Derived.Test.YtakannfkbmnlfaaMx
namespace Go.Proofs.Ytakannfkbmnlfaa
open Go Go.RowKit

/-- So many marks, one behind the other. -/
def marks (m : List Value) (n : Nat) : List Value := (List.replicate n m).flatten
theorem marks_len (m : List Value) (n : Nat) : (marks m n).length = n * m.length := by simp [marks]
theorem marks_succ (m : List Value) (n : Nat) : marks m n ++ m = marks m (n + 1) := by
  unfold marks
  rw [show n + 1 = n + 1 from rfl, List.replicate_succ', List.flatten_append]
  simp
theorem marks_get (m : List Value) (n t : Nat) (ht : t < n * m.length) : (marks m n)[t]? = m[t % m.length]? := by
  induction n generalizing t with
  | zero => omega
  | succ n ih =>
    rw [← marks_succ]
    have hl := marks_len m n
    have hs : (n + 1) * m.length = n * m.length + m.length := Nat.succ_mul _ _
    by_cases h1 : t < n * m.length
    · rw [List.getElem?_append_left (by omega)]
      exact ih t h1
    · rw [List.getElem?_append_right (by omega), hl]
      congr 1
      obtain ⟨d, rfl⟩ : ∃ d, t = d + n * m.length := ⟨t - n * m.length, by omega⟩
      rw [Nat.add_sub_cancel, Nat.add_mul_mod_self_right, Nat.mod_eq_of_lt (by omega)]
/-- A row that is full of marks. -/
def Full (base : Nat) (e : TypeId) (m : List Value) (w : World) (v : Value) : Prop := ∃ n, w.ownsRow base e m.length v n (marks m n)
theorem Full.lt {base : Nat} {e : TypeId} {m : List Value} {w : World} {v : Value} (h : Full base e m w v) {j : Nat} (hj : v.ownBlock = some j) : j < w.heap.size ∧ base ≤ j := by
  obtain ⟨n, h⟩ := h
  rcases h.2 with ⟨rfl, _⟩ | ⟨g, cap, cur, rfl, hb, hg, _⟩
  · simp [Value.ownBlock] at hj
  · simp [Value.ownBlock] at hj
    subst hj
    exact ⟨lt_of_block hg, hb⟩
theorem Full.upd {S : Nat → Prop} {base : Nat} {e : TypeId} {m : List Value} {w w' : World} {v : Value} (h : Full base e m w v) (hu : Upd S w w') (hS : ∀ k, v.ownBlock = some k → ¬ S k) : Full base e m w' v := by
  obtain ⟨n, h⟩ := h
  exact ⟨n, ownsRow_upd h hu hS⟩
/-- Where the same mark is written behind a row, a row in the same block stays full of it. -/
theorem Full.over {base : Nat} {e : TypeId} {m : List Value} {w w' : World} {u v : Value} {n : Nat} (h : Full base e m w u) (k : Nat) (hu : u.ownBlock = some k) (hv : v.ownBlock = some k) (ho : Over w w' v e (n * m.length) m) : Full base e m w' u := by
  obtain ⟨n', h⟩ := h
  refine ⟨n', h.1, ?_⟩
  rcases h.2 with h | ⟨g, cap, cur, rfl, hb, hg, h1, h2, h3, h4⟩
  · exact Or.inl h
  · simp [Value.ownBlock] at hu
    subst hu
    obtain ⟨cur', c1, c2, c3⟩ := ho g cur hv hg
    refine Or.inr ⟨g, cap, cur', rfl, hb, c1, h1, h2, by omega, ?_⟩
    have hle : n' * m.length ≤ cap * m.length := Nat.mul_le_mul_right _ h1
    refine List.ext_getElem? fun t => ?_
    by_cases ht : t < n' * m.length
    · rw [List.getElem?_take, if_pos ht, marks_get m n' t ht]
      have e4 : cur.toList[t]? = m[t % m.length]? := by
        have := congrArg (·[t]?) h4
        simp only [List.getElem?_take, if_pos ht] at this
        rw [this, marks_get m n' t ht]
      rw [Array.getElem?_toList] at e4 ⊢
      rcases c3 t with e | ⟨h5, h6, e⟩
      · rw [e, e4]
      · rw [e]
        obtain ⟨d, rfl⟩ : ∃ d, t = d + n * m.length := ⟨t - n * m.length, by omega⟩
        rw [Nat.add_sub_cancel, Nat.add_mul_mod_self_right, Nat.mod_eq_of_lt (by omega)]
    · rw [List.getElem?_eq_none (by simp; omega), List.getElem?_eq_none (by rw [marks_len]; omega)]
/-- A family of rows, each with its number; those of two numbers lie in different blocks. -/
structure Fams (base : Nat) (e : TypeId) (mk : Nat → List Value) (w : World) (fam : Nat → Value → Prop) : Prop where
  full : ∀ i u, fam i u → Full base e (mk i) w u
  apart : ∀ i u j v, fam i u → fam j v → i ≠ j → ∀ k, u.ownBlock = some k → v.ownBlock ≠ some k
theorem Fams.less {base : Nat} {e : TypeId} {mk : Nat → List Value} {w : World} {fam fam' : Nat → Value → Prop} (h : Fams base e mk w fam) (hs : ∀ i u, fam' i u → fam i u) : Fams base e mk w fam' :=
  ⟨fun i u hm => h.full i u (hs _ _ hm), fun i u j v h1 h2 => h.apart i u j v (hs _ _ h1) (hs _ _ h2)⟩
theorem Fams.upd {S : Nat → Prop} {base : Nat} {e : TypeId} {mk : Nat → List Value} {w w' : World} {fam : Nat → Value → Prop} (h : Fams base e mk w fam) (hu : Upd S w w') (hS : ∀ i u k, fam i u → u.ownBlock = some k → ¬ S k) : Fams base e mk w' fam :=
  ⟨fun i u hm => (h.full i u hm).upd hu (fun k hk => hS i u k hm hk), h.apart⟩
/-- One more. -/
def plus (i : Nat) (g : Value) (fam : Nat → Value → Prop) : Nat → Value → Prop := fun j v => (j = i ∧ v = g) ∨ fam j v
/-- One mark more behind one of the rows. -/
theorem Fams.step {base : Nat} {e : TypeId} {mk : Nat → List Value} {w w' : World} {fam : Nat → Value → Prop} {i n : Nat} {g g' : Value} (h : Fams base e mk w fam) (hm : fam i g)
    (ho : w'.ownsRow base e (mk i).length g' (n + 1) (marks (mk i) n ++ mk i)) (hg : w.grownBy w' g.ownBlock) (mv : Moved w g g') (ov : Over w w' g e (n * (mk i).length) (mk i)) :
    Fams base e mk w' (plus i g' fam) := by
  have u : Upd (fun j => g.ownBlock = some j) w w' := (Upd.refl _ _).grown hg (fun _ _ e => e)
  refine ⟨fun j v hv => ?_, fun a v b x h1 h2 hne k hk hx => ?_⟩
  · rcases hv with ⟨rfl, rfl⟩ | hv
    · exact ⟨n + 1, by rw [← marks_succ]; exact ho⟩
    · have hf := h.full j v hv
      by_cases hji : j = i
      · subst hji
        by_cases hb : ∃ k, g.ownBlock = some k ∧ v.ownBlock = some k
        · obtain ⟨k, hk1, hk2⟩ := hb
          exact hf.over k hk2 hk1 ov
        · exact hf.upd u (fun k hk hg => hb ⟨k, hg, hk⟩)
      · exact hf.upd u (fun k hk hg => h.apart j v i g hv hm hji k hk hg)
  · have key : ∀ j y, fam j y → j ≠ i → ∀ k, g'.ownBlock = some k → y.ownBlock ≠ some k := by
      intro j y hy hji k hk hyk
      rcases mv with e | ⟨k', e, hk'⟩
      · exact h.apart i g j y hm hy (fun e => hji e.symm) k (e ▸ hk) hyk
      · rw [hk] at e
        simp at e
        have := ((h.full j y hy).lt hyk).1
        omega
    rcases h1 with ⟨rfl, rfl⟩ | h1
    · rcases h2 with ⟨rfl, rfl⟩ | h2
      · exact hne rfl
      · exact key b x h2 (fun e => hne e.symm) k hk hx
    · rcases h2 with ⟨rfl, rfl⟩ | h2
      · exact key a v h1 hne k hx hk
      · exact h.apart a v b x h1 h2 hne k hk hx
end Go.Proofs.Ytakannfkbmnlfaa
