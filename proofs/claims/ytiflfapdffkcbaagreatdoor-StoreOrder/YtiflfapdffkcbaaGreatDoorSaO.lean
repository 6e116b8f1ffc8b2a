/-
  SaO.
-/
import Derived.Test.YtiflfapdffkcbaaGreatDoorSaBq
import Derived.Test.YtiflfapdffkcbaaGreatDoorMw
import Derived.OwnWalk
namespace Go.Proofs.YtiflfapdffkcbaaGreatDoor
open Go Go.RowKit
set_option maxRecDepth 100000

theorem own_some {base : Nat} {w : World} {e : TypeId} {size : Nat} {v : Value} {n : Nat} {xs : List Value} (h : w.ownsRow base e size v n xs) (hn : 0 < n) : ∃ g cap, v = .slice (some ⟨g, 0, none⟩) n cap ∧ n ≤ cap ∧ cap ≤ maxLen ∧ base ≤ g ∧ ∀ j u, xs[j]? = some u → w.cell? ⟨g, j, none⟩ = some u := by
  have h0 := h
  rcases h.2 with ⟨rfl, h1⟩ | ⟨g, cap, cur, rfl, hb, hg, h1, h2, _⟩
  · omega
  · refine ⟨g, cap, rfl, h1, h2, hb, fun j u hj => ?_⟩
    have := h0.cells (g := g) rfl j u hj
    rw [Addr.add_lit, Nat.zero_add] at this
    exact this
theorem own_cap {base : Nat} {w : World} {e : TypeId} {size : Nat} {ao : Option Addr} {l c : Nat} {n : Nat} {xs : List Value} (h : w.ownsRow base e size (.slice ao l c) n xs) : l = n ∧ n ≤ c ∧ c ≤ maxLen := by
  rcases h.2 with ⟨e, h1⟩ | ⟨g, cap, cur, e, hb, hg, h1, h2, _⟩
  · simp at e; obtain ⟨rfl, rfl, rfl⟩ := e; simp [h1, maxLen]
  · simp at e; obtain ⟨rfl, rfl, rfl⟩ := e; exact ⟨rfl, h1, h2⟩
theorem own_block {base : Nat} {w : World} {e : TypeId} {size : Nat} {v : Value} {n : Nat} {xs : List Value} (h : w.ownsRow base e size v n xs) {k : Nat} (hk : v.ownBlock = some k) : base ≤ k ∧ ∃ cs fz, w.heap[k]? = some (.cells cs e fz) := by
  rcases h.2 with ⟨rfl, _⟩ | ⟨g, cap, cur, rfl, hg, hh, _⟩
  · simp [Value.ownBlock] at hk
  · simp [Value.ownBlock] at hk; subst hk; exact ⟨hg, _, _, hh⟩
theorem polC_len (p : Pol) : (polC p).length = 4 := rfl
theorem polC_one (p : Pol) : ∀ v ∈ polC p, v.oneCell' = true := by
  intro v hv
  simp only [polC, List.mem_cons, List.not_mem_nil, or_false] at hv
  rcases hv with rfl | rfl | rfl | rfl <;> rfl
theorem polF_len : ∀ l : List Pol, (l.flatMap polC).length = l.length * 4
  | [] => rfl
  | c :: l => by rw [List.flatMap_cons, List.length_append, polF_len l, polC_len, List.length_cons]; omega
theorem polF_get : ∀ (l : List Pol) (i : Nat) (h : i < l.length) (j : Nat), j < 4 → (l.flatMap polC)[i * 4 + j]? = (polC l[i])[j]?
  | [], i, h, j, _ => absurd h (by simp)
  | x :: r, 0, h, j, hj => by
    rw [List.flatMap_cons, List.getElem?_append_left (by rw [polC_len]; omega)]
    simp
  | x :: r, i + 1, h, j, hj => by
    rw [List.flatMap_cons, List.getElem?_append_right (by rw [polC_len]; omega), polC_len, show (i + 1) * 4 + j - 4 = i * 4 + j by omega]
    exact polF_get r i (by simpa using h) j hj
theorem polF_one (l : List Pol) : ∀ v ∈ l.flatMap polC, v.oneCell' = true := by
  intro v hv
  obtain ⟨c, _, hc⟩ := List.mem_flatMap.1 hv
  exact polC_one c v hc
theorem polC_lt {p : Pol} {j : Nat} {v : Value} (h : (polC p)[j]? = some v) : j < 4 := by
  rcases Nat.lt_or_ge j 4 with h1 | h1
  · exact h1
  · rw [List.getElem?_eq_none (by rw [polC_len]; omega)] at h; simp at h
end Go.Proofs.YtiflfapdffkcbaaGreatDoor
