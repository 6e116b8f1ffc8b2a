/-
  SaO.
-/
import Derived.Test.YtfgmjgoegdiieaaDoorSaBq
import Derived.Test.YtfgmjgoegdiieaaDoorMw
import Derived.OwnWalk
namespace Go.Proofs.YtfgmjgoegdiieaaDoor
open Go Go.RowKit
set_option maxRecDepth 100000

theorem own_some {base : Nat} {w : World} {e : TypeId} {size : Nat} {v : Value} {n : Nat} {xs : List Value} (h : w.ownsRow base e size v n xs) (hn : 0 < n) : ∃ g cap, v = .slice (some ⟨g, 0, none⟩) n cap ∧ n ≤ cap ∧ cap ≤ maxLen ∧ base ≤ g ∧ ∀ j u, xs[j]? = some u → w.cell? ⟨g, j, none⟩ = some u := by
  have h0 := h
  rcases h.2 with ⟨rfl, h1⟩ | ⟨g, cap, cur, rfl, hb, hg, h1, h2, _⟩
  · omega
  · refine ⟨g, cap, rfl, h1, h2, hb, fun j u hj => ?_⟩
    have := h0.cells (g := g) rfl j u hj
    rw [Addr.add_lit, Nat.zero_add] at this
    exact this
theorem own_cap {base : Nat} {w : World} {e : TypeId} {size : Nat} {ao : Option Addr} {l c : Nat} {n : Nat} {xs : List Value} (h : w.ownsRow base e size (.slice ao l c) n xs) : l = n ∧ n ≤ c ∧ c ≤ maxLen := by
  rcases h.2 with ⟨e, h1⟩ | ⟨g, cap, cur, e, hb, hg, h1, h2, _⟩
  · simp at e; obtain ⟨rfl, rfl, rfl⟩ := e; simp [h1, maxLen]
  · simp at e; obtain ⟨rfl, rfl, rfl⟩ := e; exact ⟨rfl, h1, h2⟩
theorem own_block {base : Nat} {w : World} {e : TypeId} {size : Nat} {v : Value} {n : Nat} {xs : List Value} (h : w.ownsRow base e size v n xs) {k : Nat} (hk : v.ownBlock = some k) : base ≤ k ∧ ∃ cs fz, w.heap[k]? = some (.cells cs e fz) := by
  rcases h.2 with ⟨rfl, _⟩ | ⟨g, cap, cur, rfl, hg, hh, _⟩
  · simp [Value.ownBlock] at hk
  · simp [Value.ownBlock] at hk; subst hk; exact ⟨hg, _, _, hh⟩
theorem polC_len (p : Pol) : (polC p).length = 4 := rfl
theorem polC_one (p : Pol) : ∀ v ∈ polC p, v.oneCell' = true := by
  intro v hv
  simp only [polC, List.mem_cons, List.not_mem_nil, or_false] at hv
  rcases hv with rfl | rfl | rfl | rfl <;> rfl
/-- Policies in a row of one's own. -/
def OwnPol (base : Nat) (w : World) (v : Value) (l : List Pol) : Prop := w.ownsRow base 32 4 v l.length (l.flatMap polC)
theorem infoPol : (Tryd.prog.info? 32).map (fun i => (i.zero, i.size, i.bytes)) = some (some (.agg #[.int .i64 0, .int .u64 0, .string ⟨#[]⟩, .int .i64 0]), 4, 40) := by kernel_rfl
theorem OwnPol.below {base : Nat} {w w' : World} {v : Value} {l : List Pol} (h : OwnPol base w v l) (hb : Below w.heap.size w w') : OwnPol base w' v l := ownsRow_upd h (Upd.ofBelow (S := fun _ => False) hb (fun k hk hk' => by omega)) (fun _ _ h => h)
theorem polF_len : ∀ l : List Pol, (l.flatMap polC).length = l.length * 4
  | [] => rfl
  | c :: l => by rw [List.flatMap_cons, List.length_append, polF_len l, polC_len, List.length_cons]; omega
theorem polF_get : ∀ (l : List Pol) (i : Nat) (h : i < l.length) (j : Nat), j < 4 → (l.flatMap polC)[i * 4 + j]? = (polC l[i])[j]?
  | [], i, h, j, _ => absurd h (by simp)
  | x :: r, 0, h, j, hj => by
    rw [List.flatMap_cons, List.getElem?_append_left (by rw [polC_len]; omega)]
    simp
  | x :: r, i + 1, h, j, hj => by
    rw [List.flatMap_cons, List.getElem?_append_right (by rw [polC_len]; omega), polC_len, show (i + 1) * 4 + j - 4 = i * 4 + j by omega]
    exact polF_get r i (by simpa using h) j hj
theorem polF_one (l : List Pol) : ∀ v ∈ l.flatMap polC, v.oneCell' = true := by
  intro v hv
  obtain ⟨c, _, hc⟩ := List.mem_flatMap.1 hv
  exact polC_one c v hc
theorem polC_lt {p : Pol} {j : Nat} {v : Value} (h : (polC p)[j]? = some v) : j < 4 := by
  rcases Nat.lt_or_ge j 4 with h1 | h1
  · exact h1
  · rw [List.getElem?_eq_none (by rw [polC_len]; omega)] at h; simp at h
theorem OwnPol.at {base : Nat} {w : World} {ao : Option Addr} {n c : Nat} {l : List Pol} (h : OwnPol base w (.slice ao n c) l) : PolAt w ao n l := by
  have hc := own_cap h
  refine ⟨hc.1.symm, fun hp => ?_⟩
  obtain ⟨g, cap, e, _, _, _, hx⟩ := own_some h (by omega)
  simp at e
  have h0 : w.cell? ⟨g, 0, none⟩ = some _ := hx 0 ((l.flatMap polC)[0]'(by rw [polF_len]; omega)) (List.getElem?_eq_getElem _)
  refine ⟨g, 0, e.1, World.block_lt_of_cell? w _ h0, fun i hi j v hv => ?_⟩
  rw [Nat.zero_add]
  exact hx _ _ (by rw [polF_get l i hi j (polC_lt hv)]; exact hv)
/-- The cells of a list of policies that is read. -/
theorem PolAt.src {w : World} {ad : Option Addr} {n : Nat} {l : List Pol} (h : PolAt w ad n l) (c : Nat) : Src Tryd.prog 4 22 (.slice ad n c) n (l.flatMap polC) w := by
  by_cases hn : 0 < n
  · obtain ⟨b, off, rfl, _, hc⟩ := h.2 hn
    refine Src.ofSlice _ Tryd.underlying22 _ n c _ (by rw [polF_len, h.1]) ?_ (polF_one l)
    intro j u hj
    have hjl : j < l.length * 4 := by
      rw [← polF_len]
      exact (List.getElem?_eq_some_iff.mp hj).1
    rw [Addr.add_lit]
    have e : j = j / 4 * 4 + j % 4 := by omega
    have h1 := polF_get l (j / 4) (by omega) (j % 4) (by omega)
    rw [← e, hj] at h1
    have h2 := hc (j / 4) (by omega) (j % 4) u h1.symm
    rw [Nat.add_assoc, ← e] at h2
    exact h2
  · obtain rfl : n = 0 := by omega
    obtain rfl : l = [] := List.eq_nil_of_length_eq_zero h.1
    cases ad with
    | none => exact Src.ofNil _ Tryd.underlying22 c
    | some a => exact Src.ofSlice _ Tryd.underlying22 a 0 c [] rfl (fun j u h => by simp at h) (fun u h => by cases h)
/-- A list's copy, behind nothing. -/
theorem wpList_appN {ops : Array Oper} {rest : List Oper} {o : Oper} {a : Act} {Q : Exit → Act → World → Prop} (w : World) (hgd : o.guard = none) (s x : Operand)
    (ho : o.op = .call { callee := .builtin .append, args := #[s, x], argTypes := #[22, 22] })
    (ad : Option Addr) (n c : Nat) (l : List Pol) (hs : a.eval s = .slice none 0 0) (hx : a.eval x = .slice ad n c) (hA : PolAt w ad n l) (hz : n * 40 ≤ 140737488351232)
    (h : ∀ v' w', OwnPol w.heap.size w' v' l → Below w.heap.size w w' → wpList Tryd.prog ops Q rest (a.put o.dst v') w') : wpList Tryd.prog ops Q (o :: rest) a w := by
  obtain ⟨i0, hi0, hz0, hz1, hz2⟩ := info_parts infoPol
  refine wpList_appW _ hgd s x 22 22 ho w.heap.size 32 i0 _ 4 40 Tryd.underlying22 hi0 hz0 hz1 hz2 rfl _ 0 [] hs (World.ownsRow_nil w w.heap.size 32 4) _ n _ hx (hA.src c) (by unfold maxLen; omega) (by omega) (by simp) ?_
  intro v1 w1 o1 g1 m1
  refine h v1 w1 ?_ ?_
  · unfold OwnPol
    rw [hA.1]
    simpa using o1
  · exact ((Upd.refl (fun k => w.heap.size ≤ k) w).grown g1 (fun k hk e => by cases e)).below (Nat.le_refl _) (fun k hk h => by omega)
theorem src_pol (w : World) (c : Pol) (t : TypeId) : Src Tryd.prog 4 22 (.slice (some ⟨w.heap.size, 0, none⟩) 1 1) 1 (polC c) (w.alloc (.cells (polC c).toArray t)) := by
  refine Src.ofSlice _ Tryd.underlying22 ⟨w.heap.size, 0, none⟩ 1 1 _ rfl ?_ ?_
  · intro j u hj
    match j, hj with
    | 0, hj => simp [polC] at hj; subst hj; simp [Addr.add, polC]
    | 1, hj => simp [polC] at hj; subst hj; simp [Addr.add, polC]
    | 2, hj => simp [polC] at hj; subst hj; simp [Addr.add, polC]
    | 3, hj => simp [polC] at hj; subst hj; simp [Addr.add, polC]
    | j + 4, hj => simp [polC] at hj
  · exact polC_one c
/-- A policy is appended. -/
theorem wpList_appP {ops : Array Oper} {rest : List Oper} {o : Oper} {a : Act} {Q : Exit → Act → World → Prop} (w : World) (hgd : o.guard = none) (s x : Operand)
    (ho : o.op = .call { callee := .builtin .append, args := #[s, x], argTypes := #[22, 22] })
    (base : Nat) (v : Value) (L : List Pol) (c : Pol) (hv : a.eval s = v) (hown : OwnPol base w v L) (hx : a.eval x = .slice (some ⟨w.heap.size, 0, none⟩) 1 1) (hlen : L.length ≤ 3518437208783) (hbase : base ≤ w.heap.size)
    (h : ∀ v' w', OwnPol base w' v' (L ++ [c]) → Upd (fun k => base ≤ k) w w' → wpList Tryd.prog ops Q rest (a.put o.dst v') w') : wpList Tryd.prog ops Q (o :: rest) a (w.alloc (.cells (polC c).toArray 32)) := by
  obtain ⟨i0, hi0, hz0, hz1, hz2⟩ := info_parts infoPol
  have ho' : OwnPol base (w.alloc (.cells (polC c).toArray 32)) v L := hown.below ((Below.refl _ _).alloc (Nat.le_refl _) _)
  refine wpList_appW _ hgd s x 22 22 ho base 32 i0 _ 4 40 Tryd.underlying22 hi0 hz0 hz1 hz2 rfl v L.length (L.flatMap polC) hv ho' _ 1 (polC c) hx (src_pol w c _) (by unfold maxLen; omega) (by omega) (by rw [World.size_alloc]; omega) ?_
  intro v' w' o8 g8 m8
  refine h v' w' ?_ ⟨g8.os, g8.tape, g8.output, by have := g8.size; rw [World.size_alloc] at this; omega, fun k hk hn => (g8.block k (by rw [World.size_alloc]; omega) (fun e => hn (own_block hown e.symm).1)).trans (Below.heap_alloc w _ k hk)⟩
  unfold OwnPol
  rw [List.length_append, List.flatMap_append]
  simpa using o8
end Go.Proofs.YtfgmjgoegdiieaaDoor
