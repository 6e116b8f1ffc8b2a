/-
  Contracts: samePieces.
-/
import Derived.Test.YtigpmmhofncgpaaSh2
namespace Go.Proofs.Ytigpmmhofncgpaa
open Go.RowKit
set_option maxRecDepth 100000

/-- The cells of a slice of pieces hold these. -/
structure PHolds (w : World) (ad : Option Addr) (n : Nat) (ps : List Pc) : Prop where
  len : ps.length = n
  cells : ∀ i (hi : i < ps.length), ∃ g o, ad = some ⟨g, o, none⟩ ∧ ∀ j u, (pcCells ps[i])[j]? = some u → w.cell? ⟨g, o + i * 4 + j, none⟩ = some u
theorem flat_at (ps : List Pc) : ∀ i (hi : i < ps.length) j u, (pcCells ps[i])[j]? = some u → (ps.flatMap pcCells)[i * 4 + j]? = some u := by
  induction ps with
  | nil => intro i hi; simp at hi
  | cons p r ih =>
    intro i hi j u hj
    rw [List.flatMap_cons]
    cases i with
    | zero =>
      simp only [List.getElem_cons_zero] at hj
      have hj4 : j < (pcCells p).length := (List.getElem?_eq_some_iff.1 hj).1
      rw [Nat.zero_mul, Nat.zero_add, List.getElem?_append_left hj4]; exact hj
    | succ i =>
      simp only [List.getElem_cons_succ] at hj
      rw [List.getElem?_append_right (by simp [pcCells]; omega)]
      have : (i + 1) * 4 + j - (pcCells p).length = i * 4 + j := by simp [pcCells]; omega
      rw [this]
      exact ih i (by simpa using hi) j u hj
theorem OwnP.holds {base : Nat} {w : World} {ao : Option Addr} {l c : Nat} {ps : List Pc} (h : OwnP base w (.slice ao l c) ps) : PHolds w ao l ps := by
  have hc := own_cap h
  refine ⟨hc.1.symm, fun i hi => ?_⟩
  obtain ⟨g, cap, e, _, _, _, hx⟩ := own_some h (by omega)
  simp at e
  refine ⟨g, 0, e.1, fun j u hj => ?_⟩
  rw [Nat.zero_add]
  exact hx _ _ (flat_at ps i hi j u hj)
theorem PHolds.upd {S : Nat → Prop} {w w' : World} {ad : Option Addr} {n : Nat} {ps : List Pc} (h : PHolds w ad n ps) (hu : Upd S w w') (hS : ∀ a, ad = some a → ¬ S a.block) : PHolds w' ad n ps :=
  ⟨h.len, fun i hi => by
    obtain ⟨g, o, e, hc⟩ := h.cells i hi
    exact ⟨g, o, e, fun j u hj => cell_upd hu (hc j u hj) (hS ⟨g, o, none⟩ e)⟩⟩
theorem PHolds.below {w w' : World} {ad : Option Addr} {n : Nat} {ps : List Pc} (h : PHolds w ad n ps) (hb : Below w.heap.size w w') : PHolds w' ad n ps :=
  h.upd (Upd.ofBelow (S := fun _ => False) hb (fun k hk hk' => by omega)) (fun _ _ h => h)
theorem PHolds.take {w : World} {ad : Option Addr} {n : Nat} {ps : List Pc} (h : PHolds w ad n ps) (k : Nat) (hk : k ≤ n) : PHolds w ad k (ps.take k) := by
  have hl := h.len
  refine ⟨by simp; omega, fun i hi => ?_⟩
  have hi' : i < ps.length := by simp at hi; omega
  obtain ⟨g, o, e, hc⟩ := h.cells i hi'
  refine ⟨g, o, e, fun j u hj => hc j u ?_⟩
  simpa using hj

theorem samePieces_eq (ad ad' : Option Addr) (n cap cap' : Nat) (ps : List Pc) (w : World) (h : PHolds w ad n ps) (h' : PHolds w ad' n ps) (hn : n ≤ 140737488355328) :
    Calls Try.prog 17 #[.slice ad n cap, .slice ad' n cap'] w fun e w' => e = .returned (.bool true) ∧ Below w.heap.size w w' := by
  have hl := h.len
  go_enter Try.func17, Try.ntmps17
  go_wp2
  go_loopw [5] (fun a wr => ∃ (i m : Nat), a = .int .i64 i ∧ i ≤ n ∧ wr = w.drewN m) (fun a _ => n - (intOf a).toNat)
  case atStart => exact ⟨0, 0, rfl, by omega, rfl⟩
  case round =>
    obtain ⟨i, m, rfl, hi, rfl⟩ := hrel
    by_cases hlt : i < n
    · have hz : (i : Int) < (n : Int) := by omega
      obtain ⟨g, o, rfl, hc⟩ := h.cells i (by omega)
      obtain ⟨g', o', rfl, hc'⟩ := h'.cells i (by omega)
      generalize ps[i] = p at hc hc'
      obtain ⟨k, q, a, L⟩ := p
      have c0 := hc 0 _ rfl
      have c1 := hc 1 _ rfl
      have c2 := hc 2 _ rfl
      have c3 := hc 3 _ rfl
      have d0 := hc' 0 _ rfl
      have d1 := hc' 1 _ rfl
      have d2 := hc' 2 _ rfl
      have d3 := hc' 3 _ rfl
      clear hc hc'
      simp only [Nat.add_zero] at c0 d0
      go_wp2
      go_quiet (fail)
      go_wp2
      go_roundw
      case rel => exact ⟨i + 1, m + nq, by go_num, by omega, by simp [World.drewN]⟩
      case measure => simp [intOf]; omega
    · obtain rfl : i = n := by omega
      go_wp2
      go_ret
      exact ⟨rfl, below_drewN (Below.refl _ _) _⟩
end Go.Proofs.Ytigpmmhofncgpaa
