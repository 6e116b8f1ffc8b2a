/-
  Arguments: lists of numbers, of reasons, of bools are opened.
-/
import Derived.Test.YtmepapbbebddiaaRows
import Derived.Test.YtmepapbbebddiaaGr
import Derived.ProofKit
import Derived.OpenShut
import Derived.SizedLaws
import Derived.Deep.DeepHandedRow
import Derived.Deep.Slices
import Derived.Carry
import Derived.LaidLaws
namespace Go.Proofs.Ytmepapbbebddiaa
open Go.ChangeShapes Go.WideShapes Go.ChangeAt Go.RowKit Go.Deep
theorem ownK : ownKnob Try.prog.godebug = none := by kernel_rfl
theorem laidOutK : laidOutB Try.prog = true := by kernel_rfl
theorem cellsI : Try.prog.cellsOf 3 = 1 := by kernel_rfl
theorem bytesI : Try.prog.bytesOf 3 = 8 := by kernel_rfl
theorem cellsE : Try.prog.cellsOf 36 = 1 := by kernel_rfl
theorem bytesE : Try.prog.bytesOf 36 = 8 := by kernel_rfl

section
variable {H : Type} {enc : TypeId × Value → H} {W : World} {base : Nat} {spare : Nat → Bool} {held : Bool}
/-- A list of numbers that was handed in. -/
theorem open_ints {t e : TypeId} (ut : Try.prog.underlying t = some (.slice e)) (ue : Try.prog.underlying e = some (.int .i64)) (hc : Try.prog.cellsOf e = 1) {n : Nat} {v : Value} {d : DataW H} {pl : List MemPlace} (h : DataW.trod enc Try.prog W base spare held n t [v] = some (d, pl)) :
    ∃ (ad : Option Addr) (len cap : Nat) (K : List Int), v = .slice ad len cap ∧ HoldsV W ad len (intsV K) ∧ I64L K ∧ len ≤ cap ∧ cap ≤ maxLen ∧ ((len = 0 ∧ d = .nil) ∨ ∃ el sp, d = .slice el sp ∧ el.length = len) := by
  rcases open_slice1 ut hc h with ⟨hcs, hx⟩ | ⟨a, len, cap, m, n, V, D, Pl, hcs, hb, hl, hm, hmm, hx, hel⟩
  · simp at hcs
    subst hcs
    simp at hx
    exact ⟨none, 0, 0, [], rfl, HoldsV.nil W, (fun x hx => by cases hx), Nat.le_refl _, by simp [maxLen], Or.inl ⟨rfl, hx.1⟩⟩
  · simp at hcs
    subst hcs
    simp only [Prod.mk.injEq] at hx
    have hlm : len ≤ m := by rw [hmm]; split <;> omega
    have each : ∀ i, i < len → ∃ x : Int, W.cell? (a.add i) = some (.int .i64 x) ∧ -9223372036854775808 ≤ x ∧ x ≤ 9223372036854775807 := by
      intro i hi
      obtain ⟨h1, h2⟩ := hel i (by omega)
      obtain ⟨x, e1, _, w1⟩ := DataW.trod_int ue h2
      simp at e1
      rw [e1] at h1
      have := bounds_i64 w1
      exact ⟨x, h1, this.1, by omega⟩
    obtain ⟨X, hX⟩ := choose_lt each
    refine ⟨some a, len, cap, (List.range len).map X, rfl, ⟨by simp, fun j u hj => ?_⟩, ?_, hl, hm, Or.inr ⟨_, _, hx.1, by simp⟩⟩
    · have hj2 : j < len := by have := (List.getElem?_eq_some_iff.1 hj).1; simpa using this
      refine ⟨a, rfl, ?_⟩
      rw [(hX j hj2).1]
      simp [hj2] at hj
      rw [hj]
    · intro x hx
      simp at hx
      obtain ⟨i, hi, rfl⟩ := hx
      exact (hX i hi).2
end
theorem ints_size {H : Type} {ts : List TypeId} {ds : List (DataW H)} {j : Nat} {d : DataW H} {len : Nat} {t e : TypeId} (hsz : (DataW.weightsEach Try.prog ts ds).all (· ≤ reachBytes) = true) (ht : ts[j]? = some t) (hd : ds[j]? = some d) (ut : Try.prog.underlying t = some (.slice e)) (hb : Try.prog.bytesOf e = 8)
    (h : (len = 0 ∧ d = .nil) ∨ ∃ el sp, d = .slice el sp ∧ el.length = len) : len * 8 ≤ 140737488351232 := by
  rcases h with ⟨rfl, _⟩ | ⟨el, sp, rfl, rfl⟩
  · omega
  · have := sized_slice hsz ht hd ut
    rw [hb] at this
    simp only [reachBytes] at this
    omega
end Go.Proofs.Ytmepapbbebddiaa
