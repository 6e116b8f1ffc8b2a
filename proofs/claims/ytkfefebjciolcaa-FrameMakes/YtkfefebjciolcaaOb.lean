/-
  Arguments: bytes are opened.
-/
import Derived.Test.YtkfefebjciolcaaRows
import Derived.Test.YtkfefebjciolcaaFm
import Derived.ProofKit
import Derived.OpenShut
import Derived.SizedLaws
import Derived.Deep.DeepHandedRow
import Derived.Deep.Slices
import Derived.Carry
import Derived.LaidLaws
namespace Go.Proofs.Ytkfefebjciolcaa
open Go.ChangeShapes Go.WideShapes Go.ChangeAt Go.RowKit Go.Deep
theorem ownK : ownKnob Try.prog.godebug = none := by kernel_rfl
theorem laidOutK : laidOutB Try.prog = true := by kernel_rfl
theorem cells8 : Try.prog.cellsOf 5 = 1 := by kernel_rfl
theorem bytes8 : Try.prog.bytesOf 5 = 1 := by kernel_rfl

section
variable {H : Type} {enc : TypeId × Value → H} {W : World} {base : Nat} {spare : Nat → Bool} {held : Bool}
/-- A list of bytes that was handed in. -/
theorem open_bytes {n : Nat} {v : Value} {d : DataW H} {pl : List MemPlace} (h : DataW.trod enc Try.prog W base spare held n 23 [v] = some (d, pl)) :
    ∃ (ad : Option Addr) (len cap : Nat) (K : List Int), v = .slice ad len cap ∧ Holds W ad len K ∧ ByteL K ∧ len ≤ cap ∧ cap ≤ maxLen ∧ ((len = 0 ∧ d = .nil) ∨ ∃ el sp, d = .slice el sp ∧ el.length = len) := by
  rcases open_slice1 Try.underlying23 cells8 h with ⟨hcs, hx⟩ | ⟨a, len, cap, m, n, V, D, Pl, hcs, hb, hl, hm, hmm, hx, hel⟩
  · simp at hcs
    subst hcs
    simp at hx
    exact ⟨none, 0, 0, [], rfl, Holds.nil W, (fun x hx => by cases hx), Nat.le_refl _, by simp [maxLen], Or.inl ⟨rfl, hx.1⟩⟩
  · simp at hcs
    subst hcs
    simp only [Prod.mk.injEq] at hx
    have hlm : len ≤ m := by rw [hmm]; split <;> omega
    have each : ∀ i, i < len → ∃ x : Int, W.cell? (a.add i) = some (.int .u8 x) ∧ 0 ≤ x ∧ x < 256 := by
      intro i hi
      obtain ⟨h1, h2⟩ := hel i (by omega)
      obtain ⟨x, e1, _, w1⟩ := DataW.trod_int Try.underlying5 h2
      simp at e1
      rw [e1] at h1
      have := bounds_u8 w1
      exact ⟨x, h1, this.1, by omega⟩
    obtain ⟨X, hX⟩ := choose_lt each
    refine ⟨some a, len, cap, (List.range len).map X, rfl, ⟨by simp, fun j u hj => ?_⟩, ?_, hl, hm, Or.inr ⟨_, _, hx.1, by simp⟩⟩
    · have hj2 : j < len := by have := (List.getElem?_eq_some_iff.1 hj).1; simpa using this
      refine ⟨a, rfl, ?_⟩
      rw [(hX j hj2).1]
      simp [hj2] at hj
      rw [hj]
    · intro x hx
      simp at hx
      obtain ⟨i, hi, rfl⟩ := hx
      exact (hX i hi).2
end
theorem bytes_size {H : Type} {ts : List TypeId} {ds : List (DataW H)} {j : Nat} {d : DataW H} {len : Nat} (hsz : (DataW.weightsEach Try.prog ts ds).all (· ≤ reachBytes) = true) (ht : ts[j]? = some 23) (hd : ds[j]? = some d)
    (h : (len = 0 ∧ d = .nil) ∨ ∃ el sp, d = .slice el sp ∧ el.length = len) : len ≤ 140737488351232 := by
  rcases h with ⟨rfl, _⟩ | ⟨el, sp, rfl, rfl⟩
  · omega
  · have := sized_slice hsz ht hd Try.underlying23
    rw [bytes8] at this
    simp only [reachBytes] at this
    omega
end Go.Proofs.Ytkfefebjciolcaa
