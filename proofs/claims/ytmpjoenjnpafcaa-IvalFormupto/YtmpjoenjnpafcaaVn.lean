/-
  Arguments of layer 6: lists of moments are opened.
-/
import Derived.Test.YtmpjoenjnpafcaaVo
import Derived.Test.YtmpjoenjnpafcaaVx
namespace Go.Proofs.Ytmpjoenjnpafcaa
open Go.ChangeShapes Go.WideShapes Go.ChangeAt Go.RowKit Go.Deep
section
variable {H : Type} {enc : TypeId × Value → H} {W : World} {base : Nat} {spare : Nat → Bool} {held : Bool}
theorem ms_open {n : Nat} {v : Value} {d : DataW H} {pl : List MemPlace} (h : DataW.trod enc Try.prog W base spare held n 37 [v] = some (d, pl)) :
    ∃ (ad : Option Addr) (len cap : Nat) (M : List Int), v = .slice ad len cap ∧ MsAt W ad len M ∧ (∀ i ∈ M, in64 i) ∧ len ≤ cap ∧ ((len = 0 ∧ d = .nil) ∨ ∃ el sp, d = .slice el sp ∧ el.length = len) := by
  rcases open_slice1 Try.underlying37 cellsI64 h with ⟨hcs, hx⟩ | ⟨a, len, cap, m, n, V, D, Pl, hcs, hb, hl, hm, hmm, hx, hel⟩
  · simp at hcs
    subst hcs
    simp at hx
    exact ⟨none, 0, 0, [], rfl, ⟨rfl, fun h => by omega⟩, (fun _ h => by cases h), Nat.le_refl _, Or.inl ⟨rfl, hx.1⟩⟩
  · simp at hcs
    subst hcs
    simp only [Prod.mk.injEq] at hx
    have hlm : len ≤ m := by rw [hmm]; split <;> omega
    obtain ⟨b, off, spot⟩ := a
    have cell : ∀ i, i < len → ∃ x : Int, W.cell? ((⟨b, off, spot⟩ : Addr).add i) = some (.int .i64 x) ∧ in64 x := by
      intro i hi
      obtain ⟨h1, h2⟩ := hel i (by omega)
      obtain ⟨x, e1, _, w1⟩ := DataW.trod_int Try.underlying2 h2
      simp at e1
      rw [e1] at h1
      exact ⟨x, h1, bounds_i64 w1⟩
    have hspot : 0 < len → spot = none := fun hp => by
      cases spot with
      | none => rfl
      | some sp =>
        exfalso
        obtain ⟨x, hx0, _⟩ := cell 0 hp
        simp [World.cell?, Addr.add] at hx0
        split at hx0 <;> simp at hx0
    have each : ∀ i, i < len → ∃ x : Int, W.cell? ⟨b, off + i, none⟩ = some (.int .i64 x) ∧ in64 x := by
      intro i hi
      obtain ⟨x, h1, h2⟩ := cell i hi
      have hs := hspot (by omega)
      subst hs
      rw [Addr.add_lit] at h1
      exact ⟨x, h1, h2⟩
    obtain ⟨X, hX⟩ := choose_lt each
    refine ⟨some ⟨b, off, spot⟩, len, cap, (List.range len).map X, rfl, ⟨by simp, fun hp => ?_⟩, ?_, hl, Or.inr ⟨_, _, hx.1, by simp⟩⟩
    · have hs := hspot hp
      subst hs
      refine ⟨b, off, rfl, fun i hi => ?_⟩
      have hi' : i < len := by simpa using hi
      simp
      exact (hX i hi').1
    · intro x hx
      simp at hx
      obtain ⟨i, hi, rfl⟩ := hx
      exact (hX i hi).2
end
end Go.Proofs.Ytmpjoenjnpafcaa
