/-
  Arguments of layer 6: intervals, lists of them, lists of moments are opened.
-/
import Derived.Test.YtakannfkbmnlfaaRows
import Derived.Test.YtakannfkbmnlfaaVl
import Derived.ProofKit
import Derived.OpenShut
import Derived.SizedLaws
import Derived.Deep.DeepHandedRow
import Derived.Deep.Slices
import Derived.Carry
import Derived.LaidLaws
namespace Go.Proofs.Ytakannfkbmnlfaa
open Go.ChangeShapes Go.WideShapes Go.ChangeAt Go.RowKit Go.Deep
theorem ownK : ownKnob Try.prog.godebug = none := by kernel_rfl
theorem laidOutK : laidOutB Try.prog = true := by kernel_rfl
theorem cellsIv : Try.prog.cellsOf 35 = 2 := by kernel_rfl
theorem cellsI64 : Try.prog.cellsOf 2 = 1 := by kernel_rfl
section
variable {H : Type} {enc : TypeId × Value → H} {W : World} {base : Nat} {spare : Nat → Bool} {held : Bool}
set_option maxRecDepth 100000 in
theorem iv_open {n : Nat} {cs : List Value} {x : DataW H × List MemPlace} (h : DataW.trod enc Try.prog W base spare held n 35 cs = some x) :
    ∃ (i : Int × Int), cs = [.int .i64 i.1, .int .i64 i.2] ∧ In64 i := by
  obtain ⟨xs, m, rfl, rfl, hl, hxl, hf⟩ := DataW.trod_struct Try.underlying35 h
  rw [cellsIv] at hl
  match cs, hl with
  | [c0, c1], _ =>
    match xs, hxl with
    | [x0, x1], _ =>
      have h0 := hf 0 _ rfl
      have h1 := hf 1 _ rfl
      simp [cellsI64] at h0 h1
      obtain ⟨a, e0, _, w0⟩ := DataW.trod_int Try.underlying2 h0
      obtain ⟨b, e1, _, w1⟩ := DataW.trod_int Try.underlying2 h1
      simp at e0 e1
      subst e0 e1
      exact ⟨(a, b), rfl, bounds_i64 w0, bounds_i64 w1⟩
theorem ivs_open {n : Nat} {v : Value} {d : DataW H} {pl : List MemPlace} (h : DataW.trod enc Try.prog W base spare held n 22 [v] = some (d, pl)) :
    ∃ (ad : Option Addr) (len cap : Nat) (A : List (Int × Int)), v = .slice ad len cap ∧ IvAt W ad len A ∧ (∀ i ∈ A, In64 i) ∧ len ≤ cap ∧ ((len = 0 ∧ d = .nil) ∨ ∃ el sp, d = .slice el sp ∧ el.length = len) := by
  rcases open_slice Try.underlying22 h with ⟨hcs, hx⟩ | ⟨a, len, cap, m, n, D, Pl, hcs, hb, hl, hm, hmm, hx, hel⟩
  · simp at hcs
    subst hcs
    simp at hx
    exact ⟨none, 0, 0, [], rfl, ⟨rfl, fun h => by omega⟩, (fun _ h => by cases h), Nat.le_refl _, Or.inl ⟨rfl, hx.1⟩⟩
  · simp at hcs
    subst hcs
    simp only [Prod.mk.injEq] at hx
    have hlm : len ≤ m := by rw [hmm]; split <;> omega
    obtain ⟨b, off, spot⟩ := a
    have hspot : 0 < len → spot = none := fun hp => by
      cases spot with
      | none => rfl
      | some sp =>
        exfalso
        obtain ⟨cs0, h10, h20⟩ := hel 0 (by omega)
        obtain ⟨i0, rfl, _⟩ := iv_open h20
        rw [cellsIv] at h10
        have hcell0 : W.cell? (((⟨b, off, some sp⟩ : Addr).add (0 * 2)).add 0) = some (.int .i64 i0.1) := (World.cells?_some h10).2.2 0 (by omega)
        simp [World.cell?, Addr.add] at hcell0
        split at hcell0 <;> simp at hcell0
    have each : ∀ i, i < len → ∃ x : Int × Int, W.cell? ⟨b, off + i * 2, none⟩ = some (.int .i64 x.1) ∧ W.cell? ⟨b, off + i * 2 + 1, none⟩ = some (.int .i64 x.2) ∧ In64 x := by
      intro i hi
      obtain ⟨cs', h1, h2⟩ := hel i (by omega)
      obtain ⟨x, rfl, hx6⟩ := iv_open h2
      rw [cellsIv] at h1
      have hc := (World.cells?_some h1).2.2
      have hs := hspot (by omega)
      subst hs
      have g0 := hc 0 (by omega)
      have g1 := hc 1 (by omega)
      rw [Addr.add_lit, Addr.add_lit] at g0 g1
      exact ⟨x, g0, g1, hx6⟩
    obtain ⟨X, hX⟩ := choose_lt each
    refine ⟨some ⟨b, off, spot⟩, len, cap, (List.range len).map X, rfl, ⟨by simp, fun hp => ?_⟩, ?_, hl, Or.inr ⟨_, _, hx.1, by simp⟩⟩
    · have hs := hspot hp
      subst hs
      refine ⟨b, off, rfl, fun i hi => ?_⟩
      have hi' : i < len := by simpa using hi
      obtain ⟨g0, g1, _⟩ := hX i hi'
      simp
      exact ⟨g0, g1⟩
    · intro x hx
      simp at hx
      obtain ⟨i, hi, rfl⟩ := hx
      exact (hX i hi).2.2
end
/-- What is small: the bound of the second form, for a list. -/
theorem bulk_slice {H : Type} : ∀ {ds : List (DataW H)} {j : Nat} {d : DataW H} {len : Nat}, Rows.uptoBulkAll ds ≤ 1048576 → ds[j]? = some d → ((len = 0 ∧ d = .nil) ∨ ∃ el sp, d = .slice el sp ∧ el.length = len) → len ≤ 1048576 := by
  have one : ∀ d : DataW H, 1 ≤ Rows.uptoBulk d := fun d => by
    cases d with
    | lit l => cases l <;> simp only [Rows.uptoBulk] <;> omega
    | _ => simp only [Rows.uptoBulk] <;> omega
  have all : ∀ el : List (DataW H), el.length ≤ Rows.uptoBulkAll el := fun el => by
    induction el with
    | nil => simp [Rows.uptoBulkAll]
    | cons d el ih => simp only [Rows.uptoBulkAll, List.length_cons]; have := one d; omega
  have part : ∀ (ds : List (DataW H)) (j : Nat) (d : DataW H), ds[j]? = some d → Rows.uptoBulk d ≤ Rows.uptoBulkAll ds := fun ds => by
    induction ds with
    | nil => intro j d h; simp at h
    | cons e ds ih =>
      intro j d h
      simp only [Rows.uptoBulkAll]
      cases j with
      | zero => simp at h; subst h; omega
      | succ j => have := ih j d (by simpa using h); omega
  intro ds j d len hb hd h
  rcases h with ⟨rfl, _⟩ | ⟨el, sp, rfl, rfl⟩
  · omega
  · have h1 := part ds j _ hd
    simp only [Rows.uptoBulk] at h1
    have h2 := all el
    omega
end Go.Proofs.Ytakannfkbmnlfaa
