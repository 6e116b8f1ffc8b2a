/-
  SbX.
-/
import Derived.Test.YtdodempnkkkbmaaDoorSaX
import Derived.Test.YtdodempnkkkbmaaDoorSbF
namespace Go.Proofs.YtdodempnkkkbmaaDoor
open Go Go.ChangeShapes Go.WideShapes Go.ChangeAt Go.RowKit Go.Deep
set_option maxRecDepth 100000

theorem bytes_trX : Tryd.prog.bytesOf 32 = 16 := by kernel_rfl
section
variable {H : Type} {enc : TypeId × Value → H} {W : World} {base : Nat} {spare : Nat → Bool} {held : Bool}
theorem trs_open {n : Nat} {v : Value} {x : DataW H × List MemPlace} (h : DataW.trod enc Tryd.prog W base spare held n 22 [v] = some x) (hr : Reach 22 x.1) :
    ∃ (ad : Option Addr) (cap : Nat) (X : List Tr), v = .slice ad X.length cap ∧ TrO W ad X ∧ X.length * 16 ≤ 140737488351232 ∧ X.length ≤ cap := by
  rcases open_slice Tryd.underlying22 h with ⟨hcs, hx⟩ | ⟨a, len, cap, m, n, D, Pl, hcs, hb, hl, hm, hmm, hx, hel⟩
  · simp at hcs
    subst hcs
    exact ⟨none, 0, [], rfl, fun hp => by simp at hp, by simp, by simp⟩
  · simp at hcs
    subst hcs hx
    have hln := hr.len Tryd.underlying22
    rw [bytes_trX] at hln
    simp at hln
    have hlm : len ≤ m := by rw [hmm]; split <;> omega
    rw [cells_trX] at hel
    have each : ∀ i, i < len → ∃ y : Tr, W.cells? base (a.add (i * 2)) 2 = some (trC y) := by
      intro i hi
      obtain ⟨cs', h1, h2⟩ := hel i (by omega)
      obtain ⟨y, z, rfl⟩ := trace_open h2
      exact ⟨(y, z), h1⟩
    have : Inhabited Tr := ⟨(0#64, 0#64)⟩
    obtain ⟨Y, hY⟩ := choose_lt each
    have hlen : ((List.range len).map Y).length = len := by simp
    refine ⟨some a, cap, (List.range len).map Y, by rw [hlen], ?_, by rw [hlen]; omega, by rw [hlen]; omega⟩
    intro hp
    rw [hlen] at hp
    obtain ⟨b, off, sp⟩ := a
    have hc0 := (World.cells?_some (hY 0 hp)).2.2 0 (by omega)
    have hsp : sp = none := by
      refine spot_none (w := W) (b := b) (off := off) (u := (trC (Y 0))[0]'(by simp [trC])) ?_
      simpa [Addr.add, trC] using hc0
    subst hsp
    have hlt : b < W.heap.size := by
      rw [Addr.add_lit, Addr.add_lit] at hc0
      exact World.block_lt_of_cell? W _ hc0
    refine ⟨b, off, rfl, hlt, fun i hi => ?_⟩
    rw [hlen] at hi
    have hc := (World.cells?_some (hY i hi)).2.2
    have e : ((List.range len).map Y)[i]'(by rw [hlen]; exact hi) = Y i := by simp
    rw [e]
    have g0 := hc 0 (by omega)
    have g1 := hc 1 (by omega)
    rw [Addr.add_lit, Addr.add_lit] at g0 g1
    exact ⟨g0, g1⟩
end
end Go.Proofs.YtdodempnkkkbmaaDoor
