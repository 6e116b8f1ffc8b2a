/-
  Merged: SdX, SdY.
-/
import Derived.Test.YtfgmjgoegdiieaaDoorXPq
import Derived.Test.YtfgmjgoegdiieaaDoorSaO
import Derived.Test.YtfgmjgoegdiieaaDoorSdNq
namespace Go.Proofs.YtfgmjgoegdiieaaDoor
open Go Go.ChangeShapes Go.WideShapes Go.ChangeAt Go.RowKit Go.Deep
set_option maxRecDepth 100000

theorem cells_polX : Tryd.prog.cellsOf 32 = 4 := by kernel_rfl
theorem cells_pkX : Tryd.prog.cellsOf 30 = 1 := by kernel_rfl
theorem cells_u64X : Tryd.prog.cellsOf 24 = 1 := by kernel_rfl
theorem cells_strX : Tryd.prog.cellsOf 9 = 1 := by kernel_rfl
theorem cells_intX : Tryd.prog.cellsOf 3 = 1 := by kernel_rfl
theorem cells_trX : Tryd.prog.cellsOf 35 = 2 := by kernel_rfl
theorem bytes_polX : Tryd.prog.bytesOf 32 = 40 := by kernel_rfl
section
variable {H : Type} {enc : TypeId × Value → H} {W : World} {base : Nat} {spare : Nat → Bool} {held : Bool}
theorem pol_open {n : Nat} {cs : List Value} {x : DataW H × List MemPlace} (h : DataW.trod enc Tryd.prog W base spare held n 32 cs = some x) (hr : Reach 32 x.1) :
    ∃ a : Pol, cs = polC a ∧ a.name.size ≤ 140737488355328 := by
  obtain ⟨xs, m, rfl, rfl, hl, hxl, hf⟩ := DataW.trod_struct Tryd.underlying32 h
  rw [cells_polX] at hl
  match cs, hl with
  | [c0, c1, c2, c3], _ =>
    match xs, hxl with
    | [x0, x1, x2, x3], _ =>
      have h0 := hf 0 _ rfl
      have h1 := hf 1 _ rfl
      have h2 := hf 2 _ rfl
      have h3 := hf 3 _ rfl
      simp [cells_pkX, cells_u64X, cells_strX, cells_intX] at h0 h1 h2 h3
      have r2 := hr.field Tryd.underlying32 2 rfl rfl
      obtain ⟨k, e0, _, _⟩ := DataW.trod_int Tryd.underlying30 h0
      obtain ⟨nn, e1, _, _⟩ := DataW.trod_int Tryd.underlying24 h1
      obtain ⟨s, e2, d2, _⟩ := DataW.trod_string Tryd.underlying9 h2
      obtain ⟨q, e3, _, _⟩ := DataW.trod_int Tryd.underlying3 h3
      simp at e0 e1 e2 e3
      subst e0 e1 e2 e3
      rw [d2] at r2
      have s2 := r2.str
      rw [size_list] at s2
      exact ⟨⟨k, nn, s, q⟩, rfl, by simp only; omega⟩
theorem pols_open {n : Nat} {v : Value} {x : DataW H × List MemPlace} (h : DataW.trod enc Tryd.prog W base spare held n 22 [v] = some x) (hr : Reach 22 x.1) :
    ∃ (ad : Option Addr) (cap : Nat) (X : List Pol), v = .slice ad X.length cap ∧ PolAt W ad X.length X ∧ (∀ y ∈ X, y.name.size ≤ 140737488355328) ∧ X.length * 40 ≤ 140737488351232 ∧ X.length ≤ cap := by
  rcases open_slice Tryd.underlying22 h with ⟨hcs, hx⟩ | ⟨a, len, cap, m, n, D, Pl, hcs, hb, hl, hm, hmm, hx, hel⟩
  · simp at hcs
    subst hcs
    exact ⟨none, 0, [], rfl, ⟨rfl, fun hp => by simp at hp⟩, (fun x hx => by cases hx), by simp, by simp⟩
  · simp at hcs
    subst hcs hx
    have hln := hr.len Tryd.underlying22
    rw [bytes_polX] at hln
    simp at hln
    have hlm : len ≤ m := by rw [hmm]; split <;> omega
    rw [cells_polX] at hel
    have each : ∀ i, i < len → ∃ y : Pol, W.cells? base (a.add (i * 4)) 4 = some (polC y) ∧ y.name.size ≤ 140737488355328 := by
      intro i hi
      obtain ⟨cs', h1, h2⟩ := hel i (by omega)
      have hri : Reach 32 (D i) := hr.elem Tryd.underlying22 (List.mem_map.2 ⟨i, List.mem_range.2 hi, rfl⟩)
      obtain ⟨y, rfl, h3⟩ := pol_open h2 hri
      exact ⟨y, h1, h3⟩
    have : Inhabited Pol := ⟨⟨0, 0, ByteArray.empty, 0⟩⟩
    obtain ⟨Y, hY⟩ := choose_lt each
    have hlen : ((List.range len).map Y).length = len := by simp
    refine ⟨some a, cap, (List.range len).map Y, by rw [hlen], ?_, ?_, by rw [hlen]; omega, by rw [hlen]; omega⟩
    · refine ⟨rfl, fun hp => ?_⟩
      rw [hlen] at hp
      obtain ⟨b, off, sp⟩ := a
      have hc0 := (World.cells?_some (hY 0 hp).1).2.2 0 (by omega)
      have hsp : sp = none := by
        refine spot_none (w := W) (b := b) (off := off) (u := (polC (Y 0))[0]'(by simp [polC])) ?_
        simpa [Addr.add, polC] using hc0
      subst hsp
      have hlt : b < W.heap.size := by
        rw [Addr.add_lit, Addr.add_lit] at hc0
        exact World.block_lt_of_cell? W _ hc0
      refine ⟨b, off, rfl, hlt, fun i hi j v hv => ?_⟩
      rw [hlen] at hi
      have hc := (World.cells?_some (hY i hi).1).2.2
      have e : ((List.range len).map Y)[i]'(by rw [hlen]; exact hi) = Y i := by simp
      rw [e] at hv
      have g := hc j (polC_lt hv)
      rw [Addr.add_lit, Addr.add_lit] at g
      exact g.trans hv
    · intro y hy
      simp at hy
      obtain ⟨i, hi, rfl⟩ := hy
      exact (hY i hi).2
end
end Go.Proofs.YtfgmjgoegdiieaaDoor

namespace Go.Proofs.YtfgmjgoegdiieaaDoor
open Go Go.ChangeShapes Go.WideShapes Go.ChangeAt Go.RowKit Go.Deep
set_option maxRecDepth 100000

section
variable {H : Type} {enc : TypeId × Value → H} {W : World} {base : Nat} {spare : Nat → Bool} {held : Bool}
theorem ints_openQ {n : Nat} {v : Value} {d : DataW H} {pl : List MemPlace} (h : DataW.trod enc Tryd.prog W base spare held n 25 [v] = some (d, pl)) (_hr : Reach 25 d) :
    ∃ (ad : Option Addr) (len cap : Nat) (M : List Int), v = .slice ad len cap ∧ IntQ W ad len M := by
  rcases open_slice1 Tryd.underlying25 cells_intX h with ⟨hcs, hx⟩ | ⟨a, len, cap, m, n, V, D, Pl, hcs, hb, hl, hm, hmm, hx, hel⟩
  · simp at hcs
    subst hcs
    exact ⟨none, 0, 0, [], rfl, ⟨rfl, (fun h => by omega)⟩⟩
  · simp at hcs
    subst hcs
    have hlm : len ≤ m := by rw [hmm]; split <;> omega
    obtain ⟨b, off, spot⟩ := a
    have cell : ∀ i, i < len → ∃ x : Int, W.cell? ((⟨b, off, spot⟩ : Addr).add i) = some (.int .i64 x) := by
      intro i hi
      obtain ⟨h1, h2⟩ := hel i (by omega)
      obtain ⟨x, e1, _, _⟩ := DataW.trod_int Tryd.underlying3 h2
      simp at e1
      rw [e1] at h1
      exact ⟨x, h1⟩
    have hspot : 0 < len → spot = none := fun hp => by
      cases spot with
      | none => rfl
      | some sp =>
        exfalso
        obtain ⟨x, hx0⟩ := cell 0 hp
        simp [World.cell?, Addr.add] at hx0
        split at hx0 <;> simp at hx0
    have each : ∀ i, i < len → ∃ x : Int, W.cell? ⟨b, off + i, none⟩ = some (.int .i64 x) := by
      intro i hi
      obtain ⟨x, h1⟩ := cell i hi
      have hs := hspot (by omega)
      subst hs
      rw [Addr.add_lit] at h1
      exact ⟨x, h1⟩
    obtain ⟨X, hX⟩ := choose_lt each
    refine ⟨some ⟨b, off, spot⟩, len, cap, (List.range len).map X, rfl, ⟨by simp, fun hp => ?_⟩⟩
    have hs := hspot hp
    subst hs
    refine ⟨b, off, rfl, fun i hi => ?_⟩
    have hi' : i < len := by simpa using hi
    simp
    exact hX i hi'
end
end Go.Proofs.YtfgmjgoegdiieaaDoor
