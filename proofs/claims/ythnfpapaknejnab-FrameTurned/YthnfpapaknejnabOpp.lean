/-
  Arguments: parcels are opened.
-/
import Derived.Test.YthnfpapaknejnabOb
import Derived.Test.YthnfpapaknejnabLa
namespace Go.Proofs.Ythnfpapaknejnab
open Go.ChangeShapes Go.WideShapes Go.ChangeAt Go.RowKit Go.Deep
theorem cellsPar : Try.prog.cellsOf 47 = 3 := by kernel_rfl
theorem bytesPar : Try.prog.bytesOf 47 = 40 := by kernel_rfl
theorem cellsInt : Try.prog.cellsOf 3 = 1 := by kernel_rfl
theorem cellsU64 : Try.prog.cellsOf 31 = 1 := by kernel_rfl
theorem cellsBy : Try.prog.cellsOf 23 = 1 := by kernel_rfl
section
variable {H : Type} {enc : TypeId × Value → H} {W : World} {base : Nat} {spare : Nat → Bool} {held : Bool}
set_option maxRecDepth 100000 in
theorem parcel_open {n : Nat} {cs : List Value} {x : DataW H × List MemPlace} (h : DataW.trod enc Try.prog W base spare held n 47 cs = some x) :
    ∃ (k q : Int) (ap : Option Addr) (np cp : Nat) (P : List Int), cs = [.int .i64 k, .int .u64 q, .slice ap np cp] ∧ Holds W ap np P ∧ ByteL P ∧ np ≤ cp ∧ cp ≤ maxLen ∧ (-9223372036854775808 ≤ k ∧ k ≤ 9223372036854775807) ∧ 0 ≤ q ∧ q < 18446744073709551616 := by
  obtain ⟨xs, m, rfl, rfl, hl, hxl, hf⟩ := DataW.trod_struct Try.underlying47 h
  rw [cellsPar] at hl
  match cs, hl with
  | [c0, c1, c2], _ =>
    match xs, hxl with
    | [x0, x1, x2], _ =>
      have h0 := hf 0 _ rfl
      have h1 := hf 1 _ rfl
      have h2 := hf 2 _ rfl
      simp [cellsInt, cellsU64, cellsBy] at h0 h1 h2
      obtain ⟨k, e0, _, w0⟩ := DataW.trod_int Try.underlying3 h0
      obtain ⟨q, e1, _, w1⟩ := DataW.trod_int Try.underlying31 h1
      obtain ⟨ap, np, cp, P, e2, hP, hPb, hc, hm, _⟩ := open_bytes h2
      simp at e0 e1
      subst e0 e1 e2
      have := bounds_u64 w1
      exact ⟨k, q, ap, np, cp, P, rfl, hP, hPb, hc, hm, bounds_i64 w0, this.1, by omega⟩
theorem parcels_open {n : Nat} {v : Value} {d : DataW H} {pl : List MemPlace} (h : DataW.trod enc Try.prog W base spare held n 22 [v] = some (d, pl)) :
    ∃ (ad : Option Addr) (len cap : Nat), v = .slice ad len cap ∧ ParcAt W ad len ∧ ((len = 0 ∧ d = .nil) ∨ ∃ el sp, d = .slice el sp ∧ el.length = len) := by
  rcases open_slice Try.underlying22 h with ⟨hcs, hx⟩ | ⟨a, len, cap, m, n, D, Pl, hcs, hb, hl, hm, hmm, hx, hel⟩
  · simp at hcs
    subst hcs
    simp at hx
    exact ⟨none, 0, 0, rfl, ⟨fun i hi => by omega⟩, Or.inl ⟨rfl, hx.1⟩⟩
  · simp at hcs
    subst hcs
    simp only [Prod.mk.injEq] at hx
    have hlm : len ≤ m := by rw [hmm]; split <;> omega
    refine ⟨some a, len, cap, rfl, ⟨fun i hi => ?_⟩, Or.inr ⟨_, _, hx.1, by simp⟩⟩
    obtain ⟨cs', h1, h2⟩ := hel i (by omega)
    obtain ⟨k, q, ap, np, cp, P, rfl, r⟩ := parcel_open h2
    rw [cellsPar] at h1
    have hc := (World.cells?_some h1).2.2
    obtain ⟨b, off, spot⟩ := a
    have hspot : spot = none := by
      cases spot with
      | none => rfl
      | some sp =>
        exfalso
        obtain ⟨cs0, h10, h20⟩ := hel 0 (by omega)
        obtain ⟨k0, q0, ap0, np0, cp0, P0, rfl, _⟩ := parcel_open h20
        rw [cellsPar] at h10
        have hcell0 : W.cell? (((⟨b, off, some sp⟩ : Addr).add (0 * 3)).add 0) = some (.int .i64 k0) := (World.cells?_some h10).2.2 0 (by omega)
        simp [World.cell?, Addr.add] at hcell0
        split at hcell0 <;> simp at hcell0
    subst hspot
    have g0 := hc 0 (by omega)
    have g1 := hc 1 (by omega)
    have g2 := hc 2 (by omega)
    rw [Addr.add_lit, Addr.add_lit] at g0 g1 g2
    exact ⟨b, off, k, q, ap, np, cp, P, rfl, g0, g1, g2, r⟩
end
theorem parcels_size {H : Type} {ts : List TypeId} {ds : List (DataW H)} {j : Nat} {d : DataW H} {len : Nat} (hsz : (DataW.weightsEach Try.prog ts ds).all (· ≤ reachBytes) = true) (ht : ts[j]? = some 22) (hd : ds[j]? = some d)
    (h : (len = 0 ∧ d = .nil) ∨ ∃ el sp, d = .slice el sp ∧ el.length = len) : len ≤ 140737488351232 := by
  rcases h with ⟨rfl, _⟩ | ⟨el, sp, rfl, rfl⟩
  · omega
  · have := sized_slice hsz ht hd Try.underlying22
    rw [bytesPar] at this
    simp only [reachBytes] at this
    omega
end Go.Proofs.Ythnfpapaknejnab
