/-
  Layer 13 (sketch): SketchPlays: a script as an argument.
-/
import Derived.Test.YtmegmjhkjaejgaaLI
import Derived.Test.YtmegmjhkjaejgaaSkR
namespace Go.Proofs.Ytmegmjhkjaejgaa.sk.pl
open Go Go.ChangeShapes Go.WideShapes Go.ChangeAt Go.RowKit Go.Deep Go.Proofs.Ytmegmjhkjaejgaa.sk
set_option maxRecDepth 100000
theorem cells_barX : Try.prog.cellsOf 46 = 2 := by kernel_rfl
theorem bytes_barX : Try.prog.bytesOf 46 = 16 := by kernel_rfl
theorem cells_barsX : Try.prog.cellsOf 28 = 1 := by kernel_rfl
theorem cells_opX : Try.prog.cellsOf 31 = 6 := by kernel_rfl
theorem bytes_opX : Try.prog.bytesOf 31 = 80 := by kernel_rfl
theorem weightsAll_mem {H : Type} {P : Program} {e : TypeId} : ∀ {l : List (DataW H)} {d : DataW H}, d ∈ l → ∀ n ∈ d.weights P e, n ∈ DataW.weightsAll P e l
  | d' :: r, d, hd, n, hn => by
    simp only [DataW.weightsAll, List.mem_append]
    rcases List.mem_cons.1 hd with rfl | h
    · exact Or.inl hn
    · exact Or.inr (weightsAll_mem h n hn)
theorem reach_field {H : Type} {t : TypeId} {fs : Array Field} {parts : List (DataW H)} (hu : Try.prog.underlying t = some (.struct fs)) (h : Reach t (.agg parts)) (j : Nat) {ty : TypeId} {d : DataW H} (ht : (fs.toList.map (·.type))[j]? = some ty) (hd : parts[j]? = some d) : Reach ty d := by
  intro n hn
  refine h n ?_
  simp only [DataW.weights, hu]
  exact DataW.weights_mem_each ht hd n hn
theorem reach_elem {H : Type} {t e : TypeId} {el sp : List (DataW H)} (hu : Try.prog.underlying t = some (.slice e)) (h : Reach t (.slice el sp)) {d : DataW H} (hd : d ∈ el) : Reach e d := by
  intro n hn
  refine h n ?_
  simp only [DataW.weights, hu, List.mem_cons, List.mem_append]
  exact Or.inr (Or.inl (weightsAll_mem hd n hn))
section
variable {H : Type} {enc : TypeId × Value → H} {W : World} {base : Nat} {spare : Nat → Bool} {held : Bool}
theorem bar_open {n : Nat} {cs : List Value} {x : DataW H × List MemPlace} (h : DataW.trod enc Try.prog W base spare held n 46 cs = some x) :
    ∃ (i : Int × Int), cs = [.int .i64 i.1, .int .u64 i.2] ∧ (-9223372036854775808 ≤ i.1 ∧ i.1 ≤ 9223372036854775807 ∧ 0 ≤ i.2 ∧ i.2 ≤ 18446744073709551615) := by
  obtain ⟨xs, m, rfl, rfl, hl, hxl, hf⟩ := DataW.trod_struct Try.underlying46 h
  rw [cells_barX] at hl
  match cs, hl with
  | [c0, c1], _ =>
    match xs, hxl with
    | [x0, x1], _ =>
      have h0 := hf 0 _ rfl
      have h1 := hf 1 _ rfl
      simp [cellsU64, cellsInt] at h0 h1
      obtain ⟨a, e0, _, w0⟩ := DataW.trod_int Try.underlying3 h0
      obtain ⟨b, e1, _, w1⟩ := DataW.trod_int Try.underlying29 h1
      simp at e0 e1
      subst e0 e1
      have a0 := bounds_i64 w0
      have b0 := bounds_u64 w1
      exact ⟨(a, b), rfl, by simp only; omega⟩
theorem bars_open {n : Nat} {v : Value} {d : DataW H} {pl : List MemPlace} (h : DataW.trod enc Try.prog W base spare held n 28 [v] = some (d, pl)) (hr : Reach 28 d) :
    ∃ (ad : Option Addr) (len cap : Nat) (A : List (Int × Int)), v = .slice ad len cap ∧ InAt W ad len A ∧ len ≤ 8796093021952 := by
  rcases open_slice Try.underlying28 h with ⟨hcs, hx⟩ | ⟨a, len, cap, m, n, D, Pl, hcs, hb, hl, hm, hmm, hx, hel⟩
  · simp at hcs
    subst hcs
    exact ⟨none, 0, 0, [], rfl, InAt.nil W, by omega⟩
  · simp at hcs
    subst hcs
    simp only [Prod.mk.injEq] at hx
    rw [hx.1] at hr
    have hln := hr.len Try.underlying28
    rw [bytes_barX] at hln
    simp at hln
    have hlm : len ≤ m := by rw [hmm]; split <;> omega
    obtain ⟨b, off, spot⟩ := a
    have hspot : 0 < len → spot = none := fun hp => by
      cases spot with
      | none => rfl
      | some sp =>
        exfalso
        obtain ⟨cs0, h10, h20⟩ := hel 0 (by omega)
        obtain ⟨i0, rfl, _⟩ := bar_open h20
        rw [cells_barX] at h10
        have hcell0 : W.cell? (((⟨b, off, some sp⟩ : Addr).add (0 * 2)).add 0) = some (.int .i64 i0.1) := (World.cells?_some h10).2.2 0 (by omega)
        simp [World.cell?, Addr.add] at hcell0
        split at hcell0 <;> simp at hcell0
    have each : ∀ i, i < len → ∃ x : Int × Int, W.cell? ⟨b, off + i * 2, none⟩ = some (.int .i64 x.1) ∧ W.cell? ⟨b, off + i * 2 + 1, none⟩ = some (.int .u64 x.2) ∧ (-9223372036854775808 ≤ x.1 ∧ x.1 ≤ 9223372036854775807 ∧ 0 ≤ x.2 ∧ x.2 ≤ 18446744073709551615) := by
      intro i hi
      obtain ⟨cs', h1, h2⟩ := hel i (by omega)
      obtain ⟨x, rfl, hx6⟩ := bar_open h2
      rw [cells_barX] at h1
      have hc := (World.cells?_some h1).2.2
      have hs := hspot (by omega)
      subst hs
      have g0 := hc 0 (by omega)
      have g1 := hc 1 (by omega)
      rw [Addr.add_lit, Addr.add_lit] at g0 g1
      exact ⟨x, g0, g1, hx6⟩
    obtain ⟨X, hX⟩ := choose_lt each
    have hA : BarAt W (some ⟨b, off, spot⟩) len ((List.range len).map X) := by
      refine ⟨by simp, fun hp => ?_⟩
      have hs := hspot hp
      subst hs
      refine ⟨b, off, rfl, fun i hi => ?_⟩
      have hi' : i < len := by simpa using hi
      obtain ⟨g0, g1, _⟩ := hX i hi'
      simp
      exact ⟨g0, g1⟩
    refine ⟨some ⟨b, off, spot⟩, len, cap, (List.range len).map X, rfl, ⟨hA, fun a ha hp => hA.ne hp a ha, by unfold maxLen; omega, ?_⟩, by omega⟩
    intro x hx
    simp at hx
    obtain ⟨i, hi, rfl⟩ := hx
    exact (hX i hi).2.2
theorem op_open {n : Nat} {cs : List Value} {x : DataW H × List MemPlace} (h : DataW.trod enc Try.prog W base spare held n 31 cs = some x) (hr : Reach 31 x.1) :
    ∃ o : OpD, cs = o.L ∧ OpOk W o := by
  obtain ⟨xs, m, rfl, rfl, hl, hxl, hf⟩ := DataW.trod_struct Try.underlying31 h
  rw [cells_opX] at hl
  match cs, hl with
  | [c0, c1, c2, c3, c4, c5], _ =>
    match xs, hxl with
    | [x0, x1, x2, x3, x4, x5], _ =>
      have h0 := hf 0 _ rfl
      have h1 := hf 1 _ rfl
      have h2 := hf 2 _ rfl
      have h3 := hf 3 _ rfl
      have h4 := hf 4 _ rfl
      have h5 := hf 5 _ rfl
      have r2 : Reach 28 x2.1 := reach_field Try.underlying31 hr 2 rfl rfl
      have r3 : Reach 28 x3.1 := reach_field Try.underlying31 hr 3 rfl rfl
      simp [cellsU64, cellsInt, cells_barsX] at h0 h1 h2 h3 h4 h5
      obtain ⟨k, e0, _, w0⟩ := DataW.trod_int Try.underlying3 h0
      obtain ⟨I, e1, _, w1⟩ := DataW.trod_int Try.underlying3 h1
      obtain ⟨V, e4, _, w4⟩ := DataW.trod_int Try.underlying29 h4
      obtain ⟨N, e5, _, w5⟩ := DataW.trod_int Try.underlying29 h5
      obtain ⟨aa, na, pa, la, e2, i2, z2⟩ := bars_open h2 r2
      obtain ⟨ba, nb, pb, lb, e3, i3, z3⟩ := bars_open h3 r3
      simp at e0 e1 e4 e5
      subst e0 e1 e2 e3 e4 e5
      have v0 := bounds_u64 w4
      have n0 := bounds_u64 w5
      obtain ⟨V, rfl⟩ := Int.eq_ofNat_of_zero_le v0.1
      obtain ⟨N, rfl⟩ := Int.eq_ofNat_of_zero_le n0.1
      exact ⟨⟨k, I, aa, na, pa, la, ba, nb, pb, lb, V, N⟩, rfl, ⟨i2, i3, by simp only; omega, by simp only; omega, z2, z3⟩⟩
theorem ops_open {n : Nat} {v : Value} {d : DataW H} {pl : List MemPlace} (h : DataW.trod enc Try.prog W base spare held n 22 [v] = some (d, pl)) (hr : Reach 22 d) :
    ∃ (ad : Option Addr) (len cap : Nat) (A : List OpD), v = .slice ad len cap ∧ OpsAt W ad len A ∧ True ∧ True := by
  rcases open_slice Try.underlying22 h with ⟨hcs, hx⟩ | ⟨a, len, cap, m, n, D, Pl, hcs, hb, hl, hm, hmm, hx, hel⟩
  · simp at hcs
    subst hcs
    exact ⟨none, 0, 0, [], rfl, ⟨rfl, (fun h => by omega), (fun _ h => by cases h), by omega⟩, trivial, trivial⟩
  · simp at hcs
    subst hcs
    simp only [Prod.mk.injEq] at hx
    rw [hx.1] at hr
    have hln := hr.len Try.underlying22
    rw [bytes_opX] at hln
    simp at hln
    have hlm : len ≤ m := by rw [hmm]; split <;> omega
    rw [cells_opX] at hel
    have each : ∀ i, i < len → ∃ o : OpD, W.cells? base (a.add (i * 6)) 6 = some o.L ∧ OpOk W o := by
      intro i hi
      obtain ⟨cs', h1, h2⟩ := hel i (by omega)
      have hri : Reach 31 (D i) := reach_elem Try.underlying22 hr (List.mem_map.2 ⟨i, List.mem_range.2 hi, rfl⟩)
      obtain ⟨o, rfl, h3⟩ := op_open h2 hri
      exact ⟨o, h1, h3⟩
    have : Inhabited OpD := ⟨⟨0, 0, none, 0, 0, [], none, 0, 0, [], 0, 0⟩⟩
    obtain ⟨X, hX⟩ := choose_lt each
    obtain ⟨b, off, spot⟩ := a
    have hspot : 0 < len → spot = none := fun hp => by
      cases spot with
      | none => rfl
      | some sp =>
        exfalso
        have hcell0 := (World.cells?_some (hX 0 hp).1).2.2 0 (by omega)
        simp [World.cell?, Addr.add] at hcell0
        split at hcell0 <;> simp [OpD.L, opL] at hcell0
    refine ⟨some ⟨b, off, spot⟩, len, cap, (List.range len).map X, rfl, ⟨by simp, fun hp => ?_, ?_, by omega⟩, trivial, trivial⟩
    · have hs := hspot hp
      subst hs
      have cell : ∀ i, i < len → ∀ j u, (X i).L[j]? = some u → W.cell? ⟨b, off + i * 6 + j, none⟩ = some u := fun i hi j u hu => by
        have hj : j < 6 := by have := (List.getElem?_eq_some_iff.1 hu).1; simpa [OpD.L, opL] using this
        have hc := (World.cells?_some (hX i hi).1).2.2 j hj
        rw [Addr.add_lit, Addr.add_lit] at hc
        rw [hc, ← hu]
      refine ⟨b, off, rfl, ?_, fun i hi => ?_⟩
      · have := cell 0 hp 0 _ rfl
        exact World.block_lt_of_cell? W _ this
      · have hi' : i < len := by simpa using hi
        have e : ((List.range len).map X)[i]'hi = X i := by simp
        rw [e]
        exact cell i hi'
    · intro o ho
      simp at ho
      obtain ⟨i, hi, rfl⟩ := ho
      exact (hX i hi).2
end
end Go.Proofs.Ytmegmjhkjaejgaa.sk.pl
