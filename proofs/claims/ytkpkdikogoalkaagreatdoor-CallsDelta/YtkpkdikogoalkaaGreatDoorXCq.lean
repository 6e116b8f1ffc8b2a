/-
  Merged: XC, XD.
-/
import Derived.Test.YtkpkdikogoalkaaGreatDoorXP
import Derived.Test.YtkpkdikogoalkaaGreatDoorCHq
namespace Go.Proofs.YtkpkdikogoalkaaGreatDoor.sk
open Go.ChangeShapes Go.WideShapes Go.ChangeAt Go.RowKit Go.Deep
set_option maxRecDepth 100000
theorem cells_barX : Tryz.prog.cellsOf 50 = 2 := by kernel_rfl
theorem bytes_barX : Tryz.prog.bytesOf 50 = 16 := by kernel_rfl
theorem cells_intX : Tryz.prog.cellsOf 3 = 1 := by kernel_rfl
theorem cells_u64X : Tryz.prog.cellsOf 28 = 1 := by kernel_rfl
theorem cells_i64X : Tryz.prog.cellsOf 2 = 1 := by kernel_rfl
theorem cells_boolX : Tryz.prog.cellsOf 4 = 1 := by kernel_rfl
theorem cells_strX : Tryz.prog.cellsOf 9 = 1 := by kernel_rfl
theorem cells_natX : Tryz.prog.cellsOf 36 = 2 := by kernel_rfl
theorem cells_edgeX : Tryz.prog.cellsOf 30 = 2 := by kernel_rfl
theorem cells_barsX : Tryz.prog.cellsOf 37 = 1 := by kernel_rfl
theorem cells_talX : Tryz.prog.cellsOf 39 = 7 := by kernel_rfl
theorem cells_calX : Tryz.prog.cellsOf 32 = 5 := by kernel_rfl
theorem bytes_calX : Tryz.prog.bytesOf 32 = 56 := by kernel_rfl
theorem okslice_lt {W : World} {base : Nat} {t e : TypeId} {a : Addr} {len cap : Nat} (hu : Tryz.prog.underlying t = some (.slice e)) (h : Cell.okWide Tryz.prog W .any base t (.slice (some a) len cap)) : a.block < W.heap.size := by
  simp only [Cell.okWide, hu, Cell.ok] at h
  obtain ⟨_, _, h⟩ := h
  obtain ⟨_, _, row, cells, hs, _⟩ := h
  unfold World.shape? at hs
  rcases Nat.lt_or_ge a.block W.heap.size with h1 | h1
  · exact h1
  · rw [Array.getElem?_eq_none h1] at hs
    simp at hs
section
variable {H : Type} {enc : TypeId × Value → H} {W : World} {base : Nat} {spare : Nat → Bool} {held : Bool}
theorem bar_open {n : Nat} {cs : List Value} {x : DataW H × List MemPlace} (h : DataW.trod enc Tryz.prog W base spare held n 50 cs = some x) :
    ∃ (i : Int × Int), cs = [.int .i64 i.1, .int .u64 i.2] ∧ (-9223372036854775808 ≤ i.1 ∧ i.1 ≤ 9223372036854775807 ∧ 0 ≤ i.2 ∧ i.2 ≤ 18446744073709551615) := by
  obtain ⟨xs, m, rfl, rfl, hl, hxl, hf⟩ := DataW.trod_struct Tryz.underlying50 h
  rw [cells_barX] at hl
  match cs, hl with
  | [c0, c1], _ =>
    match xs, hxl with
    | [x0, x1], _ =>
      have h0 := hf 0 _ rfl
      have h1 := hf 1 _ rfl
      simp [cells_u64X, cells_intX] at h0 h1
      obtain ⟨a, e0, _, w0⟩ := DataW.trod_int Tryz.underlying3 h0
      obtain ⟨b, e1, _, w1⟩ := DataW.trod_int Tryz.underlying28 h1
      simp at e0 e1
      subst e0 e1
      have a0 := bounds_i64 w0
      have b0 := bounds_u64 w1
      exact ⟨(a, b), rfl, by simp only; omega⟩
theorem bars_open {n : Nat} {v : Value} {d : DataW H} {pl : List MemPlace} {bb : Nat} (h : DataW.trod enc Tryz.prog W base spare held n 37 [v] = some (d, pl)) (hr : Go.Proofs.YtkpkdikogoalkaaGreatDoor.Reach 37 d) (hv : Cell.okWide Tryz.prog W .any bb 37 v) :
    ∃ (ad : Option Addr) (len cap : Nat) (A : List (Int × Int)), v = .slice ad len cap ∧ InAt W ad len A ∧ len ≤ cap := by
  rcases open_slice Tryz.underlying37 h with ⟨hcs, hx⟩ | ⟨a, len, cap, m, n, D, Pl, hcs, hb, hl, hm, hmm, hx, hel⟩
  · simp at hcs
    subst hcs
    exact ⟨none, 0, 0, [], rfl, InAt.nil W, Nat.le_refl _⟩
  · simp at hcs
    subst hcs
    simp only [Prod.mk.injEq] at hx
    rw [hx.1] at hr
    have hln := hr.len Tryz.underlying37
    rw [bytes_barX] at hln
    simp at hln
    have hlt := okslice_lt Tryz.underlying37 hv
    have hlm : len ≤ m := by rw [hmm]; split <;> omega
    obtain ⟨b, off, spot⟩ := a
    have hspot : 0 < len → spot = none := fun hp => by
      cases spot with
      | none => rfl
      | some sp =>
        exfalso
        obtain ⟨cs0, h10, h20⟩ := hel 0 (by omega)
        obtain ⟨i0, rfl, _⟩ := bar_open h20
        rw [cells_barX] at h10
        have hcell0 : W.cell? (((⟨b, off, some sp⟩ : Addr).add (0 * 2)).add 0) = some (.int .i64 i0.1) := (World.cells?_some h10).2.2 0 (by omega)
        simp [World.cell?, Addr.add] at hcell0
        split at hcell0 <;> simp at hcell0
    have each : ∀ i, i < len → ∃ x : Int × Int, W.cell? ⟨b, off + i * 2, none⟩ = some (.int .i64 x.1) ∧ W.cell? ⟨b, off + i * 2 + 1, none⟩ = some (.int .u64 x.2) ∧ (-9223372036854775808 ≤ x.1 ∧ x.1 ≤ 9223372036854775807 ∧ 0 ≤ x.2 ∧ x.2 ≤ 18446744073709551615) := by
      intro i hi
      obtain ⟨cs', h1, h2⟩ := hel i (by omega)
      obtain ⟨x, rfl, hx6⟩ := bar_open h2
      rw [cells_barX] at h1
      have hc := (World.cells?_some h1).2.2
      have hs := hspot (by omega)
      subst hs
      have g0 := hc 0 (by omega)
      have g1 := hc 1 (by omega)
      rw [Addr.add_lit, Addr.add_lit] at g0 g1
      exact ⟨x, g0, g1, hx6⟩
    obtain ⟨X, hX⟩ := choose_lt each
    refine ⟨some ⟨b, off, spot⟩, len, cap, (List.range len).map X, rfl, ⟨⟨by simp, fun hp => ?_⟩, ?_, by unfold maxLen; omega, ?_⟩, hl⟩
    · have hs := hspot hp
      subst hs
      refine ⟨b, off, rfl, fun i hi => ?_⟩
      have hi' : i < len := by simpa using hi
      obtain ⟨g0, g1, _⟩ := hX i hi'
      simp
      exact ⟨g0, g1⟩
    · intro a ha
      injection ha with ha
      subst ha
      exact hlt
    · intro x hx
      simp at hx
      obtain ⟨i, hi, rfl⟩ := hx
      exact (hX i hi).2.2
theorem nat_of {h l : Int} (h0 : 0 ≤ h ∧ h ≤ 18446744073709551615) (l0 : 0 ≤ l ∧ l ≤ 18446744073709551615) : ∃ n : Nat, n ≤ top128 ∧ (hi64 n : Int) = h ∧ (lo64 n : Int) = l := by
  refine ⟨h.toNat * 18446744073709551616 + l.toNat, ?_, ?_, ?_⟩
  · rw [top128_eq]; omega
  · unfold hi64; omega
  · unfold lo64; omega
theorem nat_open {n : Nat} {cs : List Value} {x : DataW H × List MemPlace} (h : DataW.trod enc Tryz.prog W base spare held n 36 cs = some x) :
    ∃ m : Nat, m ≤ top128 ∧ cs = [.int .u64 (hi64 m : Int), .int .u64 (lo64 m : Int)] := by
  obtain ⟨xs, m, rfl, rfl, hl, hxl, hf⟩ := DataW.trod_struct Tryz.underlying36 h
  rw [cells_natX] at hl
  match cs, hl with
  | [c0, c1], _ =>
    match xs, hxl with
    | [x0, x1], _ =>
      have h0 := hf 0 _ rfl
      have h1 := hf 1 _ rfl
      simp [cells_u64X] at h0 h1
      obtain ⟨a, e0, _, w0⟩ := DataW.trod_int Tryz.underlying28 h0
      obtain ⟨b, e1, _, w1⟩ := DataW.trod_int Tryz.underlying28 h1
      simp at e0 e1
      subst e0 e1
      have a0 := bounds_u64 w0
      have b0 := bounds_u64 w1
      obtain ⟨m, h1, h2, h3⟩ := nat_of (h := a) (l := b) (by omega) (by omega)
      exact ⟨m, h1, by rw [h2, h3]⟩
theorem tally_open {n : Nat} {cs : List Value} {x : DataW H × List MemPlace} {bb : Nat} (h : DataW.trod enc Tryz.prog W base spare held n 39 cs = some x) (hr : Go.Proofs.YtkpkdikogoalkaaGreatDoor.Reach 39 x.1) (hv : Value.okWide Tryz.prog W .any bb 39 (.agg cs.toArray)) :
    ∃ (c e k : Nat) (ad : Option Addr) (len cap : Nat) (A : List (Int × Int)), cs = talL (hi64 c) (lo64 c) (hi64 e) (lo64 e) (hi64 k) (lo64 k) ad len cap ∧ c ≤ top128 ∧ e ≤ top128 ∧ k ≤ top128 ∧ InAt W ad len A := by
  obtain ⟨xs, m, rfl, rfl, hl, hxl, hf⟩ := DataW.trod_struct Tryz.underlying39 h
  rw [cells_talX] at hl
  match cs, hl with
  | [c0, c1, c2, c3, c4, c5, c6], _ =>
    match xs, hxl with
    | [x0, x1, x2, x3], _ =>
      have h0 := hf 0 _ rfl
      have h1 := hf 1 _ rfl
      have h2 := hf 2 _ rfl
      have h3 := hf 3 _ rfl
      simp [cells_natX, cells_barsX] at h0 h1 h2 h3
      have r3 := hr.field Tryz.underlying39 3 rfl rfl
      obtain ⟨c, hc, e0⟩ := nat_open h0
      obtain ⟨e, he, e1⟩ := nat_open h1
      obtain ⟨k, hk, e2⟩ := nat_open h2
      have hv6 : Cell.okWide Tryz.prog W .any bb 37 c6 := by
        simp only [Value.okWide, Tryz.underlying39] at hv
        obtain ⟨cs', e, _, ts, hts, _, hcell⟩ := hv
        have e' : cs' = #[c0, c1, c2, c3, c4, c5, c6] := by injection e with e; exact e.symm
        subst e'
        obtain ⟨u, hu, hok⟩ := hcell 6 c6 rfl
        have hk : Tryz.prog.cellTypes Tryz.prog.depth 39 = some [28, 28, 28, 28, 28, 28, 37] := by kernel_rfl
        rw [hk] at hts
        injection hts with hts
        subst hts
        simp at hu
        subst hu
        exact hok
      obtain ⟨ad, len, cap, A, rfl, hI, _⟩ := bars_open h3 r3 hv6
      simp at e0 e1 e2
      obtain ⟨rfl, rfl⟩ := e0
      obtain ⟨rfl, rfl⟩ := e1
      obtain ⟨rfl, rfl⟩ := e2
      exact ⟨c, e, k, ad, len, cap, A, rfl, hc, he, hk, hI⟩
theorem call_open {n : Nat} {cs : List Value} {x : DataW H × List MemPlace} (h : DataW.trod enc Tryz.prog W base spare held n 32 cs = some x) :
    ∃ c : Cal, cs = calL c ∧ 0 ≤ c.2.2.2.2 ∧ c.2.2.2.2 < 18446744073709551616 := by
  obtain ⟨xs, m, rfl, rfl, hl, hxl, hf⟩ := DataW.trod_struct Tryz.underlying32 h
  rw [cells_calX] at hl
  match cs, hl with
  | [c0, c1, c2, c3, c4], _ =>
    match xs, hxl with
    | [x0, x1, x2, x3], _ =>
      have h0 := hf 0 _ rfl
      have h1 := hf 1 _ rfl
      have h2 := hf 2 _ rfl
      have h3 := hf 3 _ rfl
      simp [cells_i64X, cells_edgeX, cells_boolX, cells_u64X] at h0 h1 h2 h3
      obtain ⟨hr, e0, _, _⟩ := DataW.trod_int Tryz.underlying2 h0
      obtain ⟨ys, m1, rfl, hx0, hl0, hyl, hg⟩ := DataW.trod_struct Tryz.underlying30 h1
      match ys, hyl with
      | [y0, y1], _ =>
        have g0 := hg 0 _ rfl
        have g1 := hg 1 _ rfl
        simp [cells_strX] at g0 g1
        obtain ⟨s, e1, _, _⟩ := DataW.trod_string Tryz.underlying9 g0
        obtain ⟨t, e2, _, _⟩ := DataW.trod_string Tryz.underlying9 g1
        obtain ⟨b, e3, _⟩ := DataW.trod_bool Tryz.underlying4 h2
        obtain ⟨k, e4, _, w4⟩ := DataW.trod_int Tryz.underlying28 h3
        simp at e0 e1 e2 e3 e4
        subst e0 e1 e2 e3 e4
        have b4 := bounds_u64 w4
        exact ⟨(hr, s, t, b, k), rfl, by simp only; omega, by simp only; omega⟩
/-- What a call's Took may be. -/
def TookOk (l : List Cal) : Prop := ∀ c ∈ l, 0 ≤ c.2.2.2.2 ∧ c.2.2.2.2 < 18446744073709551616
theorem calls_open {n : Nat} {v : Value} {d : DataW H} {pl : List MemPlace} {bb : Nat} (h : DataW.trod enc Tryz.prog W base spare held n 22 [v] = some (d, pl)) (hr : Go.Proofs.YtkpkdikogoalkaaGreatDoor.Reach 22 d) (hv : Cell.okWide Tryz.prog W .any bb 22 v) :
    ∃ (ad : Option Addr) (len cap : Nat) (A : List Cal), v = .slice ad len cap ∧ CalAt W ad len A ∧ len ≤ cap ∧ TookOk A ∧ len * 56 ≤ 140737488351232 := by
  rcases open_slice Tryz.underlying22 h with ⟨hcs, hx⟩ | ⟨a, len, cap, m, n, D, Pl, hcs, hb, hl, hm, hmm, hx, hel⟩
  · simp at hcs
    subst hcs
    exact ⟨none, 0, 0, [], rfl, ⟨rfl, (fun h => by omega), fun a h => by cases h⟩, Nat.le_refl _, (fun _ h => by cases h), by omega⟩
  · simp at hcs
    subst hcs
    simp only [Prod.mk.injEq] at hx
    rw [hx.1] at hr
    have hln := hr.len Tryz.underlying22
    rw [bytes_calX] at hln
    simp at hln
    have hlt := okslice_lt Tryz.underlying22 hv
    have hlm : len ≤ m := by rw [hmm]; split <;> omega
    obtain ⟨b, off, spot⟩ := a
    have hspot : 0 < len → spot = none := fun hp => by
      cases spot with
      | none => rfl
      | some sp =>
        exfalso
        obtain ⟨cs0, h10, h20⟩ := hel 0 (by omega)
        obtain ⟨i0, rfl, _⟩ := call_open h20
        rw [cells_calX] at h10
        have hcell0 : W.cell? (((⟨b, off, some sp⟩ : Addr).add (0 * 5)).add 0) = some (.int .i64 i0.1) := (World.cells?_some h10).2.2 0 (by omega)
        simp [World.cell?, Addr.add] at hcell0
        split at hcell0 <;> simp at hcell0
    have each : ∀ i, i < len → ∃ x : Cal, W.rangeAt b (off + i * 5) (calL x) ∧ 0 ≤ x.2.2.2.2 ∧ x.2.2.2.2 < 18446744073709551616 := by
      intro i hi
      obtain ⟨cs', h1, h2⟩ := hel i (by omega)
      obtain ⟨x, rfl, hx6⟩ := call_open h2
      rw [cells_calX] at h1
      have hc := (World.cells?_some h1).2.2
      have hs := hspot (by omega)
      subst hs
      refine ⟨x, fun j v hj => ?_, hx6⟩
      have hj5 : j < 5 := by
        rcases Nat.lt_or_ge j 5 with h1 | h1
        · exact h1
        · rw [List.getElem?_eq_none (by rw [calL_len]; omega)] at hj; simp at hj
      have g0 := hc j hj5
      rw [Addr.add_lit, Addr.add_lit] at g0
      rw [g0]
      rw [List.getElem?_eq_getElem (by rw [calL_len]; omega)] at hj
      injection hj with hj
      rw [← hj]
      first | rfl | simp
    obtain ⟨X, hX⟩ := choose_lt each
    refine ⟨some ⟨b, off, spot⟩, len, cap, (List.range len).map X, rfl, ⟨by simp, fun hp => ?_, ?_⟩, hl, ?_, by omega⟩
    · have hs := hspot hp
      subst hs
      refine ⟨b, off, rfl, fun i hi => ?_⟩
      have hi' : i < len := by simpa using hi
      simp
      exact (hX i hi').1
    · intro a ha
      injection ha with ha
      subst ha
      exact hlt
    · intro x hx
      simp at hx
      obtain ⟨i, hi, rfl⟩ := hx
      exact (hX i hi).2
end
end Go.Proofs.YtkpkdikogoalkaaGreatDoor.sk

namespace Go.Proofs.YtkpkdikogoalkaaGreatDoor.sk
open Go Go.RowKit
set_option maxRecDepth 100000

theorem okslice_plain {W : World} {base : Nat} {t e : TypeId} {ao : Option Addr} {len cap : Nat} (hu : Tryz.prog.underlying t = some (.slice e)) (h : Cell.okWide Tryz.prog W .any base t (.slice ao len cap)) : ∀ a, ao = some a → a.spot = none := by
  intro a ha
  subst ha
  simp only [Cell.okWide, hu, Cell.ok] at h
  obtain ⟨_, _, h⟩ := h
  obtain ⟨_, h, _⟩ := h
  exact h
theorem okslice_nil {W : World} {base : Nat} {t e : TypeId} {ao : Option Addr} {len cap : Nat} (hu : Tryz.prog.underlying t = some (.slice e)) (h : Cell.okWide Tryz.prog W .any base t (.slice ao len cap)) : ao = none → len = 0 ∧ cap = 0 := by
  intro ha
  subst ha
  simp only [Cell.okWide, hu, Cell.ok] at h
  cases len with
  | zero =>
    cases cap with
    | zero => exact ⟨rfl, rfl⟩
    | succ c => simp at h
  | succ n => simp at h
theorem okslice_cap {W : World} {base : Nat} {t e : TypeId} {ao : Option Addr} {len cap : Nat} (hu : Tryz.prog.underlying t = some (.slice e)) (h : Cell.okWide Tryz.prog W .any base t (.slice ao len cap)) : len ≤ cap ∧ cap ≤ maxLen := by
  cases ao with
  | none =>
    obtain ⟨rfl, rfl⟩ := okslice_nil hu h rfl
    exact ⟨Nat.le_refl _, Nat.zero_le _⟩
  | some a =>
    simp only [Cell.okWide, hu, Cell.ok] at h
    obtain ⟨h1, h2, _⟩ := h
    refine ⟨h1, ?_⟩
    have e : IntKind.i64.max = 9223372036854775807 := by decide
    rw [e] at h2
    unfold maxLen
    omega
end Go.Proofs.YtkpkdikogoalkaaGreatDoor.sk
