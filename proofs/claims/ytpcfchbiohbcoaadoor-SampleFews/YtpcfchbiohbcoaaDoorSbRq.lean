/-
  Merged: SbR, SbY.
-/
import Derived.Test.YtpcfchbiohbcoaaDoorSbQ
import Derived.Test.YtpcfchbiohbcoaaDoorSaK
import Derived.Test.YtpcfchbiohbcoaaDoorSaTq
namespace Go.Proofs.YtpcfchbiohbcoaaDoor
open Go Go.RowKit
set_option maxRecDepth 100000

/-- A step of a script. -/
abbrev OpD : Type := Bool × Int × BitVec 64 × BitVec 64 × Bool
def opC (x : OpD) : List Value := [.bool x.1, .int .i64 x.2.1, .int .u64 (bvI x.2.2.1), .int .u64 (bvI x.2.2.2.1), .bool x.2.2.2.2]
/-- Steps that lie in memory. -/
def OpsAt (w : World) (ad : Option Addr) (O : List OpD) : Prop :=
  0 < O.length → ∃ b o, ad = some ⟨b, o, none⟩ ∧ b < w.heap.size ∧ ∀ i (hi : i < O.length) (j : Nat) (v : Value), (opC O[i])[j]? = some v → w.cell? ⟨b, o + i * 5 + j, none⟩ = some v
theorem OpsAt.below {w w' : World} {ad : Option Addr} {O : List OpD} (h : OpsAt w ad O) (hb : Below w.heap.size w w') : OpsAt w' ad O := fun hn => by
  obtain ⟨b, o, e, hl, hc⟩ := h hn
  exact ⟨b, o, e, Nat.lt_of_lt_of_le hl hb.size, fun i hi j v hv => (hb.cell (p := ⟨b, o + i * 5 + j, none⟩) hl).trans (hc i hi j v hv)⟩
theorem FamG.add {w W W' : World} {K M F : Nat → Nat} {TT : Nat → List Tr} {m : Nat} (h : FamG w W K M F TT m) (hb : Below W.heap.size W W') (hK : K m ≠ 33) (hf : FewG (K m) W' (F m) (W.heap.size + 1) (M m) (TT m)) (hF : F m = W.heap.size) : FamG w W' K M F TT (m + 1) := by
  have h' := h.below hb
  have hlow := h.bel.size
  refine ⟨fun i hi => ?_, fun i hi => ?_, fun i hi => ?_, fun i j hi hj hij => ?_, fun i j hi hj hij ai ci aj cj bi bj a b ea eb hab => ?_, h'.bel⟩
  · by_cases e : i = m
    · subst e; exact hK
    · exact h.knd i (by omega)
  · by_cases e : i = m
    · subst e
      obtain ⟨ao, c, k, o⟩ := hf.row
      exact ⟨⟨ao, c, k, OwnTr.low o (by omega)⟩, hf.rise, hf.len, hf.most, by have := hf.low; omega⟩
    · exact h'.few i (by omega)
  · by_cases e : i = m
    · subst e; omega
    · exact h.ge i (by omega)
  · have lt : ∀ x, x < m → F x < W.heap.size := fun x hx => (h.rowlt hx).1
    by_cases e : i = m
    · subst e
      have := lt j (by omega)
      omega
    · by_cases e2 : j = m
      · subst e2
        have := lt i (by omega)
        omega
      · exact h.ne i j (by omega) (by omega) hij
  · have old : ∀ x, x < m → ∀ ax cx, Blk W' (F x) #[.int .i64 (M x), .slice ax (TT x).length cx] (K x) → ∀ p, ax = some p → p.block < W.heap.size := fun x hx ax cx bx p ep => by
      obtain ⟨a', c', k', o'⟩ := (h.few x hx).row
      have e2 := few_uniqT bx (k'.below hb k'.lt)
      simp only [Value.slice.injEq] at e2
      obtain ⟨rfl, -, rfl⟩ := e2
      exact (row_lt o' ep).1
    have new : ∀ ax cx, Blk W' (F m) #[.int .i64 (M m), .slice ax (TT m).length cx] (K m) → ∀ p, ax = some p → W.heap.size < p.block := fun ax cx bx p ep => by
      obtain ⟨a', c', k', o'⟩ := hf.row
      have e2 := few_uniqT bx k'
      simp only [Value.slice.injEq] at e2
      obtain ⟨rfl, -, rfl⟩ := e2
      rcases o'.2 with ⟨e', _⟩ | ⟨g, cap, cur, e', hg, _⟩
      · simp [ep] at e'
      · simp [ep] at e'
        rw [e'.1]
        exact hg
    by_cases e : i = m
    · subst e
      have h1 := new ai ci bi a ea
      have h2 := old j (by omega) aj cj bj b eb
      omega
    · by_cases e2 : j = m
      · subst e2
        have h1 := new aj cj bj b eb
        have h2 := old i (by omega) ai ci bi a ea
        omega
      · exact h'.ap i j (by omega) (by omega) hij ai ci aj cj bi bj a b ea eb hab
def kF : Nat → Nat := fun i => if i < 2 then 64 else 66
def mF (a b : Nat) : Nat → Nat := fun i => if i = 0 ∨ i = 2 then a else b
theorem quad1 (a b : Nat) : QuadP kF (mF a b) 0 1 2 3 := ⟨by decide, by decide, ⟨rfl, rfl, rfl, rfl⟩, ⟨rfl, rfl⟩⟩
theorem quad2 (a b : Nat) : QuadP kF (mF a b) 1 0 3 2 := ⟨by decide, by decide, ⟨rfl, rfl, rfl, rfl⟩, ⟨rfl, rfl⟩⟩
theorem four_fews {w w1 w2 w3 w4 w5 : World} {a b s0 s1 s2 s3 : Nat} (b1 : Below w.heap.size w w1) (e0 : w1.heap.size = s0) (f0 : FewAt w2 s0 (s0 + 1) a []) (b2 : Below s0 w1 w2) (e1 : w2.heap.size = s1) (f1 : FewAt w3 s1 (s1 + 1) b []) (b3 : Below s1 w2 w3) (e2 : w3.heap.size = s2) (f2 : FewG 66 w4 s2 (s2 + 1) a []) (b4 : Below s2 w3 w4) (e3 : w4.heap.size = s3) (f3 : FewG 66 w5 s3 (s3 + 1) b []) (b5 : Below s3 w4 w5) :
    ∃ F : Nat → Nat, F 0 = s0 ∧ F 1 = s1 ∧ F 2 = s2 ∧ F 3 = s3 ∧ FamG w w5 kF (mF a b) F (fun _ => []) 4 := by
  subst e0 e1 e2 e3
  refine ⟨fun i => if i = 0 then w1.heap.size else if i = 1 then w2.heap.size else if i = 2 then w3.heap.size else w4.heap.size, rfl, rfl, rfl, rfl, ?_⟩
  have h0 : FamG w w1 kF (mF a b) (fun i => if i = 0 then w1.heap.size else if i = 1 then w2.heap.size else if i = 2 then w3.heap.size else w4.heap.size) (fun _ => []) 0 := ⟨fun i hi => absurd hi (by omega), fun i hi => absurd hi (by omega), fun i hi => absurd hi (by omega), fun i j hi => absurd hi (by omega), fun i j hi => absurd hi (by omega), b1⟩
  have h1 := h0.add b2 (by decide) f0.gen rfl
  have h2 := h1.add b3 (by decide) f1.gen rfl
  have h3 := h2.add b4 (by decide) f2 rfl
  exact h3.add b5 (by decide) f3 rfl
end Go.Proofs.YtpcfchbiohbcoaaDoor

namespace Go.Proofs.YtpcfchbiohbcoaaDoor
open Go Go.ChangeShapes Go.WideShapes Go.ChangeAt Go.RowKit Go.Deep
set_option maxRecDepth 100000

theorem cells_opX : Tryd.prog.cellsOf 35 = 5 := by kernel_rfl
theorem cells_boolX : Tryd.prog.cellsOf 4 = 1 := by kernel_rfl
theorem bytes_opX : Tryd.prog.bytesOf 35 = 40 := by kernel_rfl
theorem opC_lt {y : OpD} {j : Nat} {v : Value} (h : (opC y)[j]? = some v) : j < 5 := by
  rcases Nat.lt_or_ge j 5 with h1 | h1
  · exact h1
  · rw [List.getElem?_eq_none (by simpa [opC] using h1)] at h
    cases h
section
variable {H : Type} {enc : TypeId × Value → H} {W : World} {base : Nat} {spare : Nat → Bool} {held : Bool}
theorem op_open {n : Nat} {cs : List Value} {x : DataW H × List MemPlace} (h : DataW.trod enc Tryd.prog W base spare held n 35 cs = some x) : ∃ y : OpD, cs = opC y := by
  obtain ⟨xs, m, rfl, rfl, hl, hxl, hf⟩ := DataW.trod_struct Tryd.underlying35 h
  rw [cells_opX] at hl
  match cs, hl with
  | [c0, c1, c2, c3, c4], _ =>
    match xs, hxl with
    | [x0, x1, x2, x3], _ =>
      have h0 := hf 0 _ rfl
      have h1 := hf 1 _ rfl
      have h2 := hf 2 _ rfl
      have h3 := hf 3 _ rfl
      simp [cells_boolX, cells_intX, cells_trX] at h0 h1 h2 h3
      obtain ⟨b0, e0, _⟩ := DataW.trod_bool Tryd.underlying4 h0
      obtain ⟨k, e1, _, _⟩ := DataW.trod_int Tryd.underlying3 h1
      obtain ⟨y, z, e2⟩ := trace_open h2
      obtain ⟨b3, e3, _⟩ := DataW.trod_bool Tryd.underlying4 h3
      simp at e0 e1 e2 e3
      obtain ⟨rfl, rfl⟩ := e2
      subst e0 e1 e3
      exact ⟨(b0, k, y, z, b3), rfl⟩
theorem opsL_open {n : Nat} {v : Value} {x : DataW H × List MemPlace} (h : DataW.trod enc Tryd.prog W base spare held n 22 [v] = some x) (hr : Reach 22 x.1) :
    ∃ (ad : Option Addr) (cap : Nat) (X : List OpD), v = .slice ad X.length cap ∧ OpsAt W ad X ∧ X.length * 40 ≤ 140737488351232 ∧ X.length ≤ cap := by
  rcases open_slice Tryd.underlying22 h with ⟨hcs, hx⟩ | ⟨a, len, cap, m, n, D, Pl, hcs, hb, hl, hm, hmm, hx, hel⟩
  · simp at hcs
    subst hcs
    exact ⟨none, 0, [], rfl, fun hp => by simp at hp, by simp, by simp⟩
  · simp at hcs
    subst hcs hx
    have hln := hr.len Tryd.underlying22
    rw [bytes_opX] at hln
    simp at hln
    have hlm : len ≤ m := by rw [hmm]; split <;> omega
    rw [cells_opX] at hel
    have each : ∀ i, i < len → ∃ y : OpD, W.cells? base (a.add (i * 5)) 5 = some (opC y) := by
      intro i hi
      obtain ⟨cs', h1, h2⟩ := hel i (by omega)
      obtain ⟨y, rfl⟩ := op_open h2
      exact ⟨y, h1⟩
    have : Inhabited OpD := ⟨(false, 0, 0#64, 0#64, false)⟩
    obtain ⟨Y, hY⟩ := choose_lt each
    have hlen : ((List.range len).map Y).length = len := by simp
    refine ⟨some a, cap, (List.range len).map Y, by rw [hlen], ?_, by rw [hlen]; omega, by rw [hlen]; omega⟩
    intro hp
    rw [hlen] at hp
    obtain ⟨b, off, sp⟩ := a
    have hc0 := (World.cells?_some (hY 0 hp)).2.2 0 (by omega)
    have hsp : sp = none := by
      refine spot_none (w := W) (b := b) (off := off) (u := (opC (Y 0))[0]'(by simp [opC])) ?_
      simpa [Addr.add, opC] using hc0
    subst hsp
    have hlt : b < W.heap.size := by
      rw [Addr.add_lit, Addr.add_lit] at hc0
      exact World.block_lt_of_cell? W _ hc0
    refine ⟨b, off, rfl, hlt, fun i hi j v hv => ?_⟩
    rw [hlen] at hi
    have hc := (World.cells?_some (hY i hi)).2.2
    have e : ((List.range len).map Y)[i]'(by rw [hlen]; exact hi) = Y i := by simp
    rw [e] at hv
    have g := hc j (opC_lt hv)
    rw [Addr.add_lit, Addr.add_lit] at g
    exact g.trans hv
end
end Go.Proofs.YtpcfchbiohbcoaaDoor
