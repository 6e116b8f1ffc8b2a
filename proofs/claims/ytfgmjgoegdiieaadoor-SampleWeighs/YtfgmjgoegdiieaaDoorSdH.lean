/-
  SdH.
-/
import Derived.Test.YtfgmjgoegdiieaaDoorSdFq
namespace Go.Proofs.YtfgmjgoegdiieaaDoor
open Go Go.RowKit
set_option maxRecDepth 100000

/-- Spans of one trace, whatever its name is. -/
structure OneN (X : List Sp) : Prop where
  len : X.length ≤ 1000
  chk : ∀ a ∈ X, chkS (renS 0 1 a) = 0
  ids : (X.map (fun a => a.id)).Nodup
theorem chk_ren {hi lo : Int} (h : ¬ (hi = 0 ∧ lo = 0)) (a : Sp) : chkS (renS hi lo a) = chkS (renS 0 1 a) := by
  unfold chkS renS
  simp only [decide_eq_false h]
  rfl
theorem ids_ren (hi lo : Int) (X : List Sp) : (X.map (renS hi lo)).map (fun a => a.id) = X.map (fun a => a.id) := by
  rw [List.map_map]
  rfl
theorem fits_ren {hi lo : Int} (h0 : 0 ≤ hi ∧ hi < 18446744073709551616) (h1 : 0 ≤ lo ∧ lo < 18446744073709551616) {X : List Sp} (hF : ∀ a ∈ X, a.Fits) : ∀ a ∈ X.map (renS hi lo), a.Fits := fun a ha => by
  obtain ⟨b, hb, rfl⟩ := List.mem_map.1 ha
  have k := hF b hb
  exact ⟨h0, h1, k.id, k.par, k.links, k.attrs⟩
theorem small_ren {hi lo : Int} {X : List Sp} (hS : ∀ a ∈ X, a.Small) : ∀ a ∈ X.map (renS hi lo), a.Small := fun a ha => by
  obtain ⟨b, hb, rfl⟩ := List.mem_map.1 ha
  have k := hS b hb
  exact ⟨k.svc, k.op, k.attrs, k.events⟩
theorem oneT_ren {hi lo : Int} (h : ¬ (hi = 0 ∧ lo = 0)) (h0 : 0 ≤ hi ∧ hi < 18446744073709551616) (h1 : 0 ≤ lo ∧ lo < 18446744073709551616) {X : List Sp} (hF : ∀ a ∈ X, a.Fits) (hS : ∀ a ∈ X, a.Small) : OneT (X.map (renS hi lo)) ↔ OneN X := by
  constructor
  · intro k
    refine ⟨by have := k.len; simpa using this, fun a ha => ?_, by have := k.ids; rwa [ids_ren] at this⟩
    rw [← chk_ren h a]
    exact k.chk _ (List.mem_map.2 ⟨a, ha, rfl⟩)
  · intro k
    refine ⟨by simpa using k.len, fun a ha => ?_, fits_ren h0 h1 hF, small_ren hS, fun a ha b hb => ?_, by rw [ids_ren]; exact k.ids⟩
    · obtain ⟨b, hb, rfl⟩ := List.mem_map.1 ha
      rw [chk_ren h b]
      exact k.chk b hb
    · obtain ⟨a', _, rfl⟩ := List.mem_map.1 ha
      obtain ⟨b', _, rfl⟩ := List.mem_map.1 hb
      exact ⟨rfl, rfl⟩
def pPol (q : Int) : Pol := ⟨4, 0, ⟨#[]⟩, q⟩
theorem chk_part {q : Int} (h0 : 0 ≤ q) (h1 : q ≤ 65536) : chkP [pPol q] = 0 := by
  unfold chkP
  rw [if_pos]
  refine ⟨by simp, ?_⟩
  simp [pPol, mayP, h0, h1]
theorem holds_part {q : Int} (h0 : 0 ≤ q) (h1 : q ≤ 65536) (X : List Sp) : holdsB (pPol q) X = decide (firstMix X < q) := by
  unfold holdsB pPol
  simp only [show ¬ (4 : Int) = 1 by decide, show ¬ (4 : Int) = 2 by decide, show ¬ (4 : Int) = 3 by decide, if_false, if_true]
  rw [show IntKind.u64.wrap q = q by rw [IntKind.wrap_u64]; omega]
theorem first_part {q r : Int} {X : List Sp} (h : FirstR [pPol q] X r) : (holdsB (pPol q) X = false ∧ r = -1) ∨ (holdsB (pPol q) X = true ∧ r = 0) := by
  rcases h with ⟨h1, h2⟩ | ⟨i, hi, h1, h2, _⟩
  · left
    simp at h2
    exact ⟨h2, h1⟩
  · right
    have : i = 0 := by simp at hi; exact hi
    subst this
    exact ⟨h2, h1⟩
/-- The verdict by a part alone. -/
def DecN (X : List Sp) (m q : Int) (k : Bool) (v g e : Int) : Prop :=
  (¬ OneN X ∧ k = false ∧ v = 0 ∧ g = 0 ∧ e = 101) ∨
  (OneN X ∧ (X = [] ∨ ¬ m < q) ∧ k = false ∧ v = -1 ∧ g = 0 ∧ e = 0) ∨
  (OneN X ∧ X ≠ [] ∧ m < q ∧ k = true ∧ v = 0 ∧ g = 4294967296 / q ∧ e = 0)
theorem firstMix_ren (hi lo : BitVec 64) {X : List Sp} (hX : X ≠ []) : firstMix (X.map (renS (bvI hi) (bvI lo))) = bvI (mixB hi lo) / 281474976710656 := by
  match X, hX with
  | a :: r, _ =>
    show mix48 (renS (bvI hi) (bvI lo) a) = _
    unfold mix48 renS
    simp only
    have e : ∀ v : BitVec 64, BitVec.ofInt 64 (bvI v) = v := fun v => bvI_inj (bvI_of _ (bvI_lo v) (bvI_hi v))
    rw [e, e]
theorem dec_part {hi lo : BitVec 64} (h : ¬ (bvI hi = 0 ∧ bvI lo = 0)) {X : List Sp} (hF : ∀ a ∈ X, a.Fits) (hS : ∀ a ∈ X, a.Small) {q : Int} (h0 : 0 ≤ q) (h1 : q ≤ 65536) {m : Int} (hm : bvI (mixB hi lo) / 281474976710656 = m) {k : Bool} {v g e : Int} (hd : DecR [pPol q] (X.map (renS (bvI hi) (bvI lo))) k v g e) : DecN X m q k v g e := by
  have hone := oneT_ren h ⟨bvI_lo hi, bvI_hi hi⟩ ⟨bvI_lo lo, bvI_hi lo⟩ hF hS
  have hc := chk_part h0 h1
  have hnil : X.map (renS (bvI hi) (bvI lo)) = [] ↔ X = [] := by simp
  rcases hd with ⟨a1, _⟩ | ⟨_, a0, a2, a3, a4, a5⟩ | ⟨_, a0, a6, a2, a3, a4, a5⟩ | ⟨_, a0, a6, a7, a8, a2, a3, a4⟩
  · exact absurd hc a1
  · exact Or.inl ⟨fun k => a0 (hone.2 k), a2, a3, a4, a5⟩
  · refine Or.inr (Or.inl ⟨hone.1 a0, ?_, a2, a3, a4, a5⟩)
    rcases a6 with a6 | a6
    · exact Or.inl (hnil.1 a6)
    · by_cases hX : X = []
      · exact Or.inl hX
      · right
        rcases first_part a6 with ⟨b1, _⟩ | ⟨_, b2⟩
        · rw [holds_part h0 h1, firstMix_ren hi lo hX, hm] at b1
          simpa using b1
        · omega
  · have hX : X ≠ [] := fun e => a6 (hnil.2 e)
    rcases first_part a8 with ⟨_, b2⟩ | ⟨b1, b2⟩
    · omega
    · have b3 := b1
      rw [holds_part h0 h1, firstMix_ren hi lo hX, hm] at b1
      refine Or.inr (Or.inr ⟨hone.1 a0, hX, by simpa using b1, a2, b2, ?_, a4⟩)
      rw [a3]
      unfold weightN
      rw [if_neg (by simp [sureB, pPol])]
      unfold maxPart pPol
      simp only [List.foldl_cons, List.foldl_nil, if_true]
      rw [show max 0 q = q by omega]
/-- All that the law asks of its three verdicts. -/
theorem great3 {X : List Sp} {m q1 q2 : Int} (h0 : 0 ≤ m) (hq : q1 ≤ q2) {k1 k2 k3 : Bool} {v1 v2 v3 g1 g2 g3 e1 e2 e3 : Int} (a : DecN X m q1 k1 v1 g1 e1) (b : DecN X m q2 k2 v2 g2 e2) (c : DecN X m q2 k3 v3 g3 e3) :
    (k1 = false ∧ v1 = 0 ∧ g1 = 0 ∧ e1 = 101 ∧ k2 = false ∧ v2 = 0 ∧ g2 = 0 ∧ e2 = 101 ∧ k3 = false ∧ v3 = 0 ∧ g3 = 0 ∧ e3 = 101) ∨
    (k1 = false ∧ v1 = -1 ∧ g1 = 0 ∧ e1 = 0 ∧ k2 = false ∧ v2 = -1 ∧ g2 = 0 ∧ e2 = 0 ∧ k3 = false ∧ v3 = -1 ∧ g3 = 0 ∧ e3 = 0 ∧ (X.length = 0 ∨ ¬ m < q2)) ∨
    (k1 = false ∧ v1 = -1 ∧ g1 = 0 ∧ e1 = 0 ∧ k2 = true ∧ v2 = 0 ∧ e2 = 0 ∧ k3 = true ∧ v3 = 0 ∧ g3 = g2 ∧ e3 = 0 ∧ m < q2 ∧ X.length ≠ 0) ∨
    (k1 = true ∧ v1 = 0 ∧ e1 = 0 ∧ k2 = true ∧ v2 = 0 ∧ e2 = 0 ∧ k3 = true ∧ v3 = 0 ∧ g3 = g2 ∧ e3 = 0 ∧ m < q2 ∧ g2 ≤ g1 ∧ X.length ≠ 0) := by
  have hlen : X.length = 0 ↔ X = [] := List.length_eq_zero_iff
  rcases a with ⟨a0, a1, a2, a3, a4⟩ | ⟨a0, ax, a1, a2, a3, a4⟩ | ⟨a0, ax, am, a1, a2, a3, a4⟩ <;> rcases b with ⟨b0, b1, b2, b3, b4⟩ | ⟨b0, bx, b1, b2, b3, b4⟩ | ⟨b0, bx, bm, b1, b2, b3, b4⟩ <;> rcases c with ⟨c0, c1, c2, c3, c4⟩ | ⟨c0, cx, c1, c2, c3, c4⟩ | ⟨c0, cx, cm, c1, c2, c3, c4⟩
  all_goals first
    | exact absurd ‹OneN X› ‹¬ OneN X›
    | exact Or.inl ⟨a1, a2, a3, a4, b1, b2, b3, b4, c1, c2, c3, c4⟩
    | skip
  · exact Or.inr (Or.inl ⟨a1, a2, a3, a4, b1, b2, b3, b4, c1, c2, c3, c4, by rw [hlen]; exact bx⟩)
  · exact absurd bx (by rintro (h | h); exact cx h; exact h cm)
  · exact absurd cx (by rintro (h | h); exact bx h; exact h bm)
  · exact Or.inr (Or.inr (Or.inl ⟨a1, a2, a3, a4, b1, b2, b4, c1, c2, c3.trans b3.symm, c4, bm, by rw [ne_eq, hlen]; exact bx⟩))
  · exact absurd bx (by rintro (h | h); exact ax h; omega)
  · exact absurd bx (by rintro (h | h); exact ax h; omega)
  · exact absurd cx (by rintro (h | h); exact bx h; exact h bm)
  · refine Or.inr (Or.inr (Or.inr ⟨a1, a2, a4, b1, b2, b4, c1, c2, c3.trans b3.symm, c4, bm, ?_, by rw [ne_eq, hlen]; exact bx⟩))
    rw [a3, b3]
    have p1 : 0 < q1 := by omega
    have p2 : 0 < q2 := by omega
    exact (Int.le_ediv_iff_mul_le p1).2 (Int.le_trans (Int.mul_le_mul_of_nonneg_left hq (Int.ediv_nonneg (by omega) (by omega))) (Int.ediv_mul_le _ (by omega)))
end Go.Proofs.YtfgmjgoegdiieaaDoor
