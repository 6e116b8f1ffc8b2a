/-
  Contracts: copied, Bytes, Len, Raw of the Writer.
-/
import Derived.Test.YtdagoabapchniaaDoorWr
namespace Go.Proofs.YtdagoabapchniaaDoor
open Go.RowKit
set_option maxRecDepth 100000

/-- The cells of a slice value hold these bytes. -/
structure Holds (w : World) (ad : Option Addr) (n : Nat) (K : List Int) : Prop where
  len : K.length = n
  cells : ∀ j u, (K.map (Value.int .u8))[j]? = some u → ∃ a, ad = some a ∧ w.cell? (a.add j) = some u

theorem Holds.ofRow {base : Nat} {w : World} {ad : Option Addr} {n cap : Nat} {K : List Int} (h : w.ownsRow base 5 1 (.slice ad n cap) K.length (K.map (Value.int .u8))) : Holds w ad n K := by
  rcases h.2 with ⟨e, hn⟩ | ⟨g, cap', cur, e, _⟩
  · simp at e
    obtain ⟨rfl, rfl, rfl⟩ := e
    have : K = [] := List.eq_nil_of_length_eq_zero hn
    subst this
    exact ⟨rfl, fun j u hj => by simp at hj⟩
  · simp at e
    obtain ⟨rfl, rfl, rfl⟩ := e
    exact ⟨rfl, fun j u hj => ⟨_, rfl, h.cells (g := g) rfl j u hj⟩⟩

theorem u8_one (K : List Int) : ∀ u ∈ K.map (Value.int .u8), u.oneCell' = true := ints_oneCell _ _

theorem copy_src {w : World} {ad : Option Addr} {cs : List Value} (h : ∀ j u, cs[j]? = some u → ∃ a, ad = some a ∧ w.cell? (a.add j) = some u) (hp : 0 < cs.length) : ∃ a, ad = some a ∧ ∀ j u, cs[j]? = some u → w.cell? (a.add j) = some u := by
  obtain ⟨a, ha, _⟩ := h 0 cs[0] (by simp [hp])
  refine ⟨a, ha, fun j u hj => ?_⟩
  obtain ⟨a', ha', hc⟩ := h j u hj
  rw [ha] at ha'
  simp at ha'
  subst ha'
  exact hc

/-- A row of bytes, whole. -/
def RowAt (w : World) (g : Nat) (K : List Int) : Prop := w.heap[g]? = some (.cells (K.map (Value.int .u8)).toArray 5 (0, 0))
theorem RowAt.cell {w : World} {g : Nat} {K : List Int} (h : RowAt w g K) (j : Nat) (hj : j < K.length) : w.cell? ⟨g, j, none⟩ = some (.int .u8 (K.getD j 0)) := by
  unfold RowAt at h
  simp [World.cell?, h, List.getD, hj]
theorem RowAt.upd {w w' : World} {g : Nat} {K : List Int} {S : Nat → Prop} (h : RowAt w g K) (hu : Upd S w w') (hS : ¬ S g) : RowAt w' g K := (hu.block g (lt_of_block h) hS).trans h
theorem RowAt.own {w : World} {g : Nat} {K : List Int} (h : RowAt w g K) (base : Nat) (hb : base ≤ g) (hl : K.length ≤ maxLen) : w.ownsRow base 5 1 (.slice (some ⟨g, 0, none⟩) K.length K.length) K.length (K.map (Value.int .u8)) :=
  ⟨by simp, Or.inr ⟨g, K.length, _, rfl, hb, h, Nat.le_refl _, hl, by simp, by rw [Nat.mul_one, List.take_of_length_le (by simp)]⟩⟩
theorem RowAt.holds {w : World} {g : Nat} {K : List Int} (h : RowAt w g K) : Holds w (some ⟨g, 0, none⟩) K.length K := by
  refine ⟨rfl, fun j u hj => ⟨_, rfl, ?_⟩⟩
  unfold RowAt at h
  rw [Addr.add_lit]
  simp only [World.cell?, Nat.zero_add, h]
  simpa using hj

end Go.Proofs.YtdagoabapchniaaDoor
