/-
  Contracts: the taker's span (written by gen_zy.py).
-/
import Derived.Test.YtfhpocgiekkboaaDoorZx
import Derived.Test.YtfhpocgiekkboaaDoorWy
namespace Go.Proofs.YtfhpocgiekkboaaDoor
open Go.Shelf Go.RowKit
set_option maxRecDepth 100000

theorem a13_0 (a0 a1 a2 a3 a4 a5 a6 a7 a8 a9 a10 a11 a12 v : Value) : (#[a0, a1, a2, a3, a4, a5, a6, a7, a8, a9, a10, a11, a12] : Array Value).setIfInBounds 0 v = #[v, a1, a2, a3, a4, a5, a6, a7, a8, a9, a10, a11, a12] := by simp
theorem a13_1 (a0 a1 a2 a3 a4 a5 a6 a7 a8 a9 a10 a11 a12 v : Value) : (#[a0, a1, a2, a3, a4, a5, a6, a7, a8, a9, a10, a11, a12] : Array Value).setIfInBounds 1 v = #[a0, v, a2, a3, a4, a5, a6, a7, a8, a9, a10, a11, a12] := by simp
theorem a13_2 (a0 a1 a2 a3 a4 a5 a6 a7 a8 a9 a10 a11 a12 v : Value) : (#[a0, a1, a2, a3, a4, a5, a6, a7, a8, a9, a10, a11, a12] : Array Value).setIfInBounds 2 v = #[a0, a1, v, a3, a4, a5, a6, a7, a8, a9, a10, a11, a12] := by simp
theorem a13_3 (a0 a1 a2 a3 a4 a5 a6 a7 a8 a9 a10 a11 a12 v : Value) : (#[a0, a1, a2, a3, a4, a5, a6, a7, a8, a9, a10, a11, a12] : Array Value).setIfInBounds 3 v = #[a0, a1, a2, v, a4, a5, a6, a7, a8, a9, a10, a11, a12] := by simp
theorem a13_4 (a0 a1 a2 a3 a4 a5 a6 a7 a8 a9 a10 a11 a12 v : Value) : (#[a0, a1, a2, a3, a4, a5, a6, a7, a8, a9, a10, a11, a12] : Array Value).setIfInBounds 4 v = #[a0, a1, a2, a3, v, a5, a6, a7, a8, a9, a10, a11, a12] := by simp
theorem a13_5 (a0 a1 a2 a3 a4 a5 a6 a7 a8 a9 a10 a11 a12 v : Value) : (#[a0, a1, a2, a3, a4, a5, a6, a7, a8, a9, a10, a11, a12] : Array Value).setIfInBounds 5 v = #[a0, a1, a2, a3, a4, v, a6, a7, a8, a9, a10, a11, a12] := by simp
theorem a13_6 (a0 a1 a2 a3 a4 a5 a6 a7 a8 a9 a10 a11 a12 v : Value) : (#[a0, a1, a2, a3, a4, a5, a6, a7, a8, a9, a10, a11, a12] : Array Value).setIfInBounds 6 v = #[a0, a1, a2, a3, a4, a5, v, a7, a8, a9, a10, a11, a12] := by simp
theorem a13_7 (a0 a1 a2 a3 a4 a5 a6 a7 a8 a9 a10 a11 a12 v : Value) : (#[a0, a1, a2, a3, a4, a5, a6, a7, a8, a9, a10, a11, a12] : Array Value).setIfInBounds 7 v = #[a0, a1, a2, a3, a4, a5, a6, v, a8, a9, a10, a11, a12] := by simp
theorem a13_8 (a0 a1 a2 a3 a4 a5 a6 a7 a8 a9 a10 a11 a12 v : Value) : (#[a0, a1, a2, a3, a4, a5, a6, a7, a8, a9, a10, a11, a12] : Array Value).setIfInBounds 8 v = #[a0, a1, a2, a3, a4, a5, a6, a7, v, a9, a10, a11, a12] := by simp
theorem a13_9 (a0 a1 a2 a3 a4 a5 a6 a7 a8 a9 a10 a11 a12 v : Value) : (#[a0, a1, a2, a3, a4, a5, a6, a7, a8, a9, a10, a11, a12] : Array Value).setIfInBounds 9 v = #[a0, a1, a2, a3, a4, a5, a6, a7, a8, v, a10, a11, a12] := by simp
theorem a13_10 (a0 a1 a2 a3 a4 a5 a6 a7 a8 a9 a10 a11 a12 v : Value) : (#[a0, a1, a2, a3, a4, a5, a6, a7, a8, a9, a10, a11, a12] : Array Value).setIfInBounds 10 v = #[a0, a1, a2, a3, a4, a5, a6, a7, a8, a9, v, a11, a12] := by simp
theorem a13_11 (a0 a1 a2 a3 a4 a5 a6 a7 a8 a9 a10 a11 a12 v : Value) : (#[a0, a1, a2, a3, a4, a5, a6, a7, a8, a9, a10, a11, a12] : Array Value).setIfInBounds 11 v = #[a0, a1, a2, a3, a4, a5, a6, a7, a8, a9, a10, v, a12] := by simp
theorem a13_12 (a0 a1 a2 a3 a4 a5 a6 a7 a8 a9 a10 a11 a12 v : Value) : (#[a0, a1, a2, a3, a4, a5, a6, a7, a8, a9, a10, a11, a12] : Array Value).setIfInBounds 12 v = #[a0, a1, a2, a3, a4, a5, a6, a7, a8, a9, a10, a11, v] := by simp
theorem set13_eq (w : World) (g : Nat) (t : TypeId) (z0 z1 z2 z3 z4 z5 z6 z7 z8 z9 z10 z11 z12 v0 v1 v2 v3 v4 v5 v6 v7 v8 v9 v10 v11 v12 : Value) (hg : w.heap[g]? = some (.cells #[z0, z1, z2, z3, z4, z5, z6, z7, z8, z9, z10, z11, z12] t (0, 0))) :
    (((((((((((((w.setCell ⟨g, 0, none⟩ v0).setCell ⟨g, 1, none⟩ v1).setCell ⟨g, 2, none⟩ v2).setCell ⟨g, 3, none⟩ v3).setCell ⟨g, 4, none⟩ v4).setCell ⟨g, 5, none⟩ v5).setCell ⟨g, 6, none⟩ v6).setCell ⟨g, 7, none⟩ v7).setCell ⟨g, 8, none⟩ v8).setCell ⟨g, 9, none⟩ v9).setCell ⟨g, 10, none⟩ v10).setCell ⟨g, 11, none⟩ v11).setCell ⟨g, 12, none⟩ v12) = w.setRow g #[v0, v1, v2, v3, v4, v5, v6, v7, v8, v9, v10, v11, v12] := by
  rw [setCell_eq_setRow w g 0 _ t (0, 0) v0 hg, a13_0,
    setCell_eq_setRow _ g 1 _ t (0, 0) v1 (setRow_heap w g _ _ t _ hg), setRow_setRow, a13_1,
    setCell_eq_setRow _ g 2 _ t (0, 0) v2 (setRow_heap w g _ _ t _ hg), setRow_setRow, a13_2,
    setCell_eq_setRow _ g 3 _ t (0, 0) v3 (setRow_heap w g _ _ t _ hg), setRow_setRow, a13_3,
    setCell_eq_setRow _ g 4 _ t (0, 0) v4 (setRow_heap w g _ _ t _ hg), setRow_setRow, a13_4,
    setCell_eq_setRow _ g 5 _ t (0, 0) v5 (setRow_heap w g _ _ t _ hg), setRow_setRow, a13_5,
    setCell_eq_setRow _ g 6 _ t (0, 0) v6 (setRow_heap w g _ _ t _ hg), setRow_setRow, a13_6,
    setCell_eq_setRow _ g 7 _ t (0, 0) v7 (setRow_heap w g _ _ t _ hg), setRow_setRow, a13_7,
    setCell_eq_setRow _ g 8 _ t (0, 0) v8 (setRow_heap w g _ _ t _ hg), setRow_setRow, a13_8,
    setCell_eq_setRow _ g 9 _ t (0, 0) v9 (setRow_heap w g _ _ t _ hg), setRow_setRow, a13_9,
    setCell_eq_setRow _ g 10 _ t (0, 0) v10 (setRow_heap w g _ _ t _ hg), setRow_setRow, a13_10,
    setCell_eq_setRow _ g 11 _ t (0, 0) v11 (setRow_heap w g _ _ t _ hg), setRow_setRow, a13_11,
    setCell_eq_setRow _ g 12 _ t (0, 0) v12 (setRow_heap w g _ _ t _ hg), setRow_setRow, a13_12]
/-- What is read. -/
def spanP (K : List Int) (s : Option Nat) : Sp × Option Nat :=
  let r0 := rawP K s
  let r1 := rawP K r0.2
  let r2 := rawP K r1.2
  let r3 := rawP K r2.2
  let r4 := linksP K r3.2
  let r5 := textP K 60 r4.2
  let r6 := textP K 100 r5.2
  let r7 := smallP K r6.2
  let r8 := smallP K r7.2
  let r9 := momP K r8.2
  let r10 := momP K r9.2
  let r11 := attrsP K r10.2
  let r12 := eventsP K r11.2
  (⟨r0.1, r1.1, r2.1, r3.1, r4.1, r5.1, r6.1, r7.1, r8.1, r9.1, r10.1, r11.1, r12.1⟩, r12.2)

theorem holdsV_own {w : World} {base e : Nat} {ad : Option Addr} {n cap : Nat} {xs : List Value} (h : w.ownsRow base e 1 (.slice ad n cap) n xs) : HoldsV w ad n xs := by
  have h1 := h.1
  refine ⟨by omega, fun j u hj => ?_⟩
  rcases h.2 with ⟨e, hn⟩ | ⟨g, cap', cur, e, _⟩
  · have : xs = [] := List.eq_nil_of_length_eq_zero (by omega)
    subst this; simp at hj
  · simp at e
    obtain ⟨rfl, rfl⟩ := e
    exact ⟨_, rfl, h.cells (g := g) rfl j u hj⟩
theorem flat_get {α : Type} (f : α → List Value) (m : Nat) (hf : ∀ a, (f a).length = m) : ∀ (X : List α) (i j : Nat) (hi : i < X.length), j < m → (X.flatMap f)[i * m + j]? = (f X[i])[j]? := by
  intro X
  induction X with
  | nil => intro i j hi; simp at hi
  | cons a r ih =>
    intro i j hi hj
    cases i with
    | zero => simp only [List.flatMap_cons, Nat.zero_mul, Nat.zero_add, List.getElem_cons_zero]; rw [List.getElem?_append_left (by rw [hf]; exact hj)]
    | succ i =>
      simp only [List.flatMap_cons, List.getElem_cons_succ]
      rw [List.getElem?_append_right (by rw [hf, Nat.succ_mul]; omega), hf, show (i + 1) * m + j - m = i * m + j by rw [Nat.succ_mul]; omega]
      exact ih i j (by simpa using hi) hj
theorem attrsAt_own {w : World} {base : Nat} {ad : Option Addr} {cap : Nat} {X : List AttrD} (h : w.ownsRow base 65 4 (.slice ad X.length cap) X.length (X.flatMap attrC)) : AttrsAt w ad X.length X := by
  refine ⟨rfl, fun hp => ?_⟩
  rcases h.2 with ⟨e, hn⟩ | ⟨g, cap', cur, e, _⟩
  · omega
  · simp at e
    obtain ⟨rfl, rfl⟩ := e
    have hc := h.cells (g := g) rfl
    refine ⟨g, 0, rfl, fun i hi => ?_⟩
    have k0 := hc (i * 4 + 0) _ ((flat_get attrC 4 (fun _ => rfl) X i 0 hi (by omega)).trans rfl)
    have k1 := hc (i * 4 + 1) _ ((flat_get attrC 4 (fun _ => rfl) X i 1 hi (by omega)).trans rfl)
    have k2 := hc (i * 4 + 2) _ ((flat_get attrC 4 (fun _ => rfl) X i 2 hi (by omega)).trans rfl)
    have k3 := hc (i * 4 + 3) _ ((flat_get attrC 4 (fun _ => rfl) X i 3 hi (by omega)).trans rfl)
    rw [Addr.add_lit] at k0 k1 k2 k3
    exact ⟨k0, k1, k2, k3⟩
theorem eventsAt_own {w : World} {base : Nat} {ad : Option Addr} {cap : Nat} {X : List EventD} (h : w.ownsRow base 68 2 (.slice ad X.length cap) X.length (X.flatMap eventC)) : EventsAt w ad X.length X := by
  refine ⟨rfl, fun hp => ?_⟩
  rcases h.2 with ⟨e, hn⟩ | ⟨g, cap', cur, e, _⟩
  · omega
  · simp at e
    obtain ⟨rfl, rfl⟩ := e
    have hc := h.cells (g := g) rfl
    refine ⟨g, 0, rfl, fun i hi => ?_⟩
    have k0 := hc (i * 2 + 0) _ ((flat_get eventC 2 (fun _ => rfl) X i 0 hi (by omega)).trans rfl)
    have k1 := hc (i * 2 + 1) _ ((flat_get eventC 2 (fun _ => rfl) X i 1 hi (by omega)).trans rfl)
    rw [Addr.add_lit] at k0 k1
    exact ⟨k0, k1⟩
theorem upd_row (W : World) (g : Nat) (cs : Array Value) : Upd (fun k => k = g) W (W.setRow g cs) :=
  ⟨rfl, rfl, rfl, by simp [World.setRow], fun k _ hk => setRow_other W g k _ hk⟩
theorem own_len {base e size : Nat} {w : World} {ad : Option Addr} {l cap n : Nat} {xs : List Value} (h : w.ownsRow base e size (.slice ad l cap) n xs) : l = n := by
  rcases h.2 with ⟨e, hn⟩ | ⟨g, cap', cur, e, _⟩
  · simp at e; omega
  · simp at e; exact e.2.1
theorem Tryd.info39 : (Tryd.prog.info? 39).map (·.size) = some 13 := by kernel_rfl
theorem iter_le16 (K : List Int) (s : Option Nat) : (linksP K s).1.length ≤ 16 := by unfold linksP; rw [iterS_len]; exact countP_le K 16 s
theorem iter_le32a (K : List Int) (s : Option Nat) : (attrsP K s).1.length ≤ 32 := by unfold attrsP; rw [iterS_len]; exact countP_le K 32 s
theorem iter_le32e (K : List Int) (s : Option Nat) : (eventsP K s).1.length ≤ 32 := by unfold eventsP; rw [iterS_len]; exact countP_le K 32 s

end Go.Proofs.YtfhpocgiekkboaaDoor
