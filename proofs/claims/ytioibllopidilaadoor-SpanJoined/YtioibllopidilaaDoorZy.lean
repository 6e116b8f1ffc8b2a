/-
  Contracts: the taker's span (written by gen_zy.py).
-/
import Derived.Test.YtioibllopidilaaDoorZx
import Derived.Test.YtioibllopidilaaDoorWy
namespace Go.Proofs.YtioibllopidilaaDoor
open Go.Shelf Go.RowKit
set_option maxRecDepth 100000

theorem a13_0 (a0 a1 a2 a3 a4 a5 a6 a7 a8 a9 a10 a11 a12 v : Value) : (#[a0, a1, a2, a3, a4, a5, a6, a7, a8, a9, a10, a11, a12] : Array Value).setIfInBounds 0 v = #[v, a1, a2, a3, a4, a5, a6, a7, a8, a9, a10, a11, a12] := by simp
theorem a13_1 (a0 a1 a2 a3 a4 a5 a6 a7 a8 a9 a10 a11 a12 v : Value) : (#[a0, a1, a2, a3, a4, a5, a6, a7, a8, a9, a10, a11, a12] : Array Value).setIfInBounds 1 v = #[a0, v, a2, a3, a4, a5, a6, a7, a8, a9, a10, a11, a12] := by simp
theorem a13_2 (a0 a1 a2 a3 a4 a5 a6 a7 a8 a9 a10 a11 a12 v : Value) : (#[a0, a1, a2, a3, a4, a5, a6, a7, a8, a9, a10, a11, a12] : Array Value).setIfInBounds 2 v = #[a0, a1, v, a3, a4, a5, a6, a7, a8, a9, a10, a11, a12] := by simp
theorem a13_3 (a0 a1 a2 a3 a4 a5 a6 a7 a8 a9 a10 a11 a12 v : Value) : (#[a0, a1, a2, a3, a4, a5, a6, a7, a8, a9, a10, a11, a12] : Array Value).setIfInBounds 3 v = #[a0, a1, a2, v, a4, a5, a6, a7, a8, a9, a10, a11, a12] := by simp
theorem a13_4 (a0 a1 a2 a3 a4 a5 a6 a7 a8 a9 a10 a11 a12 v : Value) : (#[a0, a1, a2, a3, a4, a5, a6, a7, a8, a9, a10, a11, a12] : Array Value).setIfInBounds 4 v = #[a0, a1, a2, a3, v, a5, a6, a7, a8, a9, a10, a11, a12] := by simp
theorem a13_5 (a0 a1 a2 a3 a4 a5 a6 a7 a8 a9 a10 a11 a12 v : Value) : (#[a0, a1, a2, a3, a4, a5, a6, a7, a8, a9, a10, a11, a12] : Array Value).setIfInBounds 5 v = #[a0, a1, a2, a3, a4, v, a6, a7, a8, a9, a10, a11, a12] := by simp
theorem a13_6 (a0 a1 a2 a3 a4 a5 a6 a7 a8 a9 a10 a11 a12 v : Value) : (#[a0, a1, a2, a3, a4, a5, a6, a7, a8, a9, a10, a11, a12] : Array Value).setIfInBounds 6 v = #[a0, a1, a2, a3, a4, a5, v, a7, a8, a9, a10, a11, a12] := by simp
theorem a13_7 (a0 a1 a2 a3 a4 a5 a6 a7 a8 a9 a10 a11 a12 v : Value) : (#[a0, a1, a2, a3, a4, a5, a6, a7, a8, a9, a10, a11, a12] : Array Value).setIfInBounds 7 v = #[a0, a1, a2, a3, a4, a5, a6, v, a8, a9, a10, a11, a12] := by simp
theorem a13_8 (a0 a1 a2 a3 a4 a5 a6 a7 a8 a9 a10 a11 a12 v : Value) : (#[a0, a1, a2, a3, a4, a5, a6, a7, a8, a9, a10, a11, a12] : Array Value).setIfInBounds 8 v = #[a0, a1, a2, a3, a4, a5, a6, a7, v, a9, a10, a11, a12] := by simp
theorem a13_9 (a0 a1 a2 a3 a4 a5 a6 a7 a8 a9 a10 a11 a12 v : Value) : (#[a0, a1, a2, a3, a4, a5, a6, a7, a8, a9, a10, a11, a12] : Array Value).setIfInBounds 9 v = #[a0, a1, a2, a3, a4, a5, a6, a7, a8, v, a10, a11, a12] := by simp
theorem a13_10 (a0 a1 a2 a3 a4 a5 a6 a7 a8 a9 a10 a11 a12 v : Value) : (#[a0, a1, a2, a3, a4, a5, a6, a7, a8, a9, a10, a11, a12] : Array Value).setIfInBounds 10 v = #[a0, a1, a2, a3, a4, a5, a6, a7, a8, a9, v, a11, a12] := by simp
theorem a13_11 (a0 a1 a2 a3 a4 a5 a6 a7 a8 a9 a10 a11 a12 v : Value) : (#[a0, a1, a2, a3, a4, a5, a6, a7, a8, a9, a10, a11, a12] : Array Value).setIfInBounds 11 v = #[a0, a1, a2, a3, a4, a5, a6, a7, a8, a9, a10, v, a12] := by simp
theorem a13_12 (a0 a1 a2 a3 a4 a5 a6 a7 a8 a9 a10 a11 a12 v : Value) : (#[a0, a1, a2, a3, a4, a5, a6, a7, a8, a9, a10, a11, a12] : Array Value).setIfInBounds 12 v = #[a0, a1, a2, a3, a4, a5, a6, a7, a8, a9, a10, a11, v] := by simp
theorem set13_eq (w : World) (g : Nat) (t : TypeId) (z0 z1 z2 z3 z4 z5 z6 z7 z8 z9 z10 z11 z12 v0 v1 v2 v3 v4 v5 v6 v7 v8 v9 v10 v11 v12 : Value) (hg : w.heap[g]? = some (.cells #[z0, z1, z2, z3, z4, z5, z6, z7, z8, z9, z10, z11, z12] t (0, 0))) :
    (((((((((((((w.setCell ⟨g, 0, none⟩ v0).setCell ⟨g, 1, none⟩ v1).setCell ⟨g, 2, none⟩ v2).setCell ⟨g, 3, none⟩ v3).setCell ⟨g, 4, none⟩ v4).setCell ⟨g, 5, none⟩ v5).setCell ⟨g, 6, none⟩ v6).setCell ⟨g, 7, none⟩ v7).setCell ⟨g, 8, none⟩ v8).setCell ⟨g, 9, none⟩ v9).setCell ⟨g, 10, none⟩ v10).setCell ⟨g, 11, none⟩ v11).setCell ⟨g, 12, none⟩ v12) = w.setRow g #[v0, v1, v2, v3, v4, v5, v6, v7, v8, v9, v10, v11, v12] := by
  rw [setCell_eq_setRow w g 0 _ t (0, 0) v0 hg, a13_0,
    setCell_eq_setRow _ g 1 _ t (0, 0) v1 (setRow_heap w g _ _ t _ hg), setRow_setRow, a13_1,
    setCell_eq_setRow _ g 2 _ t (0, 0) v2 (setRow_heap w g _ _ t _ hg), setRow_setRow, a13_2,
    setCell_eq_setRow _ g 3 _ t (0, 0) v3 (setRow_heap w g _ _ t _ hg), setRow_setRow, a13_3,
    setCell_eq_setRow _ g 4 _ t (0, 0) v4 (setRow_heap w g _ _ t _ hg), setRow_setRow, a13_4,
    setCell_eq_setRow _ g 5 _ t (0, 0) v5 (setRow_heap w g _ _ t _ hg), setRow_setRow, a13_5,
    setCell_eq_setRow _ g 6 _ t (0, 0) v6 (setRow_heap w g _ _ t _ hg), setRow_setRow, a13_6,
    setCell_eq_setRow _ g 7 _ t (0, 0) v7 (setRow_heap w g _ _ t _ hg), setRow_setRow, a13_7,
    setCell_eq_setRow _ g 8 _ t (0, 0) v8 (setRow_heap w g _ _ t _ hg), setRow_setRow, a13_8,
    setCell_eq_setRow _ g 9 _ t (0, 0) v9 (setRow_heap w g _ _ t _ hg), setRow_setRow, a13_9,
    setCell_eq_setRow _ g 10 _ t (0, 0) v10 (setRow_heap w g _ _ t _ hg), setRow_setRow, a13_10,
    setCell_eq_setRow _ g 11 _ t (0, 0) v11 (setRow_heap w g _ _ t _ hg), setRow_setRow, a13_11,
    setCell_eq_setRow _ g 12 _ t (0, 0) v12 (setRow_heap w g _ _ t _ hg), setRow_setRow, a13_12]
/-- What is read. -/
def spanP (K : List Int) (s : Option Nat) : Sp × Option Nat :=
  let r0 := rawP K s
  let r1 := rawP K r0.2
  let r2 := rawP K r1.2
  let r3 := rawP K r2.2
  let r4 := linksP K r3.2
  let r5 := textP K 60 r4.2
  let r6 := textP K 100 r5.2
  let r7 := smallP K r6.2
  let r8 := smallP K r7.2
  let r9 := momP K r8.2
  let r10 := momP K r9.2
  let r11 := attrsP K r10.2
  let r12 := eventsP K r11.2
  (⟨r0.1, r1.1, r2.1, r3.1, r4.1, r5.1, r6.1, r7.1, r8.1, r9.1, r10.1, r11.1, r12.1⟩, r12.2)

theorem holdsV_own {w : World} {base e : Nat} {ad : Option Addr} {n cap : Nat} {xs : List Value} (h : w.ownsRow base e 1 (.slice ad n cap) n xs) : HoldsV w ad n xs := by
  have h1 := h.1
  refine ⟨by omega, fun j u hj => ?_⟩
  rcases h.2 with ⟨e, hn⟩ | ⟨g, cap', cur, e, _⟩
  · have : xs = [] := List.eq_nil_of_length_eq_zero (by omega)
    subst this; simp at hj
  · simp at e
    obtain ⟨rfl, rfl⟩ := e
    exact ⟨_, rfl, h.cells (g := g) rfl j u hj⟩
theorem flat_get {α : Type} (f : α → List Value) (m : Nat) (hf : ∀ a, (f a).length = m) : ∀ (X : List α) (i j : Nat) (hi : i < X.length), j < m → (X.flatMap f)[i * m + j]? = (f X[i])[j]? := by
  intro X
  induction X with
  | nil => intro i j hi; simp at hi
  | cons a r ih =>
    intro i j hi hj
    cases i with
    | zero => simp only [List.flatMap_cons, Nat.zero_mul, Nat.zero_add, List.getElem_cons_zero]; rw [List.getElem?_append_left (by rw [hf]; exact hj)]
    | succ i =>
      simp only [List.flatMap_cons, List.getElem_cons_succ]
      rw [List.getElem?_append_right (by rw [hf, Nat.succ_mul]; omega), hf, show (i + 1) * m + j - m = i * m + j by rw [Nat.succ_mul]; omega]
      exact ih i j (by simpa using hi) hj
theorem attrsAt_own {w : World} {base : Nat} {ad : Option Addr} {cap : Nat} {X : List AttrD} (h : w.ownsRow base 62 4 (.slice ad X.length cap) X.length (X.flatMap attrC)) : AttrsAt w ad X.length X := by
  refine ⟨rfl, fun hp => ?_⟩
  rcases h.2 with ⟨e, hn⟩ | ⟨g, cap', cur, e, _⟩
  · omega
  · simp at e
    obtain ⟨rfl, rfl⟩ := e
    have hc := h.cells (g := g) rfl
    refine ⟨g, 0, rfl, fun i hi => ?_⟩
    have k0 := hc (i * 4 + 0) _ ((flat_get attrC 4 (fun _ => rfl) X i 0 hi (by omega)).trans rfl)
    have k1 := hc (i * 4 + 1) _ ((flat_get attrC 4 (fun _ => rfl) X i 1 hi (by omega)).trans rfl)
    have k2 := hc (i * 4 + 2) _ ((flat_get attrC 4 (fun _ => rfl) X i 2 hi (by omega)).trans rfl)
    have k3 := hc (i * 4 + 3) _ ((flat_get attrC 4 (fun _ => rfl) X i 3 hi (by omega)).trans rfl)
    rw [Addr.add_lit] at k0 k1 k2 k3
    exact ⟨k0, k1, k2, k3⟩
theorem eventsAt_own {w : World} {base : Nat} {ad : Option Addr} {cap : Nat} {X : List EventD} (h : w.ownsRow base 64 2 (.slice ad X.length cap) X.length (X.flatMap eventC)) : EventsAt w ad X.length X := by
  refine ⟨rfl, fun hp => ?_⟩
  rcases h.2 with ⟨e, hn⟩ | ⟨g, cap', cur, e, _⟩
  · omega
  · simp at e
    obtain ⟨rfl, rfl⟩ := e
    have hc := h.cells (g := g) rfl
    refine ⟨g, 0, rfl, fun i hi => ?_⟩
    have k0 := hc (i * 2 + 0) _ ((flat_get eventC 2 (fun _ => rfl) X i 0 hi (by omega)).trans rfl)
    have k1 := hc (i * 2 + 1) _ ((flat_get eventC 2 (fun _ => rfl) X i 1 hi (by omega)).trans rfl)
    rw [Addr.add_lit] at k0 k1
    exact ⟨k0, k1⟩
theorem own_stepB {w w' : World} {T R g m : Nat} {K : List Int} {s : Option Nat} {base e size : Nat} {v : Value} {n : Nat} {xs : List Value} (h : Tq w T R g K s) (ho : w.ownsRow base e size v n xs) (hm : m ≤ base) (hu : Upd (fun k => TR T R k ∨ k < m) w w') (h1 : e ≠ 86) (h2 : e ≠ 109) : w'.ownsRow base e size v n xs := by
  obtain ⟨v', t, h4, h5⟩ := h.tk.shape
  refine ownsRow_upd ho hu (fun k hk hS => ?_)
  rcases hS with (rfl | rfl) | hlt
  · exact own_neW ho h4 h1 hk
  · exact own_neW ho h5.block h2 hk
  · rcases ho.2 with ⟨rfl, _⟩ | ⟨g', cap, cur, rfl, hbg, _⟩
    · simp [Value.ownBlock] at hk
    · simp [Value.ownBlock] at hk; omega
theorem upd_row (W : World) (g : Nat) (cs : Array Value) : Upd (fun k => k = g) W (W.setRow g cs) :=
  ⟨rfl, rfl, rfl, by simp [World.setRow], fun k _ hk => setRow_other W g k _ hk⟩
theorem own_len {base e size : Nat} {w : World} {ad : Option Addr} {l cap n : Nat} {xs : List Value} (h : w.ownsRow base e size (.slice ad l cap) n xs) : l = n := by
  rcases h.2 with ⟨e, hn⟩ | ⟨g, cap', cur, e, _⟩
  · simp at e; omega
  · simp at e; exact e.2.1
theorem Tryd.info33 : (Tryd.prog.info? 33).map (·.size) = some 13 := by kernel_rfl
theorem iter_le16 (K : List Int) (s : Option Nat) : (linksP K s).1.length ≤ 16 := by unfold linksP; rw [iterS_len]; exact countP_le K 16 s
theorem iter_le32a (K : List Int) (s : Option Nat) : (attrsP K s).1.length ≤ 32 := by unfold attrsP; rw [iterS_len]; exact countP_le K 32 s
theorem iter_le32e (K : List Int) (s : Option Nat) : (eventsP K s).1.length ≤ 32 := by unfold eventsP; rw [iterS_len]; exact countP_le K 32 s

set_option maxHeartbeats 8000000 in
theorem tkSpan_any (T R g : Nat) (K : List Int) (s : Option Nat) (w : World) (h : Tq w T R g K s) :
    Calls Tryd.prog 37 #[.pointer (some ⟨T, 0, none⟩)] w fun e w' => ∃ p, e = .returned (spV (spanP K s).1 p) ∧ (∀ w5, Upd (fun k => TR T R k ∨ k < w.heap.size) w' w5 → SpAt w5 (spanP K s).1 p) ∧ Tq w' T R g K (spanP K s).2 ∧ Upd (TR T R) w w' := by
  obtain ⟨x0, hx0⟩ : ∃ x, (rawP K s).1 = x := ⟨_, rfl⟩
  obtain ⟨s0, hs0⟩ : ∃ s', (rawP K s).2 = s' := ⟨_, rfl⟩
  have M0 := fun w' (h1 : Tq w' T R g K s) => tkRaw_any T R g K s w' h1.tk
  rw [hx0, hs0] at M0
  obtain ⟨x1, hx1⟩ : ∃ x, (rawP K s0).1 = x := ⟨_, rfl⟩
  obtain ⟨s1, hs1⟩ : ∃ s', (rawP K s0).2 = s' := ⟨_, rfl⟩
  have M1 := fun w' (h1 : Tq w' T R g K s0) => tkRaw_any T R g K s0 w' h1.tk
  rw [hx1, hs1] at M1
  obtain ⟨x2, hx2⟩ : ∃ x, (rawP K s1).1 = x := ⟨_, rfl⟩
  obtain ⟨s2, hs2⟩ : ∃ s', (rawP K s1).2 = s' := ⟨_, rfl⟩
  have M2 := fun w' (h1 : Tq w' T R g K s1) => tkRaw_any T R g K s1 w' h1.tk
  rw [hx2, hs2] at M2
  obtain ⟨x3, hx3⟩ : ∃ x, (rawP K s2).1 = x := ⟨_, rfl⟩
  obtain ⟨s3, hs3⟩ : ∃ s', (rawP K s2).2 = s' := ⟨_, rfl⟩
  have M3 := fun w' (h1 : Tq w' T R g K s2) => tkRaw_any T R g K s2 w' h1.tk
  rw [hx3, hs3] at M3
  obtain ⟨x4, hx4⟩ : ∃ x, (linksP K s3).1 = x := ⟨_, rfl⟩
  obtain ⟨s4, hs4⟩ : ∃ s', (linksP K s3).2 = s' := ⟨_, rfl⟩
  have M4 := fun w' (h1 : Tq w' T R g K s3) => tkLinks_any T R g K s3 w' h1
  rw [hx4, hs4] at M4
  obtain ⟨x5, hx5⟩ : ∃ x, (textP K 60 s4).1 = x := ⟨_, rfl⟩
  obtain ⟨s5, hs5⟩ : ∃ s', (textP K 60 s4).2 = s' := ⟨_, rfl⟩
  have M5 := fun w' (h1 : Tq w' T R g K s4) => tkText_any T R g K s4 60 w' h1.tk h1.tabs (by omega)
  rw [hx5, hs5] at M5
  obtain ⟨x6, hx6⟩ : ∃ x, (textP K 100 s5).1 = x := ⟨_, rfl⟩
  obtain ⟨s6, hs6⟩ : ∃ s', (textP K 100 s5).2 = s' := ⟨_, rfl⟩
  have M6 := fun w' (h1 : Tq w' T R g K s5) => tkText_any T R g K s5 100 w' h1.tk h1.tabs (by omega)
  rw [hx6, hs6] at M6
  obtain ⟨x7, hx7⟩ : ∃ x, (smallP K s6).1 = x := ⟨_, rfl⟩
  obtain ⟨s7, hs7⟩ : ∃ s', (smallP K s6).2 = s' := ⟨_, rfl⟩
  have M7 := fun w' (h1 : Tq w' T R g K s6) => small_any T R g K s6 w' h1.tk
  rw [hx7, hs7] at M7
  obtain ⟨x8, hx8⟩ : ∃ x, (smallP K s7).1 = x := ⟨_, rfl⟩
  obtain ⟨s8, hs8⟩ : ∃ s', (smallP K s7).2 = s' := ⟨_, rfl⟩
  have M8 := fun w' (h1 : Tq w' T R g K s7) => small_any T R g K s7 w' h1.tk
  rw [hx8, hs8] at M8
  obtain ⟨x9, hx9⟩ : ∃ x, (momP K s8).1 = x := ⟨_, rfl⟩
  obtain ⟨s9, hs9⟩ : ∃ s', (momP K s8).2 = s' := ⟨_, rfl⟩
  have M9 := fun w' (h1 : Tq w' T R g K s8) => mom_any T R g K s8 w' h1.tk
  rw [hx9, hs9] at M9
  obtain ⟨x10, hx10⟩ : ∃ x, (momP K s9).1 = x := ⟨_, rfl⟩
  obtain ⟨s10, hs10⟩ : ∃ s', (momP K s9).2 = s' := ⟨_, rfl⟩
  have M10 := fun w' (h1 : Tq w' T R g K s9) => mom_any T R g K s9 w' h1.tk
  rw [hx10, hs10] at M10
  obtain ⟨x11, hx11⟩ : ∃ x, (attrsP K s10).1 = x := ⟨_, rfl⟩
  obtain ⟨s11, hs11⟩ : ∃ s', (attrsP K s10).2 = s' := ⟨_, rfl⟩
  have M11 := fun w' (h1 : Tq w' T R g K s10) => tkAttrs_any T R g K s10 w' h1
  rw [hx11, hs11] at M11
  obtain ⟨x12, hx12⟩ : ∃ x, (eventsP K s11).1 = x := ⟨_, rfl⟩
  obtain ⟨s12, hs12⟩ : ∃ s', (eventsP K s11).2 = s' := ⟨_, rfl⟩
  have M12 := fun w' (h1 : Tq w' T R g K s11) => tkEvents_any T R g K s11 w' h1
  rw [hx12, hs12] at M12
  have HE : spanP K s = (⟨x0, x1, x2, x3, x4, x5, x6, x7, x8, x9, x10, x11, x12⟩, s12) := by
    simp only [spanP, hx0, hs0, hx1, hs1, hx2, hs2, hx3, hs3, hx4, hs4, hx5, hs5, hx6, hs6, hx7, hs7, hx8, hs8, hx9, hs9, hx10, hs10, hx11, hs11, hx12, hs12]
  have c4 : x4.length ≤ 16 := by rw [← hx4]; exact iter_le16 _ _
  have c11 : x11.length ≤ 32 := by rw [← hx11]; exact iter_le32a _ _
  have c12 : x12.length ≤ 32 := by rw [← hx12]; exact iter_le32e _ _
  rw [HE]
  clear HE hx0 hs0 hx1 hs1 hx2 hs2 hx3 hs3 hx4 hs4 hx5 hs5 hx6 hs6 hx7 hs7 hx8 hs8 hx9 hs9 hx10 hs10 hx11 hs11 hx12 hs12
  have ba := ((Below.refl w.heap.size w).alloc (Nat.le_refl _) (.cells #[.int .u64 0, .int .u64 0, .int .u64 0, .int .u64 0, .slice none 0 0, .string ⟨#[]⟩, .string ⟨#[]⟩, .int .i64 0, .int .i64 0, .int .i64 0, .int .i64 0, .slice none 0 0, .slice none 0 0] 33)).alloc (by simp) (.cells #[.int .u64 0, .int .u64 0, .int .u64 0, .int .u64 0, .slice none 0 0, .string ⟨#[]⟩, .string ⟨#[]⟩, .int .i64 0, .int .i64 0, .int .i64 0, .int .i64 0, .slice none 0 0, .slice none 0 0] 33)
  have q00 := h.below ba
  have hf0 : Far w T R g w.heap.size := h.far (Nat.le_refl _)
  have hf : Far w T R g (w.heap.size + 1) := h.far (by omega)
  have u00 : Upd (TR T R) w ((w.alloc (.cells #[.int .u64 0, .int .u64 0, .int .u64 0, .int .u64 0, .slice none 0 0, .string ⟨#[]⟩, .string ⟨#[]⟩, .int .i64 0, .int .i64 0, .int .i64 0, .int .i64 0, .slice none 0 0, .slice none 0 0] 33)).alloc (.cells #[.int .u64 0, .int .u64 0, .int .u64 0, .int .u64 0, .slice none 0 0, .string ⟨#[]⟩, .string ⟨#[]⟩, .int .i64 0, .int .i64 0, .int .i64 0, .int .i64 0, .slice none 0 0, .slice none 0 0] 33)) := Upd.ofBelow ba (fun k hk hk' => by omega)
  have r00 : ((w.alloc (.cells #[.int .u64 0, .int .u64 0, .int .u64 0, .int .u64 0, .slice none 0 0, .string ⟨#[]⟩, .string ⟨#[]⟩, .int .i64 0, .int .i64 0, .int .i64 0, .int .i64 0, .slice none 0 0, .slice none 0 0] 33)).alloc (.cells #[.int .u64 0, .int .u64 0, .int .u64 0, .int .u64 0, .slice none 0 0, .string ⟨#[]⟩, .string ⟨#[]⟩, .int .i64 0, .int .i64 0, .int .i64 0, .int .i64 0, .slice none 0 0, .slice none 0 0] 33)).heap[w.heap.size]? = some (.cells #[.int .u64 0, .int .u64 0, .int .u64 0, .int .u64 0, .slice none 0 0, .string ⟨#[]⟩, .string ⟨#[]⟩, .int .i64 0, .int .i64 0, .int .i64 0, .int .i64 0, .slice none 0 0, .slice none 0 0] 33 (0, 0)) := (Below.heap_alloc _ _ _ (by simp)).trans (heap_alloc_new _ _)
  have h00 : ((w.alloc (.cells #[.int .u64 0, .int .u64 0, .int .u64 0, .int .u64 0, .slice none 0 0, .string ⟨#[]⟩, .string ⟨#[]⟩, .int .i64 0, .int .i64 0, .int .i64 0, .int .i64 0, .slice none 0 0, .slice none 0 0] 33)).alloc (.cells #[.int .u64 0, .int .u64 0, .int .u64 0, .int .u64 0, .slice none 0 0, .string ⟨#[]⟩, .string ⟨#[]⟩, .int .i64 0, .int .i64 0, .int .i64 0, .int .i64 0, .slice none 0 0, .slice none 0 0] 33)).heap[w.heap.size + 1]? = some (.cells #[.int .u64 0, .int .u64 0, .int .u64 0, .int .u64 0, .slice none 0 0, .string ⟨#[]⟩, .string ⟨#[]⟩, .int .i64 0, .int .i64 0, .int .i64 0, .int .i64 0, .slice none 0 0, .slice none 0 0] 33 (0, 0)) := alloc_at (by simp)
  have hle : w.heap.size ≤ w.heap.size + 1 := by omega
  have nTE : ∀ k, TR T R k → k ≠ w.heap.size + 1 := fun k e => e.elim (fun e => by rw [e]; exact hf.t) (fun e => by rw [e]; exact hf.r)
  have nTF : ∀ k, TR T R k → k ≠ w.heap.size := fun k e => e.elim (fun e => by rw [e]; exact hf0.t) (fun e => by rw [e]; exact hf0.r)
  clear h ba
  go_enter Tryd.func37, Tryd.ntmps37
  go_wp2_with (first
    | (go_at_call 56; refine (M0 _ q00).mono ?_; clear M0; rintro e w0 ⟨rfl, kk0, hu0⟩; have q0a := q00.step kk0 hu0; have h0a := (hu0.block (w.heap.size + 1) (lt_of_block h00) (fun e => nTE _ e rfl)).trans h00; have r0a := (hu0.block w.heap.size (lt_of_block r00) (fun e => nTF _ e rfl)).trans r00; have d0 := blk_cell h0a 0 rfl; have f0 := blk_free h0a 0; have u0a := u00.trans hu0 (fun _ _ h => h); have q0b := q0a.set (i := 0) (v := .int .u64 x0) hf; have h0b := set_block h0a 0 (.int .u64 x0); rw [a13_0] at h0b; have u0b := upd_far (i := 0) (v := .int .u64 x0) u0a hle; have r0b := (Below.heap_setCell w0 ⟨w.heap.size + 1, 0, none⟩ (.int .u64 x0) w.heap.size (by simp)).trans r0a; clear q00 h00 r00 u00 h0a r0a u0a q0a hu0)
    | (go_at_call 56; refine (M1 _ q0b).mono ?_; clear M1; rintro e w1 ⟨rfl, kk1, hu1⟩; have q1a := q0b.step kk1 hu1; have h1a := (hu1.block (w.heap.size + 1) (lt_of_block h0b) (fun e => nTE _ e rfl)).trans h0b; have r1a := (hu1.block w.heap.size (lt_of_block r0b) (fun e => nTF _ e rfl)).trans r0b; have d1 := blk_cell h1a 1 rfl; have f1 := blk_free h1a 1; have u1a := u0b.trans hu1 (fun _ _ h => h); have q1b := q1a.set (i := 1) (v := .int .u64 x1) hf; have h1b := set_block h1a 1 (.int .u64 x1); rw [a13_1] at h1b; have u1b := upd_far (i := 1) (v := .int .u64 x1) u1a hle; have r1b := (Below.heap_setCell w1 ⟨w.heap.size + 1, 1, none⟩ (.int .u64 x1) w.heap.size (by simp)).trans r1a; clear q0b h0b r0b u0b h1a r1a u1a q1a hu1)
    | (go_at_call 56; refine (M2 _ q1b).mono ?_; clear M2; rintro e w2 ⟨rfl, kk2, hu2⟩; have q2a := q1b.step kk2 hu2; have h2a := (hu2.block (w.heap.size + 1) (lt_of_block h1b) (fun e => nTE _ e rfl)).trans h1b; have r2a := (hu2.block w.heap.size (lt_of_block r1b) (fun e => nTF _ e rfl)).trans r1b; have d2 := blk_cell h2a 2 rfl; have f2 := blk_free h2a 2; have u2a := u1b.trans hu2 (fun _ _ h => h); have q2b := q2a.set (i := 2) (v := .int .u64 x2) hf; have h2b := set_block h2a 2 (.int .u64 x2); rw [a13_2] at h2b; have u2b := upd_far (i := 2) (v := .int .u64 x2) u2a hle; have r2b := (Below.heap_setCell w2 ⟨w.heap.size + 1, 2, none⟩ (.int .u64 x2) w.heap.size (by simp)).trans r2a; clear q1b h1b r1b u1b h2a r2a u2a q2a hu2)
    | (go_at_call 56; refine (M3 _ q2b).mono ?_; clear M3; rintro e w3 ⟨rfl, kk3, hu3⟩; have q3a := q2b.step kk3 hu3; have h3a := (hu3.block (w.heap.size + 1) (lt_of_block h2b) (fun e => nTE _ e rfl)).trans h2b; have r3a := (hu3.block w.heap.size (lt_of_block r2b) (fun e => nTF _ e rfl)).trans r2b; have d3 := blk_cell h3a 3 rfl; have f3 := blk_free h3a 3; have u3a := u2b.trans hu3 (fun _ _ h => h); have q3b := q3a.set (i := 3) (v := .int .u64 x3) hf; have h3b := set_block h3a 3 (.int .u64 x3); rw [a13_3] at h3b; have u3b := upd_far (i := 3) (v := .int .u64 x3) u3a hle; have r3b := (Below.heap_setCell w3 ⟨w.heap.size + 1, 3, none⟩ (.int .u64 x3) w.heap.size (by simp)).trans r3a; clear q2b h2b r2b u2b h3a r3a u3a q3a hu3)
    | (go_at_call 57; refine (M4 _ q3b).mono ?_; clear M4; rintro e w4 ⟨vv4, rfl, o4, qq4, hu4⟩; obtain ⟨la, ll4, lc, rfl⟩ := row_shape o4; have el4 := own_len o4; subst el4; have q4a := qq4; have bz4 := u3b.size; have h4a := (hu4.block (w.heap.size + 1) (lt_of_block h3b) (fun e => nTE _ e rfl)).trans h3b; have r4a := (hu4.block w.heap.size (lt_of_block r3b) (fun e => nTF _ e rfl)).trans r3b; have d4 := blk_cell h4a 4 rfl; have f4 := blk_free h4a 4; have u4a := u3b.trans hu4 (fun _ _ h => h); have q4b := q4a.set (i := 4) (v := .slice la x4.length lc) hf; have h4b := set_block h4a 4 (.slice la x4.length lc); rw [a13_4] at h4b; have u4b := upd_far (i := 4) (v := .slice la x4.length lc) u4a hle; have r4b := (Below.heap_setCell w4 ⟨w.heap.size + 1, 4, none⟩ (.slice la x4.length lc) w.heap.size (by simp)).trans r4a; have O4_n := own_neW o4 h4a (by decide); have O4_p := ownsRow_setCell_other (a := ⟨w.heap.size + 1, 4, none⟩) o4 O4_n (.slice la x4.length lc); clear O4_n o4; clear q3b h3b r3b u3b h4a r4a u4a q4a hu4)
    | (go_at_call 58; refine (M5 _ q4b).mono ?_; clear M5; rintro e w5 ⟨rfl, kk5, hu5⟩; have q5a := q4b.step kk5 hu5; have h5a := (hu5.block (w.heap.size + 1) (lt_of_block h4b) (fun e => nTE _ e rfl)).trans h4b; have r5a := (hu5.block w.heap.size (lt_of_block r4b) (fun e => nTF _ e rfl)).trans r4b; have d5 := blk_cell h5a 5 rfl; have f5 := blk_free h5a 5; have u5a := u4b.trans hu5 (fun _ _ h => h); have q5b := q5a.set (i := 5) (v := .string x5) hf; have h5b := set_block h5a 5 (.string x5); rw [a13_5] at h5b; have u5b := upd_far (i := 5) (v := .string x5) u5a hle; have r5b := (Below.heap_setCell w5 ⟨w.heap.size + 1, 5, none⟩ (.string x5) w.heap.size (by simp)).trans r5a; have O4_5 := own_step q4b O4_p hu5 (by decide) (by decide); have O4_n := own_neW O4_5 h5a (by decide); clear O4_p; have O4_p := ownsRow_setCell_other (a := ⟨w.heap.size + 1, 5, none⟩) O4_5 O4_n (.string x5); clear O4_5 O4_n; clear q4b h4b r4b u4b h5a r5a u5a q5a hu5)
    | (go_at_call 58; refine (M6 _ q5b).mono ?_; clear M6; rintro e w6 ⟨rfl, kk6, hu6⟩; have q6a := q5b.step kk6 hu6; have h6a := (hu6.block (w.heap.size + 1) (lt_of_block h5b) (fun e => nTE _ e rfl)).trans h5b; have r6a := (hu6.block w.heap.size (lt_of_block r5b) (fun e => nTF _ e rfl)).trans r5b; have d6 := blk_cell h6a 6 rfl; have f6 := blk_free h6a 6; have u6a := u5b.trans hu6 (fun _ _ h => h); have q6b := q6a.set (i := 6) (v := .string x6) hf; have h6b := set_block h6a 6 (.string x6); rw [a13_6] at h6b; have u6b := upd_far (i := 6) (v := .string x6) u6a hle; have r6b := (Below.heap_setCell w6 ⟨w.heap.size + 1, 6, none⟩ (.string x6) w.heap.size (by simp)).trans r6a; have O4_6 := own_step q5b O4_p hu6 (by decide) (by decide); have O4_n := own_neW O4_6 h6a (by decide); clear O4_p; have O4_p := ownsRow_setCell_other (a := ⟨w.heap.size + 1, 6, none⟩) O4_6 O4_n (.string x6); clear O4_6 O4_n; clear q5b h5b r5b u5b h6a r6a u6a q6a hu6)
    | (go_at_call 59; refine (M7 _ q6b).mono ?_; clear M7; rintro e w7 ⟨rfl, kk7, hu7⟩; have q7a := q6b.step kk7 hu7; have h7a := (hu7.block (w.heap.size + 1) (lt_of_block h6b) (fun e => nTE _ e rfl)).trans h6b; have r7a := (hu7.block w.heap.size (lt_of_block r6b) (fun e => nTF _ e rfl)).trans r6b; have d7 := blk_cell h7a 7 rfl; have f7 := blk_free h7a 7; have u7a := u6b.trans hu7 (fun _ _ h => h); have q7b := q7a.set (i := 7) (v := .int .i64 x7) hf; have h7b := set_block h7a 7 (.int .i64 x7); rw [a13_7] at h7b; have u7b := upd_far (i := 7) (v := .int .i64 x7) u7a hle; have r7b := (Below.heap_setCell w7 ⟨w.heap.size + 1, 7, none⟩ (.int .i64 x7) w.heap.size (by simp)).trans r7a; have O4_7 := own_step q6b O4_p hu7 (by decide) (by decide); have O4_n := own_neW O4_7 h7a (by decide); clear O4_p; have O4_p := ownsRow_setCell_other (a := ⟨w.heap.size + 1, 7, none⟩) O4_7 O4_n (.int .i64 x7); clear O4_7 O4_n; clear q6b h6b r6b u6b h7a r7a u7a q7a hu7)
    | (go_at_call 59; refine (M8 _ q7b).mono ?_; clear M8; rintro e w8 ⟨rfl, kk8, hu8⟩; have q8a := q7b.step kk8 hu8; have h8a := (hu8.block (w.heap.size + 1) (lt_of_block h7b) (fun e => nTE _ e rfl)).trans h7b; have r8a := (hu8.block w.heap.size (lt_of_block r7b) (fun e => nTF _ e rfl)).trans r7b; have d8 := blk_cell h8a 8 rfl; have f8 := blk_free h8a 8; have u8a := u7b.trans hu8 (fun _ _ h => h); have q8b := q8a.set (i := 8) (v := .int .i64 x8) hf; have h8b := set_block h8a 8 (.int .i64 x8); rw [a13_8] at h8b; have u8b := upd_far (i := 8) (v := .int .i64 x8) u8a hle; have r8b := (Below.heap_setCell w8 ⟨w.heap.size + 1, 8, none⟩ (.int .i64 x8) w.heap.size (by simp)).trans r8a; have O4_8 := own_step q7b O4_p hu8 (by decide) (by decide); have O4_n := own_neW O4_8 h8a (by decide); clear O4_p; have O4_p := ownsRow_setCell_other (a := ⟨w.heap.size + 1, 8, none⟩) O4_8 O4_n (.int .i64 x8); clear O4_8 O4_n; clear q7b h7b r7b u7b h8a r8a u8a q8a hu8)
    | (go_at_call 60; refine (M9 _ q8b).mono ?_; clear M9; rintro e w9 ⟨rfl, kk9, hu9⟩; have q9a := q8b.step kk9 hu9; have h9a := (hu9.block (w.heap.size + 1) (lt_of_block h8b) (fun e => nTE _ e rfl)).trans h8b; have r9a := (hu9.block w.heap.size (lt_of_block r8b) (fun e => nTF _ e rfl)).trans r8b; have d9 := blk_cell h9a 9 rfl; have f9 := blk_free h9a 9; have u9a := u8b.trans hu9 (fun _ _ h => h); have q9b := q9a.set (i := 9) (v := .int .i64 x9) hf; have h9b := set_block h9a 9 (.int .i64 x9); rw [a13_9] at h9b; have u9b := upd_far (i := 9) (v := .int .i64 x9) u9a hle; have r9b := (Below.heap_setCell w9 ⟨w.heap.size + 1, 9, none⟩ (.int .i64 x9) w.heap.size (by simp)).trans r9a; have O4_9 := own_step q8b O4_p hu9 (by decide) (by decide); have O4_n := own_neW O4_9 h9a (by decide); clear O4_p; have O4_p := ownsRow_setCell_other (a := ⟨w.heap.size + 1, 9, none⟩) O4_9 O4_n (.int .i64 x9); clear O4_9 O4_n; clear q8b h8b r8b u8b h9a r9a u9a q9a hu9)
    | (go_at_call 60; refine (M10 _ q9b).mono ?_; clear M10; rintro e w10 ⟨rfl, kk10, hu10⟩; have q10a := q9b.step kk10 hu10; have h10a := (hu10.block (w.heap.size + 1) (lt_of_block h9b) (fun e => nTE _ e rfl)).trans h9b; have r10a := (hu10.block w.heap.size (lt_of_block r9b) (fun e => nTF _ e rfl)).trans r9b; have d10 := blk_cell h10a 10 rfl; have f10 := blk_free h10a 10; have u10a := u9b.trans hu10 (fun _ _ h => h); have q10b := q10a.set (i := 10) (v := .int .i64 x10) hf; have h10b := set_block h10a 10 (.int .i64 x10); rw [a13_10] at h10b; have u10b := upd_far (i := 10) (v := .int .i64 x10) u10a hle; have r10b := (Below.heap_setCell w10 ⟨w.heap.size + 1, 10, none⟩ (.int .i64 x10) w.heap.size (by simp)).trans r10a; have O4_10 := own_step q9b O4_p hu10 (by decide) (by decide); have O4_n := own_neW O4_10 h10a (by decide); clear O4_p; have O4_p := ownsRow_setCell_other (a := ⟨w.heap.size + 1, 10, none⟩) O4_10 O4_n (.int .i64 x10); clear O4_10 O4_n; clear q9b h9b r9b u9b h10a r10a u10a q10a hu10)
    | (go_at_call 61; refine (M11 _ q10b).mono ?_; clear M11; rintro e w11 ⟨vv11, rfl, o11, qq11, hu11⟩; obtain ⟨aa, ll11, ac, rfl⟩ := row_shape o11; have el11 := own_len o11; subst el11; have q11a := qq11; have bz11 := u10b.size; have h11a := (hu11.block (w.heap.size + 1) (lt_of_block h10b) (fun e => nTE _ e rfl)).trans h10b; have r11a := (hu11.block w.heap.size (lt_of_block r10b) (fun e => nTF _ e rfl)).trans r10b; have d11 := blk_cell h11a 11 rfl; have f11 := blk_free h11a 11; have u11a := u10b.trans hu11 (fun _ _ h => h); have q11b := q11a.set (i := 11) (v := .slice aa x11.length ac) hf; have h11b := set_block h11a 11 (.slice aa x11.length ac); rw [a13_11] at h11b; have u11b := upd_far (i := 11) (v := .slice aa x11.length ac) u11a hle; have r11b := (Below.heap_setCell w11 ⟨w.heap.size + 1, 11, none⟩ (.slice aa x11.length ac) w.heap.size (by simp)).trans r11a; have O4_11 := own_step q10b O4_p hu11 (by decide) (by decide); have O4_n := own_neW O4_11 h11a (by decide); clear O4_p; have O4_p := ownsRow_setCell_other (a := ⟨w.heap.size + 1, 11, none⟩) O4_11 O4_n (.slice aa x11.length ac); clear O4_11 O4_n; have O11_n := own_neW o11 h11a (by decide); have O11_p := ownsRow_setCell_other (a := ⟨w.heap.size + 1, 11, none⟩) o11 O11_n (.slice aa x11.length ac); clear O11_n o11; clear q10b h10b r10b u10b h11a r11a u11a q11a hu11)
    | (go_at_call 62; refine (M12 _ q11b).mono ?_; clear M12; rintro e w12 ⟨vv12, rfl, o12, qq12, hu12⟩; obtain ⟨ea, ll12, ec, rfl⟩ := row_shape o12; have el12 := own_len o12; subst el12; have q12a := qq12; have bz12 := u11b.size; have h12a := (hu12.block (w.heap.size + 1) (lt_of_block h11b) (fun e => nTE _ e rfl)).trans h11b; have r12a := (hu12.block w.heap.size (lt_of_block r11b) (fun e => nTF _ e rfl)).trans r11b; have d12 := blk_cell h12a 12 rfl; have f12 := blk_free h12a 12; have u12a := u11b.trans hu12 (fun _ _ h => h); have q12b := q12a.set (i := 12) (v := .slice ea x12.length ec) hf; have h12b := set_block h12a 12 (.slice ea x12.length ec); rw [a13_12] at h12b; have u12b := upd_far (i := 12) (v := .slice ea x12.length ec) u12a hle; have r12b := (Below.heap_setCell w12 ⟨w.heap.size + 1, 12, none⟩ (.slice ea x12.length ec) w.heap.size (by simp)).trans r12a; have O4_12 := own_step q11b O4_p hu12 (by decide) (by decide); have O4_n := own_neW O4_12 h12a (by decide); clear O4_p; have O4_p := ownsRow_setCell_other (a := ⟨w.heap.size + 1, 12, none⟩) O4_12 O4_n (.slice ea x12.length ec); clear O4_12 O4_n; have O11_12 := own_step q11b O11_p hu12 (by decide) (by decide); have O11_n := own_neW O11_12 h12a (by decide); clear O11_p; have O11_p := ownsRow_setCell_other (a := ⟨w.heap.size + 1, 12, none⟩) O11_12 O11_n (.slice ea x12.length ec); clear O11_12 O11_n; have O12_n := own_neW o12 h12a (by decide); have O12_p := ownsRow_setCell_other (a := ⟨w.heap.size + 1, 12, none⟩) o12 O12_n (.slice ea x12.length ec); clear O12_n o12; clear q11b h11b r11b u11b h12a r12a u12a q12a hu12; have zz := lt_of_block h12b; have e0 := blk_cell r12b 0 rfl; have ff0 := blk_free r12b 0; have ll0 := blk_cell h12b 0 rfl; have e1 := blk_cell r12b 1 rfl; have ff1 := blk_free r12b 1; have ll1 := blk_cell h12b 1 rfl; have e2 := blk_cell r12b 2 rfl; have ff2 := blk_free r12b 2; have ll2 := blk_cell h12b 2 rfl; have e3 := blk_cell r12b 3 rfl; have ff3 := blk_free r12b 3; have ll3 := blk_cell h12b 3 rfl; have e4 := blk_cell r12b 4 rfl; have ff4 := blk_free r12b 4; have ll4 := blk_cell h12b 4 rfl; have e5 := blk_cell r12b 5 rfl; have ff5 := blk_free r12b 5; have ll5 := blk_cell h12b 5 rfl; have e6 := blk_cell r12b 6 rfl; have ff6 := blk_free r12b 6; have ll6 := blk_cell h12b 6 rfl; have e7 := blk_cell r12b 7 rfl; have ff7 := blk_free r12b 7; have ll7 := blk_cell h12b 7 rfl; have e8 := blk_cell r12b 8 rfl; have ff8 := blk_free r12b 8; have ll8 := blk_cell h12b 8 rfl; have e9 := blk_cell r12b 9 rfl; have ff9 := blk_free r12b 9; have ll9 := blk_cell h12b 9 rfl; have e10 := blk_cell r12b 10 rfl; have ff10 := blk_free r12b 10; have ll10 := blk_cell h12b 10 rfl; have e11 := blk_cell r12b 11 rfl; have ff11 := blk_free r12b 11; have ll11 := blk_cell h12b 11 rfl; have e12 := blk_cell r12b 12 rfl; have ff12 := blk_free r12b 12; have ll12 := blk_cell h12b 12 rfl))
  (try simp only [Exit.inBlock, Exit.then])
  obtain ⟨W, hW⟩ : ∃ W, w12.setCell ⟨w.heap.size + 1, 12, none⟩ (.slice ea x12.length ec) = W := ⟨_, rfl⟩
  rw [hW] at h12b r12b u12b q12b O4_p O11_p O12_p ⊢
  clear hW
  rw [set13_eq W w.heap.size 33 _ _ _ _ _ _ _ _ _ _ _ _ _ _ _ _ _ _ _ _ _ _ _ _ _ _ r12b]
  have hrow := setRow_heap W w.heap.size _ #[.int .u64 x0, .int .u64 x1, .int .u64 x2, .int .u64 x3, .slice la x4.length lc, .string x5, .string x6, .int .i64 x7, .int .i64 x8, .int .i64 x9, .int .i64 x10, .slice aa x11.length ac, .slice ea x12.length ec] 33 (0, 0) r12b
  have hld := run_loadVar_row (P := Tryd.prog) (W.setRow w.heap.size #[.int .u64 x0, .int .u64 x1, .int .u64 x2, .int .u64 x3, .slice la x4.length lc, .string x5, .string x6, .int .i64 x7, .int .i64 x8, .int .i64 x9, .int .i64 x10, .slice aa x11.length ac, .slice ea x12.length ec]) w.heap.size 33 33 #[.int .u64 x0, .int .u64 x1, .int .u64 x2, .int .u64 x3, .slice la x4.length lc, .string x5, .string x6, .int .i64 x7, .int .i64 x8, .int .i64 x9, .int .i64 x10, .slice aa x11.length ac, .slice ea x12.length ec] (0, 0) _ hrow Tryd.underlying33 rfl Tryd.info33
  have ur := upd_row W w.heap.size #[.int .u64 x0, .int .u64 x1, .int .u64 x2, .int .u64 x3, .slice la x4.length lc, .string x5, .string x6, .int .i64 x7, .int .i64 x8, .int .i64 x9, .int .i64 x10, .slice aa x11.length ac, .slice ea x12.length ec]
  have qf : Tq (W.setRow w.heap.size #[.int .u64 x0, .int .u64 x1, .int .u64 x2, .int .u64 x3, .slice la x4.length lc, .string x5, .string x6, .int .i64 x7, .int .i64 x8, .int .i64 x9, .int .i64 x10, .slice aa x11.length ac, .slice ea x12.length ec]) T R g K s12 := ⟨q12b.tk.upd ur hf0.t hf0.r hf0.g, q12b.tabs.upd ur (fun e => hf0.f e.symm) (fun e => hf0.a e.symm), q12b.lo⟩
  have uf := u12b.trans ur (fun k hk e => by omega)
  have n4 := own_neW O4_p r12b (by decide)
  have n11 := own_neW O11_p r12b (by decide)
  have n12 := own_neW O12_p r12b (by decide)
  have k4 := ownsRow_upd O4_p ur (fun k hk e => n4 (by rw [hk, e]))
  have k11 := ownsRow_upd O11_p ur (fun k hk e => n11 (by rw [hk, e]))
  have k12 := ownsRow_upd O12_p ur (fun k hk e => n12 (by rw [hk, e]))
  refine bodyPost_ret (v := .agg #[.int .u64 x0, .int .u64 x1, .int .u64 x2, .int .u64 x3, .slice la x4.length lc, .string x5, .string x6, .int .i64 x7, .int .i64 x8, .int .i64 x9, .int .i64 x10, .slice aa x11.length ac, .slice ea x12.length ec]) ?_ rfl ⟨⟨la, lc, aa, ac, ea, ec⟩, rfl, (fun w5 u5 => ⟨holdsV_own (own_stepB qf k4 bz4 u5 (by decide) (by decide)), attrsAt_own (own_stepB qf k11 bz11 u5 (by decide) (by decide)), eventsAt_own (own_stepB qf k12 bz12 u5 (by decide) (by decide)), by simp; omega, by simp; omega, by simp; omega⟩), qf, uf⟩
  rw [results_cell1 rfl]
  simp [asAddr, Result.andThen, hld]
end Go.Proofs.YtioibllopidilaaDoor
