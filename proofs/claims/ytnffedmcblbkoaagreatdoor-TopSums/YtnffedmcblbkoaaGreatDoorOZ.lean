/-
  OZ.
-/
import Derived.Test.YtnffedmcblbkoaaGreatDoorSOq
import Derived.Test.YtnffedmcblbkoaaGreatDoorMwq
namespace Go.Proofs.YtnffedmcblbkoaaGreatDoor
open Go Go.RowKit
set_option maxRecDepth 100000
def pB (B : Nat → Nat) (x : Nat) : Value := .pointer (some ⟨B x, 0, none⟩)
theorem owns_type {w : World} {base n : Nat} {e : TypeId} {v : Value} {xs : List Value} (h : w.ownsRow base e 1 v n xs) {g : Nat} (hg : v.ownBlock = some g) : ∃ cur, w.heap[g]? = some (.cells cur e (0, 0)) := by
 rcases h.2 with ⟨e1, _⟩ | ⟨g', cap, cur, e1, _, hh, _⟩
 ·rw [e1] at hg; simp [Value.ownBlock] at hg
 ·rw [e1] at hg
  simp [Value.ownBlock] at hg
  subst hg
  exact ⟨cur, hh⟩
def upF {α : Type} (f : Nat → α) (x : Nat) (v : α) : Nat → α := fun y => if y = x then v else f y
theorem upF_same {α : Type} (f : Nat → α) (x : Nat) (v : α) : upF f x v x = v := if_pos rfl
theorem upF_ne {α : Type} (f : Nat → α) {x y : Nat} (v : α) (h : y ≠ x) : upF f x v y = f y := if_neg h
theorem upF_self {α : Type} (f : Nat → α) (x : Nat) : upF f x (f x) = f := by
 funext y
 by_cases e : y = x
 ·subst e; exact upF_same _ _ _
 ·exact upF_ne _ _ e
theorem upF_twice {α : Type} (f : Nat → α) (x : Nat) (u v : α) : upF (upF f x u) x v = upF f x v := by
 funext y
 by_cases e : y = x
 ·subst e; rw [upF_same, upF_same]
 ·rw [upF_ne _ _ e, upF_ne _ _ e, upF_ne _ _ e]
def preN (K : Nat → List Nat) : Nat → List Nat → List Nat
 | 0, _ => []
 | fu + 1, L => L.flatMap (fun x => x :: preN K fu (K x))
def DeepN (K : Nat → List Nat) : Nat → List Nat → Prop
 | 0, L => L = []
 | fu + 1, L => ∀ x ∈ L, DeepN K fu (K x)
theorem preN_take (K : Nat → List Nat) (fu : Nat) (L : List Nat) (q : Nat) (hq : q < L.length) : preN K fu (L.take (q + 1)) = preN K fu (L.take q) ++ preN K fu [L[q]] := by
 cases fu with
 | zero => rfl
 | succ fu =>
  show (L.take (q + 1)).flatMap (fun x => x :: preN K fu (K x)) = (L.take q).flatMap (fun x => x :: preN K fu (K x)) ++ [L[q]].flatMap (fun x => x :: preN K fu (K x))
  rw [List.take_succ_eq_append_getElem hq, List.flatMap_append]
theorem preN_one (K : Nat → List Nat) (fu x : Nat) : preN K (fu + 1) [x] = x :: preN K fu (K x) := by
 show [x].flatMap (fun x => x :: preN K fu (K x)) = _
 simp
theorem preN_mem (K : Nat → List Nat) (fu : Nat) (L : List Nat) (h : DeepN K fu L) : ∀ x ∈ L, x ∈ preN K fu L := fun x hx => by
 cases fu with
 | zero => rw [show L = [] from h] at hx; cases hx
 | succ fu =>
  show x ∈ L.flatMap (fun x => x :: preN K fu (K x))
  exact List.mem_flatMap.2 ⟨x, hx, by simp⟩
abbrev nilV : Value := .slice none 0 0
abbrev nils : Nat → List Nat := fun _ => []
theorem map_up {B : Nat → Nat} {x b : Nat} {L : List Nat} (h : x ∉ L) : L.map (pB (upF B x b)) = L.map (pB B) :=
 List.map_congr_left fun y hy => by
  unfold pB
  rw [upF_ne _ _ (fun e => h (by rw [← e]; exact hy))]
def blkOf (v : Value) : Nat := (v.ownBlock).getD 0
theorem src_at2 {P : Program} {tx e : TypeId} (hu : P.underlying tx = some (.slice e)) {W : World} {b : Nat} {x y : Value} {t : TypeId} (h : W.heap[b]? = some (.cells #[x, y] t (0, 0))) (h1 : x.oneCell' = true) (h2 : y.oneCell' = true) : Src P 1 tx (.slice (some ⟨b, 0, none⟩) 2 2) 2 [x, y] W := by
 refine Src.ofSlice _ hu ⟨b, 0, none⟩ 2 2 _ rfl ?_ ?_
 ·intro j u hj
  match j, hj with
  | 0, hj => simp at hj; subst hj; simp [Addr.add, World.cell?, h]
  | 1, hj => simp at hj; subst hj; simp [Addr.add, World.cell?, h]
  | j + 2, hj => simp at hj
 ·intro u hu
  simp at hu
  rcases hu with rfl | rfl
  ·exact h1
  ·exact h2
theorem DeepN.one {K : Nat → List Nat} {fu : Nat} {L : List Nat} (h : DeepN K fu L) {c : Nat} (hc : c ∈ L) : DeepN K fu [c] := by
 cases fu with
 | zero => rw [show L = [] from h] at hc; cases hc
 | succ fu => intro y hy; simp at hy; subst hy; exact h y hc
theorem preN_part (K : Nat → List Nat) (fu : Nat) (L : List Nat) (q : Nat) (hq : q < L.length) : ∃ M, preN K fu L = preN K fu (L.take q) ++ preN K fu [L[q]] ++ M := by
 cases fu with
 | zero => exact ⟨[], rfl⟩
 | succ fu =>
  refine ⟨(L.drop (q + 1)).flatMap (fun x => x :: preN K fu (K x)), ?_⟩
  rw [← preN_take K (fu + 1) L q hq]
  show L.flatMap (fun x => x :: preN K fu (K x)) = (L.take (q + 1)).flatMap (fun x => x :: preN K fu (K x)) ++ _
  rw [← List.flatMap_append, List.take_append_drop]
theorem Deep_take {K : Nat → List Nat} {fu : Nat} {L : List Nat} (h : DeepN K fu L) (i : Nat) : DeepN K fu (L.take i) := by
 cases fu with
 | zero => rw [show L = [] from h]; exact List.take_nil
 | succ fu => exact fun y hy => h y (List.mem_of_mem_take hy)
theorem map_agree {B B' : Nat → Nat} {L : List Nat} (h : ∀ y ∈ L, B' y = B y) : L.map (pB B') = L.map (pB B) :=
 List.map_congr_left fun y hy => by unfold pB; rw [h y hy]
def legC (l : Int × Int × Int) : List Value := [.int .u64 l.1, .int .i64 l.2.1, .int .i64 l.2.2]
theorem legC_len (L : List (Int × Int × Int)) : (L.flatMap legC).length = L.length * 3 := by
 induction L with
 | nil => rfl
 | cons x r ih => rw [List.flatMap_cons, List.length_append, ih, List.length_cons]; simp [legC]; omega
theorem infoLeg : (Tryz.prog.info? 50).map (fun i => (i.zero, i.size, i.bytes)) = some (some (.agg #[.int .u64 0, .int .i64 0, .int .i64 0]), 3, 24) := by kernel_rfl
theorem infoLeg_parts : ∃ i, Tryz.prog.info? 50 = some i ∧ i.zero = some (.agg #[.int .u64 0, .int .i64 0, .int .i64 0]) ∧ i.size = 3 ∧ i.bytes = 24 := by
 have h := infoLeg
 cases hq : Tryz.prog.info? 50 with
 | none => rw [hq] at h; simp at h
 | some i =>
  rw [hq] at h
  simp at h
  exact ⟨i, rfl, h.1, h.2.1, h.2.2⟩
theorem src_leg {P : Program} {tx e : TypeId} (hu : P.underlying tx = some (.slice e)) (w : World) (x y z : Value) (t : TypeId) (h1 : x.oneCell' = true) (h2 : y.oneCell' = true) (h3 : z.oneCell' = true) : Src P 3 tx (.slice (some ⟨w.heap.size, 0, none⟩) 1 1) 1 [x, y, z] (w.alloc (.cells #[x, y, z] t)) := by
 refine Src.ofSlice _ hu ⟨w.heap.size, 0, none⟩ 1 1 _ rfl ?_ ?_
 ·intro j u hj
  match j, hj with
  | 0, hj => simp at hj; subst hj; simp [Addr.add]
  | 1, hj => simp at hj; subst hj; simp [Addr.add]
  | 2, hj => simp at hj; subst hj; simp [Addr.add]
  | j + 3, hj => simp at hj
 ·intro u hu
  simp at hu
  rcases hu with rfl | rfl | rfl
  ·exact h1
  ·exact h2
  ·exact h3
theorem owns_typeS {w : World} {base n s : Nat} {e : TypeId} {v : Value} {xs : List Value} (h : w.ownsRow base e s v n xs) {g : Nat} (hg : v.ownBlock = some g) : ∃ cur, w.heap[g]? = some (.cells cur e (0, 0)) := by
 rcases h.2 with ⟨e1, _⟩ | ⟨g', cap, cur, e1, _, hh, _⟩
 ·rw [e1] at hg; simp [Value.ownBlock] at hg
 ·rw [e1] at hg
  simp [Value.ownBlock] at hg
  subst hg
  exact ⟨cur, hh⟩
theorem owns_set {base s n cap gl : Nat} {e : TypeId} {w : World} {xs : List Value} (h : w.ownsRow base e s (.slice (some ⟨gl, 0, none⟩) n cap) n xs) (j : Nat) (u : Value) (hj : j < n * s) : (w.setCell ⟨gl, j, none⟩ u).ownsRow base e s (.slice (some ⟨gl, 0, none⟩) n cap) n (xs.set j u) ∧ w.frozen? ⟨gl, j, none⟩ = false ∧ (w.cell? ⟨gl, j, none⟩).isSome = true := by
 rcases h.2 with ⟨e1, _⟩ | ⟨g, cap', cur, e1, hb, hh, hnc, hcm, hcs, ht⟩
 ·simp at e1
 ·simp at e1
  obtain ⟨rfl, rfl⟩ := e1
  have hB : Blk w gl cur e := hh
  have hjc : j < cur.size := by rw [hcs]; exact Nat.lt_of_lt_of_le hj (Nat.mul_le_mul_right _ hnc)
  refine ⟨⟨by simp [h.1], Or.inr ⟨gl, cap, _, rfl, hb, hB.set j u, hnc, hcm, by simp [hcs], ?_⟩⟩, hB.frozen j, by rw [hB.cell j (v := cur[j]) (by simp [hjc])]; rfl⟩
  rw [← ht]
  simp [List.take_set]
theorem leg_set (L : List (Int × Int × Int)) (o a t b : Int) : ((L ++ [(o, a, t)]).flatMap legC).set (L.length * 3 + 2) (.int .i64 b) = (L ++ [(o, a, b)]).flatMap legC := by
 rw [List.flatMap_append, List.flatMap_append, List.set_append_right _ _ (by rw [legC_len]; omega), legC_len, show L.length * 3 + 2 - L.length * 3 = 2 by omega]
 rfl
theorem owns_sliceS {w : World} {base n s : Nat} {e : TypeId} {v : Value} {xs : List Value} (h : w.ownsRow base e s v n xs) : ∃ ad cap, v = .slice ad n cap := by
 rcases h.2 with ⟨e1, e2⟩ | ⟨g, cap, cur, e1, _⟩
 ·exact ⟨none, 0, by rw [e1, e2]⟩
 ·exact ⟨_, cap, e1⟩
theorem upd_cell (w : World) (gl j : Nat) (u v : Value) (h : v.ownBlock = some gl) : Upd (fun k => v.ownBlock = some k) w (w.setCell ⟨gl, j, none⟩ u) :=
 (Upd.refl _ w).setCell (p := ⟨gl, j, none⟩) (fun _ => h) u
theorem leg_cat (L : List (Int × Int × Int)) : L = [] ∨ ∃ L1 o a t, L = L1 ++ [(o, a, t)] := by
 rcases List.eq_nil_or_concat L with e | ⟨L1, ⟨o, a, t⟩, e⟩
 ·exact Or.inl e
 ·exact Or.inr ⟨L1, o, a, t, by rw [e, List.concat_eq_append]⟩
theorem owns_some {w : World} {base n cap s : Nat} {e : TypeId} {ad : Option Addr} {xs : List Value} (h : w.ownsRow base e s (.slice ad (n + 1) cap) (n + 1) xs) : ∃ g, ad = some ⟨g, 0, none⟩ := by
 rcases h.2 with ⟨e1, e2⟩ | ⟨g, cap, cur, e1, _⟩
 ·omega
 ·simp at e1
  exact ⟨g, e1.1⟩
def LegsIn (w : World) (g : Nat) (L : List (Int × Int × Int)) : Prop :=
 ∀ i (h : i < L.length), w.cell? ⟨g, i * 3, none⟩ = some (.int .u64 L[i].1) ∧ w.cell? ⟨g, i * 3 + 1, none⟩ = some (.int .i64 L[i].2.1) ∧ w.cell? ⟨g, i * 3 + 2, none⟩ = some (.int .i64 L[i].2.2)
theorem legs_get (L : List (Int × Int × Int)) : ∀ (i : Nat) (hi : i < L.length) (j : Nat), j < 3 → (L.flatMap legC)[i * 3 + j]? = (legC L[i])[j]? := by
 induction L with
 | nil => intro i hi; simp at hi
 | cons l r ih =>
  intro i hi j hj
  rw [List.flatMap_cons]
  cases i with
  | zero => rw [List.getElem?_append_left (by simp [legC]; omega)]; simp
  | succ i =>
   rw [List.getElem?_append_right (by simp [legC]; omega), show (i + 1) * 3 + j - (legC l).length = i * 3 + j by simp [legC]; omega]
   exact ih i (by simpa using hi) j hj
theorem legsIn_row {w : World} {b g n c : Nat} {L : List (Int × Int × Int)} (h : w.ownsRow b 50 3 (.slice (some ⟨g, 0, none⟩) n c) n (L.flatMap legC)) : LegsIn w g L := fun i hi => by
 have q : ∀ j (u : Value), j < 3 → (legC L[i])[j]? = some u → w.cell? ⟨g, i * 3 + j, none⟩ = some u := fun j u hj e => by
  have := h.cells (g := g) rfl (i * 3 + j) u (by rw [legs_get L i hi j hj]; exact e)
  rw [Addr.add_mid, Nat.zero_add] at this
  exact this
 exact ⟨q 0 _ (by omega) rfl, q 1 _ (by omega) rfl, q 2 _ (by omega) rfl⟩
end Go.Proofs.YtnffedmcblbkoaaGreatDoor
