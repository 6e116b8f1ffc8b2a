/-
  Merged: TJ, TL, TQ, KA.
-/
import Derived.Test.YtkkeffodbngibaaGreatDoorYcq
import Derived.Test.YtkkeffodbngibaaGreatDoorMwq
import Derived.Test.YtkkeffodbngibaaGreatDoorZmq
import Derived.Test.YtkkeffodbngibaaGreatDoorFSq
import Derived.Test.YtkkeffodbngibaaGreatDoorFP
import Derived.Test.YtkkeffodbngibaaGreatDoorWaq
namespace Go.Proofs.YtkkeffodbngibaaGreatDoor
open Go Go.RowKit
set_option maxRecDepth 100000

section
variable {α : Type} {f : α → List Value} {s : Nat}
theorem flatG_len (hf : ∀ x, (f x).length = s) : ∀ L : List α, (L.flatMap f).length = L.length * s
  | [] => by simp
  | a :: r => by rw [List.flatMap_cons, List.length_append, hf, flatG_len hf r, List.length_cons, Nat.succ_mul]; omega
theorem flatG_get (hf : ∀ x, (f x).length = s) : ∀ (L : List α) (i : Nat) (hi : i < L.length) (j : Nat), j < s → (L.flatMap f)[i * s + j]? = (f L[i])[j]?
  | [], i, hi, _, _ => by simp at hi
  | a :: r, 0, _, j, hj => by
    rw [List.flatMap_cons, Nat.zero_mul, Nat.zero_add, List.getElem?_append_left (by rw [hf]; exact hj)]; rfl
  | a :: r, i + 1, hi, j, hj => by
    rw [List.flatMap_cons, List.getElem?_append_right (by rw [hf, Nat.succ_mul]; omega), hf, show (i + 1) * s + j - s = i * s + j by rw [Nat.succ_mul]; omega]
    exact flatG_get hf r i (by simpa using hi) j hj
theorem mulG {i n s : Nat} (hi : i < n) : i * s + s ≤ n * s := by
  have := Nat.mul_le_mul_right s (show i + 1 ≤ n from hi)
  rw [Nat.succ_mul] at this
  exact this
theorem flatG_put (hf : ∀ x, (f x).length = s) (L : List α) (rest : List Value) (i : Nat) (hi : i < L.length) (y : α) : putL (L.flatMap f ++ rest) (i * s) (f y) = (L.set i y).flatMap f ++ rest := by
  have hs : L = L.take i ++ L[i] :: L.drop (i + 1) := by simp
  have hy : L.set i y = L.take i ++ y :: L.drop (i + 1) := List.set_eq_take_append_cons_drop.trans (by simp [hi])
  have he : L.flatMap f ++ rest = (L.take i).flatMap f ++ (f L[i] ++ ((L.drop (i + 1)).flatMap f ++ rest)) := by
    conv => lhs; rw [hs]
    rw [List.flatMap_append, List.flatMap_cons, List.append_assoc, List.append_assoc]
  have hlen : ((L.take i).flatMap f).length = i * s := by rw [flatG_len hf, List.length_take, Nat.min_eq_left (by omega)]
  have hm := mulG (s := s) hi
  rw [putL_eq _ _ _ (by rw [List.length_append, flatG_len hf, hf]; omega), hy, List.flatMap_append, List.flatMap_cons, he]
  rw [List.take_append_of_le_length (by omega), List.take_of_length_le (by omega), hf]
  rw [show i * s + s = ((L.take i).flatMap f).length + (f L[i]).length by rw [hlen, hf], List.drop_append, List.drop_append]
  simp
theorem flatG_one (hf : ∀ x, (f x).length = s) (L : List α) (rest : List Value) (i : Nat) (hi : i < L.length) (j : Nat) (hj : j < s) (v : Value) (y : α) (hy : f y = (f L[i]).set j v) : (L.flatMap f ++ rest).set (i * s + j) v = (L.set i y).flatMap f ++ rest := by
  have hs : L = L.take i ++ L[i] :: L.drop (i + 1) := by simp
  have hy' : L.set i y = L.take i ++ y :: L.drop (i + 1) := List.set_eq_take_append_cons_drop.trans (by simp [hi])
  have he : L.flatMap f ++ rest = (L.take i).flatMap f ++ (f L[i] ++ ((L.drop (i + 1)).flatMap f ++ rest)) := by
    conv => lhs; rw [hs]
    rw [List.flatMap_append, List.flatMap_cons, List.append_assoc, List.append_assoc]
  have hlen : ((L.take i).flatMap f).length = i * s := by rw [flatG_len hf, List.length_take, Nat.min_eq_left (by omega)]
  rw [he, hy', List.flatMap_append, List.flatMap_cons, hy, List.set_append_right _ _ (by omega), hlen, Nat.add_sub_cancel_left, List.set_append_left _ _ (by rw [hf]; exact hj), List.append_assoc, List.append_assoc]
/-- A row of structs in a block of its own, with room behind it. -/
structure RwG (f : α → List Value) (s : Nat) (T : TypeId) (w : World) (g cap : Nat) (L : List α) : Prop where
  nc : L.length ≤ cap
  cm : cap ≤ maxLen
  blk : ∃ rest, Blk w g (L.flatMap f ++ rest).toArray T ∧ L.length * s + rest.length = cap * s
variable {T : TypeId} {w : World} {g cap : Nat} {L : List α}
theorem RwG.owns (h : RwG f s T w g cap L) (hf : ∀ x, (f x).length = s) {base : Nat} (hb : base ≤ g) : w.ownsRow base T s (.slice (some ⟨g, 0, none⟩) L.length cap) L.length (L.flatMap f) := by
  obtain ⟨rest, hB, hl⟩ := h.blk
  refine ⟨flatG_len hf L, Or.inr ⟨g, cap, _, rfl, hb, hB, h.nc, h.cm, ?_, ?_⟩⟩
  · rw [List.size_toArray, List.length_append, flatG_len hf]; exact hl
  · rw [← flatG_len hf L, List.take_append_of_le_length (Nat.le_refl _), List.take_length]
theorem RwG.of_owns {base : Nat} {v : Value} {n : Nat} (h : w.ownsRow base T s v n (L.flatMap f)) (hn : L.length = n) (hp : 0 < n) : ∃ g cap, v = .slice (some ⟨g, 0, none⟩) n cap ∧ base ≤ g ∧ RwG f s T w g cap L := by
  rcases h.2 with ⟨_, h0⟩ | ⟨g, cap, cur, rfl, hb, hh, hnc, hcm, hcs, ht⟩
  · omega
  · refine ⟨g, cap, rfl, hb, by omega, hcm, cur.toList.drop (n * s), ?_, ?_⟩
    · show w.heap[g]? = _
      rw [hh, ← ht, List.take_append_drop]
    · rw [List.length_drop, hn]
      have h1 : cur.toList.length = cap * s := by simpa using hcs
      have h2 := Nat.mul_le_mul_right s hnc
      omega
theorem RwG.upd {S : Nat → Prop} {w' : World} (h : RwG f s T w g cap L) (hu : Upd S w w') (hS : ¬ S g) : RwG f s T w' g cap L := by
  obtain ⟨rest, hB, hl⟩ := h.blk
  exact ⟨h.nc, h.cm, rest, hB.upd hu hS, hl⟩
theorem RwG.below {w' : World} (h : RwG f s T w g cap L) (hb : Below w.heap.size w w') : RwG f s T w' g cap L := by
  obtain ⟨rest, hB, hl⟩ := h.blk
  exact ⟨h.nc, h.cm, rest, hB.below hb hB.lt, hl⟩
theorem RwG.lt (h : RwG f s T w g cap L) : g < w.heap.size := by
  obtain ⟨rest, hB, _⟩ := h.blk
  exact hB.lt
theorem RwG.cell (h : RwG f s T w g cap L) (hf : ∀ x, (f x).length = s) (i : Nat) (hi : i < L.length) (j : Nat) {u : Value} (hu : (f L[i])[j]? = some u) : w.cell? ⟨g, i * s + j, none⟩ = some u := by
  obtain ⟨rest, hB, _⟩ := h.blk
  have hj : j < s := by have := (List.getElem?_eq_some_iff.mp hu).1; rw [hf] at this; exact this
  have hm := mulG (s := s) hi
  refine hB.cell _ ?_
  rw [List.getElem?_toArray, List.getElem?_append_left (by rw [flatG_len hf]; omega), flatG_get hf L i hi j hj]
  exact hu
theorem RwG.range (h : RwG f s T w g cap L) (hf : ∀ x, (f x).length = s) (i : Nat) (hi : i < L.length) : w.rangeAt g (i * s) (f L[i]) := fun j _ hv => h.cell hf i hi j hv
theorem RwG.free (h : RwG f s T w g cap L) (k : Nat) : w.frozen? ⟨g, k, none⟩ = false := by
  obtain ⟨rest, hB, _⟩ := h.blk
  exact hB.frozen k
theorem RwG.there (h : RwG f s T w g cap L) (hf : ∀ x, (f x).length = s) (i : Nat) (hi : i < L.length) : w.there g (i * s) s := by
  obtain ⟨rest, hB, _⟩ := h.blk
  have hm := mulG (s := s) hi
  exact Blk.there hB (i * s) s (by rw [List.length_append, flatG_len hf]; omega)
/-- An element is written. -/
theorem RwG.set (h : RwG f s T w g cap L) (hf : ∀ x, (f x).length = s) (i : Nat) (hi : i < L.length) (y : α) : RwG f s T (w.setCells g (i * s) (f y)) g cap (L.set i y) := by
  obtain ⟨rest, hB, hl⟩ := h.blk
  refine ⟨by rw [List.length_set]; exact h.nc, h.cm, rest, ?_, by rw [List.length_set]; exact hl⟩
  have := setCells_blk (f y) (i * s) (L.flatMap f ++ rest) w hB
  rw [flatG_put hf L rest i hi y] at this
  exact this
/-- One cell of an element is written. -/
theorem RwG.put (h : RwG f s T w g cap L) (hf : ∀ x, (f x).length = s) (i : Nat) (hi : i < L.length) (j : Nat) (hj : j < s) (v : Value) (y : α) (hy : f y = (f L[i]).set j v) : RwG f s T (w.setCell ⟨g, i * s + j, none⟩ v) g cap (L.set i y) := by
  obtain ⟨rest, hB, hl⟩ := h.blk
  refine ⟨by rw [List.length_set]; exact h.nc, h.cm, rest, ?_, by rw [List.length_set]; exact hl⟩
  have := hB.set (i * s + j) v
  rw [List.setIfInBounds_toArray, flatG_one hf L rest i hi j hj v y hy] at this
  exact this
end
end Go.Proofs.YtkkeffodbngibaaGreatDoor

namespace Go.Proofs.YtkkeffodbngibaaGreatDoor
set_option maxRecDepth 100000

section
variable {α : Type}
/-- Midway: what is at k and behind it stands one place farther. -/
structure MidI (L M : List α) (k : Nat) : Prop where
  len : M.length = L.length + 1
  le : k ≤ L.length
  lo : ∀ j, j < k → M[j]? = L[j]?
  hi : ∀ j, k ≤ j → M[j + 1]? = L[j]?
theorem MidI.start (L : List α) (z : α) : MidI L (L ++ [z]) L.length :=
  ⟨by simp, Nat.le_refl _, fun j h => by rw [List.getElem?_append_left h], fun j h => by
    rw [List.getElem?_eq_none (by simp; omega), List.getElem?_eq_none h]⟩
theorem MidI.at_ {L M : List α} {k : Nat} (h : MidI L M (k + 1)) : ∃ (h1 : k < M.length) (h2 : k < L.length), M[k] = L[k] := by
  have h1 := h.len
  have h2 := h.le
  refine ⟨by omega, by omega, ?_⟩
  have := h.lo k (by omega)
  rw [List.getElem?_eq_getElem (by omega), List.getElem?_eq_getElem (by omega)] at this
  exact Option.some.inj this
theorem MidI.step {L M : List α} {k : Nat} (h : MidI L M (k + 1)) (hk : k < M.length) : MidI L (M.set (k + 1) M[k]) k := by
  obtain ⟨h1, h2, he⟩ := h.at_
  refine ⟨by rw [List.length_set]; exact h.len, by have := h.le; omega, fun j hj => ?_, fun j hj => ?_⟩
  · rw [List.getElem?_set_ne (by omega)]
    exact h.lo j (by omega)
  · by_cases e : j = k
    · subst e
      rw [List.getElem?_set_self (by have := h.len; omega), he, List.getElem?_eq_getElem h2]
    · rw [List.getElem?_set_ne (by omega)]
      exact h.hi j (by omega)
theorem MidI.done {L M : List α} {k : Nat} (h : MidI L M k) (c : α) : M.set k c = L.take k ++ c :: L.drop k := by
  have hl := h.len
  have hk := h.le
  refine List.ext_getElem? fun j => ?_
  by_cases e : j = k
  · subst e
    rw [List.getElem?_set_self (by omega), List.getElem?_append_right (by simp; omega)]
    simp [Nat.min_eq_left hk]
  · rw [List.getElem?_set_ne (fun h => e h.symm)]
    by_cases hj : j < k
    · rw [h.lo j hj, List.getElem?_append_left (by simp; omega), List.getElem?_take_of_lt hj]
    · obtain ⟨m, rfl⟩ : ∃ m, j = m + 1 := ⟨j - 1, by omega⟩
      rw [h.hi m (by omega), List.getElem?_append_right (by simp; omega), List.length_take, Nat.min_eq_left hk, show m + 1 - k = (m - k) + 1 by omega, List.getElem?_cons_succ, List.getElem?_drop]
      congr 1
      omega
theorem ins_perm (L : List α) (k : Nat) (c : α) : (L.take k ++ c :: L.drop k).Perm (L ++ [c]) := by
  refine List.perm_middle.trans ?_
  rw [List.take_append_drop]
  exact (List.perm_append_comm (l₁ := [c]) (l₂ := L))
theorem ins_strict {lt : α → α → Prop} (tr : ∀ a b c, lt a b → lt b c → lt a c) {L : List α} (hL : L.Pairwise lt) {x : α} {k : Nat} (hk : k ≤ L.length) (h1 : ∀ j (hj : j < L.length), k ≤ j → lt x L[j]) (h2 : ∀ m (hm : m < L.length), k = m + 1 → lt L[m] x) : (L.take k ++ x :: L.drop k).Pairwise lt := by
  have hp := List.pairwise_iff_getElem.1 hL
  have hlo : ∀ j (hj : j < L.length), j < k → lt L[j] x := fun j hj hjk => by
    by_cases e : k = j + 1
    · exact h2 j hj e
    · exact tr _ _ _ (hp j (k - 1) hj (by omega) (by omega)) (h2 (k - 1) (by omega) (by omega))
  rw [List.pairwise_append]
  refine ⟨hL.sublist (List.take_sublist _ _), List.pairwise_cons.2 ⟨fun b hb => ?_, hL.sublist (List.drop_sublist _ _)⟩, fun a ha b hb => ?_⟩
  · obtain ⟨j, hj, rfl⟩ := List.mem_iff_getElem.1 hb
    rw [List.getElem_drop]
    exact h1 _ _ (by omega)
  · obtain ⟨i, hi, rfl⟩ := List.mem_iff_getElem.1 ha
    rw [List.length_take] at hi
    rw [List.getElem_take]
    rcases List.mem_cons.1 hb with rfl | hb
    · exact hlo i (by omega) (by omega)
    · obtain ⟨j, hj, rfl⟩ := List.mem_iff_getElem.1 hb
      rw [List.getElem_drop]
      rw [List.length_drop] at hj
      exact hp i (k + j) (by omega) (by omega) (by omega)
theorem ins_sort {lt : α → α → Prop} (sy : ∀ a b, lt a b → ¬ lt b a) (tr : ∀ a b c, ¬ lt b a → ¬ lt c b → ¬ lt c a) {L : List α} (hL : L.Pairwise (fun a b => ¬ lt b a)) {x : α} {k : Nat} (hk : k ≤ L.length) (h1 : ∀ j (hj : j < L.length), k ≤ j → lt x L[j]) (h2 : ∀ m (hm : m < L.length), k = m + 1 → ¬ lt x L[m]) : (L.take k ++ x :: L.drop k).Pairwise (fun a b => ¬ lt b a) :=
  ins_strict (lt := fun a b => ¬ lt b a) (fun a b c h1 h2 => tr a b c h1 h2) hL hk (fun j hj hkj => sy _ _ (h1 j hj hkj)) h2
end
end Go.Proofs.YtkkeffodbngibaaGreatDoor

namespace Go.Proofs.YtkkeffodbngibaaGreatDoor
open Go Go.RowKit
set_option maxRecDepth 100000

def iL (x : Int) : List Value := [.int .i64 x]
theorem iL_len (x : Int) : (iL x).length = 1 := rfl
theorem iL_flat : ∀ M : List Int, M.flatMap iL = intsV .i64 M
  | [] => rfl
  | x :: M => by rw [List.flatMap_cons, iL_flat M]; rfl
theorem ndL_len (d : Nod) : (ndL d).length = 7 := rfl
theorem infoI1 : ∃ i, Tryz.prog.info? 3 = some i ∧ i.zero = some (.int .i64 0) ∧ i.size = 1 ∧ i.bytes = 8 := by
  have h := infoI
  cases hi : Tryz.prog.info? 3 with
  | none => rw [hi] at h; simp at h
  | some i => rw [hi] at h; simp at h; exact ⟨i, rfl, h.1, h.2.1, h.2.2⟩
/-- One number more behind a row. -/
theorem wpList_appI {ops : Array Oper} {rest : List Oper} {o : Oper} {a : Act} {Q : Exit → Act → World → Prop} (wr : World) (hgd : o.guard = none) (s x : Operand)
    (ho : o.op = .call { callee := .builtin .append, args := #[s, x], argTypes := #[63, 63] })
    (base : Nat) (v : Value) (n : Nat) (M : List Int) (y : Int) (b : Nat) (hb : b = wr.heap.size) (hv : a.eval s = v) (hown : wr.ownsRow base 3 1 v n (M.flatMap iL)) (hl : M.length = n) (hx : a.eval x = .slice (some ⟨b, 0, none⟩) 1 1) (hn : n ≤ 1000000) (hbase : base ≤ wr.heap.size)
    (h : ∀ g cap w', base ≤ g → RwG iL 1 3 w' g cap (M ++ [y]) → Upd (fun q => v.ownBlock = some q) wr w' → (v.ownBlock = some g ∨ wr.heap.size ≤ g) → wpList Tryz.prog ops Q rest (a.put o.dst (.slice (some ⟨g, 0, none⟩) (n + 1) cap)) w') : wpList Tryz.prog ops Q (o :: rest) a (wr.alloc (.cells #[.int .i64 y] 3)) := by
  subst hb
  obtain ⟨i0, hi0, hz0, hz1, hz2⟩ := infoI1
  have hown' : (wr.alloc (.cells #[.int .i64 y] 3)).ownsRow base 3 1 v n (M.flatMap iL) := ownsRow_upd hown ((Upd.refl (fun _ => False) wr).alloc _) (fun _ _ h => h)
  refine wpList_app _ hgd s x 63 63 ho base 3 i0 (.int .i64 0) 8 Tryz.underlying63 hi0 hz0 hz1 hz2 rfl v n _ hv hown' _ 1 [.int .i64 y] hx (src_one Tryz.underlying63 wr _ _ rfl) (by unfold maxLen; omega) (by omega) (by simp; omega) ?_
  intro v1 w1 o1 g1 m1
  have e : M.flatMap iL ++ [.int .i64 y] = (M ++ [y]).flatMap iL := by simp [iL]
  rw [e] at o1
  obtain ⟨g, cap, rfl, hg, hr⟩ := RwG.of_owns o1 (by simp [hl]) (by omega)
  refine h g cap w1 hg hr (((Upd.refl _ wr).alloc _).grown g1 (fun k _ e => e)) ?_
  rcases m1 with e | ⟨k, e, hk⟩
  · exact Or.inl e.symm
  · simp [Value.ownBlock] at e
    subst e
    simp at hk
    exact Or.inr (by omega)
theorem RwI.set {w : World} {g cap : Nat} {M : List Int} (h : RwG iL 1 3 w g cap M) (t : Nat) (ht : t < M.length) (y : Int) : RwG iL 1 3 (w.setCell ⟨g, t, none⟩ (.int .i64 y)) g cap (M.set t y) := by
  have := h.put iL_len t ht 0 (by omega) (.int .i64 y) y rfl
  rwa [Nat.mul_one, Nat.add_zero] at this
theorem RwI.cell {w : World} {g cap : Nat} {M : List Int} (h : RwG iL 1 3 w g cap M) (t : Nat) (ht : t < M.length) : w.cell? ⟨g, t, none⟩ = some (.int .i64 M[t]) := by
  have := RwG.cell h iL_len t ht 0 (u := .int .i64 M[t]) rfl
  rwa [Nat.mul_one, Nat.add_zero] at this
theorem setCell_updI (w : World) (g t : Nat) (v : Value) : Upd (fun q => q = g) w (w.setCell ⟨g, t, none⟩ v) := Upd.setCell (S := fun q => q = g) (Upd.refl _ w) (p := ⟨g, t, none⟩) (fun _ => rfl) v
/-- A node of the list. -/
def ndAt (V : List Nod) (x : Int) : Nod := V.getD x.toNat zNd
theorem ndAt_is {V : List Nod} {i : Nat} (h : i < V.length) : ndAt V (i : Int) = V[i] := by simp [ndAt, List.getD, h]
/-- The reference's forest: its nodes. -/
structure FNd (w : World) (f nb cn : Nat) (V : List Nod) : Prop where
  head : w.cell? ⟨f, 1, none⟩ = some (.slice (some ⟨nb, 0, none⟩) V.length cn)
  row : RwG ndL 7 38 w nb cn V
  len : V.length ≤ 1000
theorem FNd.below {w w' : World} {f nb cn : Nat} {V : List Nod} (h : FNd w f nb cn V) (hb : Below w.heap.size w w') : FNd w' f nb cn V :=
  ⟨(hb.cell (p := ⟨f, 1, none⟩) (World.block_lt_of_cell? w _ h.head)).trans h.head, h.row.below hb, h.len⟩
theorem ltK_as (a b : Nod) : ltK a b → ¬ ltK b a := by unfold ltK; omega
theorem ltK_tr (a b c : Nod) : ¬ ltK b a → ¬ ltK c b → ¬ ltK c a := by unfold ltK; omega
/-- Midway in putting numbers in order. -/
structure OrdI (w wr : World) (V : List Nod) (l : List Int) (k : Nat) (v : Value) (M : List Int) : Prop where
  own : wr.ownsRow w.heap.size 3 1 v k (M.flatMap iL)
  len : M.length = k
  perm : (l.take k).Perm M
  sort : M.Pairwise (fun a b => ¬ ltK (ndAt V b) (ndAt V a))
  bel : Below w.heap.size w wr
/-- Midway in putting one more at its place. -/
structure OrnI (w wr : World) (V : List Nod) (g cap B : Nat) (d : Nod) (M N : List Int) (t : Nat) : Prop where
  row : RwG iL 1 3 wr g cap N
  lo : w.heap.size ≤ g
  box : Blk wr B (ndL d).toArray 38
  ne : B ≠ g
  mid : MidI M N t
  gt : ∀ j (hj : j < M.length), t ≤ j → ltK d (ndAt V M[j])
  bel : Below w.heap.size w wr
theorem OrdI.zero (w : World) (V : List Nod) (l : List Int) : OrdI w w V l 0 (.slice none 0 0) [] :=
  ⟨World.ownsRow_nil _ _ _ _, rfl, by simp, List.Pairwise.nil, Below.refl _ _⟩
theorem OrdI.grow {w wr w5 : World} {V : List Nod} {l : List Int} {k : Nat} {v : Value} {M : List Int} (h : OrdI w wr V l k v M) (hb : Below wr.heap.size wr w5) : OrdI w w5 V l k v M :=
  ⟨ownsRow_upd h.own (Upd.ofBelow (S := fun _ => False) hb (fun k h1 h2 => by omega)) (fun _ _ h => h), h.len, h.perm, h.sort, h.bel.trans (hb.mono h.bel.size)⟩
theorem OrnI.grow {w wr w5 : World} {V : List Nod} {g cap B : Nat} {d : Nod} {M N : List Int} {t : Nat} (h : OrnI w wr V g cap B d M N t) (hb : Below wr.heap.size wr w5) : OrnI w w5 V g cap B d M N t :=
  ⟨h.row.below hb, h.lo, h.box.below hb h.box.lt, h.ne, h.mid, h.gt, h.bel.trans (hb.mono h.bel.size)⟩
theorem OrdI.start {w wr w2 : World} {V : List Nod} {l : List Int} {k : Nat} {v : Value} {M : List Int} (h : OrdI w wr V l k v M) (d : Nod) {B g cap : Nat} (hB : Blk wr B (ndL d).toArray 38) (hg : w.heap.size ≤ g) (hr : RwG iL 1 3 w2 g cap (M ++ [0])) (hu : Upd (fun q => v.ownBlock = some q) wr w2) : OrnI w w2 V g cap B d M (M ++ [0]) k := by
  have hT : (38 : TypeId) ≠ 3 := by decide
  have hnv : v.ownBlock ≠ some B := fun e => by
    rcases h.own.2 with ⟨e1, _⟩ | ⟨g', cap', cur, e1, _, hh, _⟩
    · rw [e1] at e; simp [Value.ownBlock] at e
    · rw [e1] at e
      simp [Value.ownBlock] at e
      subst e
      have h2 : wr.heap[g']? = some (.cells (ndL d).toArray 38 (0, 0)) := hB
      rw [hh] at h2
      injection h2 with h2
      injection h2 with _ h3 _
      exact hT h3.symm
  have hB2 : Blk w2 B (ndL d).toArray 38 := hB.upd hu hnv
  refine ⟨hr, hg, hB2, fun e => ?_, by rw [← h.len]; exact MidI.start M 0, fun j hj hkj => by have := h.len; omega, h.bel.trans (hu.below h.bel.size (fun q hq e => by have := (owns_lt h.own e).1; omega))⟩
  subst e
  obtain ⟨rest, hb, _⟩ := hr.blk
  have h2 : w2.heap[B]? = some (.cells (ndL d).toArray 38 (0, 0)) := hB2
  have h3 : w2.heap[B]? = some (.cells ((M ++ [0]).flatMap iL ++ rest).toArray 3 (0, 0)) := hb
  rw [h3] at h2
  injection h2 with h2
  injection h2 with _ h4 _
  exact hT h4.symm
theorem OrnI.step {w wr : World} {V : List Nod} {g cap B : Nat} {d : Nod} {M N : List Int} {t : Nat} (h : OrnI w wr V g cap B d M N (t + 1)) (ht : t < N.length) (hlt : ltK d (ndAt V N[t])) : OrnI w (wr.setCell ⟨g, t + 1, none⟩ (.int .i64 N[t])) V g cap B d M (N.set (t + 1) N[t]) t := by
  obtain ⟨h1, h2, he⟩ := h.mid.at_
  have hu := setCell_updI wr g (t + 1) (.int .i64 N[t])
  refine ⟨RwI.set h.row (t + 1) (by rw [h.mid.len]; have := h.mid.le; omega) _, h.lo, h.box.upd hu (fun e => h.ne e), h.ne, h.mid.step ht, fun j hj htj => ?_, h.bel.trans (hu.below h.bel.size (fun q hq e => by have := h.lo; omega))⟩
  by_cases e : j = t
  · subst e; rw [← he]; exact hlt
  · exact h.gt j hj (by omega)
theorem OrnI.done {w wr w0 : World} {V : List Nod} {l : List Int} {k : Nat} {v0 : Value} {g cap B : Nat} {M N : List Int} {t : Nat} {x : Int} (h0 : OrdI w w0 V l k v0 M) (h : OrnI w wr V g cap B (ndAt V x) M N t) (hx : l[k]? = some x) (hle : ∀ m (hm : m < M.length), t = m + 1 → ¬ ltK (ndAt V x) (ndAt V M[m])) : OrdI w (wr.setCell ⟨g, t, none⟩ (.int .i64 x)) V l (k + 1) (.slice (some ⟨g, 0, none⟩) (k + 1) cap) (M.take t ++ x :: M.drop t) := by
  have hL := h0.len
  have hu := setCell_updI wr g t (.int .i64 x)
  have hr := RwI.set h.row t (by rw [h.mid.len]; have := h.mid.le; omega) x
  rw [h.mid.done] at hr
  have hlen : (M.take t ++ x :: M.drop t).length = k + 1 := by rw [(ins_perm M t x).length_eq]; simp [hL]
  have h1 := hr.owns iL_len h.lo
  rw [hlen] at h1
  refine ⟨h1, hlen, ?_, ?_, h.bel.trans (hu.below h.bel.size (fun q hq e => by have := h.lo; omega))⟩
  · obtain ⟨hn, e⟩ := List.getElem?_eq_some_iff.1 hx
    rw [List.take_succ_eq_append_getElem hn, e]
    exact (h0.perm.append_right [x]).trans (ins_perm M t x).symm
  · exact ins_sort (lt := fun a b => ltK (ndAt V a) (ndAt V b)) (fun a b => ltK_as _ _) (fun a b c => ltK_tr _ _ _) h0.sort h.mid.le (fun j hj htj => h.gt j hj htj) hle
/-- What ordered tells. -/
def OrdP (V : List Nod) (l : List Int) (m : Nat) (w : World) (e : Ending) (w' : World) : Prop := ∃ ao c M, e = .returned (.slice ao m c) ∧ Hid (OrdI w w' V l m (.slice ao m c) M)
end Go.Proofs.YtkkeffodbngibaaGreatDoor

namespace Go.Proofs.YtkkeffodbngibaaGreatDoor
open Go Go.RowKit
set_option maxRecDepth 100000

/-- The order of latest: who ends later comes first, then the lesser ID. -/
def cmpEnd (a b : Nod) : Int := orL [cmpI b.til a.til, cmpI a.id b.id]
theorem grown2 (W : World) (o1 o2 o3 : Obj) (m : Nat) : Below W.heap.size W ((((W.alloc o1).alloc o2).alloc o3).drewN m) := below_drewN ((((Below.refl _ _).alloc (Nat.le_refl _) _).alloc (by simp) _).alloc (by simp; omega) _) m
set_option maxHeartbeats 4000000 in
theorem cmpEnd_any (x y : Nod) (w : World) :
    Calls Tryz.prog 42 #[ndV x, ndV y] w fun e w' => e = .returned (.int .i64 (cmpEnd x y)) ∧ Below w.heap.size w w' := by
  have OR := fun (o1 o2 : Obj) => or_at ((w.alloc o1).alloc o2) (w.heap.size + 1 + 1) [cmpI y.til x.til, cmpI x.id y.id] (by simp) (by simp)
  simp only [List.map, List.length, Nat.reduceAdd] at OR
  have HG : Hid (∀ o1 o2 o3, Below w.heap.size w ((((w.alloc o1).alloc o2).alloc o3).drewN 1)) := fun o1 o2 o3 => grown2 w o1 o2 o3 1
  unfold cmpEnd ndV
  go_enter Tryz.func42, Tryz.ntmps42
  go_wp2
  go_region_held3 (fun W => W.cell? ⟨w.heap.size, 6, none⟩ = some (.int .i64 x.til) ∧ W.cell? ⟨w.heap.size, 0, none⟩ = some (.int .u64 x.id) ∧ W.cell? ⟨w.heap.size + 1, 6, none⟩ = some (.int .i64 y.til) ∧ W.cell? ⟨w.heap.size + 1, 0, none⟩ = some (.int .u64 y.id)) (simp [go_sem, World.cell?_alloc_past])
    (first
      | (go_at_call 44; refine (cmp_i64 _ _ _).mono ?_; rintro e w' ⟨rfl, rfl⟩)
      | (go_at_call 18; refine (cmp_id _ _ _).mono ?_; rintro e w' ⟨rfl, rfl⟩)
      | (go_at_call 43; (with_reducible refine (OR _ _).mono ?_); rintro e w' ⟨rfl, rfl⟩))
  go_wp2
  go_ret
  exact ⟨rfl, HG.out _ _ _⟩
theorem cmpEnd_lt (x y : Nod) : cmpEnd x y < 0 ↔ y.til < x.til ∨ (y.til = x.til ∧ x.id < y.id) := by
  unfold cmpEnd
  simp only [orL, orI, cmpI]
  repeat' split
  all_goals omega
/-- None of the first k is ahead of it. -/
def MinI (V : List Nod) (k : Nat) (d : Nod) : Prop := d ∈ V.take k ∧ ∀ x ∈ V.take k, ¬ cmpEnd x d < 0
theorem MinI.keep {V : List Nod} {k : Nat} {d : Nod} (h : MinI V k d) (hk : k < V.length) (hc : ¬ cmpEnd V[k] d < 0) : MinI V (k + 1) d := by
  have e : V.take (k + 1) = V.take k ++ [V[k]] := by rw [List.take_add_one, List.getElem?_eq_getElem hk]; rfl
  refine ⟨by rw [e]; exact List.mem_append_left _ h.1, fun x hx => ?_⟩
  rw [e, List.mem_append] at hx
  rcases hx with hx | hx
  · exact h.2 x hx
  · simp at hx
    subst hx
    exact hc
theorem MinI.take {V : List Nod} {k : Nat} {d : Nod} (h : MinI V k d) (hk : k < V.length) (hc : cmpEnd V[k] d < 0) : MinI V (k + 1) V[k] := by
  have e : V.take (k + 1) = V.take k ++ [V[k]] := by rw [List.take_add_one, List.getElem?_eq_getElem hk]; rfl
  refine ⟨by rw [e]; exact List.mem_append_right _ (List.mem_singleton.2 rfl), fun x hx => ?_⟩
  rw [e, List.mem_append] at hx
  rw [cmpEnd_lt] at hc
  rcases hx with hx | hx
  · have := h.2 x hx
    rw [cmpEnd_lt] at this ⊢
    omega
  · simp at hx
    subst hx
    rw [cmpEnd_lt]
    omega
/-- Midway in MinFunc. -/
def MidM (w : World) (V : List Nod) (k : Nat) (d : Nod) (wr : World) : Prop := MinI V k d ∧ Blk wr (w.heap.size + 1) (ndL d).toArray 38 ∧ Blk wr w.heap.size (ndL zNd).toArray 38 ∧ Below w.heap.size w wr
set_option maxHeartbeats 4000000 in
theorem minE_any (g cap : Nat) (V : List Nod) (w : World) (h : RwG ndL 7 38 w g cap V) (h0 : 0 < V.length) (hl : V.length ≤ 1000000) :
    Calls Tryz.prog 41 #[.slice (some ⟨g, 0, none⟩) V.length cap, .func (.func 42) #[] #[]] w fun e w' => ∃ d, e = .returned (ndV d) ∧ d ∈ V ∧ (∀ x ∈ V, ¬ cmpEnd x d < 0) ∧ Below w.heap.size w w' := by
  have HR : Hid (RwG ndL 7 38 w g cap V) := h
  obtain ⟨n, hn⟩ : ∃ n, V.length = n := ⟨_, rfl⟩
  have HN : Hid (V.length = n) := hn
  have H0 : Hid (∀ W, Below w.heap.size w W → W.rangeAt g 0 (ndL (V[0]'h0))) := fun W hb => by have := (h.below hb).range ndL_len 0 h0; rwa [Nat.zero_mul] at this
  have HM1 : Hid (MinI V 1 (V[0]'h0)) := by
    have e : V.take 1 = [V[0]'h0] := by rw [show (1 : Nat) = 0 + 1 from rfl, List.take_add_one, List.getElem?_eq_getElem h0]; rfl
    show MinI V 1 (V[0]'h0)
    unfold MinI
    rw [e]
    exact ⟨by simp, fun x hx => by simp at hx; subst hx; rw [cmpEnd_lt]; omega⟩
  generalize V[0]'h0 = d0 at *
  rw [hn] at h0 hl ⊢
  clear h hn
  have hn1 : ¬ (n : Int) < 1 := by omega
  have hn0 : (0 : Int) < (n : Int) := by omega
  have B2 : Hid (Below w.heap.size w ((w.alloc (.cells (ndL zNd).toArray 38)).alloc (.cells (ndL zNd).toArray 38))) := ((Below.refl _ _).alloc (Nat.le_refl _) _).alloc (by simp) _
  go_enter Tryz.func41, Tryz.ntmps41
  go_wp2_with (first
    | (refine wpList_load_mid rfl 38 _ rfl g 0 rfl (ndL d0) _ (H0.out _ B2.out) Tryz.underlying38 rfl (by kernel_rfl) ?_)
    | (refine wpList_load_mid rfl 38 _ rfl g 0 rfl (ndL d0) _ (H0.out _ ((Below.refl _ _).alloc (Nat.le_refl _) _)) Tryz.underlying38 rfl (by kernel_rfl) ?_)
    | (refine wpList_stW rfl 38 _ _ rfl (w.heap.size + 1) (ndL zNd) (ndL d0) 38 (by have := Blk.new (w.alloc (.cells (ndL zNd).toArray 38)) (ndL zNd).toArray 38; rwa [World.size_alloc] at this) rfl rfl rfl (by kernel_rfl) (ndL_one d0) ?_; intro w4 n4 u4; have HM4 : Hid (MidM w V 1 d0 w4) := ⟨HM1.out, n4, Blk.upd (Blk.alloc (Blk.new w (ndL zNd).toArray 38) _) u4 (by omega), B2.out.trans (u4.below B2.out.size (fun j hj e => by omega))⟩; clear n4 u4))
  go_loopw [6] (fun z6 wr => ∃ (k : Nat) (d : Nod), z6 = .int .i64 k ∧ k ≤ n ∧ 1 ≤ k ∧ Hid (MidM w V k d wr)) (fun z6 _ => n - (intOf z6).toNat)
  case atStart => exact ⟨1, d0, rfl, by omega, by omega, HM4⟩
  case round =>
    obtain ⟨k, d, rfl, hk, hk1, HM⟩ := hrel
    by_cases hlt : k < n
    · have hlt' : (k : Int) < (n : Int) := by omega
      have hkV : k < V.length := by rw [HN.out]; exact hlt
      have RG : Hid (wr.rangeAt g (k * 7) (ndL V[k])) := (HR.out.below HM.out.2.2.2).range ndL_len k hkV
      have RD : Hid (wr.rangeAt (w.heap.size + 1) 0 (ndL d)) := fun j v hv => by rw [Nat.zero_add]; exact HM.out.2.1.cell j (by rw [List.getElem?_toArray]; exact hv)
      have CM := fun W => cmpEnd_any V[k] d W
      have HBr : Hid (Below w.heap.size w wr) := HM.out.2.2.2
      by_cases hc : cmpEnd V[k] d < 0
      · have FN : Hid (∀ w8 w9, Below wr.heap.size wr w8 → Blk w9 (w.heap.size + 1) (ndL V[k]).toArray 38 → Upd (fun q => q = w.heap.size + 1) w8 w9 → MidM w V (k + 1) V[k] w9) := fun w8 w9 b n9 u9 => ⟨HM.out.1.take hkV hc, n9, Blk.upd (HM.out.2.2.1.below b HM.out.2.2.1.lt) u9 (by omega), (HM.out.2.2.2.trans (b.mono HM.out.2.2.2.size)).trans (u9.below (Nat.le_trans HM.out.2.2.2.size b.size) (fun j hj e => by omega))⟩
        have RW : Hid (∀ W, Below wr.heap.size wr W → W.rangeAt g (k * 7) (ndL V[k]) ∧ Blk W (w.heap.size + 1) (ndL d).toArray 38) := fun W hb => ⟨((HR.out.below HM.out.2.2.2).below hb).range ndL_len k hkV, HM.out.2.1.below hb HM.out.2.1.lt⟩
        clear HM
        generalize V[k] = y at *
        generalize cmpEnd y d = cc at *
        unfold ndV at CM
        have HS : ∀ W, Below wr.heap.size wr W → W.cell? ⟨g, k * 7, none⟩ = some (.int .u64 y.id) ∧ W.cell? ⟨g, k * 7 + 1, none⟩ = some (.int .u64 y.par) ∧ W.cell? ⟨g, k * 7 + 2, none⟩ = some (.int .i64 y.org) ∧ W.cell? ⟨g, k * 7 + 3, none⟩ = some (.int .u64 y.tree) ∧ W.cell? ⟨g, k * 7 + 4, none⟩ = some (.int .i64 y.dep) ∧ W.cell? ⟨g, k * 7 + 5, none⟩ = some (.int .i64 y.fr) ∧ W.cell? ⟨g, k * 7 + 6, none⟩ = some (.int .i64 y.til) ∧ W.cell? ⟨w.heap.size + 1, 0, none⟩ = some (.int .u64 d.id) ∧ W.cell? ⟨w.heap.size + 1, 1, none⟩ = some (.int .u64 d.par) ∧ W.cell? ⟨w.heap.size + 1, 2, none⟩ = some (.int .i64 d.org) ∧ W.cell? ⟨w.heap.size + 1, 3, none⟩ = some (.int .u64 d.tree) ∧ W.cell? ⟨w.heap.size + 1, 4, none⟩ = some (.int .i64 d.dep) ∧ W.cell? ⟨w.heap.size + 1, 5, none⟩ = some (.int .i64 d.fr) ∧ W.cell? ⟨w.heap.size + 1, 6, none⟩ = some (.int .i64 d.til) := fun W hb => ⟨(RW.out W hb).1 0 _ rfl, (RW.out W hb).1 1 _ rfl, (RW.out W hb).1 2 _ rfl, (RW.out W hb).1 3 _ rfl, (RW.out W hb).1 4 _ rfl, (RW.out W hb).1 5 _ rfl, (RW.out W hb).1 6 _ rfl, (RW.out W hb).2.cell 0 rfl, (RW.out W hb).2.cell 1 rfl, (RW.out W hb).2.cell 2 rfl, (RW.out W hb).2.cell 3 rfl, (RW.out W hb).2.cell 4 rfl, (RW.out W hb).2.cell 5 rfl, (RW.out W hb).2.cell 6 rfl⟩
        have HSH : Hid (∀ W, Below wr.heap.size wr W → W.cell? ⟨g, k * 7, none⟩ = some (.int .u64 y.id) ∧ W.cell? ⟨g, k * 7 + 1, none⟩ = some (.int .u64 y.par) ∧ W.cell? ⟨g, k * 7 + 2, none⟩ = some (.int .i64 y.org) ∧ W.cell? ⟨g, k * 7 + 3, none⟩ = some (.int .u64 y.tree) ∧ W.cell? ⟨g, k * 7 + 4, none⟩ = some (.int .i64 y.dep) ∧ W.cell? ⟨g, k * 7 + 5, none⟩ = some (.int .i64 y.fr) ∧ W.cell? ⟨g, k * 7 + 6, none⟩ = some (.int .i64 y.til) ∧ W.cell? ⟨w.heap.size + 1, 0, none⟩ = some (.int .u64 d.id) ∧ W.cell? ⟨w.heap.size + 1, 1, none⟩ = some (.int .u64 d.par) ∧ W.cell? ⟨w.heap.size + 1, 2, none⟩ = some (.int .i64 d.org) ∧ W.cell? ⟨w.heap.size + 1, 3, none⟩ = some (.int .u64 d.tree) ∧ W.cell? ⟨w.heap.size + 1, 4, none⟩ = some (.int .i64 d.dep) ∧ W.cell? ⟨w.heap.size + 1, 5, none⟩ = some (.int .i64 d.fr) ∧ W.cell? ⟨w.heap.size + 1, 6, none⟩ = some (.int .i64 d.til)) := HS
        obtain ⟨p0, p1, p2, p3, p4, p5, p6, q0, q1, q2, q3, q4, q5, q6⟩ := HS wr (Below.refl _ _)
        clear HS
        go_wp2
        go_region_held3 (fun W => W.cell? ⟨g, k * 7, none⟩ = some (.int .u64 y.id) ∧ W.cell? ⟨g, k * 7 + 1, none⟩ = some (.int .u64 y.par) ∧ W.cell? ⟨g, k * 7 + 2, none⟩ = some (.int .i64 y.org) ∧ W.cell? ⟨g, k * 7 + 3, none⟩ = some (.int .u64 y.tree) ∧ W.cell? ⟨g, k * 7 + 4, none⟩ = some (.int .i64 y.dep) ∧ W.cell? ⟨g, k * 7 + 5, none⟩ = some (.int .i64 y.fr) ∧ W.cell? ⟨g, k * 7 + 6, none⟩ = some (.int .i64 y.til) ∧ W.cell? ⟨w.heap.size + 1, 0, none⟩ = some (.int .u64 d.id) ∧ W.cell? ⟨w.heap.size + 1, 1, none⟩ = some (.int .u64 d.par) ∧ W.cell? ⟨w.heap.size + 1, 2, none⟩ = some (.int .i64 d.org) ∧ W.cell? ⟨w.heap.size + 1, 3, none⟩ = some (.int .u64 d.tree) ∧ W.cell? ⟨w.heap.size + 1, 4, none⟩ = some (.int .i64 d.dep) ∧ W.cell? ⟨w.heap.size + 1, 5, none⟩ = some (.int .i64 d.fr) ∧ W.cell? ⟨w.heap.size + 1, 6, none⟩ = some (.int .i64 d.til)) (first | exact HS8 | simp [go_sem, p0, p1, p2, p3, p4, p5, p6, q0, q1, q2, q3, q4, q5, q6])
          (first
            | (go_at_call 42; refine (CM _).mono ?_; rintro e w8 ⟨rfl, b8⟩; have HB8 : Hid (Below wr.heap.size wr w8) := (Below.refl wr.heap.size wr).drew.trans b8; have HS8 := HSH.out w8 HB8.out; clear b8))
        go_wp2_with (first
          | (refine wpList_load_mid rfl 38 _ rfl g (k * 7) rfl (ndL y) _ (RW.out _ HB8.out).1 Tryz.underlying38 rfl (by kernel_rfl) ?_)
          | (refine wpList_stW rfl 38 _ _ rfl (w.heap.size + 1) (ndL d) (ndL y) 38 (RW.out _ HB8.out).2 rfl rfl rfl (by kernel_rfl) (ndL_one y) ?_; intro w9 n9 u9; have F9 : Hid (MidM w V (k + 1) y w9) := FN.out w8 w9 HB8.out n9 u9; clear n9 u9))
        go_roundw
        case rel => exact ⟨k + 1, y, by go_num, by omega, by omega, F9⟩
        case measure => simp [intOf]; omega
      · have FN : Hid (∀ w8, Below wr.heap.size wr w8 → MidM w V (k + 1) d w8) := fun w8 b => ⟨HM.out.1.keep hkV hc, HM.out.2.1.below b HM.out.2.1.lt, HM.out.2.2.1.below b HM.out.2.2.1.lt, HM.out.2.2.2.trans (b.mono HM.out.2.2.2.size)⟩
        have RW : Hid (∀ W, Below wr.heap.size wr W → W.rangeAt g (k * 7) (ndL V[k]) ∧ Blk W (w.heap.size + 1) (ndL d).toArray 38) := fun W hb => ⟨((HR.out.below HM.out.2.2.2).below hb).range ndL_len k hkV, HM.out.2.1.below hb HM.out.2.1.lt⟩
        clear HM
        generalize V[k] = y at *
        generalize cmpEnd y d = cc at *
        unfold ndV at CM
        have HS : ∀ W, Below wr.heap.size wr W → W.cell? ⟨g, k * 7, none⟩ = some (.int .u64 y.id) ∧ W.cell? ⟨g, k * 7 + 1, none⟩ = some (.int .u64 y.par) ∧ W.cell? ⟨g, k * 7 + 2, none⟩ = some (.int .i64 y.org) ∧ W.cell? ⟨g, k * 7 + 3, none⟩ = some (.int .u64 y.tree) ∧ W.cell? ⟨g, k * 7 + 4, none⟩ = some (.int .i64 y.dep) ∧ W.cell? ⟨g, k * 7 + 5, none⟩ = some (.int .i64 y.fr) ∧ W.cell? ⟨g, k * 7 + 6, none⟩ = some (.int .i64 y.til) ∧ W.cell? ⟨w.heap.size + 1, 0, none⟩ = some (.int .u64 d.id) ∧ W.cell? ⟨w.heap.size + 1, 1, none⟩ = some (.int .u64 d.par) ∧ W.cell? ⟨w.heap.size + 1, 2, none⟩ = some (.int .i64 d.org) ∧ W.cell? ⟨w.heap.size + 1, 3, none⟩ = some (.int .u64 d.tree) ∧ W.cell? ⟨w.heap.size + 1, 4, none⟩ = some (.int .i64 d.dep) ∧ W.cell? ⟨w.heap.size + 1, 5, none⟩ = some (.int .i64 d.fr) ∧ W.cell? ⟨w.heap.size + 1, 6, none⟩ = some (.int .i64 d.til) := fun W hb => ⟨(RW.out W hb).1 0 _ rfl, (RW.out W hb).1 1 _ rfl, (RW.out W hb).1 2 _ rfl, (RW.out W hb).1 3 _ rfl, (RW.out W hb).1 4 _ rfl, (RW.out W hb).1 5 _ rfl, (RW.out W hb).1 6 _ rfl, (RW.out W hb).2.cell 0 rfl, (RW.out W hb).2.cell 1 rfl, (RW.out W hb).2.cell 2 rfl, (RW.out W hb).2.cell 3 rfl, (RW.out W hb).2.cell 4 rfl, (RW.out W hb).2.cell 5 rfl, (RW.out W hb).2.cell 6 rfl⟩
        have HSH : Hid (∀ W, Below wr.heap.size wr W → W.cell? ⟨g, k * 7, none⟩ = some (.int .u64 y.id) ∧ W.cell? ⟨g, k * 7 + 1, none⟩ = some (.int .u64 y.par) ∧ W.cell? ⟨g, k * 7 + 2, none⟩ = some (.int .i64 y.org) ∧ W.cell? ⟨g, k * 7 + 3, none⟩ = some (.int .u64 y.tree) ∧ W.cell? ⟨g, k * 7 + 4, none⟩ = some (.int .i64 y.dep) ∧ W.cell? ⟨g, k * 7 + 5, none⟩ = some (.int .i64 y.fr) ∧ W.cell? ⟨g, k * 7 + 6, none⟩ = some (.int .i64 y.til) ∧ W.cell? ⟨w.heap.size + 1, 0, none⟩ = some (.int .u64 d.id) ∧ W.cell? ⟨w.heap.size + 1, 1, none⟩ = some (.int .u64 d.par) ∧ W.cell? ⟨w.heap.size + 1, 2, none⟩ = some (.int .i64 d.org) ∧ W.cell? ⟨w.heap.size + 1, 3, none⟩ = some (.int .u64 d.tree) ∧ W.cell? ⟨w.heap.size + 1, 4, none⟩ = some (.int .i64 d.dep) ∧ W.cell? ⟨w.heap.size + 1, 5, none⟩ = some (.int .i64 d.fr) ∧ W.cell? ⟨w.heap.size + 1, 6, none⟩ = some (.int .i64 d.til)) := HS
        obtain ⟨p0, p1, p2, p3, p4, p5, p6, q0, q1, q2, q3, q4, q5, q6⟩ := HS wr (Below.refl _ _)
        clear HS
        go_wp2
        go_region_held3 (fun W => W.cell? ⟨g, k * 7, none⟩ = some (.int .u64 y.id) ∧ W.cell? ⟨g, k * 7 + 1, none⟩ = some (.int .u64 y.par) ∧ W.cell? ⟨g, k * 7 + 2, none⟩ = some (.int .i64 y.org) ∧ W.cell? ⟨g, k * 7 + 3, none⟩ = some (.int .u64 y.tree) ∧ W.cell? ⟨g, k * 7 + 4, none⟩ = some (.int .i64 y.dep) ∧ W.cell? ⟨g, k * 7 + 5, none⟩ = some (.int .i64 y.fr) ∧ W.cell? ⟨g, k * 7 + 6, none⟩ = some (.int .i64 y.til) ∧ W.cell? ⟨w.heap.size + 1, 0, none⟩ = some (.int .u64 d.id) ∧ W.cell? ⟨w.heap.size + 1, 1, none⟩ = some (.int .u64 d.par) ∧ W.cell? ⟨w.heap.size + 1, 2, none⟩ = some (.int .i64 d.org) ∧ W.cell? ⟨w.heap.size + 1, 3, none⟩ = some (.int .u64 d.tree) ∧ W.cell? ⟨w.heap.size + 1, 4, none⟩ = some (.int .i64 d.dep) ∧ W.cell? ⟨w.heap.size + 1, 5, none⟩ = some (.int .i64 d.fr) ∧ W.cell? ⟨w.heap.size + 1, 6, none⟩ = some (.int .i64 d.til)) (first | exact HS8 | simp [go_sem, p0, p1, p2, p3, p4, p5, p6, q0, q1, q2, q3, q4, q5, q6])
          (first
            | (go_at_call 42; refine (CM _).mono ?_; rintro e w8 ⟨rfl, b8⟩; have HB8 : Hid (Below wr.heap.size wr w8) := (Below.refl wr.heap.size wr).drew.trans b8; have HS8 := HSH.out w8 HB8.out; clear b8))
        have F8 : Hid (MidM w V (k + 1) d w8) := FN.out w8 HB8.out
        go_wp2
        go_roundw
        case rel => exact ⟨k + 1, d, by go_num, by omega, by omega, F8⟩
        case measure => simp [intOf]; omega
    · obtain rfl : k = n := by omega
      have hlt' : ¬ (k : Int) < (k : Int) := by omega
      have RD : Hid (wr.rangeAt (w.heap.size + 1) 0 (ndL d)) := fun j v hv => by rw [Nat.zero_add]; exact HM.out.2.1.cell j (by rw [List.getElem?_toArray]; exact hv)
      go_wp2_with (first
        | (refine wpList_load_mid rfl 38 _ rfl (w.heap.size + 1) 0 rfl (ndL d) _ RD.out Tryz.underlying38 rfl (by kernel_rfl) ?_)
        | (refine wpList_stW rfl 38 _ _ rfl w.heap.size (ndL zNd) (ndL d) 38 HM.out.2.2.1 rfl rfl rfl (by kernel_rfl) (ndL_one d) ?_; intro w9 n9 u9))
      (try simp only [Exit.inBlock, Exit.then])
      refine bodyPost_ret (v := ndV d) ?_ rfl ⟨d, rfl, ?_, ?_, HM.out.2.2.2.trans (u9.below HM.out.2.2.2.size (fun j hj e => by omega))⟩
      · exact results_cell_row rfl _ w9 w.heap.size _ (ndL d).toArray (0, 0) _ rfl n9 Tryz.underlying38 rfl (by kernel_rfl)
      · exact List.mem_of_mem_take HM.out.1.1
      · intro x hx
        have := HM.out.1.2 x (by rw [List.take_of_length_le (by rw [HN.out]; exact Nat.le_refl _)]; exact hx)
        omega
end Go.Proofs.YtkkeffodbngibaaGreatDoor
