/-
  Merged: TJ, TK, UC.
-/
import Derived.Test.YtiflfapdffkcbaaGreatDoorYcq
import Derived.Test.YtiflfapdffkcbaaGreatDoorMw
import Derived.Test.YtiflfapdffkcbaaGreatDoorSOq
namespace Go.Proofs.YtiflfapdffkcbaaGreatDoor
open Go Go.RowKit
set_option maxRecDepth 100000

section
variable {α : Type} {f : α → List Value} {s : Nat}
theorem flatG_len (hf : ∀ x, (f x).length = s) : ∀ L : List α, (L.flatMap f).length = L.length * s
  | [] => by simp
  | a :: r => by rw [List.flatMap_cons, List.length_append, hf, flatG_len hf r, List.length_cons, Nat.succ_mul]; omega
theorem flatG_get (hf : ∀ x, (f x).length = s) : ∀ (L : List α) (i : Nat) (hi : i < L.length) (j : Nat), j < s → (L.flatMap f)[i * s + j]? = (f L[i])[j]?
  | [], i, hi, _, _ => by simp at hi
  | a :: r, 0, _, j, hj => by
    rw [List.flatMap_cons, Nat.zero_mul, Nat.zero_add, List.getElem?_append_left (by rw [hf]; exact hj)]; rfl
  | a :: r, i + 1, hi, j, hj => by
    rw [List.flatMap_cons, List.getElem?_append_right (by rw [hf, Nat.succ_mul]; omega), hf, show (i + 1) * s + j - s = i * s + j by rw [Nat.succ_mul]; omega]
    exact flatG_get hf r i (by simpa using hi) j hj
theorem mulG {i n s : Nat} (hi : i < n) : i * s + s ≤ n * s := by
  have := Nat.mul_le_mul_right s (show i + 1 ≤ n from hi)
  rw [Nat.succ_mul] at this
  exact this
theorem flatG_put (hf : ∀ x, (f x).length = s) (L : List α) (rest : List Value) (i : Nat) (hi : i < L.length) (y : α) : putL (L.flatMap f ++ rest) (i * s) (f y) = (L.set i y).flatMap f ++ rest := by
  have hs : L = L.take i ++ L[i] :: L.drop (i + 1) := by simp
  have hy : L.set i y = L.take i ++ y :: L.drop (i + 1) := List.set_eq_take_append_cons_drop.trans (by simp [hi])
  have he : L.flatMap f ++ rest = (L.take i).flatMap f ++ (f L[i] ++ ((L.drop (i + 1)).flatMap f ++ rest)) := by
    conv => lhs; rw [hs]
    rw [List.flatMap_append, List.flatMap_cons, List.append_assoc, List.append_assoc]
  have hlen : ((L.take i).flatMap f).length = i * s := by rw [flatG_len hf, List.length_take, Nat.min_eq_left (by omega)]
  have hm := mulG (s := s) hi
  rw [putL_eq _ _ _ (by rw [List.length_append, flatG_len hf, hf]; omega), hy, List.flatMap_append, List.flatMap_cons, he]
  rw [List.take_append_of_le_length (by omega), List.take_of_length_le (by omega), hf]
  rw [show i * s + s = ((L.take i).flatMap f).length + (f L[i]).length by rw [hlen, hf], List.drop_append, List.drop_append]
  simp
theorem flatG_one (hf : ∀ x, (f x).length = s) (L : List α) (rest : List Value) (i : Nat) (hi : i < L.length) (j : Nat) (hj : j < s) (v : Value) (y : α) (hy : f y = (f L[i]).set j v) : (L.flatMap f ++ rest).set (i * s + j) v = (L.set i y).flatMap f ++ rest := by
  have hs : L = L.take i ++ L[i] :: L.drop (i + 1) := by simp
  have hy' : L.set i y = L.take i ++ y :: L.drop (i + 1) := List.set_eq_take_append_cons_drop.trans (by simp [hi])
  have he : L.flatMap f ++ rest = (L.take i).flatMap f ++ (f L[i] ++ ((L.drop (i + 1)).flatMap f ++ rest)) := by
    conv => lhs; rw [hs]
    rw [List.flatMap_append, List.flatMap_cons, List.append_assoc, List.append_assoc]
  have hlen : ((L.take i).flatMap f).length = i * s := by rw [flatG_len hf, List.length_take, Nat.min_eq_left (by omega)]
  rw [he, hy', List.flatMap_append, List.flatMap_cons, hy, List.set_append_right _ _ (by omega), hlen, Nat.add_sub_cancel_left, List.set_append_left _ _ (by rw [hf]; exact hj), List.append_assoc, List.append_assoc]
/-- A row of structs in a block of its own, with room behind it. -/
structure RwG (f : α → List Value) (s : Nat) (T : TypeId) (w : World) (g cap : Nat) (L : List α) : Prop where
  nc : L.length ≤ cap
  cm : cap ≤ maxLen
  blk : ∃ rest, Blk w g (L.flatMap f ++ rest).toArray T ∧ L.length * s + rest.length = cap * s
variable {T : TypeId} {w : World} {g cap : Nat} {L : List α}
theorem RwG.owns (h : RwG f s T w g cap L) (hf : ∀ x, (f x).length = s) {base : Nat} (hb : base ≤ g) : w.ownsRow base T s (.slice (some ⟨g, 0, none⟩) L.length cap) L.length (L.flatMap f) := by
  obtain ⟨rest, hB, hl⟩ := h.blk
  refine ⟨flatG_len hf L, Or.inr ⟨g, cap, _, rfl, hb, hB, h.nc, h.cm, ?_, ?_⟩⟩
  · rw [List.size_toArray, List.length_append, flatG_len hf]; exact hl
  · rw [← flatG_len hf L, List.take_append_of_le_length (Nat.le_refl _), List.take_length]
theorem RwG.of_owns {base : Nat} {v : Value} {n : Nat} (h : w.ownsRow base T s v n (L.flatMap f)) (hn : L.length = n) (hp : 0 < n) : ∃ g cap, v = .slice (some ⟨g, 0, none⟩) n cap ∧ base ≤ g ∧ RwG f s T w g cap L := by
  rcases h.2 with ⟨_, h0⟩ | ⟨g, cap, cur, rfl, hb, hh, hnc, hcm, hcs, ht⟩
  · omega
  · refine ⟨g, cap, rfl, hb, by omega, hcm, cur.toList.drop (n * s), ?_, ?_⟩
    · show w.heap[g]? = _
      rw [hh, ← ht, List.take_append_drop]
    · rw [List.length_drop, hn]
      have h1 : cur.toList.length = cap * s := by simpa using hcs
      have h2 := Nat.mul_le_mul_right s hnc
      omega
theorem RwG.upd {S : Nat → Prop} {w' : World} (h : RwG f s T w g cap L) (hu : Upd S w w') (hS : ¬ S g) : RwG f s T w' g cap L := by
  obtain ⟨rest, hB, hl⟩ := h.blk
  exact ⟨h.nc, h.cm, rest, hB.upd hu hS, hl⟩
theorem RwG.below {w' : World} (h : RwG f s T w g cap L) (hb : Below w.heap.size w w') : RwG f s T w' g cap L := by
  obtain ⟨rest, hB, hl⟩ := h.blk
  exact ⟨h.nc, h.cm, rest, hB.below hb hB.lt, hl⟩
theorem RwG.lt (h : RwG f s T w g cap L) : g < w.heap.size := by
  obtain ⟨rest, hB, _⟩ := h.blk
  exact hB.lt
theorem RwG.cell (h : RwG f s T w g cap L) (hf : ∀ x, (f x).length = s) (i : Nat) (hi : i < L.length) (j : Nat) {u : Value} (hu : (f L[i])[j]? = some u) : w.cell? ⟨g, i * s + j, none⟩ = some u := by
  obtain ⟨rest, hB, _⟩ := h.blk
  have hj : j < s := by have := (List.getElem?_eq_some_iff.mp hu).1; rw [hf] at this; exact this
  have hm := mulG (s := s) hi
  refine hB.cell _ ?_
  rw [List.getElem?_toArray, List.getElem?_append_left (by rw [flatG_len hf]; omega), flatG_get hf L i hi j hj]
  exact hu
theorem RwG.range (h : RwG f s T w g cap L) (hf : ∀ x, (f x).length = s) (i : Nat) (hi : i < L.length) : w.rangeAt g (i * s) (f L[i]) := fun j _ hv => h.cell hf i hi j hv
theorem RwG.free (h : RwG f s T w g cap L) (k : Nat) : w.frozen? ⟨g, k, none⟩ = false := by
  obtain ⟨rest, hB, _⟩ := h.blk
  exact hB.frozen k
theorem RwG.there (h : RwG f s T w g cap L) (hf : ∀ x, (f x).length = s) (i : Nat) (hi : i < L.length) : w.there g (i * s) s := by
  obtain ⟨rest, hB, _⟩ := h.blk
  have hm := mulG (s := s) hi
  exact Blk.there hB (i * s) s (by rw [List.length_append, flatG_len hf]; omega)
/-- An element is written. -/
theorem RwG.set (h : RwG f s T w g cap L) (hf : ∀ x, (f x).length = s) (i : Nat) (hi : i < L.length) (y : α) : RwG f s T (w.setCells g (i * s) (f y)) g cap (L.set i y) := by
  obtain ⟨rest, hB, hl⟩ := h.blk
  refine ⟨by rw [List.length_set]; exact h.nc, h.cm, rest, ?_, by rw [List.length_set]; exact hl⟩
  have := setCells_blk (f y) (i * s) (L.flatMap f ++ rest) w hB
  rw [flatG_put hf L rest i hi y] at this
  exact this
/-- One cell of an element is written. -/
theorem RwG.put (h : RwG f s T w g cap L) (hf : ∀ x, (f x).length = s) (i : Nat) (hi : i < L.length) (j : Nat) (hj : j < s) (v : Value) (y : α) (hy : f y = (f L[i]).set j v) : RwG f s T (w.setCell ⟨g, i * s + j, none⟩ v) g cap (L.set i y) := by
  obtain ⟨rest, hB, hl⟩ := h.blk
  refine ⟨by rw [List.length_set]; exact h.nc, h.cm, rest, ?_, by rw [List.length_set]; exact hl⟩
  have := hB.set (i * s + j) v
  rw [List.setIfInBounds_toArray, flatG_one hf L rest i hi j hj v y hy] at this
  exact this
end
end Go.Proofs.YtiflfapdffkcbaaGreatDoor

namespace Go.Proofs.YtiflfapdffkcbaaGreatDoor
open Go.Shelf Go.RowKit
set_option maxRecDepth 100000

/-- append to an empty list of one's own. -/
theorem wpList_appE {ops : Array Oper} {rest : List Oper} {o : Oper} {a : Act} {Q : Exit → Act → World → Prop} (W : World) (hgd : o.guard = none) (s x : Operand) (tx eT : TypeId)
    (ho : o.op = .call { callee := .builtin .append, args := #[s, x], argTypes := #[tx, tx] }) (i : TypeInfo) (z : Value) (size bytes : Nat) (hu : Tryz.prog.underlying tx = some (.slice eT)) (hi : Tryz.prog.info? eT = some i) (hz : i.zero = some z) (hsize : i.size = size) (hby : i.bytes = bytes) (hzs : z.cells.size = size)
    (ad : Option Addr) (n c : Nat) (xs : List Value) (b : Nat) (hb : b = W.heap.size) (hs : a.eval s = .slice (some ⟨b, 0, none⟩) 0 0) (hx : a.eval x = .slice ad n c) (hS : Src Tryz.prog size tx (.slice ad n c) n xs (W.alloc (.cells #[] eT))) (hn : n ≤ 2147483647) (hb2 : bytes ≤ 1000)
    (h : ∀ ao cap w', w'.ownsRow W.heap.size eT size (.slice ao n cap) n xs → Below W.heap.size W w' → wpList Tryz.prog ops Q rest (a.put o.dst (.slice ao n cap)) w') : wpList Tryz.prog ops Q (o :: rest) a (W.alloc (.cells #[] eT)) := by
  subst hb
  have OW : (W.alloc (.cells #[] eT)).ownsRow W.heap.size eT size (.slice (some ⟨W.heap.size, 0, none⟩) 0 0) 0 [] := ⟨by simp, Or.inr ⟨W.heap.size, 0, #[], rfl, Nat.le_refl _, heap_alloc_new W _, Nat.le_refl _, Nat.zero_le _, by simp, by simp⟩⟩
  refine wpList_appW _ hgd s x tx tx ho W.heap.size eT i z size bytes hu hi hz hsize hby hzs _ 0 [] hs OW _ n xs hx hS (by unfold maxLen; omega) ?_ (by simp) ?_
  · have h1 : 0 + n + (0 + n) / 4 + 192 ≤ 3000000000 := by omega
    have h2 := Nat.mul_le_mul h1 hb2
    omega
  intro v1 w1 o1 g1 m1
  have hB : Below W.heap.size W w1 := (((Upd.refl (fun k => W.heap.size ≤ k) W).alloc (.cells #[] eT)).grown g1 (fun k hk e => by
      have : (Value.slice (some ⟨W.heap.size, 0, none⟩) 0 0).ownBlock = some k := e
      simp [Value.ownBlock] at this
      show W.heap.size ≤ k
      omega)).below (Nat.le_refl _) (fun k hk h => by omega)
  rw [List.nil_append, Nat.zero_add] at o1
  rcases o1.2 with ⟨rfl, h0⟩ | ⟨g, cap, cur, rfl, _⟩
  · subst h0
    exact h none 0 w1 o1 hB
  · exact h _ cap w1 o1 hB
/-- A row of one's own stays, where its block does. -/
theorem own_stay {w1 w5 : World} {base s n : Nat} {e : TypeId} {v : Value} {xs : List Value} (h : w1.ownsRow base e s v n xs) (h5 : ∀ k, base ≤ k → k < w1.heap.size → w5.heap[k]? = w1.heap[k]?) : w5.ownsRow base e s v n xs := by
  refine ⟨h.1, ?_⟩
  rcases h.2 with h0 | ⟨g, cap, cur, e1, hb, hh, hr⟩
  · exact Or.inl h0
  · exact Or.inr ⟨g, cap, cur, e1, hb, (h5 g hb (lt_of_block hh)).trans hh, hr⟩
theorem own_at {w : World} {base s n c : Nat} {e : TypeId} {ad : Option Addr} {xs : List Value} (h : w.ownsRow base e s (.slice ad n c) n xs) (hn : 0 < n) : ∃ g, ad = some ⟨g, 0, none⟩ ∧ ∀ j u, xs[j]? = some u → w.cell? ⟨g, j, none⟩ = some u := by
  rcases h.2 with ⟨e1, h0⟩ | ⟨g, cap, cur, e1, hb, hh, hnc, hcm, hcs, ht⟩
  · omega
  · injection e1 with e1 e2 e3
    refine ⟨g, e1, fun j u hj => blk_cell hh j ?_⟩
    have hl : j < n * s := by rw [← h.1]; exact (List.getElem?_eq_some_iff.mp hj).1
    rw [← ht, List.getElem?_take_of_lt hl] at hj
    rw [← Array.getElem?_toList]
    exact hj
theorem own_links {w : World} {base n c : Nat} {e : TypeId} {ad : Option Addr} {X : List Int} (h : w.ownsRow base e 1 (.slice ad n c) n (intsV .u64 X)) : HoldsV w ad n (intsV .u64 X) := by
  refine ⟨by have := h.1; omega, fun j u hj => ?_⟩
  have hl : j < n := by have := (List.getElem?_eq_some_iff.mp hj).1; have := h.1; omega
  obtain ⟨g, rfl, hc⟩ := own_at h (by omega)
  exact ⟨_, rfl, by rw [Addr.add_lit, Nat.zero_add]; exact hc j u hj⟩
theorem own_attrs {w : World} {base n c : Nat} {e : TypeId} {ad : Option Addr} {X : List AttrD} (h : w.ownsRow base e 4 (.slice ad n c) n (X.flatMap attrC)) : AttrsAt w ad n X := by
  have hl : X.length = n := by have := h.1; rw [flatG_len (f := attrC) (s := 4) (fun _ => rfl)] at this; omega
  refine ⟨hl, fun hn => ?_⟩
  obtain ⟨g, rfl, hc⟩ := own_at h hn
  refine ⟨g, 0, rfl, fun i hi => ?_⟩
  have k := fun j (hj : j < 4) u (hu : (attrC X[i])[j]? = some u) => hc (i * 4 + j) u (by rw [flatG_get (f := attrC) (s := 4) (fun _ => rfl) X i hi j hj]; exact hu)
  rw [Nat.zero_add]
  exact ⟨k 0 (by omega) _ rfl, k 1 (by omega) _ rfl, k 2 (by omega) _ rfl, k 3 (by omega) _ rfl⟩
theorem own_events {w : World} {base n c : Nat} {e : TypeId} {ad : Option Addr} {X : List EventD} (h : w.ownsRow base e 2 (.slice ad n c) n (X.flatMap eventC)) : EventsAt w ad n X := by
  have hl : X.length = n := by have := h.1; rw [flatG_len (f := eventC) (s := 2) (fun _ => rfl)] at this; omega
  refine ⟨hl, fun hn => ?_⟩
  obtain ⟨g, rfl, hc⟩ := own_at h hn
  refine ⟨g, 0, rfl, fun i hi => ?_⟩
  have k := fun j (hj : j < 2) u (hu : (eventC X[i])[j]? = some u) => hc (i * 2 + j) u (by rw [flatG_get (f := eventC) (s := 2) (fun _ => rfl) X i hi j hj]; exact hu)
  rw [Nat.zero_add]
  exact ⟨k 0 (by omega) _ rfl, k 1 (by omega) _ rfl⟩
theorem links_src {w : World} {ad : Option Addr} {n : Nat} {X : List Int} (h : HoldsV w ad n (intsV .u64 X)) (c : Nat) : Src Tryz.prog 1 35 (.slice ad n c) n (intsV .u64 X) w := by
  have hl : (intsV .u64 X).length = n := h.len
  cases ad with
  | none =>
    have h0 : n = 0 := by
      by_cases e : n = 0
      · exact e
      · obtain ⟨u, hu⟩ : ∃ u, (intsV .u64 X)[0]? = some u := ⟨_, List.getElem?_eq_getElem (by omega)⟩
        obtain ⟨a, ha, _⟩ := h.cells 0 u hu
        simp at ha
    subst h0
    rw [List.eq_nil_of_length_eq_zero hl]
    exact Src.ofNil _ Tryz.underlying35 c
  | some a =>
    refine Src.ofSlice _ Tryz.underlying35 a n c _ (by omega) (fun j u hj => ?_) (ints_oneCell _ _)
    obtain ⟨a', ha, hc⟩ := h.cells j u hj
    injection ha with ha
    subst ha
    exact hc
theorem attrs_src {w : World} {ad : Option Addr} {n : Nat} {X : List AttrD} (h : AttrsAt w ad n X) (c : Nat) : Src Tryz.prog 4 38 (.slice ad n c) n (X.flatMap attrC) w := by
  have hone : ∀ u ∈ X.flatMap attrC, u.oneCell' = true := fun u hu => by
    obtain ⟨x, _, hx⟩ := List.mem_flatMap.1 hu
    simp only [attrC, List.mem_cons, List.not_mem_nil, or_false] at hx
    rcases hx with rfl | rfl | rfl | rfl <;> rfl
  by_cases hn : 0 < n
  · obtain ⟨b, off, rfl, hc⟩ := h.lies hn
    refine Src.ofSlice _ Tryz.underlying38 _ n c _ (by rw [flatG_len (f := attrC) (s := 4) (fun _ => rfl), h.len]) (fun j u hj => ?_) hone
    obtain ⟨i, k, hi, hk, e, hv⟩ := flat_at attrC 4 (fun _ => rfl) X j u hj
    subst e
    obtain ⟨k0, k1, k2, k3⟩ := hc i hi
    rw [Addr.add_lit]
    match k, hk, hv with
    | 0, _, hv => simp only [attrC, List.getElem?_cons_zero] at hv; obtain rfl := Option.some.inj hv; first | exact k0 | (rw [← Nat.add_assoc]; exact k0)
    | 1, _, hv => simp only [attrC, List.getElem?_cons_zero, List.getElem?_cons_succ] at hv; obtain rfl := Option.some.inj hv; first | exact k1 | (rw [← Nat.add_assoc]; exact k1)
    | 2, _, hv => simp only [attrC, List.getElem?_cons_zero, List.getElem?_cons_succ] at hv; obtain rfl := Option.some.inj hv; first | exact k2 | (rw [← Nat.add_assoc]; exact k2)
    | 3, _, hv => simp only [attrC, List.getElem?_cons_zero, List.getElem?_cons_succ] at hv; obtain rfl := Option.some.inj hv; first | exact k3 | (rw [← Nat.add_assoc]; exact k3)
    | k + 4, hk, _ => omega
  · obtain rfl : n = 0 := by omega
    obtain rfl : X = [] := List.eq_nil_of_length_eq_zero h.len
    cases ad with
    | none => exact Src.ofNil _ Tryz.underlying38 c
    | some a => exact Src.ofSlice _ Tryz.underlying38 a 0 c [] rfl (fun j u h => by simp at h) (fun u h => by cases h)
theorem events_src {w : World} {ad : Option Addr} {n : Nat} {X : List EventD} (h : EventsAt w ad n X) (c : Nat) : Src Tryz.prog 2 39 (.slice ad n c) n (X.flatMap eventC) w := by
  have hone : ∀ u ∈ X.flatMap eventC, u.oneCell' = true := fun u hu => by
    obtain ⟨x, _, hx⟩ := List.mem_flatMap.1 hu
    simp only [eventC, List.mem_cons, List.not_mem_nil, or_false] at hx
    rcases hx with rfl | rfl <;> rfl
  by_cases hn : 0 < n
  · obtain ⟨b, off, rfl, hc⟩ := h.lies hn
    refine Src.ofSlice _ Tryz.underlying39 _ n c _ (by rw [flatG_len (f := eventC) (s := 2) (fun _ => rfl), h.len]) (fun j u hj => ?_) hone
    obtain ⟨i, k, hi, hk, e, hv⟩ := flat_at eventC 2 (fun _ => rfl) X j u hj
    subst e
    obtain ⟨k0, k1⟩ := hc i hi
    rw [Addr.add_lit]
    match k, hk, hv with
    | 0, _, hv => simp only [eventC, List.getElem?_cons_zero] at hv; obtain rfl := Option.some.inj hv; first | exact k0 | (rw [← Nat.add_assoc]; exact k0)
    | 1, _, hv => simp only [eventC, List.getElem?_cons_zero, List.getElem?_cons_succ] at hv; obtain rfl := Option.some.inj hv; first | exact k1 | (rw [← Nat.add_assoc]; exact k1)
    | k + 2, hk, _ => omega
  · obtain rfl : n = 0 := by omega
    obtain rfl : X = [] := List.eq_nil_of_length_eq_zero h.len
    cases ad with
    | none => exact Src.ofNil _ Tryz.underlying39 c
    | some a => exact Src.ofSlice _ Tryz.underlying39 a 0 c [] rfl (fun j u h => by simp at h) (fun u h => by cases h)
end Go.Proofs.YtiflfapdffkcbaaGreatDoor

namespace Go.Proofs.YtiflfapdffkcbaaGreatDoor
open Go Go.RowKit
set_option maxRecDepth 100000

theorem infoQ : (Tryz.prog.info? 41).map (fun i => (i.zero, i.size, i.bytes)) = some (some (.agg zSpL.toArray), 13, 168) := by kernel_rfl
abbrev Sq := Sp × Pl
def sqL (x : Sq) : List Value := (spC x.1 x.2).toList
theorem sqL_len (x : Sq) : (sqL x).length = 13 := rfl
theorem sqL_one (x : Sq) : ∀ v ∈ sqL x, v.oneCell' = true := by
  intro v hv
  unfold sqL spC at hv
  simp only [List.mem_cons, List.not_mem_nil, or_false] at hv
  rcases hv with rfl | rfl | rfl | rfl | rfl | rfl | rfl | rfl | rfl | rfl | rfl | rfl | rfl
  all_goals rfl
theorem sqF_len (L : List Sq) : (L.flatMap sqL).length = L.length * 13 := by
  induction L with
  | nil => rfl
  | cons x L ih => rw [List.flatMap_cons, List.length_append, ih, sqL_len, List.length_cons]; omega
theorem sqF_one (L : List Sq) : ∀ v ∈ L.flatMap sqL, v.oneCell' = true := fun v hv => by
  obtain ⟨x, _, hx⟩ := List.mem_flatMap.mp hv
  exact sqL_one x v hx
theorem sqF_get (L : List Sq) : ∀ (i : Nat) (hi : i < L.length) (j : Nat), j < 13 → (L.flatMap sqL)[i * 13 + j]? = (sqL L[i])[j]? := by
  induction L with
  | nil => intro i hi; simp at hi
  | cons x L ih =>
    intro i hi j hj
    rw [List.flatMap_cons]
    cases i with
    | zero => rw [Nat.zero_mul, Nat.zero_add, List.getElem?_append_left (by rw [sqL_len]; exact hj)]; rfl
    | succ i =>
      rw [List.getElem?_append_right (by rw [sqL_len]; omega), sqL_len, show (i + 1) * 13 + j - 13 = i * 13 + j by omega]
      exact ih i (by simpa using hi) j hj
/-- A row of spans, in a block of its own, maybe with room behind it. -/
def RowQ (w : World) (g : Nat) (L : List Sq) : Prop := ∃ rest, Blk w g (L.flatMap sqL ++ rest).toArray 41
theorem RowQ.upd {S : Nat → Prop} {w w' : World} {g : Nat} {L : List Sq} (h : RowQ w g L) (hu : Upd S w w') (hS : ¬ S g) : RowQ w' g L := by
  obtain ⟨rest, hB⟩ := h
  exact ⟨rest, hB.upd hu hS⟩
theorem RowQ.lt {w : World} {g : Nat} {L : List Sq} (h : RowQ w g L) : g < w.heap.size := by
  obtain ⟨rest, hB⟩ := h
  exact hB.lt
theorem RowQ.cell {w : World} {g : Nat} {L : List Sq} (h : RowQ w g L) (i : Nat) (hi : i < L.length) (j : Nat) {u : Value} (hu : (spC L[i].1 L[i].2)[j]? = some u) : w.cell? ⟨g, i * 13 + j, none⟩ = some u := by
  obtain ⟨rest, hB⟩ := h
  have hj : j < 13 := (Array.getElem?_eq_some_iff.mp hu).1
  refine hB.cell _ ?_
  rw [List.getElem?_toArray, List.getElem?_append_left (by rw [sqF_len]; omega), sqF_get L i hi j hj]
  unfold sqL
  rw [Array.getElem?_toList]
  exact hu
theorem sq_put (L : List Sq) (rest : List Value) (i : Nat) (hi : i < L.length) (y : Sq) : putL (L.flatMap sqL ++ rest) (i * 13) (sqL y) = (L.set i y).flatMap sqL ++ rest := by
  have hs : L = L.take i ++ L[i] :: L.drop (i + 1) := by simp
  have hy : L.set i y = L.take i ++ y :: L.drop (i + 1) := List.set_eq_take_append_cons_drop.trans (by simp [hi])
  have hf : L.flatMap sqL ++ rest = (L.take i).flatMap sqL ++ (sqL L[i] ++ ((L.drop (i + 1)).flatMap sqL ++ rest)) := by
    conv => lhs; rw [hs]
    rw [List.flatMap_append, List.flatMap_cons, List.append_assoc, List.append_assoc]
  have hlen : ((L.take i).flatMap sqL).length = i * 13 := by rw [sqF_len]; simp; omega
  rw [putL_eq _ _ _ (by rw [List.length_append, sqF_len, sqL_len]; omega), hy, List.flatMap_append, List.flatMap_cons, hf]
  rw [List.take_append_of_le_length (by omega), List.take_of_length_le (by omega), sqL_len]
  rw [show i * 13 + 13 = ((L.take i).flatMap sqL).length + (sqL L[i]).length by rw [hlen, sqL_len], List.drop_append, List.drop_append]
  simp
/-- A span is written into a row. -/
theorem wpList_stQ {ops : Array Oper} {rest : List Oper} {op : Oper} {a : Act} {w : World} {Q : Exit → Act → World → Prop} (hgd : op.guard = none) (x y : Operand) (ho : op.op = .store 41 x y) (g i : Nat) (L : List Sq) (s : Sq) (hB : RowQ w g L) (hi : i < L.length) (hx : a.eval x = .pointer (some ⟨g, i * 13, none⟩)) (hy : a.eval y = .agg (spC s.1 s.2))
    (hK : ∀ w', RowQ w' g (L.set i s) → Upd (fun k => k = g) w w' → wpList Tryz.prog ops Q rest (a.put op.dst undef) w') : wpList Tryz.prog ops Q (op :: rest) a w := by
  obtain ⟨tl, hB⟩ := hB
  refine wpList_store_mid hgd 41 x y ho g (i * 13) (spC s.1 s.2) hx hy (Blk.there hB (i * 13) 13 (by rw [List.length_append, sqF_len]; omega)) (by kernel_rfl) (by have := all_oneCell_toArray (sqL_one s); simpa [sqL] using this) ?_
  refine hK _ ⟨tl, ?_⟩ (setCells_upd _ _ _ _)
  have := setCells_blk (sqL s) (i * 13) (L.flatMap sqL ++ tl) w hB
  rw [sq_put L tl i hi s] at this
  exact this
/-- A span is read out of a row, at a step of a region that draws its order. -/
theorem step_ldQ {ops : Array Oper} {o : Oper} {a : Act} {w : World} {K : Act → World → Prop} {Q : Exit → Act → World → Prop} {E : Prop} (hgd : o.guard = none) (x : Operand) (ho : o.op = .load 41 x) (g i : Nat) (L : List Sq) (hB : RowQ w g L) (hi : i < L.length) (hx : a.eval x = .pointer (some ⟨g, i * 13, none⟩))
    (h : K (a.put o.dst (.agg (sqL L[i]).toArray)) w) : if Region.wanted o (yielded ops a.tmps) = true then Oper.wp Tryz.prog o a w K Q else E := by
  have hw : Region.wanted o (yielded ops a.tmps) = true := by simp [Region.wanted, hgd]
  rw [if_pos hw]
  refine wp_load_mid 41 x ho g (i * 13) hx (sqL L[i]) _ (fun j v hv => ?_) Tryz.underlying41 rfl (by kernel_rfl) h
  refine hB.cell i hi j ?_
  unfold sqL at hv
  rw [Array.getElem?_toList] at hv
  exact hv
theorem step_stQ {ops : Array Oper} {o : Oper} {a : Act} {w : World} {K : Act → World → Prop} {Q : Exit → Act → World → Prop} {E : Prop} (hgd : o.guard = none) (x y : Operand) (ho : o.op = .store 41 x y) (g i : Nat) (L : List Sq) (s : Sq) (hB : RowQ w g L) (hi : i < L.length) (hx : a.eval x = .pointer (some ⟨g, i * 13, none⟩)) (hy : a.eval y = .agg (sqL s).toArray)
    (h : ∀ w', RowQ w' g (L.set i s) → Upd (fun k => k = g) w w' → K (a.put o.dst undef) w') : if Region.wanted o (yielded ops a.tmps) = true then Oper.wp Tryz.prog o a w K Q else E := by
  have hw : Region.wanted o (yielded ops a.tmps) = true := by simp [Region.wanted, hgd]
  rw [if_pos hw]
  obtain ⟨tl, hB⟩ := hB
  refine wp_store_mid 41 x y ho g (i * 13) (sqL s).toArray hx hy (Blk.there hB (i * 13) 13 (by rw [List.length_append, sqF_len]; omega)) (by kernel_rfl) (all_oneCell_toArray (sqL_one s)) ?_
  refine h _ ⟨tl, ?_⟩ (setCells_upd _ _ _ _)
  have := setCells_blk (sqL s) (i * 13) (L.flatMap sqL ++ tl) w hB
  rw [sq_put L tl i hi s] at this
  exact this
/-- A list of spans, with where each one's lists lie. -/
def zipQ : List Sp → (Nat → Pl) → List Sq
  | [], _ => []
  | a :: X, P => (a, P 0) :: zipQ X (fun i => P (i + 1))
theorem zipQ_len : ∀ (X : List Sp) (P : Nat → Pl), (zipQ X P).length = X.length
  | [], _ => rfl
  | a :: X, P => by rw [zipQ, List.length_cons, List.length_cons, zipQ_len X]
theorem zipQ_get : ∀ (X : List Sp) (P : Nat → Pl) (i : Nat) (h : i < (zipQ X P).length) (h' : i < X.length), (zipQ X P)[i] = (X[i], P i)
  | [], _, i, _, h' => by simp at h'
  | a :: X, P, 0, _, _ => rfl
  | a :: X, P, i + 1, h, h' => by
    have := zipQ_get X (fun i => P (i + 1)) i (by simpa [zipQ] using h) (by simpa using h')
    simpa [zipQ] using this
theorem zipQ_fst : ∀ (X : List Sp) (P : Nat → Pl), (zipQ X P).map (·.1) = X
  | [], _ => rfl
  | a :: X, P => by rw [zipQ, List.map_cons, zipQ_fst X]
theorem SpsAt.src {w : World} {ad : Option Addr} {n : Nat} {X : List Sp} {P : Nat → Pl} (h : SpsAt w ad n X P) (c : Nat) : Src Tryz.prog 13 22 (.slice ad n c) n ((zipQ X P).flatMap sqL) w := by
  by_cases hn : 0 < n
  · obtain ⟨b, off, rfl, hc⟩ := h.lies hn
    refine Src.ofSlice _ Tryz.underlying22 _ n c _ (by rw [sqF_len, zipQ_len, h.len]) ?_ (sqF_one _)
    intro j u hj
    have hjl : j < X.length * 13 := by
      have := (List.getElem?_eq_some_iff.mp hj).1
      rw [sqF_len, zipQ_len] at this
      exact this
    rw [Addr.add_lit]
    have e : j = j / 13 * 13 + j % 13 := by omega
    have h1 := sqF_get (zipQ X P) (j / 13) (by rw [zipQ_len]; omega) (j % 13) (by omega)
    rw [← e, hj, zipQ_get X P (j / 13) (by rw [zipQ_len]; omega) (by omega)] at h1
    have h2 := hc (j / 13) (by omega) (j % 13) u (by rw [← Array.getElem?_toList]; exact h1.symm)
    rw [Nat.add_assoc, ← e] at h2
    exact h2
  · obtain rfl : n = 0 := by omega
    obtain rfl : X = [] := List.eq_nil_of_length_eq_zero h.len
    cases ad with
    | none => exact Src.ofNil _ Tryz.underlying22 c
    | some a => exact Src.ofSlice _ Tryz.underlying22 a 0 c [] rfl (fun j u h => by simp at h) (fun u h => by cases h)
/-- A list's copy. -/
theorem wpList_appQ {ops : Array Oper} {rest : List Oper} {o : Oper} {a : Act} {Q : Exit → Act → World → Prop} (w : World) (hgd : o.guard = none) (s x : Operand)
    (ho : o.op = .call { callee := .builtin .append, args := #[s, x], argTypes := #[22, 22] })
    (ad : Option Addr) (n c : Nat) (X : List Sp) (P : Nat → Pl) (hs : a.eval s = .slice (some ⟨w.heap.size, 0, none⟩) 0 0) (hx : a.eval x = .slice ad n c) (hA : SpsAt w ad n X P) (hz : n * 168 ≤ 140737488351232)
    (h : ∀ ao cap w', n ≤ cap → cap ≤ maxLen → (0 < n → ∃ g, ao = some ⟨g, 0, none⟩ ∧ w.heap.size ≤ g ∧ RowQ w' g (zipQ X P)) → Below w.heap.size w w' → wpList Tryz.prog ops Q rest (a.put o.dst (.slice ao n cap)) w') : wpList Tryz.prog ops Q (o :: rest) a (w.alloc (.cells #[] 41)) := by
  obtain ⟨i0, hi0, hz0, hz1, hz2⟩ := info_parts infoQ
  have hb : Below w.heap.size w (w.alloc (.cells #[] 41)) := (Below.refl _ _).alloc (Nat.le_refl _) _
  have OW : (w.alloc (.cells #[] 41)).ownsRow w.heap.size 41 13 (.slice (some ⟨w.heap.size, 0, none⟩) 0 0) 0 [] := ⟨rfl, Or.inr ⟨w.heap.size, 0, #[], rfl, Nat.le_refl _, heap_alloc_new w _, Nat.le_refl _, Nat.zero_le _, rfl, rfl⟩⟩
  refine wpList_appW _ hgd s x 22 22 ho w.heap.size 41 i0 _ 13 168 Tryz.underlying22 hi0 hz0 hz1 hz2 rfl _ 0 [] hs OW _ n _ hx ((hA.below hb).src c) (by unfold maxLen; omega) (by omega) (by simp) ?_
  intro v1 w1 o1 g1 m1
  have hB : Below w.heap.size w w1 := (((Upd.refl (fun k => w.heap.size ≤ k) w).alloc (.cells #[] 41)).grown g1 (fun k hk e => by
      have : (Value.slice (some ⟨w.heap.size, 0, none⟩) 0 0).ownBlock = some k := e
      simp [Value.ownBlock] at this
      show w.heap.size ≤ k
      omega)).below (Nat.le_refl _) (fun k hk h => by omega)
  rw [List.nil_append, Nat.zero_add] at o1
  rcases o1.2 with ⟨rfl, h0⟩ | ⟨g, cap, cur, rfl, hbg, hg, hnc, hcm, hcs, ht⟩
  · subst h0
    exact h none 0 w1 (Nat.le_refl _) (Nat.zero_le _) (fun h => by omega) hB
  · refine h (some ⟨g, 0, none⟩) cap w1 hnc hcm (fun _ => ⟨g, rfl, hbg, cur.toList.drop (n * 13), ?_⟩) hB
    show w1.heap[g]? = _
    rw [hg, ← ht, List.take_append_drop]
end Go.Proofs.YtiflfapdffkcbaaGreatDoor
