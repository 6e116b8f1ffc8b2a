/-
  Merged: TJ, TL, TK, TM, TN, TO, TP.
-/
import Derived.Test.YtnffedmcblbkoaaGreatDoorYcq
import Derived.Test.YtnffedmcblbkoaaGreatDoorMwq
import Derived.Test.YtnffedmcblbkoaaGreatDoorZmq
import Derived.Test.YtnffedmcblbkoaaGreatDoorUAq
import Derived.Test.YtnffedmcblbkoaaGreatDoorQAq
import Derived.Test.YtnffedmcblbkoaaGreatDoorFXq
import Derived.Test.YtnffedmcblbkoaaGreatDoorFIq
import Derived.Test.YtnffedmcblbkoaaGreatDoorOZ
import Derived.Test.YtnffedmcblbkoaaGreatDoorTGq
import Derived.BigQuiet
namespace Go.Proofs.YtnffedmcblbkoaaGreatDoor
open Go Go.RowKit
set_option maxRecDepth 100000
section
variable {α : Type} {f : α → List Value} {s : Nat}
theorem flatG_len (hf : ∀ x, (f x).length = s) : ∀ L : List α, (L.flatMap f).length = L.length * s
 | [] => by simp
 | a :: r => by rw [List.flatMap_cons, List.length_append, hf, flatG_len hf r, List.length_cons, Nat.succ_mul]; omega
theorem flatG_get (hf : ∀ x, (f x).length = s) : ∀ (L : List α) (i : Nat) (hi : i < L.length) (j : Nat), j < s → (L.flatMap f)[i * s + j]? = (f L[i])[j]?
 | [], i, hi, _, _ => by simp at hi
 | a :: r, 0, _, j, hj => by
  rw [List.flatMap_cons, Nat.zero_mul, Nat.zero_add, List.getElem?_append_left (by rw [hf]; exact hj)]; rfl
 | a :: r, i + 1, hi, j, hj => by
  rw [List.flatMap_cons, List.getElem?_append_right (by rw [hf, Nat.succ_mul]; omega), hf, show (i + 1) * s + j - s = i * s + j by rw [Nat.succ_mul]; omega]
  exact flatG_get hf r i (by simpa using hi) j hj
theorem mulG {i n s : Nat} (hi : i < n) : i * s + s ≤ n * s := by
 have := Nat.mul_le_mul_right s (show i + 1 ≤ n from hi)
 rw [Nat.succ_mul] at this
 exact this
theorem flatG_put (hf : ∀ x, (f x).length = s) (L : List α) (rest : List Value) (i : Nat) (hi : i < L.length) (y : α) : putL (L.flatMap f ++ rest) (i * s) (f y) = (L.set i y).flatMap f ++ rest := by
 have hs : L = L.take i ++ L[i] :: L.drop (i + 1) := by simp
 have hy : L.set i y = L.take i ++ y :: L.drop (i + 1) := List.set_eq_take_append_cons_drop.trans (by simp [hi])
 have he : L.flatMap f ++ rest = (L.take i).flatMap f ++ (f L[i] ++ ((L.drop (i + 1)).flatMap f ++ rest)) := by
  conv => lhs; rw [hs]
  rw [List.flatMap_append, List.flatMap_cons, List.append_assoc, List.append_assoc]
 have hlen : ((L.take i).flatMap f).length = i * s := by rw [flatG_len hf, List.length_take, Nat.min_eq_left (by omega)]
 have hm := mulG (s := s) hi
 rw [putL_eq _ _ _ (by rw [List.length_append, flatG_len hf, hf]; omega), hy, List.flatMap_append, List.flatMap_cons, he]
 rw [List.take_append_of_le_length (by omega), List.take_of_length_le (by omega), hf]
 rw [show i * s + s = ((L.take i).flatMap f).length + (f L[i]).length by rw [hlen, hf], List.drop_append, List.drop_append]
 simp
theorem flatG_one (hf : ∀ x, (f x).length = s) (L : List α) (rest : List Value) (i : Nat) (hi : i < L.length) (j : Nat) (hj : j < s) (v : Value) (y : α) (hy : f y = (f L[i]).set j v) : (L.flatMap f ++ rest).set (i * s + j) v = (L.set i y).flatMap f ++ rest := by
 have hs : L = L.take i ++ L[i] :: L.drop (i + 1) := by simp
 have hy' : L.set i y = L.take i ++ y :: L.drop (i + 1) := List.set_eq_take_append_cons_drop.trans (by simp [hi])
 have he : L.flatMap f ++ rest = (L.take i).flatMap f ++ (f L[i] ++ ((L.drop (i + 1)).flatMap f ++ rest)) := by
  conv => lhs; rw [hs]
  rw [List.flatMap_append, List.flatMap_cons, List.append_assoc, List.append_assoc]
 have hlen : ((L.take i).flatMap f).length = i * s := by rw [flatG_len hf, List.length_take, Nat.min_eq_left (by omega)]
 rw [he, hy', List.flatMap_append, List.flatMap_cons, hy, List.set_append_right _ _ (by omega), hlen, Nat.add_sub_cancel_left, List.set_append_left _ _ (by rw [hf]; exact hj), List.append_assoc, List.append_assoc]
structure RwG (f : α → List Value) (s : Nat) (T : TypeId) (w : World) (g cap : Nat) (L : List α) : Prop where
 nc : L.length ≤ cap
 cm : cap ≤ maxLen
 blk : ∃ rest, Blk w g (L.flatMap f ++ rest).toArray T ∧ L.length * s + rest.length = cap * s
variable {T : TypeId} {w : World} {g cap : Nat} {L : List α}
theorem RwG.owns (h : RwG f s T w g cap L) (hf : ∀ x, (f x).length = s) {base : Nat} (hb : base ≤ g) : w.ownsRow base T s (.slice (some ⟨g, 0, none⟩) L.length cap) L.length (L.flatMap f) := by
 obtain ⟨rest, hB, hl⟩ := h.blk
 refine ⟨flatG_len hf L, Or.inr ⟨g, cap, _, rfl, hb, hB, h.nc, h.cm, ?_, ?_⟩⟩
 ·rw [List.size_toArray, List.length_append, flatG_len hf]; exact hl
 ·rw [← flatG_len hf L, List.take_append_of_le_length (Nat.le_refl _), List.take_length]
theorem RwG.of_owns {base : Nat} {v : Value} {n : Nat} (h : w.ownsRow base T s v n (L.flatMap f)) (hn : L.length = n) (hp : 0 < n) : ∃ g cap, v = .slice (some ⟨g, 0, none⟩) n cap ∧ base ≤ g ∧ RwG f s T w g cap L := by
 rcases h.2 with ⟨_, h0⟩ | ⟨g, cap, cur, rfl, hb, hh, hnc, hcm, hcs, ht⟩
 ·omega
 ·refine ⟨g, cap, rfl, hb, by omega, hcm, cur.toList.drop (n * s), ?_, ?_⟩
  ·show w.heap[g]? = _
   rw [hh, ← ht, List.take_append_drop]
  ·rw [List.length_drop, hn]
   have h1 : cur.toList.length = cap * s := by simpa using hcs
   have h2 := Nat.mul_le_mul_right s hnc
   omega
theorem RwG.upd {S : Nat → Prop} {w' : World} (h : RwG f s T w g cap L) (hu : Upd S w w') (hS : ¬ S g) : RwG f s T w' g cap L := by
 obtain ⟨rest, hB, hl⟩ := h.blk
 exact ⟨h.nc, h.cm, rest, hB.upd hu hS, hl⟩
theorem RwG.below {w' : World} (h : RwG f s T w g cap L) (hb : Below w.heap.size w w') : RwG f s T w' g cap L := by
 obtain ⟨rest, hB, hl⟩ := h.blk
 exact ⟨h.nc, h.cm, rest, hB.below hb hB.lt, hl⟩
theorem RwG.lt (h : RwG f s T w g cap L) : g < w.heap.size := by
 obtain ⟨rest, hB, _⟩ := h.blk
 exact hB.lt
theorem RwG.cell (h : RwG f s T w g cap L) (hf : ∀ x, (f x).length = s) (i : Nat) (hi : i < L.length) (j : Nat) {u : Value} (hu : (f L[i])[j]? = some u) : w.cell? ⟨g, i * s + j, none⟩ = some u := by
 obtain ⟨rest, hB, _⟩ := h.blk
 have hj : j < s := by have := (List.getElem?_eq_some_iff.mp hu).1; rw [hf] at this; exact this
 have hm := mulG (s := s) hi
 refine hB.cell _ ?_
 rw [List.getElem?_toArray, List.getElem?_append_left (by rw [flatG_len hf]; omega), flatG_get hf L i hi j hj]
 exact hu
theorem RwG.range (h : RwG f s T w g cap L) (hf : ∀ x, (f x).length = s) (i : Nat) (hi : i < L.length) : w.rangeAt g (i * s) (f L[i]) := fun j _ hv => h.cell hf i hi j hv
theorem RwG.free (h : RwG f s T w g cap L) (k : Nat) : w.frozen? ⟨g, k, none⟩ = false := by
 obtain ⟨rest, hB, _⟩ := h.blk
 exact hB.frozen k
theorem RwG.there (h : RwG f s T w g cap L) (hf : ∀ x, (f x).length = s) (i : Nat) (hi : i < L.length) : w.there g (i * s) s := by
 obtain ⟨rest, hB, _⟩ := h.blk
 have hm := mulG (s := s) hi
 exact Blk.there hB (i * s) s (by rw [List.length_append, flatG_len hf]; omega)
theorem RwG.set (h : RwG f s T w g cap L) (hf : ∀ x, (f x).length = s) (i : Nat) (hi : i < L.length) (y : α) : RwG f s T (w.setCells g (i * s) (f y)) g cap (L.set i y) := by
 obtain ⟨rest, hB, hl⟩ := h.blk
 refine ⟨by rw [List.length_set]; exact h.nc, h.cm, rest, ?_, by rw [List.length_set]; exact hl⟩
 have := setCells_blk (f y) (i * s) (L.flatMap f ++ rest) w hB
 rw [flatG_put hf L rest i hi y] at this
 exact this
theorem RwG.put (h : RwG f s T w g cap L) (hf : ∀ x, (f x).length = s) (i : Nat) (hi : i < L.length) (j : Nat) (hj : j < s) (v : Value) (y : α) (hy : f y = (f L[i]).set j v) : RwG f s T (w.setCell ⟨g, i * s + j, none⟩ v) g cap (L.set i y) := by
 obtain ⟨rest, hB, hl⟩ := h.blk
 refine ⟨by rw [List.length_set]; exact h.nc, h.cm, rest, ?_, by rw [List.length_set]; exact hl⟩
 have := hB.set (i * s + j) v
 rw [List.setIfInBounds_toArray, flatG_one hf L rest i hi j hj v y hy] at this
 exact this
end
end Go.Proofs.YtnffedmcblbkoaaGreatDoor
namespace Go.Proofs.YtnffedmcblbkoaaGreatDoor
set_option maxRecDepth 100000
section
variable {α : Type}
structure MidI (L M : List α) (k : Nat) : Prop where
 len : M.length = L.length + 1
 le : k ≤ L.length
 lo : ∀ j, j < k → M[j]? = L[j]?
 hi : ∀ j, k ≤ j → M[j + 1]? = L[j]?
theorem MidI.start (L : List α) (z : α) : MidI L (L ++ [z]) L.length :=
 ⟨by simp, Nat.le_refl _, fun j h => by rw [List.getElem?_append_left h], fun j h => by
  rw [List.getElem?_eq_none (by simp; omega), List.getElem?_eq_none h]⟩
theorem MidI.at_ {L M : List α} {k : Nat} (h : MidI L M (k + 1)) : ∃ (h1 : k < M.length) (h2 : k < L.length), M[k] = L[k] := by
 have h1 := h.len
 have h2 := h.le
 refine ⟨by omega, by omega, ?_⟩
 have := h.lo k (by omega)
 rw [List.getElem?_eq_getElem (by omega), List.getElem?_eq_getElem (by omega)] at this
 exact Option.some.inj this
theorem MidI.step {L M : List α} {k : Nat} (h : MidI L M (k + 1)) (hk : k < M.length) : MidI L (M.set (k + 1) M[k]) k := by
 obtain ⟨h1, h2, he⟩ := h.at_
 refine ⟨by rw [List.length_set]; exact h.len, by have := h.le; omega, fun j hj => ?_, fun j hj => ?_⟩
 ·rw [List.getElem?_set_ne (by omega)]
  exact h.lo j (by omega)
 ·by_cases e : j = k
  ·subst e
   rw [List.getElem?_set_self (by have := h.len; omega), he, List.getElem?_eq_getElem h2]
  ·rw [List.getElem?_set_ne (by omega)]
   exact h.hi j (by omega)
theorem MidI.done {L M : List α} {k : Nat} (h : MidI L M k) (c : α) : M.set k c = L.take k ++ c :: L.drop k := by
 have hl := h.len
 have hk := h.le
 refine List.ext_getElem? fun j => ?_
 by_cases e : j = k
 ·subst e
  rw [List.getElem?_set_self (by omega), List.getElem?_append_right (by simp; omega)]
  simp [Nat.min_eq_left hk]
 ·rw [List.getElem?_set_ne (fun h => e h.symm)]
  by_cases hj : j < k
  ·rw [h.lo j hj, List.getElem?_append_left (by simp; omega), List.getElem?_take_of_lt hj]
  ·obtain ⟨m, rfl⟩ : ∃ m, j = m + 1 := ⟨j - 1, by omega⟩
   rw [h.hi m (by omega), List.getElem?_append_right (by simp; omega), List.length_take, Nat.min_eq_left hk, show m + 1 - k = (m - k) + 1 by omega, List.getElem?_cons_succ, List.getElem?_drop]
   congr 1
   omega
theorem ins_perm (L : List α) (k : Nat) (c : α) : (L.take k ++ c :: L.drop k).Perm (L ++ [c]) := by
 refine List.perm_middle.trans ?_
 rw [List.take_append_drop]
 exact (List.perm_append_comm (l₁ := [c]) (l₂ := L))
theorem ins_strict {lt : α → α → Prop} (tr : ∀ a b c, lt a b → lt b c → lt a c) {L : List α} (hL : L.Pairwise lt) {x : α} {k : Nat} (hk : k ≤ L.length) (h1 : ∀ j (hj : j < L.length), k ≤ j → lt x L[j]) (h2 : ∀ m (hm : m < L.length), k = m + 1 → lt L[m] x) : (L.take k ++ x :: L.drop k).Pairwise lt := by
 have hp := List.pairwise_iff_getElem.1 hL
 have hlo : ∀ j (hj : j < L.length), j < k → lt L[j] x := fun j hj hjk => by
  by_cases e : k = j + 1
  ·exact h2 j hj e
  ·exact tr _ _ _ (hp j (k - 1) hj (by omega) (by omega)) (h2 (k - 1) (by omega) (by omega))
 rw [List.pairwise_append]
 refine ⟨hL.sublist (List.take_sublist _ _), List.pairwise_cons.2 ⟨fun b hb => ?_, hL.sublist (List.drop_sublist _ _)⟩, fun a ha b hb => ?_⟩
 ·obtain ⟨j, hj, rfl⟩ := List.mem_iff_getElem.1 hb
  rw [List.getElem_drop]
  exact h1 _ _ (by omega)
 ·obtain ⟨i, hi, rfl⟩ := List.mem_iff_getElem.1 ha
  rw [List.length_take] at hi
  rw [List.getElem_take]
  rcases List.mem_cons.1 hb with rfl | hb
  ·exact hlo i (by omega) (by omega)
  ·obtain ⟨j, hj, rfl⟩ := List.mem_iff_getElem.1 hb
   rw [List.getElem_drop]
   rw [List.length_drop] at hj
   exact hp i (k + j) (by omega) (by omega) (by omega)
theorem ins_sort {lt : α → α → Prop} (sy : ∀ a b, lt a b → ¬ lt b a) (tr : ∀ a b c, ¬ lt b a → ¬ lt c b → ¬ lt c a) {L : List α} (hL : L.Pairwise (fun a b => ¬ lt b a)) {x : α} {k : Nat} (hk : k ≤ L.length) (h1 : ∀ j (hj : j < L.length), k ≤ j → lt x L[j]) (h2 : ∀ m (hm : m < L.length), k = m + 1 → ¬ lt x L[m]) : (L.take k ++ x :: L.drop k).Pairwise (fun a b => ¬ lt b a) :=
 ins_strict (lt := fun a b => ¬ lt b a) (fun a b c h1 h2 => tr a b c h1 h2) hL hk (fun j hj hkj => sy _ _ (h1 j hj hkj)) h2
end
end Go.Proofs.YtnffedmcblbkoaaGreatDoor
namespace Go.Proofs.YtnffedmcblbkoaaGreatDoor
open Go.Shelf Go.RowKit
set_option maxRecDepth 100000
theorem wpList_appE {ops : Array Oper} {rest : List Oper} {o : Oper} {a : Act} {Q : Exit → Act → World → Prop} (W : World) (hgd : o.guard = none) (s x : Operand) (tx eT : TypeId)
  (ho : o.op = .call { callee := .builtin .append, args := #[s, x], argTypes := #[tx, tx] }) (i : TypeInfo) (z : Value) (size bytes : Nat) (hu : Tryz.prog.underlying tx = some (.slice eT)) (hi : Tryz.prog.info? eT = some i) (hz : i.zero = some z) (hsize : i.size = size) (hby : i.bytes = bytes) (hzs : z.cells.size = size)
  (ad : Option Addr) (n c : Nat) (xs : List Value) (b : Nat) (hb : b = W.heap.size) (hs : a.eval s = .slice (some ⟨b, 0, none⟩) 0 0) (hx : a.eval x = .slice ad n c) (hS : Src Tryz.prog size tx (.slice ad n c) n xs (W.alloc (.cells #[] eT))) (hn : n ≤ 2147483647) (hb2 : bytes ≤ 1000)
  (h : ∀ ao cap w', w'.ownsRow W.heap.size eT size (.slice ao n cap) n xs → Below W.heap.size W w' → wpList Tryz.prog ops Q rest (a.put o.dst (.slice ao n cap)) w') : wpList Tryz.prog ops Q (o :: rest) a (W.alloc (.cells #[] eT)) := by
 subst hb
 have OW : (W.alloc (.cells #[] eT)).ownsRow W.heap.size eT size (.slice (some ⟨W.heap.size, 0, none⟩) 0 0) 0 [] := ⟨by simp, Or.inr ⟨W.heap.size, 0, #[], rfl, Nat.le_refl _, heap_alloc_new W _, Nat.le_refl _, Nat.zero_le _, by simp, by simp⟩⟩
 refine wpList_appW _ hgd s x tx tx ho W.heap.size eT i z size bytes hu hi hz hsize hby hzs _ 0 [] hs OW _ n xs hx hS (by unfold maxLen; omega) ?_ (by simp) ?_
 ·have h1 : 0 + n + (0 + n) / 4 + 192 ≤ 3000000000 := by omega
  have h2 := Nat.mul_le_mul h1 hb2
  omega
 intro v1 w1 o1 g1 m1
 have hB : Below W.heap.size W w1 := (((Upd.refl (fun k => W.heap.size ≤ k) W).alloc (.cells #[] eT)).grown g1 (fun k hk e => by
   have : (Value.slice (some ⟨W.heap.size, 0, none⟩) 0 0).ownBlock = some k := e
   simp [Value.ownBlock] at this
   show W.heap.size ≤ k
   omega)).below (Nat.le_refl _) (fun k hk h => by omega)
 rw [List.nil_append, Nat.zero_add] at o1
 rcases o1.2 with ⟨rfl, h0⟩ | ⟨g, cap, cur, rfl, _⟩
 ·subst h0
  exact h none 0 w1 o1 hB
 ·exact h _ cap w1 o1 hB
theorem own_stay {w1 w5 : World} {base s n : Nat} {e : TypeId} {v : Value} {xs : List Value} (h : w1.ownsRow base e s v n xs) (h5 : ∀ k, base ≤ k → k < w1.heap.size → w5.heap[k]? = w1.heap[k]?) : w5.ownsRow base e s v n xs := by
 refine ⟨h.1, ?_⟩
 rcases h.2 with h0 | ⟨g, cap, cur, e1, hb, hh, hr⟩
 ·exact Or.inl h0
 ·exact Or.inr ⟨g, cap, cur, e1, hb, (h5 g hb (lt_of_block hh)).trans hh, hr⟩
theorem own_at {w : World} {base s n c : Nat} {e : TypeId} {ad : Option Addr} {xs : List Value} (h : w.ownsRow base e s (.slice ad n c) n xs) (hn : 0 < n) : ∃ g, ad = some ⟨g, 0, none⟩ ∧ ∀ j u, xs[j]? = some u → w.cell? ⟨g, j, none⟩ = some u := by
 rcases h.2 with ⟨e1, h0⟩ | ⟨g, cap, cur, e1, hb, hh, hnc, hcm, hcs, ht⟩
 ·omega
 ·injection e1 with e1 e2 e3
  refine ⟨g, e1, fun j u hj => blk_cell hh j ?_⟩
  have hl : j < n * s := by rw [← h.1]; exact (List.getElem?_eq_some_iff.mp hj).1
  rw [← ht, List.getElem?_take_of_lt hl] at hj
  rw [← Array.getElem?_toList]
  exact hj
theorem own_links {w : World} {base n c : Nat} {e : TypeId} {ad : Option Addr} {X : List Int} (h : w.ownsRow base e 1 (.slice ad n c) n (intsV .u64 X)) : HoldsV w ad n (intsV .u64 X) := by
 refine ⟨by have := h.1; omega, fun j u hj => ?_⟩
 have hl : j < n := by have := (List.getElem?_eq_some_iff.mp hj).1; have := h.1; omega
 obtain ⟨g, rfl, hc⟩ := own_at h (by omega)
 exact ⟨_, rfl, by rw [Addr.add_lit, Nat.zero_add]; exact hc j u hj⟩
theorem own_attrs {w : World} {base n c : Nat} {e : TypeId} {ad : Option Addr} {X : List AttrD} (h : w.ownsRow base e 4 (.slice ad n c) n (X.flatMap attrC)) : AttrsAt w ad n X := by
 have hl : X.length = n := by have := h.1; rw [flatG_len (f := attrC) (s := 4) (fun _ => rfl)] at this; omega
 refine ⟨hl, fun hn => ?_⟩
 obtain ⟨g, rfl, hc⟩ := own_at h hn
 refine ⟨g, 0, rfl, fun i hi => ?_⟩
 have k := fun j (hj : j < 4) u (hu : (attrC X[i])[j]? = some u) => hc (i * 4 + j) u (by rw [flatG_get (f := attrC) (s := 4) (fun _ => rfl) X i hi j hj]; exact hu)
 rw [Nat.zero_add]
 exact ⟨k 0 (by omega) _ rfl, k 1 (by omega) _ rfl, k 2 (by omega) _ rfl, k 3 (by omega) _ rfl⟩
theorem own_events {w : World} {base n c : Nat} {e : TypeId} {ad : Option Addr} {X : List EventD} (h : w.ownsRow base e 2 (.slice ad n c) n (X.flatMap eventC)) : EventsAt w ad n X := by
 have hl : X.length = n := by have := h.1; rw [flatG_len (f := eventC) (s := 2) (fun _ => rfl)] at this; omega
 refine ⟨hl, fun hn => ?_⟩
 obtain ⟨g, rfl, hc⟩ := own_at h hn
 refine ⟨g, 0, rfl, fun i hi => ?_⟩
 have k := fun j (hj : j < 2) u (hu : (eventC X[i])[j]? = some u) => hc (i * 2 + j) u (by rw [flatG_get (f := eventC) (s := 2) (fun _ => rfl) X i hi j hj]; exact hu)
 rw [Nat.zero_add]
 exact ⟨k 0 (by omega) _ rfl, k 1 (by omega) _ rfl⟩
theorem links_src {w : World} {ad : Option Addr} {n : Nat} {X : List Int} (h : HoldsV w ad n (intsV .u64 X)) (c : Nat) : Src Tryz.prog 1 30 (.slice ad n c) n (intsV .u64 X) w := by
 have hl : (intsV .u64 X).length = n := h.len
 cases ad with
 | none =>
  have h0 : n = 0 := by
   by_cases e : n = 0
   ·exact e
   ·obtain ⟨u, hu⟩ : ∃ u, (intsV .u64 X)[0]? = some u := ⟨_, List.getElem?_eq_getElem (by omega)⟩
    obtain ⟨a, ha, _⟩ := h.cells 0 u hu
    simp at ha
  subst h0
  rw [List.eq_nil_of_length_eq_zero hl]
  exact Src.ofNil _ Tryz.underlying30 c
 | some a =>
  refine Src.ofSlice _ Tryz.underlying30 a n c _ (by omega) (fun j u hj => ?_) (ints_oneCell _ _)
  obtain ⟨a', ha, hc⟩ := h.cells j u hj
  injection ha with ha
  subst ha
  exact hc
theorem attrs_src {w : World} {ad : Option Addr} {n : Nat} {X : List AttrD} (h : AttrsAt w ad n X) (c : Nat) : Src Tryz.prog 4 99 (.slice ad n c) n (X.flatMap attrC) w := by
 have hone : ∀ u ∈ X.flatMap attrC, u.oneCell' = true := fun u hu => by
  obtain ⟨x, _, hx⟩ := List.mem_flatMap.1 hu
  simp only [attrC, List.mem_cons, List.not_mem_nil, or_false] at hx
  rcases hx with rfl | rfl | rfl | rfl <;> rfl
 by_cases hn : 0 < n
 ·obtain ⟨b, off, rfl, hc⟩ := h.lies hn
  refine Src.ofSlice _ Tryz.underlying99 _ n c _ (by rw [flatG_len (f := attrC) (s := 4) (fun _ => rfl), h.len]) (fun j u hj => ?_) hone
  obtain ⟨i, k, hi, hk, e, hv⟩ := flat_at attrC 4 (fun _ => rfl) X j u hj
  subst e
  obtain ⟨k0, k1, k2, k3⟩ := hc i hi
  rw [Addr.add_lit]
  match k, hk, hv with
  | 0, _, hv => simp only [attrC, List.getElem?_cons_zero] at hv; obtain rfl := Option.some.inj hv; first | exact k0 | (rw [← Nat.add_assoc]; exact k0)
  | 1, _, hv => simp only [attrC, List.getElem?_cons_zero, List.getElem?_cons_succ] at hv; obtain rfl := Option.some.inj hv; first | exact k1 | (rw [← Nat.add_assoc]; exact k1)
  | 2, _, hv => simp only [attrC, List.getElem?_cons_zero, List.getElem?_cons_succ] at hv; obtain rfl := Option.some.inj hv; first | exact k2 | (rw [← Nat.add_assoc]; exact k2)
  | 3, _, hv => simp only [attrC, List.getElem?_cons_zero, List.getElem?_cons_succ] at hv; obtain rfl := Option.some.inj hv; first | exact k3 | (rw [← Nat.add_assoc]; exact k3)
  | k + 4, hk, _ => omega
 ·obtain rfl : n = 0 := by omega
  obtain rfl : X = [] := List.eq_nil_of_length_eq_zero h.len
  cases ad with
  | none => exact Src.ofNil _ Tryz.underlying99 c
  | some a => exact Src.ofSlice _ Tryz.underlying99 a 0 c [] rfl (fun j u h => by simp at h) (fun u h => by cases h)
theorem events_src {w : World} {ad : Option Addr} {n : Nat} {X : List EventD} (h : EventsAt w ad n X) (c : Nat) : Src Tryz.prog 2 100 (.slice ad n c) n (X.flatMap eventC) w := by
 have hone : ∀ u ∈ X.flatMap eventC, u.oneCell' = true := fun u hu => by
  obtain ⟨x, _, hx⟩ := List.mem_flatMap.1 hu
  simp only [eventC, List.mem_cons, List.not_mem_nil, or_false] at hx
  rcases hx with rfl | rfl <;> rfl
 by_cases hn : 0 < n
 ·obtain ⟨b, off, rfl, hc⟩ := h.lies hn
  refine Src.ofSlice _ Tryz.underlying100 _ n c _ (by rw [flatG_len (f := eventC) (s := 2) (fun _ => rfl), h.len]) (fun j u hj => ?_) hone
  obtain ⟨i, k, hi, hk, e, hv⟩ := flat_at eventC 2 (fun _ => rfl) X j u hj
  subst e
  obtain ⟨k0, k1⟩ := hc i hi
  rw [Addr.add_lit]
  match k, hk, hv with
  | 0, _, hv => simp only [eventC, List.getElem?_cons_zero] at hv; obtain rfl := Option.some.inj hv; first | exact k0 | (rw [← Nat.add_assoc]; exact k0)
  | 1, _, hv => simp only [eventC, List.getElem?_cons_zero, List.getElem?_cons_succ] at hv; obtain rfl := Option.some.inj hv; first | exact k1 | (rw [← Nat.add_assoc]; exact k1)
  | k + 2, hk, _ => omega
 ·obtain rfl : n = 0 := by omega
  obtain rfl : X = [] := List.eq_nil_of_length_eq_zero h.len
  cases ad with
  | none => exact Src.ofNil _ Tryz.underlying100 c
  | some a => exact Src.ofSlice _ Tryz.underlying100 a 0 c [] rfl (fun j u h => by simp at h) (fun u h => by cases h)
set_option maxHeartbeats 4000000 in
theorem rCloneL_any (a : Sp) (p : Pl) (w : World) (h : SpAt w a p) (hl : a.links.length ≤ 2147483647) (ha : a.attrs.length ≤ 2147483647) (he : a.events.length ≤ 2147483647) :
  Calls Tryz.prog 94 #[spV a p] w fun e w' => ∃ p', e = .returned (spV a p') ∧ (∀ w5, (∀ k, w.heap.size ≤ k → k < w'.heap.size → w5.heap[k]? = w'.heap[k]?) → SpAt w5 a p') ∧ Below w.heap.size w w' := by
 have B2 : Below w.heap.size w ((w.alloc (.cells #[.int .u64 a.hi, .int .u64 a.lo, .int .u64 a.id, .int .u64 a.par, .slice p.la a.links.length p.lc, .string a.svc, .string a.op, .int .i64 a.kind, .int .i64 a.status, .int .i64 a.start, .int .i64 a.fin, .slice p.aa a.attrs.length p.ac, .slice p.ea a.events.length p.ec] 102)).alloc (.cells #[.int .u64 0, .int .u64 0, .int .u64 0, .int .u64 0, .slice none 0 0, .string ⟨#[]⟩, .string ⟨#[]⟩, .int .i64 0, .int .i64 0, .int .i64 0, .int .i64 0, .slice none 0 0, .slice none 0 0] 102)) := ((Below.refl _ _).alloc (Nat.le_refl _) _).alloc (by simp) _
 obtain ⟨i1, hi1, z11, z12, z13⟩ := info_parts Tryz.info33
 obtain ⟨i2, hi2, z21, z22, z23⟩ := info_parts Tryz.info179
 obtain ⟨i3, hi3, z31, z32, z33⟩ := info_parts Tryz.info182
 have L1 := fun o => links_src (h.links.below (B2.alloc B2.size o)) p.lc
 have L2 := fun w' (hb : Below w.heap.size w w') o => attrs_src (h.attrs.below (hb.alloc hb.size o)) p.ac
 have L3 := fun w' (hb : Below w.heap.size w w') o => events_src (h.events.below (hb.alloc hb.size o)) p.ec
 have X0 : ((w.alloc (.cells #[.int .u64 a.hi, .int .u64 a.lo, .int .u64 a.id, .int .u64 a.par, .slice p.la a.links.length p.lc, .string a.svc, .string a.op, .int .i64 a.kind, .int .i64 a.status, .int .i64 a.start, .int .i64 a.fin, .slice p.aa a.attrs.length p.ac, .slice p.ea a.events.length p.ec] 102)).alloc (.cells #[.int .u64 0, .int .u64 0, .int .u64 0, .int .u64 0, .slice none 0 0, .string ⟨#[]⟩, .string ⟨#[]⟩, .int .i64 0, .int .i64 0, .int .i64 0, .int .i64 0, .slice none 0 0, .slice none 0 0] 102)).heap[w.heap.size]? = some (.cells #[.int .u64 a.hi, .int .u64 a.lo, .int .u64 a.id, .int .u64 a.par, .slice p.la a.links.length p.lc, .string a.svc, .string a.op, .int .i64 a.kind, .int .i64 a.status, .int .i64 a.start, .int .i64 a.fin, .slice p.aa a.attrs.length p.ac, .slice p.ea a.events.length p.ec] 102 (0, 0)) := (Below.heap_alloc _ _ _ (by simp)).trans (heap_alloc_new _ _)
 have R0 : ((w.alloc (.cells #[.int .u64 a.hi, .int .u64 a.lo, .int .u64 a.id, .int .u64 a.par, .slice p.la a.links.length p.lc, .string a.svc, .string a.op, .int .i64 a.kind, .int .i64 a.status, .int .i64 a.start, .int .i64 a.fin, .slice p.aa a.attrs.length p.ac, .slice p.ea a.events.length p.ec] 102)).alloc (.cells #[.int .u64 0, .int .u64 0, .int .u64 0, .int .u64 0, .slice none 0 0, .string ⟨#[]⟩, .string ⟨#[]⟩, .int .i64 0, .int .i64 0, .int .i64 0, .int .i64 0, .slice none 0 0, .slice none 0 0] 102)).heap[w.heap.size + 1]? = some (.cells #[.int .u64 0, .int .u64 0, .int .u64 0, .int .u64 0, .slice none 0 0, .string ⟨#[]⟩, .string ⟨#[]⟩, .int .i64 0, .int .i64 0, .int .i64 0, .int .i64 0, .slice none 0 0, .slice none 0 0] 102 (0, 0)) := alloc_at (by simp)
 have s1 := h.sl
 have s2 := h.sa
 have s3 := h.se
 have hne : w.heap.size + 1 ≠ w.heap.size := by omega
 clear h
 unfold spV spC
 go_enter Tryz.func94, Tryz.ntmps94
 go_wp2_with (first
  | (at_builtin; refine wpList_appE _ rfl _ _ 30 33 rfl i1 _ 1 _ Tryz.underlying30 hi1 z11 z12 z13 rfl p.la a.links.length p.lc _ _ (by simp) rfl rfl (L1 _) hl (by omega) ?_; clear L1; intro la lc w1 q1 b1; have H1 := fun w5 h5 => own_links (own_stay q1 (w5 := w5) h5); have X1 := (b1.block _ (lt_of_block X0)).trans X0; have R1 := (b1.block _ (lt_of_block R0)).trans R0; have c1 := blk_cell X1 4 rfl; have f1 := blk_free X1 4; have X1' := set_block X1 4 (.slice la a.links.length lc); rw [a13_4] at X1'; have R1' := (Below.heap_setCell w1 ⟨w.heap.size, 4, none⟩ (.slice la a.links.length lc) (w.heap.size + 1) hne).trans R1; have bw1 := B2.trans (b1.mono B2.size); have bw1' := bw1.setCell (p := ⟨w.heap.size, 4, none⟩) (Nat.le_refl _) (.slice la a.links.length lc); have c1' := blk_cell (Blk.alloc X1' (.cells #[] 179)) 11 rfl)
  | (at_builtin; refine wpList_appE _ rfl _ _ 99 179 rfl i2 _ 4 _ Tryz.underlying99 hi2 z21 z22 z23 rfl p.aa a.attrs.length p.ac _ _ (by simp) rfl rfl (L2 _ bw1' _) ha (by omega) ?_; clear L2; intro aa ac w2 q2 b2; have H2 := fun w5 h5 => own_attrs (own_stay q2 (w5 := w5) h5); have X2 := (b2.block _ (lt_of_block X1')).trans X1'; have R2 := (b2.block _ (lt_of_block R1')).trans R1'; have c2 := blk_cell X2 11 rfl; have f2 := blk_free X2 11; have X2' := set_block X2 11 (.slice aa a.attrs.length ac); rw [a13_11] at X2'; have R2' := (Below.heap_setCell w2 ⟨w.heap.size, 11, none⟩ (.slice aa a.attrs.length ac) (w.heap.size + 1) hne).trans R2; have bw2 := bw1'.trans (b2.mono bw1'.size); have bw2' := bw2.setCell (p := ⟨w.heap.size, 11, none⟩) (Nat.le_refl _) (.slice aa a.attrs.length ac); have c2' := blk_cell (Blk.alloc X2' (.cells #[] 182)) 12 rfl)
  | (at_builtin; refine wpList_appE _ rfl _ _ 100 182 rfl i3 _ 2 _ Tryz.underlying100 hi3 z31 z32 z33 rfl p.ea a.events.length p.ec _ _ (by simp) rfl rfl (L3 _ bw2' _) he (by omega) ?_; clear L3; intro ea ec w3 q3 b3; have H3 := fun w5 h5 => own_events (own_stay q3 (w5 := w5) h5); have X3 := (b3.block _ (lt_of_block X2')).trans X2'; have R3 := (b3.block _ (lt_of_block R2')).trans R2'; have c3 := blk_cell X3 12 rfl; have f3 := blk_free X3 12; have X3' := set_block X3 12 (.slice ea a.events.length ec); rw [a13_12] at X3'; have R3' := (Below.heap_setCell w3 ⟨w.heap.size, 12, none⟩ (.slice ea a.events.length ec) (w.heap.size + 1) hne).trans R3; have bw3 := bw2'.trans (b3.mono bw2'.size); have bw3' := bw3.setCell (p := ⟨w.heap.size, 12, none⟩) (Nat.le_refl _) (.slice ea a.events.length ec); have e0 := blk_cell X3' 0 rfl; have o0 := blk_cell R3' 0 rfl; have g0 := blk_free R3' 0; have e1 := blk_cell X3' 1 rfl; have o1 := blk_cell R3' 1 rfl; have g1 := blk_free R3' 1; have e2 := blk_cell X3' 2 rfl; have o2 := blk_cell R3' 2 rfl; have g2 := blk_free R3' 2; have e3 := blk_cell X3' 3 rfl; have o3 := blk_cell R3' 3 rfl; have g3 := blk_free R3' 3; have e4 := blk_cell X3' 4 rfl; have o4 := blk_cell R3' 4 rfl; have g4 := blk_free R3' 4; have e5 := blk_cell X3' 5 rfl; have o5 := blk_cell R3' 5 rfl; have g5 := blk_free R3' 5; have e6 := blk_cell X3' 6 rfl; have o6 := blk_cell R3' 6 rfl; have g6 := blk_free R3' 6; have e7 := blk_cell X3' 7 rfl; have o7 := blk_cell R3' 7 rfl; have g7 := blk_free R3' 7; have e8 := blk_cell X3' 8 rfl; have o8 := blk_cell R3' 8 rfl; have g8 := blk_free R3' 8; have e9 := blk_cell X3' 9 rfl; have o9 := blk_cell R3' 9 rfl; have g9 := blk_free R3' 9; have e10 := blk_cell X3' 10 rfl; have o10 := blk_cell R3' 10 rfl; have g10 := blk_free R3' 10; have e11 := blk_cell X3' 11 rfl; have o11 := blk_cell R3' 11 rfl; have g11 := blk_free R3' 11; have e12 := blk_cell X3' 12 rfl; have o12 := blk_cell R3' 12 rfl; have g12 := blk_free R3' 12))
 (try simp only [Exit.inBlock, Exit.then])
 obtain ⟨W, hW⟩ : ∃ W, w3.setCell ⟨w.heap.size, 12, none⟩ (.slice ea a.events.length ec) = W := ⟨_, rfl⟩
 rw [hW] at X3' R3' bw3' ⊢
 rw [set13_eq W (w.heap.size + 1) 102 _ _ _ _ _ _ _ _ _ _ _ _ _ _ _ _ _ _ _ _ _ _ _ _ _ _ R3']
 have hrow := setRow_heap W (w.heap.size + 1) _ #[.int .u64 a.hi, .int .u64 a.lo, .int .u64 a.id, .int .u64 a.par, .slice la a.links.length lc, .string a.svc, .string a.op, .int .i64 a.kind, .int .i64 a.status, .int .i64 a.start, .int .i64 a.fin, .slice aa a.attrs.length ac, .slice ea a.events.length ec] 102 (0, 0) R3'
 have hld := run_loadVar_row (P := Tryz.prog) (W.setRow (w.heap.size + 1) #[.int .u64 a.hi, .int .u64 a.lo, .int .u64 a.id, .int .u64 a.par, .slice la a.links.length lc, .string a.svc, .string a.op, .int .i64 a.kind, .int .i64 a.status, .int .i64 a.start, .int .i64 a.fin, .slice aa a.attrs.length ac, .slice ea a.events.length ec]) (w.heap.size + 1) 102 102 #[.int .u64 a.hi, .int .u64 a.lo, .int .u64 a.id, .int .u64 a.par, .slice la a.links.length lc, .string a.svc, .string a.op, .int .i64 a.kind, .int .i64 a.status, .int .i64 a.start, .int .i64 a.fin, .slice aa a.attrs.length ac, .slice ea a.events.length ec] (0, 0) _ hrow Tryz.underlying102 rfl Tryz.info102
 have z1 := b1.size
 have z2 := b2.size
 have z3 := b3.size
 simp at z1 z2 z3
 have k3 : ∀ k, w.heap.size + 2 ≤ k → (W.setRow (w.heap.size + 1) #[.int .u64 a.hi, .int .u64 a.lo, .int .u64 a.id, .int .u64 a.par, .slice la a.links.length lc, .string a.svc, .string a.op, .int .i64 a.kind, .int .i64 a.status, .int .i64 a.start, .int .i64 a.fin, .slice aa a.attrs.length ac, .slice ea a.events.length ec]).heap[k]? = w3.heap[k]? := fun k hk => by
  rw [setRow_other W _ k _ (by omega), ← hW]; exact Below.heap_setCell w3 ⟨w.heap.size, 12, none⟩ _ k (by simp; omega)
 have k2 : ∀ k, w.heap.size + 2 ≤ k → k < w2.heap.size → (W.setRow (w.heap.size + 1) #[.int .u64 a.hi, .int .u64 a.lo, .int .u64 a.id, .int .u64 a.par, .slice la a.links.length lc, .string a.svc, .string a.op, .int .i64 a.kind, .int .i64 a.status, .int .i64 a.start, .int .i64 a.fin, .slice aa a.attrs.length ac, .slice ea a.events.length ec]).heap[k]? = w2.heap[k]? := fun k hk hk2 => by
  rw [k3 k hk, b3.block k (by simpa using hk2)]; exact Below.heap_setCell w2 ⟨w.heap.size, 11, none⟩ _ k (by simp; omega)
 have k1 : ∀ k, w.heap.size + 2 ≤ k → k < w1.heap.size → (W.setRow (w.heap.size + 1) #[.int .u64 a.hi, .int .u64 a.lo, .int .u64 a.id, .int .u64 a.par, .slice la a.links.length lc, .string a.svc, .string a.op, .int .i64 a.kind, .int .i64 a.status, .int .i64 a.start, .int .i64 a.fin, .slice aa a.attrs.length ac, .slice ea a.events.length ec]).heap[k]? = w1.heap[k]? := fun k hk hk2 => by
  rw [k2 k hk (by omega), b2.block k (by simpa using hk2)]; exact Below.heap_setCell w1 ⟨w.heap.size, 4, none⟩ _ k (by simp; omega)
 have zW : (W.setRow (w.heap.size + 1) #[.int .u64 a.hi, .int .u64 a.lo, .int .u64 a.id, .int .u64 a.par, .slice la a.links.length lc, .string a.svc, .string a.op, .int .i64 a.kind, .int .i64 a.status, .int .i64 a.start, .int .i64 a.fin, .slice aa a.attrs.length ac, .slice ea a.events.length ec]).heap.size = w3.heap.size := by rw [← hW]; simp [World.setRow]
 have f1 := fun w5 (h5 : ∀ k, w.heap.size ≤ k → k < (W.setRow (w.heap.size + 1) #[.int .u64 a.hi, .int .u64 a.lo, .int .u64 a.id, .int .u64 a.par, .slice la a.links.length lc, .string a.svc, .string a.op, .int .i64 a.kind, .int .i64 a.status, .int .i64 a.start, .int .i64 a.fin, .slice aa a.attrs.length ac, .slice ea a.events.length ec]).heap.size → w5.heap[k]? = (W.setRow (w.heap.size + 1) #[.int .u64 a.hi, .int .u64 a.lo, .int .u64 a.id, .int .u64 a.par, .slice la a.links.length lc, .string a.svc, .string a.op, .int .i64 a.kind, .int .i64 a.status, .int .i64 a.start, .int .i64 a.fin, .slice aa a.attrs.length ac, .slice ea a.events.length ec]).heap[k]?) => H1 w5 (fun k hk hk' => (h5 k (by simp at hk; omega) (by omega)).trans (k1 k (by simp at hk; omega) hk'))
 have f2 := fun w5 (h5 : ∀ k, w.heap.size ≤ k → k < (W.setRow (w.heap.size + 1) #[.int .u64 a.hi, .int .u64 a.lo, .int .u64 a.id, .int .u64 a.par, .slice la a.links.length lc, .string a.svc, .string a.op, .int .i64 a.kind, .int .i64 a.status, .int .i64 a.start, .int .i64 a.fin, .slice aa a.attrs.length ac, .slice ea a.events.length ec]).heap.size → w5.heap[k]? = (W.setRow (w.heap.size + 1) #[.int .u64 a.hi, .int .u64 a.lo, .int .u64 a.id, .int .u64 a.par, .slice la a.links.length lc, .string a.svc, .string a.op, .int .i64 a.kind, .int .i64 a.status, .int .i64 a.start, .int .i64 a.fin, .slice aa a.attrs.length ac, .slice ea a.events.length ec]).heap[k]?) => H2 w5 (fun k hk hk' => (h5 k (by simp at hk; omega) (by omega)).trans (k2 k (by simp at hk; omega) hk'))
 have f3 := fun w5 (h5 : ∀ k, w.heap.size ≤ k → k < (W.setRow (w.heap.size + 1) #[.int .u64 a.hi, .int .u64 a.lo, .int .u64 a.id, .int .u64 a.par, .slice la a.links.length lc, .string a.svc, .string a.op, .int .i64 a.kind, .int .i64 a.status, .int .i64 a.start, .int .i64 a.fin, .slice aa a.attrs.length ac, .slice ea a.events.length ec]).heap.size → w5.heap[k]? = (W.setRow (w.heap.size + 1) #[.int .u64 a.hi, .int .u64 a.lo, .int .u64 a.id, .int .u64 a.par, .slice la a.links.length lc, .string a.svc, .string a.op, .int .i64 a.kind, .int .i64 a.status, .int .i64 a.start, .int .i64 a.fin, .slice aa a.attrs.length ac, .slice ea a.events.length ec]).heap[k]?) => H3 w5 (fun k hk hk' => (h5 k (by simp at hk; omega) (by omega)).trans (k3 k (by simp at hk; omega)))
 refine bodyPost_ret (v := .agg #[.int .u64 a.hi, .int .u64 a.lo, .int .u64 a.id, .int .u64 a.par, .slice la a.links.length lc, .string a.svc, .string a.op, .int .i64 a.kind, .int .i64 a.status, .int .i64 a.start, .int .i64 a.fin, .slice aa a.attrs.length ac, .slice ea a.events.length ec]) ?_ rfl ⟨⟨la, lc, aa, ac, ea, ec⟩, rfl, (fun w5 h5 => ⟨f1 w5 h5, f2 w5 h5, f3 w5 h5, s1, s2, s3⟩), below_setRow bw3' (by omega) _⟩
 rw [results_cell1 rfl]
 simp [asAddr, Result.andThen, hld]
theorem rClone_any (a : Sp) (p : Pl) (w : World) (h : SpAt w a p) (hl : a.links.length ≤ 1000) (ha : a.attrs.length ≤ 1000) (he : a.events.length ≤ 1000) :
  Calls Tryz.prog 94 #[spV a p] w fun e w' => ∃ p', e = .returned (spV a p') ∧ (∀ w5, (∀ k, w.heap.size ≤ k → k < w'.heap.size → w5.heap[k]? = w'.heap[k]?) → SpAt w5 a p') ∧ Below w.heap.size w w' :=
 rCloneL_any a p w h (by omega) (by omega) (by omega)
end Go.Proofs.YtnffedmcblbkoaaGreatDoor
namespace Go.Proofs.YtnffedmcblbkoaaGreatDoor
open Go Go.RowKit
set_option maxRecDepth 100000
structure FSp (w : World) (f : Nat) (ad : Option Addr) (cap : Nat) (L : List Sq) : Prop where
 head : w.cell? ⟨f, 0, none⟩ = some (.slice ad L.length cap)
 row : 0 < L.length → ∃ g, ad = some ⟨g, 0, none⟩ ∧ RwG sqL 13 102 w g cap L
 rise : (L.map (·.1)).Pairwise (fun a b => a.id < b.id)
 len : L.length ≤ 1000
 pos : ∀ x ∈ L, x.1.id ≠ 0
theorem FSp.idpar {w : World} {f : Nat} {ad : Option Addr} {cap : Nat} {L : List Sq} (h : FSp w f ad cap L) (i : Nat) (hi : i < L.length) : ∃ g, ad = some ⟨g, 0, none⟩ ∧ w.cell? ⟨g, i * 13 + 2, none⟩ = some (.int .u64 L[i].1.id) ∧ w.cell? ⟨g, i * 13 + 3, none⟩ = some (.int .u64 L[i].1.par) := by
 obtain ⟨g, e, hr⟩ := h.row (by omega)
 exact ⟨g, e, hr.cell sqL_len i hi 2 rfl, hr.cell sqL_len i hi 3 rfl⟩
theorem FSp.idx_is {w : World} {f : Nat} {ad : Option Addr} {cap : Nat} {L : List Sq} (h : FSp w f ad cap L) (id : Int) (i : Nat) (hi : i < L.length) (e : L[i].1.id = id) : idxI (zs (L.map (·.1))) id = (i : Int) := by
 have hl : i < (zs (L.map (·.1))).length := by rw [zs_len, List.length_map]; exact hi
 refine idx_found (rise_zs h.rise) hl ?_
 simp [zs, ndOf, e]
theorem FSp.idx_no {L : List Sq} (id : Int) (hn : ∀ i (hi : i < L.length), L[i].1.id ≠ id) : idxI (zs (L.map (·.1))) id = -1 := by
 refine idx_none fun i hi => ?_
 have hi' : i < L.length := by rw [zs_len, List.length_map] at hi; exact hi
 have := hn i hi'
 simpa [zs, ndOf] using this
def FindI (L : List Sq) (id : Int) (lo hi : Nat) : Prop := ∀ j (hj : j < L.length), (j < lo → L[j].1.id < id) ∧ (hi ≤ j → id ≤ L[j].1.id)
theorem rise_at {L : List Sq} (h : (L.map (·.1)).Pairwise (fun a b => a.id < b.id)) {i j : Nat} (hi : i < L.length) (hj : j < L.length) (hij : i < j) : L[i].1.id < L[j].1.id := by
 have := List.pairwise_iff_getElem.1 h i j (by simpa using hi) (by simpa using hj) hij
 simpa using this
theorem rise_le {L : List Sq} (h : (L.map (·.1)).Pairwise (fun a b => a.id < b.id)) {i j : Nat} (hi : i < L.length) (hj : j < L.length) (hij : i ≤ j) : L[i].1.id ≤ L[j].1.id := by
 by_cases e : i = j
 ·subst e; exact Int.le_refl _
 ·exact Int.le_of_lt (rise_at h hi hj (by omega))
set_option maxHeartbeats 1000000 in
theorem rFind_any (f : Nat) (ad : Option Addr) (cap : Nat) (L : List Sq) (id : Int) (w : World) (h : FSp w f ad cap L) :
  Calls Tryz.prog 95 #[.pointer (some ⟨f, 0, none⟩), .int .u64 id] w fun e w' => e = .returned (.int .i64 (idxI (zs (L.map (·.1))) id)) ∧ w' = w := by
 have H : Hid (FSp w f ad cap L) := h
 have hf := h.head
 have hl := h.len
 obtain ⟨n, hn⟩ : ∃ n, L.length = n := ⟨_, rfl⟩
 have HN : Hid (L.length = n) := hn
 rw [hn] at hf hl
 obtain ⟨R, hR⟩ : ∃ R, idxI (zs (L.map (·.1))) id = R := ⟨_, rfl⟩
 have HR : Hid (idxI (zs (L.map (·.1))) id = R) := hR
 rw [hR]
 have H0 : Hid (FindI L id 0 n) := fun j hj => ⟨fun h => by omega, fun h => by omega⟩
 clear h hn hR
 have hn1 : (n : Int) ≤ 1000 := by omega
 go_enter Tryz.func95, Tryz.ntmps95
 go_wp2
 go_loop [5, 6] (fun a b => ∃ lo hi : Nat, a = .int .i64 lo ∧ b = .int .i64 hi ∧ lo ≤ hi ∧ hi ≤ n ∧ Hid (FindI L id lo hi)) (fun a b => ((intOf b) - (intOf a)).toNat)
 case atStart => exact ⟨0, n, rfl, rfl, by omega, by omega, H0⟩
 case round =>
  obtain ⟨lo, hi, rfl, rfl, h1, h2, HI⟩ := hrel
  by_cases hlt : lo < hi
  ·have hlt' : (lo : Int) < (hi : Int) := by omega
   obtain ⟨m, hm⟩ : ∃ m, (lo + hi) / 2 = m := ⟨_, rfl⟩
   have hmi : ((lo : Int) + (hi : Int)) / 2 = (m : Int) := by omega
   have hmn : m < n := by omega
   have hm1 : lo ≤ m := by omega
   have hm2 : m < hi := by omega
   have hmn' : (m : Int) < (n : Int) := by omega
   have hmL : m < L.length := by rw [HN.out]; exact hmn
   obtain ⟨g, rfl, c2, _⟩ := H.out.idpar m hmL
   obtain ⟨x, hx⟩ : ∃ x, L[m].1.id = x := ⟨_, rfl⟩
   rw [hx] at c2
   clear hm
   by_cases hc : x < id
   ·have FIN : Hid (FindI L id (m + 1) hi) := fun j hj => ⟨fun h => by
     have := rise_le H.out.rise hj hmL (by omega)
     omega, fun h => (HI.out j hj).2 h⟩
    clear HI hx
    go_wp2
    go_round
    case rel => exact ⟨m + 1, hi, by go_num, rfl, by omega, by omega, FIN⟩
    case measure => simp [intOf]; omega
   ·have FIN : Hid (FindI L id lo m) := fun j hj => ⟨fun h => (HI.out j hj).1 h, fun h => by
     have := rise_le H.out.rise hmL hj (by omega)
     omega⟩
    clear HI hx
    go_wp2
    go_round
    case rel => exact ⟨lo, m, rfl, by rw [hmi], by omega, by omega, FIN⟩
    case measure => simp [intOf]; omega
  ·obtain rfl : lo = hi := by omega
   have hlt' : ¬ (lo : Int) < (lo : Int) := by omega
   by_cases hln : lo < n
   ·have hln' : (lo : Int) < (n : Int) := by omega
    have hlL : lo < L.length := by rw [HN.out]; exact hln
    obtain ⟨g, rfl, c2, _⟩ := H.out.idpar lo hlL
    obtain ⟨x, hx⟩ : ∃ x, L[lo].1.id = x := ⟨_, rfl⟩
    rw [hx] at c2
    by_cases he : x = id
    ·have FIN : Hid (R = (lo : Int)) := by
      show R = _
      rw [← HR.out]; exact H.out.idx_is id lo hlL (hx.trans he)
     have he' : (x == id) = true := by simpa using he
     clear HI hx
     go_wp2
     go_ret
     exact ⟨ret_int FIN.out.symm, rfl⟩
    ·have FIN : Hid (R = -1) := by
      show R = _
      rw [← HR.out]
      refine FSp.idx_no id fun i hi e => ?_
      by_cases h3 : i < lo
      ·have := (HI.out i hi).1 h3
       omega
      ·have h4 := (HI.out lo hlL).2 (Nat.le_refl _)
       have h5 := rise_le H.out.rise hlL hi (by omega)
       omega
     have he' : (x == id) = false := by simpa using he
     clear HI hx
     go_wp2
     go_ret
     exact ⟨ret_int FIN.out.symm, rfl⟩
   ·have hln' : ¬ (lo : Int) < (n : Int) := by omega
    have FIN : Hid (R = -1) := by
     show R = _
     rw [← HR.out]
     refine FSp.idx_no id fun i hi e => ?_
     have := (HI.out i hi).1 (by have := HN.out; omega)
     omega
    go_wp2
    go_ret
    exact ⟨ret_int FIN.out.symm, rfl⟩
theorem rNamed_any (f : Nat) (ad : Option Addr) (cap : Nat) (L : List Sq) (k : Nat) (w : World) (h : FSp w f ad cap L) (hk : k < L.length) :
  Calls Tryz.prog 59 #[.pointer (some ⟨f, 0, none⟩), .int .i64 k] w fun e w' => e = .returned (.int .i64 ((nmY (L.map (·.1))).getD k 0)) ∧ w' = w := by
 have hkY : k < (L.map (·.1)).length := by rw [List.length_map]; exact hk
 have e := nmY_at (L.map (·.1)) k hkY
 rw [List.getElem_map] at e
 obtain ⟨g, rfl, -, c3⟩ := h.idpar k hk
 have hf := h.head
 have hl := h.len
 have FI := rFind_any f _ cap L L[k].1.par w h
 have HZ : Hid (L[k].1.par = 0 → idxI (zs (L.map (·.1))) L[k].1.par = -1) := fun e => by
  rw [e]
  refine FSp.idx_no 0 fun i hi => h.pos _ (List.getElem_mem hi)
 rw [e]
 generalize L[k].1.par = x at *
 generalize idxI (zs (L.map (·.1))) x = R at *
 generalize L.length = n at *
 clear h e hkY
 have hk' : (k : Int) < (n : Int) := by omega
 by_cases hx : x = 0
 ·have FIN : Hid (R = -1) := HZ.out hx
  subst hx
  clear FI
  go_enter Tryz.func59, Tryz.ntmps59
  go_wp2
  go_ret
  exact ⟨ret_int FIN.out.symm, rfl⟩
 ·have hx' : (x == 0) = false := by simpa using hx
  clear hx
  go_enter Tryz.func59, Tryz.ntmps59
  go_wp2_with (go_at_call 95; refine FI.mono ?_; clear FI; rintro e w' ⟨rfl, hw'⟩; obtain rfl := hw'.symm; clear hw')
  go_ret
  exact ⟨rfl, rfl⟩
structure WayL (U : List Int) (n k t : Nat) (v : Int) (b : Bool) : Prop where
 way : OnWay U n k (t + 1)
 at_ : v = upN U (t + 1) k
 lo : -1 ≤ v
 hi : v < n
 least : b = true ↔ ∀ j, 0 < j → j < t + 1 → (k : Int) ≤ upN U j k
def RingP (U : List Int) (n k : Nat) (w : World) (e : Ending) (w' : World) : Prop := ∃ b c, e = .returned (.tuple #[.bool b, .bool c]) ∧ Hid ((b && c) = true ↔ LeastOwn U n k) ∧ w' = w
theorem WayL.none {U : List Int} {n k t : Nat} {b : Bool} (h : WayL U n k t (-1) b) : ¬ ∃ p, Ring U n k p := fun ⟨p, hp⟩ => by
 have h1 := (hp.inn (q := upN U (t + 1) k) ⟨_, rfl⟩).1
 have h2 := h.at_
 omega
theorem WayL.far {U : List Int} {n k t : Nat} {a : Int} {b : Bool} (h : WayL U n k t a b) (ht : n < t) : ¬ ∃ p, Ring U n k p := fun ⟨p, hp⟩ => by
 have h1 := hp.le
 exact (h.way p hp.pos (by omega)).2.2 hp.back
theorem WayL.ring {U : List Int} {n k t : Nat} {b : Bool} (h : WayL U n k t (k : Int) b) (hk : k < n) : (b = true ↔ LeastOwn U n k) := by
 have hR : Ring U n k (t + 1) := by
  refine ⟨by omega, h.at_.symm, fun j hj => ?_, fun j h1 h2 => (h.way j h1 h2).2.2⟩
  by_cases e : j = 0
  ·subst e
   simp only [upN]
   omega
  ·exact ⟨(h.way j (by omega) hj).1, (h.way j (by omega) hj).2.1⟩
 rw [h.least]
 constructor
 ·intro hl
  refine ⟨⟨_, hR⟩, fun j => ?_⟩
  obtain ⟨s, s1, s2⟩ := hR.in_ j
  rw [s2]
  by_cases e : s = 0
  ·subst e
   simp only [upN]
   exact Int.le_refl _
  ·exact hl s (by omega) s1
 ·intro hl j _ _
  exact hl.2 j
theorem WayL.next {U : List Int} {n k t q : Nat} {b : Bool} (h : WayL U n k t (q : Int) b) (hq : q ≠ k) (hr : -1 ≤ U.getD q 0 ∧ U.getD q 0 < n) : WayL U n k (t + 1) (U.getD q 0) (b && !decide (q < k)) := by
 have hqa := h.at_
 have hqn := h.hi
 refine ⟨fun j h1 h2 => ?_, ?_, hr.1, hr.2, ?_⟩
 ·by_cases e : j = t + 1
  ·subst e
   rw [← hqa]
   omega
  ·exact h.way j h1 (by omega)
 ·rw [upN_succ, ← hqa]; rfl
 ·rw [Bool.and_eq_true, h.least]
  constructor
  ·rintro ⟨h1, h2⟩ j h3 h4
   by_cases e : j = t + 1
   ·subst e
    rw [← hqa]
    simp at h2
    omega
   ·exact h1 j h3 (by omega)
  ·intro hh
   refine ⟨fun j h1 h2 => hh j h1 (by omega), ?_⟩
   have := hh (t + 1) (by omega) (by omega)
   rw [← hqa] at this
   simp
   omega
set_option maxHeartbeats 1000000 in
theorem rRing_any (f : Nat) (ad : Option Addr) (cap : Nat) (L : List Sq) (k : Nat) (w : World) (h : FSp w f ad cap L) (hk : k < L.length) :
  Calls Tryz.prog 58 #[.pointer (some ⟨f, 0, none⟩), .int .i64 k] w (RingP (nmY (L.map (·.1))) L.length k w) := by
 obtain ⟨U, hU⟩ : ∃ U, nmY (L.map (·.1)) = U := ⟨_, rfl⟩
 have NM : Hid (∀ q, q < L.length → Calls Tryz.prog 59 #[.pointer (some ⟨f, 0, none⟩), .int .i64 q] w fun e w' => e = .returned (.int .i64 (U.getD q 0)) ∧ w' = w) := fun q hq => by rw [← hU]; exact rNamed_any f ad cap L q w h hq
 have HUr : Hid (∀ q, q < L.length → -1 ≤ U.getD q 0 ∧ U.getD q 0 < (L.length : Int)) := fun q hq => by
  have hq' : q < U.length := by rw [← hU, nmY_len, List.length_map]; exact hq
  have := nmY_range (L.map (·.1)) (U.getD q 0) (by
   rw [hU, List.getD_eq_getElem?_getD, List.getElem?_eq_getElem hq']
   exact List.getElem_mem hq')
  rw [List.length_map] at this
  exact this
 have hf := h.head
 have hl := h.len
 rw [hU]
 clear h hU
 generalize L.length = n at *
 have W0 : Hid (∀ v, v = U.getD k 0 → WayL U n k 0 v true) := fun v hv => by
  subst hv
  exact ⟨fun j h1 h2 => by omega, by rw [upN_succ]; simp [upN], (HUr.out k hk).1, (HUr.out k hk).2, by simp; intro j h1 h2; omega⟩
 have HE : Hid (∀ b c, ((b && c) = true ↔ LeastOwn U n k) → RingP U n k w (.returned (.tuple #[.bool b, .bool c])) w) := fun b c hh => ⟨b, c, rfl, hh, rfl⟩
 have HNO : Hid ((¬ ∃ p, Ring U n k p) → RingP U n k w (.returned (.tuple #[.bool false, .bool false])) w) := fun hh => ⟨false, false, rfl, ⟨fun e => by simp at e, fun e => absurd e.1 hh⟩, rfl⟩
 generalize RingP U n k w = RR at *
 have hn1 : (n : Int) ≤ 1000 := by omega
 have hkn : (k : Int) < (n : Int) := by omega
 have N0 := NM.out k hk
 obtain ⟨u0, hu0⟩ : ∃ u0, U.getD k 0 = u0 := ⟨_, rfl⟩
 rw [hu0] at N0
 have W1 : Hid (WayL U n k 0 u0 true) := W0.out u0 hu0.symm
 clear W0 hu0
 go_enter Tryz.func58, Tryz.ntmps58
 go_wp2_with (go_at_call 59; refine N0.mono ?_; clear N0; rintro e w' ⟨rfl, hw'⟩; obtain rfl := hw'.symm; clear hw')
 go_loop [6, 7, 8] (fun z6 z7 z8 => ∃ (t : Nat) (v : Int) (b : Bool), z6 = .bool b ∧ z7 = .int .i64 v ∧ z8 = .int .i64 t ∧ t ≤ n + 1 ∧ Hid (WayL U n k t v b)) (fun _ _ z8 => n + 2 - (intOf z8).toNat)
 case atStart => exact ⟨0, u0, true, rfl, rfl, rfl, by omega, W1⟩
 case round =>
  obtain ⟨t, v, b, rfl, rfl, rfl, ht, HW⟩ := hrel
  by_cases htn : t ≤ n
  ·have htn' : (t : Int) ≤ (n : Int) := by omega
   have htd : decide ((t : Int) ≤ (n : Int)) = true := decide_eq_true htn'
   have vlo := HW.out.lo
   have vhi := HW.out.hi
   by_cases hv : v = -1
   ·subst hv
    have FIN := HNO.out HW.out.none
    go_wp2
    exact FIN
   ·obtain ⟨q, rfl⟩ : ∃ q : Nat, v = (q : Int) := ⟨v.toNat, by omega⟩
    have hq0 : (0 : Int) ≤ (q : Int) := by omega
    have hqn : q < n := by omega
    by_cases hqk : q = k
    ·subst hqk
     have FIN := HE.out true b (by rw [Bool.true_and]; exact HW.out.ring hk)
     clear HE HNO
     go_wp2
     exact FIN
    ·have hqk' : ((q : Int) == (k : Int)) = false := by simp; omega
     have NQ := NM.out q hqn
     have HX : Hid (WayL U n k (t + 1) (U.getD q 0) (b && !decide (q < k))) := HW.out.next hqk (HUr.out q hqn)
     generalize U.getD q 0 = v2 at NQ HX
     by_cases hlt : q < k
     ·have hlt' : (q : Int) < (k : Int) := by omega
      rw [decide_eq_true hlt, Bool.not_true, Bool.and_false] at HX
      clear HW
      go_wp2_with (go_at_call 59; refine NQ.mono ?_; clear NQ; rintro e w' ⟨rfl, hw'⟩; obtain rfl := hw'.symm; clear hw')
      go_round
      case rel => exact ⟨t + 1, v2, false, rfl, rfl, by go_num, by omega, HX⟩
      case measure => simp [intOf]; omega
     ·have hlt' : ¬ (q : Int) < (k : Int) := by omega
      rw [decide_eq_false hlt, Bool.not_false, Bool.and_true] at HX
      clear HW
      go_wp2_with (go_at_call 59; refine NQ.mono ?_; clear NQ; rintro e w' ⟨rfl, hw'⟩; obtain rfl := hw'.symm; clear hw')
      go_round
      case rel => exact ⟨t + 1, v2, b, rfl, rfl, by go_num, by omega, HX⟩
      case measure => simp [intOf]; omega
  ·have htn' : ¬ (t : Int) ≤ (n : Int) := by omega
   have htd : decide ((t : Int) ≤ (n : Int)) = false := decide_eq_false htn'
   have FIN := HNO.out (HW.out.far (by omega))
   go_wp2
   exact FIN
def KepQ (base : Nat) (wr : World) (g : Nat) (x : Sq) : Prop := ∃ lo hi, base ≤ lo ∧ hi ≤ wr.heap.size ∧ (g < lo ∨ hi ≤ g) ∧ ∀ w5 : World, (∀ q, lo ≤ q → q < hi → w5.heap[q]? = wr.heap[q]?) → SpAt w5 x.1 x.2
theorem KepQ.move {base : Nat} {wr w2 : World} {g g' : Nat} {x : Sq} (h : KepQ base wr g x) (hu : Upd (fun q => q = g) wr w2) (hg : g' = g ∨ wr.heap.size ≤ g') : KepQ base w2 g' x := by
 obtain ⟨lo, hi, h1, h2, h3, h4⟩ := h
 refine ⟨lo, hi, h1, Nat.le_trans h2 hu.size, ?_, fun w5 h5 => h4 w5 fun q a b => (h5 q a b).trans (hu.block q (by omega) (fun e => by omega))⟩
 rcases hg with rfl | hg
 ·exact h3
 ·exact Or.inr (by omega)
theorem KepQ.upd {base : Nat} {wr w2 : World} {g : Nat} {x : Sq} (h : KepQ base wr g x) (hu : Upd (fun q => q = g) wr w2) : KepQ base w2 g x := h.move hu (Or.inl rfl)
theorem KepQ.below {base : Nat} {wr w2 : World} {g : Nat} {x : Sq} (h : KepQ base wr g x) (hb : Below wr.heap.size wr w2) : KepQ base w2 g x := h.upd (Upd.ofBelow hb (fun k h1 h2 => by omega))
def zQ : Sq := (⟨0, 0, 0, 0, [], ⟨#[]⟩, ⟨#[]⟩, 0, 0, 0, 0, [], []⟩, ⟨none, 0, none, 0, none, 0⟩)
structure RisI (w wr : World) (X : List Sp) (x0 : Sp) (k : Nat) (v : Value) (L : List Sq) : Prop where
 own : wr.ownsRow w.heap.size 102 13 v k (L.flatMap sqL)
 len : L.length = k
 perm : (X.take k).Perm (L.map (·.1))
 rise : (L.map (·.1)).Pairwise (fun a b => a.id < b.id)
 chk : ∀ a ∈ X.take k, chkS a = 0 ∧ a.hi = x0.hi ∧ a.lo = x0.lo
 kept : ∀ x ∈ L, KepQ w.heap.size wr (blkOf v) x
 bel : Below w.heap.size w wr
structure InsI (w wr : World) (g cap : Nat) (L M : List Sq) (id : Int) (k : Nat) : Prop where
 row : RwG sqL 13 102 wr g cap M
 lo : w.heap.size ≤ g
 mid : MidI L M k
 gt : ∀ j (hj : j < L.length), k ≤ j → id < L[j].1.id
 kept : ∀ x ∈ L, KepQ w.heap.size wr g x
 bel : Below w.heap.size w wr
theorem RisI.zero (w : World) (X : List Sp) (x0 : Sp) : RisI w w X x0 0 (.slice none 0 0) [] :=
 ⟨World.ownsRow_nil _ _ _ _, rfl, by simp, List.Pairwise.nil, (fun a h => by simp at h), (fun x h => by cases h), Below.refl _ _⟩
theorem RisI.grow {w wr w5 : World} {X : List Sp} {x0 : Sp} {k : Nat} {v : Value} {L : List Sq} (h : RisI w wr X x0 k v L) (hb : Below wr.heap.size wr w5) : RisI w w5 X x0 k v L :=
 ⟨ownsRow_upd h.own (Upd.ofBelow (S := fun _ => False) hb (fun k h1 h2 => by omega)) (fun _ _ h => h), h.len, h.perm, h.rise, h.chk, fun x hx => (h.kept x hx).below hb, h.bel.trans (hb.mono h.bel.size)⟩
theorem InsI.drew {w wr : World} {g cap : Nat} {L M : List Sq} {id : Int} {k : Nat} (h : InsI w wr g cap L M id k) (q : Nat) : InsI w (wr.drewN q) g cap L M id k := by
 have hb : Below wr.heap.size wr (wr.drewN q) := ⟨rfl, rfl, rfl, Nat.le_refl _, fun _ _ => rfl⟩
 exact ⟨h.row.below hb, h.lo, h.mid, h.gt, fun x hx => (h.kept x hx).below hb, h.bel.trans (hb.mono h.bel.size)⟩
theorem RisI.start {w wr w2 : World} {X : List Sp} {x0 : Sp} {k : Nat} {v : Value} {L : List Sq} (h : RisI w wr X x0 k v L) (id : Int) {g cap : Nat} (hg : w.heap.size ≤ g) (hr : RwG sqL 13 102 w2 g cap (L ++ [zQ])) (hu : Upd (fun q => v.ownBlock = some q) wr w2) (hm : v.ownBlock = some g ∨ wr.heap.size ≤ g) : InsI w w2 g cap L (L ++ [zQ]) id k := by
 refine ⟨hr, hg, by rw [← h.len]; exact MidI.start L zQ, fun j hj hkj => by have := h.len; omega, fun x hx => ?_, h.bel.trans (hu.below h.bel.size (fun q hq e => by have := (owns_lt h.own e).1; omega))⟩
 have hk := h.kept x hx
 have hb : ∀ q, v.ownBlock = some q → q = blkOf v := fun q e => by unfold blkOf; rw [e]; rfl
 refine hk.move (hu.mono (fun q _ e => hb q e)) ?_
 rcases hm with e | e
 ·exact Or.inl (hb g e)
 ·exact Or.inr e
theorem InsI.step {w wr w2 : World} {g cap : Nat} {L M : List Sq} {id : Int} {k : Nat} (h : InsI w wr g cap L M id (k + 1)) (hk : k < M.length) (hid : id < M[k].1.id) (hr : RwG sqL 13 102 w2 g cap (M.set (k + 1) M[k])) (hu : Upd (fun q => q = g) wr w2) : InsI w w2 g cap L (M.set (k + 1) M[k]) id k := by
 obtain ⟨h1, h2, he⟩ := h.mid.at_
 refine ⟨hr, h.lo, h.mid.step hk, fun j hj hkj => ?_, fun x hx => (h.kept x hx).upd hu, h.bel.trans (hu.below h.bel.size (fun q hq e => by have := h.lo; omega))⟩
 by_cases e : j = k
 ·subst e; rw [← he]; exact hid
 ·exact h.gt j hj (by omega)
theorem InsI.done {w wr w0 w5 w6 : World} {X : List Sp} {x0 : Sp} {n0 : Nat} {v0 : Value} {g cap : Nat} {L M : List Sq} {k : Nat} {a : Sp} {p' : Pl} (h0 : RisI w w0 X x0 n0 v0 L) (h : InsI w wr g cap L M a.id k) (hX : X[n0]? = some a) (hc : chkS a = 0) (ht : a.hi = x0.hi ∧ a.lo = x0.lo) (hb : Below wr.heap.size wr w5) (hp : ∀ w7 : World, (∀ q, wr.heap.size ≤ q → q < w5.heap.size → w7.heap[q]? = w5.heap[q]?) → SpAt w7 a p') (hr : RwG sqL 13 102 w6 g cap (M.set k (a, p'))) (hu : Upd (fun q => q = g) w5 w6) (hlt : ∀ m (hm : m < L.length), k = m + 1 → L[m].1.id ≠ a.id) (hle : ∀ m (hm : m < L.length), k = m + 1 → ¬ a.id < L[m].1.id) : RisI w w6 X x0 (n0 + 1) (.slice (some ⟨g, 0, none⟩) (n0 + 1) cap) (L.take k ++ (a, p') :: L.drop k) := by
 have hL := h0.len
 rw [h.mid.done] at hr
 have hlen : (L.take k ++ (a, p') :: L.drop k).length = n0 + 1 := by rw [(ins_perm L k (a, p')).length_eq]; simp [hL]
 have h1 := hr.owns sqL_len h.lo
 rw [hlen] at h1
 have hXt : X.take (n0 + 1) = X.take n0 ++ [a] := by
  obtain ⟨hn, e⟩ := List.getElem?_eq_some_iff.1 hX
  rw [List.take_succ_eq_append_getElem hn, e]
 refine ⟨h1, hlen, ?_, ?_, ?_, ?_, ?_⟩
 ·rw [hXt]
  refine (h0.perm.append_right [a]).trans ?_
  have := ((ins_perm L k (a, p')).map (·.1)).symm
  simpa using this
 ·have hR := h0.rise
  rw [List.pairwise_map] at hR ⊢
  refine ins_strict (lt := fun x y : Sq => x.1.id < y.1.id) (fun a b c h1 h2 => by omega) hR h.mid.le (fun j hj hkj => h.gt j hj hkj) (fun m hm e => ?_)
  have := hlt m hm e
  have := hle m hm e
  show L[m].1.id < a.id
  omega
 ·intro b hb'
  rw [hXt] at hb'
  rcases List.mem_append.1 hb' with hb' | hb'
  ·exact h0.chk b hb'
  ·simp at hb'
   subst hb'
   exact ⟨hc, ht⟩
 ·intro x hx
  have hx' := (ins_perm L k (a, p')).mem_iff.1 hx
  rcases List.mem_append.1 hx' with hx' | hx'
  ·exact ((h.kept x hx').below hb).upd hu
  ·simp at hx'
   subst hx'
   have hgl := h.row.lt
   have hbs := hb.size
   refine ⟨wr.heap.size, w5.heap.size, h.bel.size, hu.size, Or.inl hgl, fun w7 h7 => hp w7 fun q a b => (h7 q a b).trans (hu.block q b (fun e => by omega))⟩
 ·exact (h.bel.trans (hb.mono h.bel.size)).trans (hu.below (Nat.le_trans h.bel.size hb.size) (fun q hq e => by have := h.lo; omega))
theorem RisI.one {w wr : World} {X : List Sp} {x0 : Sp} {v : Value} {L : List Sq} (h : RisI w wr X x0 X.length v L) (hn : X.length ≤ 1000) (hF : ∀ a ∈ X, a.Fits) (hS : ∀ a ∈ X, a.Small) : OneT X := by
 have ht : X.take X.length = X := List.take_length
 have hc := h.chk
 have hp := h.perm
 rw [ht] at hc hp
 refine ⟨hn, fun a ha => (hc a ha).1, hF, hS, fun a ha b hb => ?_, ?_⟩
 ·have h1 := (hc a ha).2
  have h2 := (hc b hb).2
  exact ⟨h1.1.trans h2.1.symm, h1.2.trans h2.2.symm⟩
 ·refine (hp.map (fun a : Sp => a.id)).nodup_iff.2 ?_
  rw [List.nodup_iff_pairwise_ne, List.pairwise_map]
  exact h.rise.imp (fun {a b} h => by omega)
theorem not_one_id {X : List Sp} {k : Nat} {a : Sp} {L : List Sq} (hX : X[k]? = some a) (hp : (X.take k).Perm (L.map (·.1))) {m : Nat} (hm : m < L.length) (he : L[m].1.id = a.id) : ¬ OneT X := fun h1 => by
 have hmem : L[m].1 ∈ X.take k := hp.mem_iff.2 (List.mem_map.2 ⟨_, List.getElem_mem hm, rfl⟩)
 obtain ⟨j, hj, e⟩ := List.mem_iff_getElem.1 hmem
 rw [List.length_take] at hj
 rw [List.getElem_take] at e
 obtain ⟨hk, e2⟩ := List.getElem?_eq_some_iff.1 hX
 have hnd := List.pairwise_map.1 (List.nodup_iff_pairwise_ne.1 h1.ids)
 have := List.pairwise_iff_getElem.1 hnd j k (by omega) hk (by omega)
 rw [e, e2] at this
 exact this he
theorem not_one_chk {X : List Sp} {k : Nat} {a : Sp} (hX : X[k]? = some a) (hc : chkS a ≠ 0) : ¬ OneT X := fun h1 => hc (h1.chk a (List.mem_of_getElem? hX))
theorem not_one_tr {X : List Sp} {k : Nat} {a x0 : Sp} (hX : X[k]? = some a) (h0 : X[0]? = some x0) (hc : ¬ (a.hi = x0.hi ∧ a.lo = x0.lo)) : ¬ OneT X := fun h1 => hc (h1.tr a (List.mem_of_getElem? hX) x0 (List.mem_of_getElem? h0))
def RisP (X : List Sp) (w : World) (e : Ending) (w' : World) : Prop := ∃ va vl vc b, e = .returned (.tuple #[.slice va vl vc, .bool b]) ∧ Hid ((b = true ∧ OneT X ∧ ∃ x0 L, RisI w w' X x0 X.length (.slice va vl vc) L) ∨ (b = false ∧ ¬ OneT X)) ∧ Below w.heap.size w w'
theorem wpList_appZ {ops : Array Oper} {rest : List Oper} {o : Oper} {a : Act} {Q : Exit → Act → World → Prop} (wr : World) (hgd : o.guard = none) (s x : Operand)
  (ho : o.op = .call { callee := .builtin .append, args := #[s, x], argTypes := #[22, 22] })
  (base : Nat) (v : Value) (n : Nat) (L : List Sq) (hv : a.eval s = v) (hown : wr.ownsRow base 102 13 v n (L.flatMap sqL)) (hl : L.length = n) (hx : a.eval x = .slice (some ⟨wr.heap.size, 0, none⟩) 1 1) (hn : n ≤ 1000) (hbase : base ≤ wr.heap.size)
  (h : ∀ g cap w', base ≤ g → RwG sqL 13 102 w' g cap (L ++ [zQ]) → Upd (fun q => v.ownBlock = some q) wr w' → (v.ownBlock = some g ∨ wr.heap.size ≤ g) → wpList Tryz.prog ops Q rest (a.put o.dst (.slice (some ⟨g, 0, none⟩) (n + 1) cap)) w') : wpList Tryz.prog ops Q (o :: rest) a (wr.alloc (.cells zSpL.toArray 102)) := by
 obtain ⟨i0, hi0, hz0, hz1, hz2⟩ := info_parts infoQ
 have hB := Blk.new wr zSpL.toArray 102
 have hown' : (wr.alloc (.cells zSpL.toArray 102)).ownsRow base 102 13 v n (L.flatMap sqL) := ownsRow_upd hown ((Upd.refl (fun _ => False) wr).alloc _) (fun _ _ h => h)
 have hS : Src Tryz.prog 13 22 (.slice (some ⟨wr.heap.size, 0, none⟩) 1 1) 1 (sqL zQ) (wr.alloc (.cells zSpL.toArray 102)) := by
  refine Src.ofSlice _ Tryz.underlying22 _ 1 1 _ rfl (fun j u hj => ?_) (sqL_one _)
  rw [Addr.add_lit, Nat.zero_add]
  exact hB.cell j (by rw [List.getElem?_toArray]; exact hj)
 refine wpList_appW _ hgd s x 22 22 ho base 102 i0 _ 13 168 Tryz.underlying22 hi0 hz0 hz1 hz2 rfl v n _ hv hown' _ 1 _ hx hS (by unfold maxLen; omega) (by omega) (by simp; omega) ?_
 intro v1 w1 o1 g1 m1
 have e : L.flatMap sqL ++ sqL zQ = (L ++ [zQ]).flatMap sqL := by simp
 rw [e] at o1
 obtain ⟨g, cap, rfl, hg, hr⟩ := RwG.of_owns o1 (by simp [hl]) (by omega)
 refine h g cap w1 hg hr (((Upd.refl _ wr).alloc _).grown g1 (fun k _ e => e)) ?_
 rcases m1 with e | ⟨k, e, hk⟩
 ·exact Or.inl e.symm
 ·simp [Value.ownBlock] at e
  subst e
  rw [World.size_alloc'] at hk
  exact Or.inr (by omega)
theorem wpList_stR {ops : Array Oper} {rest : List Oper} {op : Oper} {a : Act} {w : World} {Q : Exit → Act → World → Prop} (hgd : op.guard = none) (x y : Operand) (ho : op.op = .store 102 x y) (g cap i : Nat) (L : List Sq) (s : Sq) (hB : RwG sqL 13 102 w g cap L) (hi : i < L.length) (hx : a.eval x = .pointer (some ⟨g, i * 13, none⟩)) (hy : a.eval y = .agg (spC s.1 s.2))
  (hK : ∀ w', RwG sqL 13 102 w' g cap (L.set i s) → Upd (fun k => k = g) w w' → wpList Tryz.prog ops Q rest (a.put op.dst undef) w') : wpList Tryz.prog ops Q (op :: rest) a w := by
 refine wpList_store_mid hgd 102 x y ho g (i * 13) (spC s.1 s.2) hx hy (hB.there sqL_len i hi) (by kernel_rfl) (by have := all_oneCell_toArray (sqL_one s); simpa [sqL] using this) ?_
 exact hK _ (hB.set sqL_len i hi s) (setCells_upd _ _ _ _)
theorem chk_lens {a : Sp} (h : chkS a = 0) : a.links.length ≤ 1000 ∧ a.attrs.length ≤ 1000 ∧ a.events.length ≤ 1000 := by
 have g := chk_good h
 exact ⟨by have := g.links; omega, by have := g.attrs; omega, by have := g.events; omega⟩
set_option maxHeartbeats 8000000 in
theorem rRising_any (ad : Option Addr) (n cap : Nat) (X : List Sp) (P : Nat → Pl) (w : World) (hX : SpsAt w ad n X P) (hF : ∀ a ∈ X, a.Fits) (hSm : ∀ a ∈ X, a.Small) :
  Calls Tryz.prog 57 #[.slice ad n cap] w (RisP X w) := by
 have HX : Hid (SpsAt w ad n X P) := hX
 have HL : Hid (X.length = n) := hX.len
 have HF : Hid (∀ a ∈ X, a.Fits) := hF
 have HSM : Hid (∀ a ∈ X, a.Small) := hSm
 have HNO : Hid (∀ va vl vc w', ¬ OneT X → Below w.heap.size w w' → RisP X w (.returned (.tuple #[.slice va vl vc, .bool false])) w') := fun va vl vc w' h hb => ⟨va, vl, vc, false, rfl, Or.inr ⟨rfl, h⟩, hb⟩
 have HYES : Hid (∀ va vl vc w' x0 L, X.length ≤ 1000 → RisI w w' X x0 X.length (.slice va vl vc) L → RisP X w (.returned (.tuple #[.slice va vl vc, .bool true])) w') := fun va vl vc w' x0 L hn h => ⟨va, vl, vc, true, rfl, Or.inl ⟨rfl, h.one hn hF hSm, x0, L, h⟩, h.bel⟩
 clear hX hF hSm
 generalize RisP X w = RR at *
 by_cases hn : n ≤ 1000
 rotate_left
 ·have hn' : (1000 : Int) < (n : Int) := by omega
  have FIN := HNO.out none 0 0 w (fun h => by have := h.len; have := HL.out; omega) (Below.refl _ _)
  go_enter Tryz.func57, Tryz.ntmps57
  go_wp2
  exact FIN
 have hn' : ¬ (1000 : Int) < (n : Int) := by omega
 obtain ⟨x0, hx0⟩ : ∃ x0 : Sp, 0 < n → X[0]? = some x0 := by
  by_cases h : 0 < n
  ·exact ⟨X[0]'(by rw [HL.out]; exact h), fun _ => List.getElem?_eq_getElem _⟩
  ·exact ⟨zQ.1, fun h' => absurd h' h⟩
 have HX0 : Hid (0 < n → X[0]? = some x0) := hx0
 have H0 : Hid (RisI w w X x0 0 (.slice none 0 0) []) := RisI.zero w X x0
 clear hx0
 go_enter Tryz.func57, Tryz.ntmps57
 go_wp2
 go_loopw [4, 5] (fun z4 z5 wr => ∃ (k : Nat) (ao : Option Addr) (ca : Nat) (L : List Sq), z4 = .slice ao k ca ∧ z5 = .int .i64 k ∧ k ≤ n ∧ Hid (RisI w wr X x0 k (.slice ao k ca) L)) (fun _ z5 _ => n - (intOf z5).toNat)
 case atStart => exact ⟨0, none, 0, [], rfl, rfl, by omega, H0⟩
 case round =>
  obtain ⟨k, ao, ca, L, rfl, rfl, hk, HI⟩ := hrel
  by_cases hlt : k < n
  ·have hlt' : (k : Int) < (n : Int) := by omega
   have hn0 : 0 < n := by omega
   have hn1 : (0 : Int) < (n : Int) := by omega
   have hkX : k < X.length := by rw [HL.out]; exact hlt
   obtain ⟨b1, o1, rfl, hc⟩ := HX.out.lies hn0
   obtain ⟨a, ha⟩ : ∃ a, X[k] = a := ⟨_, rfl⟩
   obtain ⟨p, hp⟩ : ∃ p, P k = p := ⟨_, rfl⟩
   have HA : Hid (X[k]? = some a) := by rw [← ha]; exact List.getElem?_eq_getElem hkX
   have HBW : Hid (∀ W, Below wr.heap.size wr W → Below w.heap.size w W) := fun W hW => HI.out.bel.trans (hW.mono HI.out.bel.size)
   have RG : Hid (∀ W, Below w.heap.size w W → W.rangeAt b1 (o1 + k * 13) (spC a p).toList) := fun W hW => by
    have := (HX.out.below hW).range k hkX
    rw [ha, hp] at this
    exact this
   have CE : Hid (∀ W, Below wr.heap.size wr W → W.cell? ⟨b1, o1 + k * 13, none⟩ = some (.int .u64 a.hi) ∧ W.cell? ⟨b1, o1 + k * 13 + 1, none⟩ = some (.int .u64 a.lo) ∧ W.cell? ⟨b1, o1, none⟩ = some (.int .u64 x0.hi) ∧ W.cell? ⟨b1, o1 + 1, none⟩ = some (.int .u64 x0.lo)) := fun W hW => by
    have r0 := (HX.out.below (HBW.out W hW)).range 0 (by omega)
    have e0 : X[0]'(by omega) = x0 := by
     have := HX0.out hn0
     rw [List.getElem?_eq_getElem (by omega)] at this
     exact Option.some.inj this
    rw [e0] at r0
    have q0 := r0 0 _ rfl
    have q1 := r0 1 _ rfl
    rw [Nat.zero_mul, Nat.add_zero] at q0 q1
    exact ⟨(RG.out W (HBW.out W hW)) 0 _ rfl, (RG.out W (HBW.out W hW)) 1 _ rfl, q0, q1⟩
   have CI : Hid (∀ W, Below w.heap.size w W → W.cell? ⟨b1, o1 + k * 13 + 2, none⟩ = some (.int .u64 a.id)) := fun W hW => (RG.out W hW) 2 _ rfl
   have hsa : a.Small := HSM.out a (by rw [← ha]; exact List.getElem_mem hkX)
   have HAT : Hid (∀ W, Below w.heap.size w W → SpAt W a p) := fun W hW => by
    have := (HX.out.below hW).each k hkX
    rw [ha, hp] at this
    exact this
   have CHK : Hid (∀ W, Below wr.heap.size wr W → Calls Tryz.prog 93 #[.agg (spC a p).toList.toArray] W fun e w' => e = .returned (.int .i64 (chkS a)) ∧ Below W.heap.size W w') := fun W hW => rCheck_any a p W (HAT.out W (HBW.out W hW)) hsa
   have NT : ∀ W, (binOp .neq 96 (.agg #[.int .u64 a.hi, .int .u64 a.lo]) (.agg #[.int .u64 x0.hi, .int .u64 x0.lo])).run Tryz.prog W = .ok (.bool (!decide (a.hi = x0.hi ∧ a.lo = x0.lo))) W := fun W => run_neq_of (eqI_trace 9998 a.hi a.lo x0.hi x0.lo W)
   have hgt := guard_trace
   obtain ⟨ck, hck⟩ : ∃ c, chkS a = c := ⟨_, rfl⟩
   have HCH : Hid (chkS a = ck) := hck
   rw [hck] at CHK
   clear hck ha hp hc hsa
   by_cases hc0 : ck = 0
   rotate_left
   ·have hb1 : (ck != 0) = true := by simpa using hc0
    have FIN : Hid (∀ va vl vc w', Below w.heap.size w w' → RR (.returned (.tuple #[.slice va vl vc, .bool false])) w') := fun va vl vc w' h => HNO.out va vl vc w' (not_one_chk HA.out (by rw [HCH.out]; exact hc0)) h
    clear HNO HYES NT
    go_wp2
    refine wp_region_held (S := fun W => Below wr.heap.size wr W) (by kernel_rfl) ?_
    change wpAnyH _ _ _ _ _ _ _ _ (World.drew _)
    have hS : Below wr.heap.size wr wr.drew := ⟨rfl, rfl, rfl, Nat.le_refl _, fun _ _ => rfl⟩
    refine takeH (i := 0) (v := .slice (some ⟨b1, o1, none⟩) n cap) rfl (by kernel_rfl) (by kernel_rfl) (by kernel_rfl) (fun _ _ _ h => h) (Or.inl ⟨by rfl, fun W hW => by go_simp⟩) hS ?_
    simp only [pS]
    refine takeH (i := 1) (v := .int .i64 (k : Int)) rfl (by kernel_rfl) (by kernel_rfl) (by kernel_rfl) (fun _ _ _ h => h) (Or.inl ⟨by rfl, fun W hW => by go_simp⟩) hS ?_
    simp only [pS]
    refine takeH (i := 2) (v := .pointer (some ⟨b1, o1 + k * 13, none⟩)) rfl (by kernel_rfl) (by kernel_rfl) (by kernel_rfl) (fun _ _ _ h => h) (Or.inl ⟨by rfl, fun W hW => by go_simp⟩) hS ?_
    simp only [pS]
    refine takeH (i := 3) (v := .agg (spC a p).toList.toArray) rfl (by kernel_rfl) (by kernel_rfl) (by kernel_rfl) (fun _ _ _ h => h) (yieldsIf_load_mid (by rfl) 102 _ rfl b1 (o1 + k * 13) rfl _ _ (fun W hW => RG.out W (HBW.out W hW)) Tryz.underlying102 rfl (by kernel_rfl)) hS ?_
    simp only [pS]
    refine onlyH (i := 4) rfl (by kernel_rfl) (fun K hK => ?_)
    go_simp
    go_at_call 93
    (with_reducible refine (CHK.out _ hS).mono ?_)
    clear CHK
    rintro e w5 ⟨rfl, hb5⟩
    have hS5 : Below wr.heap.size wr w5 := hS.trans (hb5.mono hS.size)
    refine hK _ _ ⟨hS5, ?_⟩
    clear hK K hS hb5
    refine takeH (i := 5) (v := .bool true) rfl (by kernel_rfl) (by kernel_rfl) (by kernel_rfl) (fun _ _ _ h => h) (Or.inl ⟨by rfl, fun W hW => by go_simp⟩) hS5 ?_
    simp only [pS]
    refine takeH (i := 6) (v := .bool true) rfl (by kernel_rfl) (by kernel_rfl) (by kernel_rfl) (fun _ _ _ h => h) (Or.inl ⟨by rfl, fun W hW => by go_simp⟩) hS5 ?_
    simp only [pS]
    refine takeH (i := 7) (v := undef) rfl (by kernel_rfl) (by kernel_rfl) (by kernel_rfl) (fun _ _ _ h => h) (Or.inr ⟨by rfl, rfl⟩) hS5 ?_
    simp only [pS]
    refine takeH (i := 8) (v := undef) rfl (by kernel_rfl) (by kernel_rfl) (by kernel_rfl) (fun _ _ _ h => h) (Or.inr ⟨by rfl, rfl⟩) hS5 ?_
    simp only [pS]
    refine takeH (i := 9) (v := undef) rfl (by kernel_rfl) (by kernel_rfl) (by kernel_rfl) (fun _ _ _ h => h) (Or.inr ⟨by rfl, rfl⟩) hS5 ?_
    simp only [pS]
    refine takeH (i := 10) (v := undef) rfl (by kernel_rfl) (by kernel_rfl) (by kernel_rfl) (fun _ _ _ h => h) (Or.inr ⟨by rfl, rfl⟩) hS5 ?_
    simp only [pS]
    refine takeH (i := 11) (v := undef) rfl (by kernel_rfl) (by kernel_rfl) (by kernel_rfl) (fun _ _ _ h => h) (Or.inr ⟨by rfl, rfl⟩) hS5 ?_
    simp only [pS]
    refine takeH (i := 12) (v := undef) rfl (by kernel_rfl) (by kernel_rfl) (by kernel_rfl) (fun _ _ _ h => h) (Or.inr ⟨by rfl, rfl⟩) hS5 ?_
    simp only [pS]
    refine takeH (i := 13) (v := undef) rfl (by kernel_rfl) (by kernel_rfl) (by kernel_rfl) (fun _ _ _ h => h) (Or.inr ⟨by rfl, rfl⟩) hS5 ?_
    simp only [pS]
    refine takeH (i := 14) (v := undef) rfl (by kernel_rfl) (by kernel_rfl) (by kernel_rfl) (fun _ _ _ h => h) (Or.inr ⟨by rfl, rfl⟩) hS5 ?_
    simp only [pS]
    refine takeH (i := 15) (v := undef) rfl (by kernel_rfl) (by kernel_rfl) (by kernel_rfl) (fun _ _ _ h => h) (Or.inr ⟨by rfl, rfl⟩) hS5 ?_
    simp only [pS]
    refine takeH (i := 16) (v := undef) rfl (by kernel_rfl) (by kernel_rfl) (by kernel_rfl) (fun _ _ _ h => h) (Or.inr ⟨by rfl, rfl⟩) hS5 ?_
    simp only [pS]
    refine takeH (i := 17) (v := .bool true) rfl (by kernel_rfl) (by kernel_rfl) (by kernel_rfl) (fun _ _ _ h => h) (Or.inl ⟨by rfl, fun W hW => by go_simp⟩) hS5 ?_
    simp only [pS]
    refine wpAnyH_done (by kernel_rfl) ?_ _
    have FN := FIN.out ao k ca w5 (HBW.out w5 hS5)
    go_wp2
    exact FN
   ·subst hc0
    by_cases heq : a.hi = x0.hi ∧ a.lo = x0.lo
    rotate_left
    ·have hb1 : decide (a.hi = x0.hi ∧ a.lo = x0.lo) = false := decide_eq_false heq
     have FIN : Hid (∀ va vl vc w', Below w.heap.size w w' → RR (.returned (.tuple #[.slice va vl vc, .bool false])) w') := fun va vl vc w' h => HNO.out va vl vc w' (not_one_tr HA.out (HX0.out hn0) heq) h
     simp only [hb1, Bool.not_false] at NT
     clear HNO HYES heq hb1
     go_wp2
     refine wp_region_held (S := fun W => Below wr.heap.size wr W) (by kernel_rfl) ?_
     change wpAnyH _ _ _ _ _ _ _ _ (World.drew _)
     have hS : Below wr.heap.size wr wr.drew := ⟨rfl, rfl, rfl, Nat.le_refl _, fun _ _ => rfl⟩
     refine takeH (i := 0) (v := .slice (some ⟨b1, o1, none⟩) n cap) rfl (by kernel_rfl) (by kernel_rfl) (by kernel_rfl) (fun _ _ _ h => h) (Or.inl ⟨by rfl, fun W hW => by go_simp⟩) hS ?_
     simp only [pS]
     refine takeH (i := 1) (v := .int .i64 (k : Int)) rfl (by kernel_rfl) (by kernel_rfl) (by kernel_rfl) (fun _ _ _ h => h) (Or.inl ⟨by rfl, fun W hW => by go_simp⟩) hS ?_
     simp only [pS]
     refine takeH (i := 2) (v := .pointer (some ⟨b1, o1 + k * 13, none⟩)) rfl (by kernel_rfl) (by kernel_rfl) (by kernel_rfl) (fun _ _ _ h => h) (Or.inl ⟨by rfl, fun W hW => by go_simp⟩) hS ?_
     simp only [pS]
     refine takeH (i := 3) (v := .agg (spC a p).toList.toArray) rfl (by kernel_rfl) (by kernel_rfl) (by kernel_rfl) (fun _ _ _ h => h) (yieldsIf_load_mid (by rfl) 102 _ rfl b1 (o1 + k * 13) rfl _ _ (fun W hW => RG.out W (HBW.out W hW)) Tryz.underlying102 rfl (by kernel_rfl)) hS ?_
     simp only [pS]
     refine onlyH (i := 4) rfl (by kernel_rfl) (fun K hK => ?_)
     go_simp
     go_at_call 93
     (with_reducible refine (CHK.out _ hS).mono ?_)
     clear CHK
     rintro e w5 ⟨rfl, hb5⟩
     have hS5 : Below wr.heap.size wr w5 := hS.trans (hb5.mono hS.size)
     refine hK _ _ ⟨hS5, ?_⟩
     clear hK K hS hb5
     refine takeH (i := 5) (v := .bool false) rfl (by kernel_rfl) (by kernel_rfl) (by kernel_rfl) (fun _ _ _ h => h) (Or.inl ⟨by rfl, fun W hW => by go_simp⟩) hS5 ?_
     simp only [pS]
     refine takeH (i := 6) (v := .bool false) rfl (by kernel_rfl) (by kernel_rfl) (by kernel_rfl) (fun _ _ _ h => h) (Or.inl ⟨by rfl, fun W hW => by go_simp⟩) hS5 ?_
     simp only [pS]
     refine takeH (i := 7) (v := .slice (some ⟨b1, o1, none⟩) n cap) rfl (by kernel_rfl) (by kernel_rfl) (by kernel_rfl) (fun _ _ _ h => h) (Or.inl ⟨by rfl, fun W hW => by go_simp⟩) hS5 ?_
     simp only [pS]
     refine takeH (i := 8) (v := .int .i64 (k : Int)) rfl (by kernel_rfl) (by kernel_rfl) (by kernel_rfl) (fun _ _ _ h => h) (Or.inl ⟨by rfl, fun W hW => by go_simp⟩) hS5 ?_
     simp only [pS]
     refine takeH (i := 9) (v := .pointer (some ⟨b1, o1 + k * 13, none⟩)) rfl (by kernel_rfl) (by kernel_rfl) (by kernel_rfl) (fun _ _ _ h => h) (Or.inl ⟨by rfl, fun W hW => by go_simp⟩) hS5 ?_
     simp only [pS]
     refine takeH (i := 10) (v := .pointer (some ⟨b1, o1 + k * 13, none⟩)) rfl (by kernel_rfl) (by kernel_rfl) (by kernel_rfl) (fun _ _ _ h => h) (Or.inl ⟨by rfl, fun W hW => by go_simp⟩) hS5 ?_
     simp only [pS]
     refine takeH (i := 11) (v := .agg #[.int .u64 a.hi, .int .u64 a.lo]) rfl (by kernel_rfl) (by kernel_rfl) (by kernel_rfl) (fun _ _ _ h => h) (Or.inl ⟨by rfl, fun W hW => by obtain ⟨s0, s1, s2, s3⟩ := CE.out W hW; go_simp⟩) hS5 ?_
     simp only [pS]
     refine takeH (i := 12) (v := .slice (some ⟨b1, o1, none⟩) n cap) rfl (by kernel_rfl) (by kernel_rfl) (by kernel_rfl) (fun _ _ _ h => h) (Or.inl ⟨by rfl, fun W hW => by go_simp⟩) hS5 ?_
     simp only [pS]
     refine takeH (i := 13) (v := .pointer (some ⟨b1, o1, none⟩)) rfl (by kernel_rfl) (by kernel_rfl) (by kernel_rfl) (fun _ _ _ h => h) (Or.inl ⟨by rfl, fun W hW => by go_simp⟩) hS5 ?_
     simp only [pS]
     refine takeH (i := 14) (v := .pointer (some ⟨b1, o1, none⟩)) rfl (by kernel_rfl) (by kernel_rfl) (by kernel_rfl) (fun _ _ _ h => h) (Or.inl ⟨by rfl, fun W hW => by go_simp⟩) hS5 ?_
     simp only [pS]
     refine takeH (i := 15) (v := .agg #[.int .u64 x0.hi, .int .u64 x0.lo]) rfl (by kernel_rfl) (by kernel_rfl) (by kernel_rfl) (fun _ _ _ h => h) (Or.inl ⟨by rfl, fun W hW => by obtain ⟨s0, s1, s2, s3⟩ := CE.out W hW; go_simp⟩) hS5 ?_
     simp only [pS]
     refine takeH (i := 16) (v := .bool true) rfl (by kernel_rfl) (by kernel_rfl) (by kernel_rfl) (fun _ _ _ h => h) (Or.inl ⟨by rfl, fun W hW => by go_simp⟩) hS5 ?_
     simp only [pS]
     refine takeH (i := 17) (v := .bool true) rfl (by kernel_rfl) (by kernel_rfl) (by kernel_rfl) (fun _ _ _ h => h) (Or.inl ⟨by rfl, fun W hW => by go_simp⟩) hS5 ?_
     simp only [pS]
     refine wpAnyH_done (by kernel_rfl) ?_ _
     have FN := FIN.out ao k ca w5 (HBW.out w5 hS5)
     go_wp2
     exact FN
    have hb1 : decide (a.hi = x0.hi ∧ a.lo = x0.lo) = true := decide_eq_true heq
    have HEQ : Hid (a.hi = x0.hi ∧ a.lo = x0.lo) := heq
    simp only [hb1, Bool.not_true] at NT
    clear heq hb1
    go_wp2
    refine wp_region_held (S := fun W => Below wr.heap.size wr W) (by kernel_rfl) ?_
    change wpAnyH _ _ _ _ _ _ _ _ (World.drew _)
    have hS : Below wr.heap.size wr wr.drew := ⟨rfl, rfl, rfl, Nat.le_refl _, fun _ _ => rfl⟩
    refine takeH (i := 0) (v := .slice (some ⟨b1, o1, none⟩) n cap) rfl (by kernel_rfl) (by kernel_rfl) (by kernel_rfl) (fun _ _ _ h => h) (Or.inl ⟨by rfl, fun W hW => by go_simp⟩) hS ?_
    simp only [pS]
    refine takeH (i := 1) (v := .int .i64 (k : Int)) rfl (by kernel_rfl) (by kernel_rfl) (by kernel_rfl) (fun _ _ _ h => h) (Or.inl ⟨by rfl, fun W hW => by go_simp⟩) hS ?_
    simp only [pS]
    refine takeH (i := 2) (v := .pointer (some ⟨b1, o1 + k * 13, none⟩)) rfl (by kernel_rfl) (by kernel_rfl) (by kernel_rfl) (fun _ _ _ h => h) (Or.inl ⟨by rfl, fun W hW => by go_simp⟩) hS ?_
    simp only [pS]
    refine takeH (i := 3) (v := .agg (spC a p).toList.toArray) rfl (by kernel_rfl) (by kernel_rfl) (by kernel_rfl) (fun _ _ _ h => h) (yieldsIf_load_mid (by rfl) 102 _ rfl b1 (o1 + k * 13) rfl _ _ (fun W hW => RG.out W (HBW.out W hW)) Tryz.underlying102 rfl (by kernel_rfl)) hS ?_
    simp only [pS]
    refine onlyH (i := 4) rfl (by kernel_rfl) (fun K hK => ?_)
    go_simp
    go_at_call 93
    (with_reducible refine (CHK.out _ hS).mono ?_)
    clear CHK
    rintro e w5 ⟨rfl, hb5⟩
    have hS5 : Below wr.heap.size wr w5 := hS.trans (hb5.mono hS.size)
    refine hK _ _ ⟨hS5, ?_⟩
    clear hK K hS hb5
    refine takeH (i := 5) (v := .bool false) rfl (by kernel_rfl) (by kernel_rfl) (by kernel_rfl) (fun _ _ _ h => h) (Or.inl ⟨by rfl, fun W hW => by go_simp⟩) hS5 ?_
    simp only [pS]
    refine takeH (i := 6) (v := .bool false) rfl (by kernel_rfl) (by kernel_rfl) (by kernel_rfl) (fun _ _ _ h => h) (Or.inl ⟨by rfl, fun W hW => by go_simp⟩) hS5 ?_
    simp only [pS]
    refine takeH (i := 7) (v := .slice (some ⟨b1, o1, none⟩) n cap) rfl (by kernel_rfl) (by kernel_rfl) (by kernel_rfl) (fun _ _ _ h => h) (Or.inl ⟨by rfl, fun W hW => by go_simp⟩) hS5 ?_
    simp only [pS]
    refine takeH (i := 8) (v := .int .i64 (k : Int)) rfl (by kernel_rfl) (by kernel_rfl) (by kernel_rfl) (fun _ _ _ h => h) (Or.inl ⟨by rfl, fun W hW => by go_simp⟩) hS5 ?_
    simp only [pS]
    refine takeH (i := 9) (v := .pointer (some ⟨b1, o1 + k * 13, none⟩)) rfl (by kernel_rfl) (by kernel_rfl) (by kernel_rfl) (fun _ _ _ h => h) (Or.inl ⟨by rfl, fun W hW => by go_simp⟩) hS5 ?_
    simp only [pS]
    refine takeH (i := 10) (v := .pointer (some ⟨b1, o1 + k * 13, none⟩)) rfl (by kernel_rfl) (by kernel_rfl) (by kernel_rfl) (fun _ _ _ h => h) (Or.inl ⟨by rfl, fun W hW => by go_simp⟩) hS5 ?_
    simp only [pS]
    refine takeH (i := 11) (v := .agg #[.int .u64 a.hi, .int .u64 a.lo]) rfl (by kernel_rfl) (by kernel_rfl) (by kernel_rfl) (fun _ _ _ h => h) (Or.inl ⟨by rfl, fun W hW => by obtain ⟨s0, s1, s2, s3⟩ := CE.out W hW; go_simp⟩) hS5 ?_
    simp only [pS]
    refine takeH (i := 12) (v := .slice (some ⟨b1, o1, none⟩) n cap) rfl (by kernel_rfl) (by kernel_rfl) (by kernel_rfl) (fun _ _ _ h => h) (Or.inl ⟨by rfl, fun W hW => by go_simp⟩) hS5 ?_
    simp only [pS]
    refine takeH (i := 13) (v := .pointer (some ⟨b1, o1, none⟩)) rfl (by kernel_rfl) (by kernel_rfl) (by kernel_rfl) (fun _ _ _ h => h) (Or.inl ⟨by rfl, fun W hW => by go_simp⟩) hS5 ?_
    simp only [pS]
    refine takeH (i := 14) (v := .pointer (some ⟨b1, o1, none⟩)) rfl (by kernel_rfl) (by kernel_rfl) (by kernel_rfl) (fun _ _ _ h => h) (Or.inl ⟨by rfl, fun W hW => by go_simp⟩) hS5 ?_
    simp only [pS]
    refine takeH (i := 15) (v := .agg #[.int .u64 x0.hi, .int .u64 x0.lo]) rfl (by kernel_rfl) (by kernel_rfl) (by kernel_rfl) (fun _ _ _ h => h) (Or.inl ⟨by rfl, fun W hW => by obtain ⟨s0, s1, s2, s3⟩ := CE.out W hW; go_simp⟩) hS5 ?_
    simp only [pS]
    refine takeH (i := 16) (v := .bool false) rfl (by kernel_rfl) (by kernel_rfl) (by kernel_rfl) (fun _ _ _ h => h) (Or.inl ⟨by rfl, fun W hW => by go_simp⟩) hS5 ?_
    simp only [pS]
    refine takeH (i := 17) (v := .bool false) rfl (by kernel_rfl) (by kernel_rfl) (by kernel_rfl) (fun _ _ _ h => h) (Or.inl ⟨by rfl, fun W hW => by go_simp⟩) hS5 ?_
    simp only [pS]
    refine wpAnyH_done (by kernel_rfl) ?_ _
    have HI5 : Hid (RisI w w5 X x0 k (.slice ao k ca) L) := HI.out.grow hS5
    have HS5 : Hid (Below wr.heap.size wr w5) := hS5
    have hkL : Hid (L.length = k) := HI.out.len
    have hz5 : Hid (w.heap.size ≤ w5.heap.size) := HI5.out.bel.size
    clear HI hS5 NT hgt
    go_wp2_with (at_builtin; refine wpList_appZ w5 rfl _ _ rfl w.heap.size (.slice ao k ca) k L rfl HI5.out.own hkL.out rfl (by omega) hz5.out ?_; intro g c6 w6 hg6 hr6 hu6 hm6; have HN : Hid (InsI w w6 g c6 L (L ++ [zQ]) a.id k) := HI5.out.start a.id hg6 hr6 hu6 hm6; clear hr6 hu6 hm6 hg6)
    have CL : Hid (∀ W, Below w.heap.size w W → Calls Tryz.prog 94 #[.agg (spC a p).toList.toArray] W fun e w' => ∃ p', e = .returned (spV a p') ∧ (∀ w5, (∀ k, W.heap.size ≤ k → k < w'.heap.size → w5.heap[k]? = w'.heap[k]?) → SpAt w5 a p') ∧ Below W.heap.size W w') := fun W hW => rClone_any a p W (HAT.out W hW) (chk_lens HCH.out).1 (chk_lens HCH.out).2.1 (chk_lens HCH.out).2.2
    go_loopw [6] (fun z6 wq => ∃ (t : Nat) (M : List Sq), z6 = .int .i64 t ∧ t ≤ k ∧ Hid (InsI w wq g c6 L M a.id t)) (fun z6 _ => (intOf z6).toNat)
    case atStart => exact ⟨k, L ++ [zQ], rfl, Nat.le_refl _, HN⟩
    case round =>
     obtain ⟨t, M, rfl, htk, HM⟩ := hrel
     by_cases ht0 : t = 0
     ·subst ht0
      go_wp2
      go_quiet (fail)
      obtain ⟨wq, hwq⟩ : ∃ W, wr.drewN nq = W := ⟨_, rfl⟩
      have HMq : Hid (InsI w wq g c6 L M a.id 0) := by show InsI w wq g c6 L M a.id 0; rw [← hwq]; exact HM.out.drew nq
      (try rw [hwq])
      clear hwq HM
      have HBq : Hid (Below w.heap.size w wq) := HMq.out.bel
      have HTM : Hid (0 < M.length) := by show 0 < M.length; rw [HMq.out.mid.len, hkL.out]; omega
      go_wp2_with (first
       | (refine wpList_load_mid rfl 102 _ rfl b1 (o1 + k * 13) rfl (spC a p).toList _ (RG.out _ HBq.out) Tryz.underlying102 rfl (by kernel_rfl) ?_)
       | (go_at_call 94; (with_reducible refine (CL.out _ HBq.out).mono ?_); clear CL; rintro e w8 ⟨p', rfl, hp8, hb8⟩; have HP8 : Hid _ := hp8; have HB8 : Hid (Below wq.heap.size wq w8) := hb8; have HR8 : Hid (RwG sqL 13 102 w8 g c6 M) := HMq.out.row.below hb8; clear hp8 hb8)
       | (refine wpList_stR rfl _ _ rfl g c6 0 M (a, p') HR8.out HTM.out rfl rfl ?_; intro w9 hr9 hu9; have HR9 : Hid (RwG sqL 13 102 w9 g c6 (M.set (0) (a, p'))) := hr9; have HU9 : Hid (Upd (fun q => q = g) w8 w9) := hu9; clear hr9 hu9))
      (try simp only [Act.put])
      have HF9 : Hid (RisI w w9 X x0 (k + 1) (.slice (some ⟨g, 0, none⟩) (k + 1) c6) (L.take (0) ++ (a, p') :: L.drop (0))) := InsI.done HI5.out HMq.out HA.out HCH.out HEQ.out HB8.out HP8.out HR9.out HU9.out (fun m hm e => by omega) (fun m hm e => by omega)
      go_quiet (fail)
      go_wp2
      go_roundw
      case rel => exact ⟨k + 1, _, c6, _, by go_num, by go_num, by omega, HF9.out.grow ⟨rfl, rfl, rfl, Nat.le_refl _, fun _ _ => rfl⟩⟩
      case measure => simp [intOf]; omega
     ·obtain ⟨j, rfl⟩ : ∃ j, t = j + 1 := ⟨t - 1, by omega⟩
      have hj0 : (0 : Int) < ((j + 1 : Nat) : Int) := by omega
      have hjw : IntKind.i64.wrap (((j + 1 : Nat) : Int) - 1) = (j : Int) := by rw [IntKind.wrap_i64]; omega
      have hjk : (j : Int) < ((k + 1 : Nat) : Int) := by omega
      have hjk2 : ((j + 1 : Nat) : Int) < ((k + 1 : Nat) : Int) := by omega
      obtain ⟨hjM, hjL, hje⟩ := HM.out.mid.at_
      have cy := HM.out.row.cell sqL_len j hjM 2 rfl
      have ci := CI.out wr HM.out.bel
      obtain ⟨y, hy⟩ : ∃ y, M[j].1.id = y := ⟨_, rfl⟩
      rw [hy] at cy
      by_cases hya : a.id < y
      ·have HST : Hid (∀ W W2, InsI w W g c6 L M a.id (j + 1) → RwG sqL 13 102 W2 g c6 (M.set (j + 1) M[j]) → Upd (fun q => q = g) W W2 → Hid (InsI w W2 g c6 L (M.set (j + 1) M[j]) a.id j)) := fun W W2 h1 h2 h3 => h1.step hjM (by rw [hy]; exact hya) h2 h3
       have HJM : Hid (j < M.length) := hjM
       have HJ1 : Hid (j + 1 < M.length) := by show j + 1 < M.length; rw [HM.out.mid.len, hkL.out]; omega
       clear hy hje hjL
       go_wp2
       go_quiet (fail)
       obtain ⟨wq, hwq⟩ : ∃ W, wr.drewN nq = W := ⟨_, rfl⟩
       have HMq : Hid (InsI w wq g c6 L M a.id (j + 1)) := by show InsI w wq g c6 L M a.id (j + 1); rw [← hwq]; exact HM.out.drew nq
       (try rw [hwq])
       clear hwq HM
       go_wp2_with (first
        | (refine wpList_load_mid rfl 102 _ rfl g (j * 13) rfl (sqL M[j]) _ (HMq.out.row.range sqL_len j HJM.out) Tryz.underlying102 rfl (by kernel_rfl) ?_)
        | (refine wpList_stR rfl _ _ rfl g c6 (j + 1) M M[j] HMq.out.row HJ1.out rfl rfl ?_; intro w9 hr9 hu9; have HS9 := HST.out _ w9 HMq.out hr9 hu9; clear hr9 hu9))
       (try simp only [Act.put])
       go_wp2
       go_roundw
       case rel => exact ⟨j, _, by go_num, by omega, HS9⟩
       case measure => simp [intOf]
      ·have HYA : Hid (¬ a.id < y) := hya
       have HLE : Hid (∀ m (hm : m < L.length), j + 1 = m + 1 → ¬ a.id < L[m].1.id) := fun m hm e => by
        obtain rfl : m = j := by omega
        rw [← hje, hy]; exact hya
       have HLY : Hid (L[j].1.id = y) := by show L[j].1.id = y; rw [← hje]; exact hy
       clear hje
       go_wp2
       go_quiet (fail)
       obtain ⟨wq, hwq⟩ : ∃ W, wr.drewN nq = W := ⟨_, rfl⟩
       have HMq : Hid (InsI w wq g c6 L M a.id (j + 1)) := by show InsI w wq g c6 L M a.id (j + 1); rw [← hwq]; exact HM.out.drew nq
       (try rw [hwq])
       clear hwq HM
       have HBq : Hid (Below w.heap.size w wq) := HMq.out.bel
       have HTM : Hid (j + 1 < M.length) := by show j + 1 < M.length; rw [HMq.out.mid.len, hkL.out]; omega
       go_wp2_with (first
        | (refine wpList_load_mid rfl 102 _ rfl b1 (o1 + k * 13) rfl (spC a p).toList _ (RG.out _ HBq.out) Tryz.underlying102 rfl (by kernel_rfl) ?_)
        | (go_at_call 94; (with_reducible refine (CL.out _ HBq.out).mono ?_); clear CL; rintro e w8 ⟨p', rfl, hp8, hb8⟩; have HP8 : Hid _ := hp8; have HB8 : Hid (Below wq.heap.size wq w8) := hb8; have HR8 : Hid (RwG sqL 13 102 w8 g c6 M) := HMq.out.row.below hb8; clear hp8 hb8)
        | (refine wpList_stR rfl _ _ rfl g c6 (j + 1) M (a, p') HR8.out HTM.out rfl rfl ?_; intro w9 hr9 hu9; have HR9 : Hid (RwG sqL 13 102 w9 g c6 (M.set (j + 1) (a, p'))) := hr9; have HU9 : Hid (Upd (fun q => q = g) w8 w9) := hu9; clear hr9 hu9))
       (try simp only [Act.put])
       have HB9 : Hid (Below w.heap.size w w9) := (HMq.out.bel.trans (HB8.out.mono HMq.out.bel.size)).trans (HU9.out.below (Nat.le_trans HMq.out.bel.size HB8.out.size) (fun q hq e => by have := HMq.out.lo; omega))
       have cy9 := HR9.out.cell sqL_len j (by rw [List.length_set]; exact hjM) 2 rfl
       rw [List.getElem_set_ne (by omega), hy] at cy9
       have ci9 := CI.out w9 HB9.out
       by_cases hye : y = a.id
       ·have hye' : (y == a.id) = true := by simpa using hye
        have FN := fun q => HNO.out (some ⟨g, 0, none⟩) (k + 1) c6 (w9.drewN q) (not_one_id HA.out HI5.out.perm hjL (by rw [HLY.out]; exact hye)) (HB9.out.trans ⟨rfl, rfl, rfl, Nat.le_refl _, fun _ _ => rfl⟩)
        clear hye hy
        go_quiet (fail)
        go_wp2
        exact FN _
       ·have hye' : (y == a.id) = false := by simpa using hye
        have HNE : Hid (∀ m (hm : m < L.length), j + 1 = m + 1 → L[m].1.id ≠ a.id) := fun m hm e => by
         obtain rfl : m = j := by omega
         rw [HLY.out]; exact hye
        clear hye hy
        have HF9 : Hid (RisI w w9 X x0 (k + 1) (.slice (some ⟨g, 0, none⟩) (k + 1) c6) (L.take (j + 1) ++ (a, p') :: L.drop (j + 1))) := InsI.done HI5.out HMq.out HA.out HCH.out HEQ.out HB8.out HP8.out HR9.out HU9.out (fun m hm e => HNE.out m hm e) (fun m hm e => by have := HLE.out m hm e; omega)
        go_quiet (fail)
        go_wp2
        go_roundw
        case rel => exact ⟨k + 1, _, c6, _, by go_num, by go_num, by omega, HF9.out.grow ⟨rfl, rfl, rfl, Nat.le_refl _, fun _ _ => rfl⟩⟩
        case measure => simp [intOf]; omega
  ·obtain rfl : k = n := by omega
   have hlt' : ¬ (k : Int) < (k : Int) := by omega
   have FIN := HYES.out ao k ca wr x0 L (by rw [HL.out]; exact hn) (by rw [HL.out]; exact HI.out)
   go_wp2
   exact FIN
end Go.Proofs.YtnffedmcblbkoaaGreatDoor
