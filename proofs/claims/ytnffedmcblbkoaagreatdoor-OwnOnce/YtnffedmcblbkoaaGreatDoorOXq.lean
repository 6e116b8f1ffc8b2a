/-
  Merged: OX, G0, OY.
-/
import Derived.Test.YtnffedmcblbkoaaGreatDoorYcq
import Derived.Test.YtnffedmcblbkoaaGreatDoorFIq
import Derived.Test.YtnffedmcblbkoaaGreatDoorGAq
import Derived.Test.YtnffedmcblbkoaaGreatDoorOZ
namespace Go.Proofs.YtnffedmcblbkoaaGreatDoor
open Go Go.RowKit
set_option maxRecDepth 100000
theorem alloc_atS {W : World} {c : Array Value} {T : TypeId} {b : Nat} (h : b = W.heap.size) : Blk (W.alloc (.cells c T)) b c T := by
 subst h
 exact Blk.new _ _ _
theorem rise_same {X : List Spot} (hr : RiseS X) {i j : Nat} (hi : i < X.length) (hj : j < X.length) (e : X[i].nd.id = X[j].nd.id) : i = j := by
 rcases Nat.lt_trichotomy i j with h | h | h
 ·have := hr i j hi hj h; omega
 ·exact h
 ·have := hr j i hj hi h; omega
theorem node_told (f sb : Nat) (X : List Spot) (K : Nat → List Int) (rv : Value) (R : List Int) (id : Int) (w : World) (h : ForestAt w f sb X K rv R) :
  Calls Tryz.prog 10 #[.pointer (some ⟨f, 0, none⟩), .int .u64 id] w fun e w' => ∃ d b, e = .returned (.tuple #[ndV d, .bool b]) ∧ ((∃ k, ∃ h : k < X.length, X[k].nd.id = id ∧ X[k].nd = d ∧ b = true) ∨ ((∀ i (h : i < X.length), X[i].nd.id ≠ id) ∧ d = zNd ∧ b = false)) ∧ Below w.heap.size w w' := by
 refine (node_any f sb X K rv R id w h).mono ?_
 rintro e w' ⟨⟨k, hk, h1, rfl⟩ | ⟨h1, rfl⟩, hb⟩
 ·exact ⟨_, true, rfl, Or.inl ⟨k, hk, h1, rfl, rfl⟩, hb⟩
 ·exact ⟨_, false, rfl, Or.inr ⟨h1, rfl, rfl⟩, hb⟩
theorem node_at {W : World} {f sb : Nat} {X : List Spot} {K : Nat → List Int} {rv : Value} {R : List Int} (h : ForestAt W f sb X K rv R) (k : Nat) (hk : k < X.length) (id : Int) (hid : X[k].nd.id = id) :
  Calls Tryz.prog 10 #[.pointer (some ⟨f, 0, none⟩), .int .u64 id] W fun e w' => e = .returned (.tuple #[ndV X[k].nd, .bool true]) ∧ Below W.heap.size W w' := by
 refine (node_told f sb X K rv R id W h).mono ?_
 rintro e w' ⟨d, b, rfl, hd, hb⟩
 rcases hd with ⟨j, hj, h1, h2, rfl⟩ | ⟨h1, _, _⟩
 ·have := rise_same h.rise hj hk (by rw [h1, hid])
  subst this
  exact ⟨by rw [h2], hb⟩
 ·exact absurd hid (h1 k hk)
def pl0 : Pl := ⟨none, 0, none, 0, none, 0⟩
def spE (sv : ByteArray) (id par s e : Int) : Sp := ⟨0, 7, id, par, [], sv, ⟨#[98]⟩, 0, 0, s, e, [], []⟩
theorem atE (w : World) (sv : ByteArray) (id par s e : Int) : SpAt w (spE sv id par s e) pl0 :=
 ⟨⟨rfl, fun j u hj => by simp [spE, intsV] at hj⟩, ⟨rfl, fun h => by cases h⟩, ⟨rfl, fun h => by cases h⟩, by simp [spE], by simp [spE], by simp [spE]⟩
theorem smallE (sv : ByteArray) (hs : sv.size ≤ 1000) (id par s e : Int) : (spE sv id par s e).Small := ⟨by simp only [spE]; omega, by simp only [spE]; decide, (fun _ h => by cases h), (fun _ h => by cases h)⟩
theorem fitsE (sv : ByteArray) (id par s e : Int) (h2 : 0 ≤ id ∧ id < 18446744073709551616) (h3 : 0 ≤ par ∧ par < 18446744073709551616) : (spE sv id par s e).Fits :=
 ⟨by simp [spE], by simp [spE], h2, h3, (fun _ h => by cases h), (fun _ h => by cases h)⟩
def enP (a : Sp) : List Value := (spC a pl0).toList
theorem enP_len (a : Sp) : (enP a).length = 13 := rfl
theorem flatP_get : ∀ (X : List Sp) (i : Nat) (h : i < X.length) (j : Nat), j < 13 → (X.flatMap enP)[i * 13 + j]? = (enP X[i])[j]?
 | [], i, h, j, _ => absurd h (by simp)
 | x :: r, 0, h, j, hj => by
  rw [List.flatMap_cons, List.getElem?_append_left (by rw [enP_len]; omega)]
  simp
 | x :: r, i + 1, h, j, hj => by
  rw [List.flatMap_cons, List.getElem?_append_right (by rw [enP_len]; omega), enP_len, show (i + 1) * 13 + j - 13 = i * 13 + j by omega]
  exact flatP_get r i (by simpa using h) j hj
theorem spsFlat {w : World} {g : Nat} {X : List Sp} {T : TypeId} (h : Blk w g (X.flatMap enP).toArray T) (hat : ∀ a ∈ X, SpAt w a pl0) : SpsAt w (some ⟨g, 0, none⟩) X.length X (fun _ => pl0) := by
 refine ⟨rfl, fun _ => ⟨g, 0, rfl, fun i hi j u hu => ?_⟩, fun i hi => hat _ (List.getElem_mem hi)⟩
 have hj : j < 13 := (Array.getElem?_eq_some_iff.1 hu).1
 rw [Nat.zero_add]
 refine h.cell _ ?_
 rw [List.getElem?_toArray, flatP_get X i hi j hj]
 unfold enP
 rw [Array.getElem?_toList]
 exact hu
theorem oneE {X : List Sp} (h : ∀ a ∈ X, ∃ sv id par s e, a = spE sv id par s e ∧ sv.size ≤ 1000 ∧ (0 ≤ id ∧ id < 18446744073709551616) ∧ (0 ≤ par ∧ par < 18446744073709551616) ∧ chkS a = 0) (hl : X.length ≤ 1000) (hn : (X.map (fun a => a.id)).Nodup) : OneT X := by
 refine ⟨hl, fun a ha => ?_, fun a ha => ?_, fun a ha => ?_, fun a ha b hb => ?_, hn⟩
 ·obtain ⟨_, _, _, _, _, _, _, _, _, h4⟩ := h a ha; exact h4
 ·obtain ⟨_, _, _, _, _, rfl, _, h3, h4, _⟩ := h a ha; exact fitsE _ _ _ _ _ h3 h4
 ·obtain ⟨_, _, _, _, _, rfl, h2, _, _⟩ := h a ha; exact smallE _ h2 _ _ _ _
 ·obtain ⟨_, _, _, _, _, rfl, _⟩ := h a ha
  obtain ⟨_, _, _, _, _, rfl, _⟩ := h b hb
  exact ⟨rfl, rfl⟩
def svA : ByteArray := ⟨#[97]⟩
theorem four {i : Nat} (h : i < 4) : i = 0 ∨ i = 1 ∨ i = 2 ∨ i = 3 := by omega
theorem pair_of {R : List Int} {a b : Int} (hp : [a, b].Perm R) (hab : a ≠ b) (h : ∀ x y, R = [x, y] → ¬ (x = b ∧ y = a)) : R = [a, b] := by
 have hl := hp.length_eq
 match R, hl, hp, h with
 | [x, y], _, hp, h =>
  have hx : x = a ∨ x = b := by have := hp.mem_iff.2 (show x ∈ [x, y] by simp); simpa using this
  have hy : y = a ∨ y = b := by have := hp.mem_iff.2 (show y ∈ [x, y] by simp); simpa using this
  have hn : [x, y].Nodup := hp.nodup_iff.1 (by simp [hab])
  simp at hn
  have := h x y rfl
  rcases hx with rfl | rfl <;> rcases hy with rfl | rfl
  ·exact absurd rfl hn
  ·rfl
  ·exact absurd ⟨rfl, rfl⟩ this
  ·exact absurd rfl hn
theorem children_at (f sb : Nat) (X : List Spot) (K : Nat → List Int) (rvv : Value) (R : List Int) (fin : Nat → Nod) (KN : Nat → List Nat) (W : World) (h : ForestAt W f sb X K rvv R) (nd : ∀ i (h : i < X.length), X[i].nd = fin i) (x : Nat) (hx : x < X.length) (kn : K x = (KN x).map (fun c : Nat => (c : Int))) (kl : ∀ c ∈ KN x, c < X.length) :
  Calls Tryz.prog 15 #[.pointer (some ⟨f, 0, none⟩), .int .u64 (fin x).id] W fun e w' => ∃ r, e = .returned (.slice (some ⟨r, 0, none⟩) (KN x).length (KN x).length) ∧ Blk w' r (fillC .u64 ((KN x).map (fun c => (fin c).id)) 0) 33 ∧ W.heap.size ≤ r ∧ Below W.heap.size W w' := by
 refine (children_any f sb X K rvv R (fin x).id W h).mono ?_
 rintro e w' ⟨⟨k, hk, h1, r, rfl, h2, h3⟩ | ⟨h1, _⟩, hb⟩
 ·have hkx : k = x := rise_same h.rise hk hx (by rw [h1, nd x hx])
  subst hkx
  refine ⟨r, by rw [kn, List.length_map], ?_, h3, hb⟩
  have e : idsOf X (K k) = (KN k).map (fun c => (fin c).id) := by
   rw [kn]
   unfold idsOf
   rw [List.map_map]
   refine List.map_congr_left fun c hc => ?_
   have hcX := kl c hc
   simp [hcX, nd c hcX]
  rw [← e]
  exact h2
 ·exact absurd (by rw [nd x hx]) (h1 x hx)
end Go.Proofs.YtnffedmcblbkoaaGreatDoor
