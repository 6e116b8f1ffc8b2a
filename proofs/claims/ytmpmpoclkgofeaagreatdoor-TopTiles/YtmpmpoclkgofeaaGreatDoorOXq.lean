/-
  Merged: OX, G0, OY.
-/
import Derived.Test.YtmpmpoclkgofeaaGreatDoorYcq
import Derived.Test.YtmpmpoclkgofeaaGreatDoorFIq
import Derived.Test.YtmpmpoclkgofeaaGreatDoorGAq
import Derived.Test.YtmpmpoclkgofeaaGreatDoorOZ
namespace Go.Proofs.YtmpmpoclkgofeaaGreatDoor
open Go Go.RowKit
set_option maxRecDepth 100000

theorem alloc_atS {W : World} {c : Array Value} {T : TypeId} {b : Nat} (h : b = W.heap.size) : Blk (W.alloc (.cells c T)) b c T := by
  subst h
  exact Blk.new _ _ _
theorem rise_same {X : List Spot} (hr : RiseS X) {i j : Nat} (hi : i < X.length) (hj : j < X.length) (e : X[i].nd.id = X[j].nd.id) : i = j := by
  rcases Nat.lt_trichotomy i j with h | h | h
  · have := hr i j hi hj h; omega
  · exact h
  · have := hr j i hj hi h; omega
theorem node_told (f sb : Nat) (X : List Spot) (K : Nat → List Int) (rv : Value) (R : List Int) (id : Int) (w : World) (h : ForestAt w f sb X K rv R) :
    Calls Tryz.prog 15 #[.pointer (some ⟨f, 0, none⟩), .int .u64 id] w fun e w' => ∃ d b, e = .returned (.tuple #[ndV d, .bool b]) ∧ ((∃ k, ∃ h : k < X.length, X[k].nd.id = id ∧ X[k].nd = d ∧ b = true) ∨ ((∀ i (h : i < X.length), X[i].nd.id ≠ id) ∧ d = zNd ∧ b = false)) ∧ Below w.heap.size w w' := by
  refine (node_any f sb X K rv R id w h).mono ?_
  rintro e w' ⟨⟨k, hk, h1, rfl⟩ | ⟨h1, rfl⟩, hb⟩
  · exact ⟨_, true, rfl, Or.inl ⟨k, hk, h1, rfl, rfl⟩, hb⟩
  · exact ⟨_, false, rfl, Or.inr ⟨h1, rfl, rfl⟩, hb⟩
theorem node_at {W : World} {f sb : Nat} {X : List Spot} {K : Nat → List Int} {rv : Value} {R : List Int} (h : ForestAt W f sb X K rv R) (k : Nat) (hk : k < X.length) (id : Int) (hid : X[k].nd.id = id) :
    Calls Tryz.prog 15 #[.pointer (some ⟨f, 0, none⟩), .int .u64 id] W fun e w' => e = .returned (.tuple #[ndV X[k].nd, .bool true]) ∧ Below W.heap.size W w' := by
  refine (node_told f sb X K rv R id W h).mono ?_
  rintro e w' ⟨d, b, rfl, hd, hb⟩
  rcases hd with ⟨j, hj, h1, h2, rfl⟩ | ⟨h1, _, _⟩
  · have := rise_same h.rise hj hk (by rw [h1, hid])
    subst this
    exact ⟨by rw [h2], hb⟩
  · exact absurd hid (h1 k hk)
end Go.Proofs.YtmpmpoclkgofeaaGreatDoor

namespace Go.Proofs.YtmpmpoclkgofeaaGreatDoor
open Go Go.RowKit
set_option maxRecDepth 100000

def pl0 : Pl := ⟨none, 0, none, 0, none, 0⟩
def enP (a : Sp) : List Value := (spC a pl0).toList
theorem enP_len (a : Sp) : (enP a).length = 13 := rfl
theorem flatP_get : ∀ (X : List Sp) (i : Nat) (h : i < X.length) (j : Nat), j < 13 → (X.flatMap enP)[i * 13 + j]? = (enP X[i])[j]?
  | [], i, h, j, _ => absurd h (by simp)
  | x :: r, 0, h, j, hj => by
    rw [List.flatMap_cons, List.getElem?_append_left (by rw [enP_len]; omega)]
    simp
  | x :: r, i + 1, h, j, hj => by
    rw [List.flatMap_cons, List.getElem?_append_right (by rw [enP_len]; omega), enP_len, show (i + 1) * 13 + j - 13 = i * 13 + j by omega]
    exact flatP_get r i (by simpa using h) j hj
theorem spsFlat {w : World} {g : Nat} {X : List Sp} {T : TypeId} (h : Blk w g (X.flatMap enP).toArray T) (hat : ∀ a ∈ X, SpAt w a pl0) : SpsAt w (some ⟨g, 0, none⟩) X.length X (fun _ => pl0) := by
  refine ⟨rfl, fun _ => ⟨g, 0, rfl, fun i hi j u hu => ?_⟩, fun i hi => hat _ (List.getElem_mem hi)⟩
  have hj : j < 13 := (Array.getElem?_eq_some_iff.1 hu).1
  rw [Nat.zero_add]
  refine h.cell _ ?_
  rw [List.getElem?_toArray, flatP_get X i hi j hj]
  unfold enP
  rw [Array.getElem?_toList]
  exact hu
end Go.Proofs.YtmpmpoclkgofeaaGreatDoor

namespace Go.Proofs.YtmpmpoclkgofeaaGreatDoor
open Go Go.RowKit
set_option maxRecDepth 100000

theorem children_at (f sb : Nat) (X : List Spot) (K : Nat → List Int) (rvv : Value) (R : List Int) (fin : Nat → Nod) (KN : Nat → List Nat) (W : World) (h : ForestAt W f sb X K rvv R) (nd : ∀ i (h : i < X.length), X[i].nd = fin i) (x : Nat) (hx : x < X.length) (kn : K x = (KN x).map (fun c : Nat => (c : Int))) (kl : ∀ c ∈ KN x, c < X.length) :
    Calls Tryz.prog 22 #[.pointer (some ⟨f, 0, none⟩), .int .u64 (fin x).id] W fun e w' => ∃ r, e = .returned (.slice (some ⟨r, 0, none⟩) (KN x).length (KN x).length) ∧ Blk w' r (fillC .u64 ((KN x).map (fun c => (fin c).id)) 0) 33 ∧ W.heap.size ≤ r ∧ Below W.heap.size W w' := by
  refine (children_any f sb X K rvv R (fin x).id W h).mono ?_
  rintro e w' ⟨⟨k, hk, h1, r, rfl, h2, h3⟩ | ⟨h1, _⟩, hb⟩
  · have hkx : k = x := rise_same h.rise hk hx (by rw [h1, nd x hx])
    subst hkx
    refine ⟨r, by rw [kn, List.length_map], ?_, h3, hb⟩
    have e : idsOf X (K k) = (KN k).map (fun c => (fin c).id) := by
      rw [kn]
      unfold idsOf
      rw [List.map_map]
      refine List.map_congr_left fun c hc => ?_
      have hcX := kl c hc
      simp [hcX, nd c hcX]
    rw [← e]
    exact h2
  · exact absurd (by rw [nd x hx]) (h1 x hx)
end Go.Proofs.YtmpmpoclkgofeaaGreatDoor
