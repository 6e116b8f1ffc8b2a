/-
  Merged: PC, PF, PJ, PM, PP.
-/
import Derived.Test.YtnffedmcblbkoaaGreatDoorOXq
import Derived.Test.YtnffedmcblbkoaaGreatDoorOZ
import Derived.Test.YtnffedmcblbkoaaGreatDoorMwq
import Derived.Test.YtnffedmcblbkoaaGreatDoorSOq
import Derived.Deep.RegionHeld3
import Derived.Deep.RegionLaw
import Derived.Deep.Cut
import Derived.Shelf.SlicesQ.Reverse
import Derived.Ground.SlgnProg
import Derived.Test.YtnffedmcblbkoaaGreatDoorPRq
namespace Go.Proofs.YtnffedmcblbkoaaGreatDoor
open Go Go.RowKit
set_option maxRecDepth 100000
def RobS (W w' : World) (a : Sp) (p : Pl) : Prop := ∀ w5 : World, (∀ j, W.heap.size ≤ j → j < w'.heap.size → w5.heap[j]? = w'.heap[j]?) → SpAt w5 a p
theorem span_at {W : World} {f sb : Nat} {X : List Spot} {K : Nat → List Int} {rv : Value} {R : List Int} (h : ForestAt W f sb X K rv R) (k : Nat) (hk : k < X.length) (id : Int) (hid : X[k].nd.id = id) :
  Calls Tryz.prog 40 #[.pointer (some ⟨f, 0, none⟩), .int .u64 id] W fun e w' => ∃ p', e = .returned (.tuple #[spV X[k].a p', .bool true]) ∧ RobS W w' X[k].a p' ∧ Below W.heap.size W w' := by
 refine (span_any f sb X K rv R id W h).mono ?_
 rintro e w' ⟨hd, hb⟩
 rcases hd with ⟨j, hj, h1, p', rfl, hr⟩ | ⟨h1, _⟩
 ·have := rise_same h.rise hj hk (by rw [h1, hid])
  subst this
  exact ⟨p', rfl, hr, hb⟩
 ·exact absurd hid (h1 k hk)
structure BkE (A : Nat → Sp) (fin : Nat → Nod) (C : Nat → List Nat) (D : List Nat) : Prop where
 ida : ∀ y ∈ D, (A y).id = (fin y).id
 rg : ∀ y ∈ D, In64 ((fin y).fr, (fin y).til)
 len : ∀ y ∈ D, (C y).length ≤ 1000
structure SvE (X : List Spot) (K : Nat → List Int) (A : Nat → Sp) (fin : Nat → Nod) (KN C : Nat → List Nat) (fuel x : Nat) : Prop where
 nd : ∀ i (h : i < X.length), X[i].nd = fin i
 sp : ∀ i (h : i < X.length), X[i].a = A i
 kn : ∀ i, i < X.length → K i = (KN i).map (fun c : Nat => (c : Int)) ∧ (∀ c ∈ KN i, c < X.length) ∧ (KN i).length ≤ 1000
 cn : ∀ i, C i = (KN i).filter (fun c => decide ((fin c).fr < (fin c).til))
 dp : DeepN KN fuel [x]
 xX : x < X.length
 nd2 : (preN KN fuel [x]).Nodup
 ln : (preN KN fuel [x]).length ≤ 1000
 bk : BkE A fin C (preN KN fuel [x])
theorem FoB.senv {Y : List Sp} {C : List Int} {dp : Nat → Nat} {fin : Nat → Nod} {X : List Spot} {K : Nat → List Int} {R : List Int} (h : FoB Y C dp fin X K R) (x : Nat) (hx : x < Y.length) : SvE X K (spAt Y) fin (knK K) (cnK fin K) 1001 x := by
 have T := h.tree
 have hlen := h.fo.len
 have hl := h.one.len
 have L := T.len 1001 x hx
 have inY : ∀ y ∈ preN (knK K) 1001 [x], y < Y.length := fun y hy => (T.above 1001 [x] (fun z hz => by simp at hz; subst hz; exact hx) y hy).1
 have kl : ∀ i, i < Y.length → (knK K i).length ≤ 1000 := fun i hi => by
  have := sub_len _ (List.range Y.length) (h.nodup i hi) (fun c hc => List.mem_range.2 ((h.mem i hi c).1 hc).1)
  simp only [List.length_range] at this
  omega
 refine ⟨fun i hi => (h.fo.each i (by omega) hi).2, fun i hi => ?_, fun i hi => ⟨?_, fun c hc => by rw [hlen]; exact ((h.mem i (by omega) c).1 hc).1, kl i (by omega)⟩, fun i => rfl, T.deep 1001 [x] (fun y hy => by simp at hy; subst hy; exact ⟨hx, by omega⟩), by omega, L.1, by omega, fun y hy => h.ids y (inY y hy), fun y hy => ?_, fun y hy => ?_⟩
 ·rw [(h.fo.each i (by omega) hi).1]
  simp [spAt, List.getD, show i < Y.length by omega]
 ·rw [List.map_map]
  have : ∀ z ∈ K i, ((fun c : Nat => (c : Int)) ∘ Int.toNat) z = z := fun z hz => by
   have := h.pos i (by omega) z hz
   show ((z.toNat : Nat) : Int) = z
   omega
  exact (List.map_congr_left this).trans (List.map_id _) |>.symm
 ·have := h.inn (dp y) y rfl (inY y hy)
  unfold In64 in64
  simp only
  omega
 ·exact Nat.le_trans (List.length_filter_le _ _) (kl y (inY y hy))
theorem FoB.root {Y : List Sp} {C : List Int} {dp : Nat → Nat} {fin : Nat → Nod} {X : List Spot} {K : Nat → List Int} {R : List Int} (h : FoB Y C dp fin X K R) (z : Int) (hz : z ∈ R) : ∃ x : Nat, z = (x : Int) ∧ x < Y.length ∧ (fin x).org ≠ 0 ∧ (fin x).tree = (fin x).id := by
 have hcl : (cutX C (zs Y)).length = Y.length := by rw [cutX_len, zs_len]
 obtain ⟨x, rfl, hx, hn⟩ := kidsF_iff.1 (h.fo.roots.1.mem_iff.2 hz)
 have := (h.sh.rt x (by omega) hn).2
 refine ⟨x, rfl, hx, ?_, ?_⟩
 ·rw [this]
  unfold rootN
  simp only
  split
  ·omega
  ·split <;> omega
 ·rw [this]
  rfl
end Go.Proofs.YtnffedmcblbkoaaGreatDoor
