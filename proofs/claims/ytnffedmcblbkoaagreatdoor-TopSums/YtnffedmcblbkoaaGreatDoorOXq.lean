/-
  Merged: OX, OY, PR, G0.
-/
import Derived.Test.YtnffedmcblbkoaaGreatDoorYcq
import Derived.Test.YtnffedmcblbkoaaGreatDoorFIq
import Derived.Test.YtnffedmcblbkoaaGreatDoorOZ
import Derived.Test.YtnffedmcblbkoaaGreatDoorFKq
import Derived.Test.YtnffedmcblbkoaaGreatDoorGAq
namespace Go.Proofs.YtnffedmcblbkoaaGreatDoor
open Go Go.RowKit
set_option maxRecDepth 100000
theorem alloc_atS {W : World} {c : Array Value} {T : TypeId} {b : Nat} (h : b = W.heap.size) : Blk (W.alloc (.cells c T)) b c T := by
 subst h
 exact Blk.new _ _ _
theorem rise_same {X : List Spot} (hr : RiseS X) {i j : Nat} (hi : i < X.length) (hj : j < X.length) (e : X[i].nd.id = X[j].nd.id) : i = j := by
 rcases Nat.lt_trichotomy i j with h | h | h
 ·have := hr i j hi hj h; omega
 ·exact h
 ·have := hr j i hj hi h; omega
theorem node_told (f sb : Nat) (X : List Spot) (K : Nat → List Int) (rv : Value) (R : List Int) (id : Int) (w : World) (h : ForestAt w f sb X K rv R) :
  Calls Tryz.prog 10 #[.pointer (some ⟨f, 0, none⟩), .int .u64 id] w fun e w' => ∃ d b, e = .returned (.tuple #[ndV d, .bool b]) ∧ ((∃ k, ∃ h : k < X.length, X[k].nd.id = id ∧ X[k].nd = d ∧ b = true) ∨ ((∀ i (h : i < X.length), X[i].nd.id ≠ id) ∧ d = zNd ∧ b = false)) ∧ Below w.heap.size w w' := by
 refine (node_any f sb X K rv R id w h).mono ?_
 rintro e w' ⟨⟨k, hk, h1, rfl⟩ | ⟨h1, rfl⟩, hb⟩
 ·exact ⟨_, true, rfl, Or.inl ⟨k, hk, h1, rfl, rfl⟩, hb⟩
 ·exact ⟨_, false, rfl, Or.inr ⟨h1, rfl, rfl⟩, hb⟩
theorem node_at {W : World} {f sb : Nat} {X : List Spot} {K : Nat → List Int} {rv : Value} {R : List Int} (h : ForestAt W f sb X K rv R) (k : Nat) (hk : k < X.length) (id : Int) (hid : X[k].nd.id = id) :
  Calls Tryz.prog 10 #[.pointer (some ⟨f, 0, none⟩), .int .u64 id] W fun e w' => e = .returned (.tuple #[ndV X[k].nd, .bool true]) ∧ Below W.heap.size W w' := by
 refine (node_told f sb X K rv R id W h).mono ?_
 rintro e w' ⟨d, b, rfl, hd, hb⟩
 rcases hd with ⟨j, hj, h1, h2, rfl⟩ | ⟨h1, _, _⟩
 ·have := rise_same h.rise hj hk (by rw [h1, hid])
  subst this
  exact ⟨by rw [h2], hb⟩
 ·exact absurd hid (h1 k hk)
theorem children_at (f sb : Nat) (X : List Spot) (K : Nat → List Int) (rvv : Value) (R : List Int) (fin : Nat → Nod) (KN : Nat → List Nat) (W : World) (h : ForestAt W f sb X K rvv R) (nd : ∀ i (h : i < X.length), X[i].nd = fin i) (x : Nat) (hx : x < X.length) (kn : K x = (KN x).map (fun c : Nat => (c : Int))) (kl : ∀ c ∈ KN x, c < X.length) :
  Calls Tryz.prog 15 #[.pointer (some ⟨f, 0, none⟩), .int .u64 (fin x).id] W fun e w' => ∃ r, e = .returned (.slice (some ⟨r, 0, none⟩) (KN x).length (KN x).length) ∧ Blk w' r (fillC .u64 ((KN x).map (fun c => (fin c).id)) 0) 33 ∧ W.heap.size ≤ r ∧ Below W.heap.size W w' := by
 refine (children_any f sb X K rvv R (fin x).id W h).mono ?_
 rintro e w' ⟨⟨k, hk, h1, r, rfl, h2, h3⟩ | ⟨h1, _⟩, hb⟩
 ·have hkx : k = x := rise_same h.rise hk hx (by rw [h1, nd x hx])
  subst hkx
  refine ⟨r, by rw [kn, List.length_map], ?_, h3, hb⟩
  have e : idsOf X (K k) = (KN k).map (fun c => (fin c).id) := by
   rw [kn]
   unfold idsOf
   rw [List.map_map]
   refine List.map_congr_left fun c hc => ?_
   have hcX := kl c hc
   simp [hcX, nd c hcX]
  rw [← e]
  exact h2
 ·exact absurd (by rw [nd x hx]) (h1 x hx)
def spZ : Sp := ⟨0, 0, 0, 0, [], ⟨#[]⟩, ⟨#[]⟩, 0, 0, 0, 0, [], []⟩
def spAt (Y : List Sp) (i : Nat) : Sp := Y.getD i spZ
abbrev knK (K : Nat → List Int) (i : Nat) : List Nat := (K i).map Int.toNat
abbrev cnK (fin : Nat → Nod) (K : Nat → List Int) (i : Nat) : List Nat := (knK K i).filter (fun c => decide ((fin c).fr < (fin c).til))
abbrev upK (C : List Int) (Y : List Sp) (c : Nat) : Nat := ((cutN C (nmOf (zs Y))).getD c (-1)).toNat
structure FoB (Y : List Sp) (C : List Int) (dp : Nat → Nat) (fin : Nat → Nod) (X : List Spot) (K : Nat → List Int) (R : List Int) : Prop where
 fo : FoC Y C fin X K R
 sh : Shape (cutX C (zs Y)) (cutN C (nmOf (zs Y))) dp fin
 rise : RiseS X
 one : OneT Y
theorem nmC_range (Y : List Sp) (C : List Int) (i : Nat) (hi : i < Y.length) : (cutN C (nmOf (zs Y))).getD i (-1) = -1 ∨ ∃ j : Nat, j < Y.length ∧ (cutN C (nmOf (zs Y))).getD i (-1) = (j : Int) := by
 have hnl : (nmOf (zs Y)).length = Y.length := by simp [nmOf, zs_len]
 have hr : ∀ x ∈ nmOf (zs Y), -1 ≤ x ∧ x < (Y.length : Int) := fun x hx => by
  unfold nmOf at hx
  obtain ⟨s, _, rfl⟩ := List.mem_map.1 hx
  have := idx_range (zs Y) s.a.par
  rw [zs_len] at this
  exact this
 have hl : i < (cutN C (nmOf (zs Y))).length := by rw [cutN_len, hnl]; exact hi
 have h := cutN_range C Y.length (nmOf (zs Y)) hr (cutN C (nmOf (zs Y)))[i] (List.getElem_mem hl)
 have e : (cutN C (nmOf (zs Y))).getD i (-1) = (cutN C (nmOf (zs Y)))[i] := by simp [List.getD, hl]
 rw [e]
 by_cases h1 : (cutN C (nmOf (zs Y)))[i] = -1
 ·exact Or.inl h1
 ·exact Or.inr ⟨(cutN C (nmOf (zs Y)))[i].toNat, by omega, by omega⟩
theorem FoB.mem {Y : List Sp} {C : List Int} {dp : Nat → Nat} {fin : Nat → Nod} {X : List Spot} {K : Nat → List Int} {R : List Int} (h : FoB Y C dp fin X K R) (i : Nat) (hi : i < Y.length) (c : Nat) : c ∈ knK K i ↔ c < Y.length ∧ (cutN C (nmOf (zs Y))).getD c (-1) = (i : Int) := by
 constructor
 ·intro hc
  obtain ⟨z, hz, rfl⟩ := List.mem_map.1 hc
  obtain ⟨q, rfl, h1, h2⟩ := kidsF_iff.1 ((h.fo.kids i hi).1.mem_iff.2 hz)
  exact ⟨by simpa using h1, by simpa using h2⟩
 ·rintro ⟨h1, h2⟩
  exact List.mem_map.2 ⟨(c : Int), (h.fo.kids i hi).1.mem_iff.1 (kidsF_iff.2 ⟨c, rfl, h1, h2⟩), by simp⟩
theorem FoB.pos {Y : List Sp} {C : List Int} {dp : Nat → Nat} {fin : Nat → Nod} {X : List Spot} {K : Nat → List Int} {R : List Int} (h : FoB Y C dp fin X K R) (i : Nat) (hi : i < Y.length) : ∀ z ∈ K i, 0 ≤ z := fun _ hz => (kidsF_mem ((h.fo.kids i hi).1.mem_iff.2 hz)).1
theorem FoB.nodup {Y : List Sp} {C : List Int} {dp : Nat → Nat} {fin : Nat → Nod} {X : List Spot} {K : Nat → List Int} {R : List Int} (h : FoB Y C dp fin X K R) (i : Nat) (hi : i < Y.length) : (knK K i).Nodup := by
 have h1 : (K i).Nodup := (h.fo.kids i hi).1.nodup_iff.1 (kidsF_nodup _ _ _)
 refine List.pairwise_map.2 (List.Pairwise.imp_of_mem ?_ h1)
 intro a b ha hb hab e
 have := h.pos i hi a ha
 have := h.pos i hi b hb
 omega
theorem FoB.tree {Y : List Sp} {C : List Int} {dp : Nat → Nat} {fin : Nat → Nod} {X : List Spot} {K : Nat → List Int} {R : List Int} (h : FoB Y C dp fin X K R) : TreeK (knK K) (upK C Y) dp Y.length 1000 := by
 have hcl : (cutX C (zs Y)).length = Y.length := by rw [cutX_len, zs_len]
 refine ⟨fun i hi c hc => ?_, fun i hi c hc => ?_, fun i hi c hc => ((h.mem i hi c).1 hc).1, h.nodup, fun i hi => (h.sh.bd i (by omega)).1⟩
 ·show ((cutN C (nmOf (zs Y))).getD c (-1)).toNat = i
  rw [((h.mem i hi c).1 hc).2]; simp
 ·exact (h.sh.kd c i (by rw [hcl]; exact ((h.mem i hi c).1 hc).1) (by omega) ((h.mem i hi c).1 hc).2).1
theorem chk_mom {a : Sp} (h : chkS a = 0) : 0 ≤ a.start ∧ a.start ≤ a.fin ∧ a.fin ≤ 4611686018427387904 := by
 unfold chkS at h
 split at h
 ·omega
 ·split at h
  ·omega
  ·rename_i h2
   simp [momB] at h2
   omega
theorem clip_in {s e f t : Int} (_ : s ≤ e) (_ : f ≤ t) : f ≤ (clipI (s, e) (f, t)).1 ∧ (clipI (s, e) (f, t)).1 ≤ (clipI (s, e) (f, t)).2 ∧ (clipI (s, e) (f, t)).2 ≤ t := by
 unfold clipI brI
 by_cases k1 : t ≤ f
 ·simp only [k1, if_true]; omega
 ·by_cases k2 : e ≤ s
  ·simp only [k1, k2, if_true, if_false]; omega
  ·simp only [k1, k2, if_false]; omega
theorem zs_get (Y : List Sp) (i : Nat) (hi : i < Y.length) : ∃ h : i < (zs Y).length, (zs Y)[i].a = Y[i] ∧ (zs Y)[i].nd.id = Y[i].id := by
 refine ⟨by rw [zs_len]; exact hi, ?_⟩
 simp [zs, ndOf]
theorem FoB.inn {Y : List Sp} {C : List Int} {dp : Nat → Nat} {fin : Nat → Nod} {X : List Spot} {K : Nat → List Int} {R : List Int} (h : FoB Y C dp fin X K R) : ∀ (d i : Nat), dp i = d → i < Y.length → 0 ≤ (fin i).fr ∧ (fin i).fr ≤ (fin i).til ∧ (fin i).til ≤ 4611686018427387904 := by
 intro d
 induction d using Nat.strongRecOn with
 | ind d ih =>
  intro i hd hi
  have hcl : (cutX C (zs Y)).length = Y.length := by rw [cutX_len, zs_len]
  have hi' : i < (cutX C (zs Y)).length := by omega
  obtain ⟨hz, z1, z2⟩ := zs_get Y i hi
  obtain ⟨s1, _, s3⟩ := cutX_same C (zs Y) i hz hi'
  have hm := chk_mom (h.one.chk Y[i] (List.getElem_mem hi))
  rw [← z1, ← s1] at hm
  rcases nmC_range Y C i hi with hn | ⟨j, hj, hn⟩
  ·have := (h.sh.rt i hi' hn).2
   rw [this]
   unfold rootN
   simp only
   omega
  ·obtain ⟨k1, k2⟩ := h.sh.kd i j hi' (by omega) hn
   have ih := ih (dp j) (by omega) j rfl hj
   have := clip_in (s := (cutX C (zs Y))[i].a.start) (e := (cutX C (zs Y))[i].a.fin) (f := (fin j).fr) (t := (fin j).til) (by omega) (by omega)
   rw [k2]
   unfold hangN
   simp only
   omega
theorem FoB.kid {Y : List Sp} {C : List Int} {dp : Nat → Nat} {fin : Nat → Nod} {X : List Spot} {K : Nat → List Int} {R : List Int} (h : FoB Y C dp fin X K R) (j : Nat) (hj : j < Y.length) (i : Nat) (hc : i ∈ knK K j) : (fin j).fr ≤ (fin i).fr ∧ (fin i).til ≤ (fin j).til ∧ (fin i).tree = (fin j).tree := by
 have hcl : (cutX C (zs Y)).length = Y.length := by rw [cutX_len, zs_len]
 obtain ⟨hi, hn⟩ := (h.mem j hj i).1 hc
 have hi' : i < (cutX C (zs Y)).length := by omega
 obtain ⟨hz, z1, z2⟩ := zs_get Y i hi
 obtain ⟨s1, _, s3⟩ := cutX_same C (zs Y) i hz hi'
 have hm := chk_mom (h.one.chk Y[i] (List.getElem_mem hi))
 rw [← z1, ← s1] at hm
 obtain ⟨k1, k2⟩ := h.sh.kd i j hi' (by omega) hn
 have ih := h.inn (dp j) j rfl hj
 have := clip_in (s := (cutX C (zs Y))[i].a.start) (e := (cutX C (zs Y))[i].a.fin) (f := (fin j).fr) (t := (fin j).til) (by omega) (by omega)
 rw [k2]
 exact ⟨this.1, this.2.2, rfl⟩
theorem FoB.ids {Y : List Sp} {C : List Int} {dp : Nat → Nat} {fin : Nat → Nod} {X : List Spot} {K : Nat → List Int} {R : List Int} (h : FoB Y C dp fin X K R) (i : Nat) (hi : i < Y.length) : (spAt Y i).id = (fin i).id := by
 have hcl : (cutX C (zs Y)).length = Y.length := by rw [cutX_len, zs_len]
 have hi' : i < (cutX C (zs Y)).length := by omega
 obtain ⟨hz, z1, z2⟩ := zs_get Y i hi
 obtain ⟨s1, _, s3⟩ := cutX_same C (zs Y) i hz hi'
 have := h.sh.idG (fun q hq hn => by
  rcases nmC_range Y C q (by omega) with e | ⟨j, hj, e⟩
  ·exact absurd e hn
  ·rw [e]; omega) i hi'
 rw [this, s3, z2]
 simp [spAt, List.getD, hi]
def pl0 : Pl := ⟨none, 0, none, 0, none, 0⟩
def enP (a : Sp) : List Value := (spC a pl0).toList
theorem enP_len (a : Sp) : (enP a).length = 13 := rfl
theorem flatP_get : ∀ (X : List Sp) (i : Nat) (h : i < X.length) (j : Nat), j < 13 → (X.flatMap enP)[i * 13 + j]? = (enP X[i])[j]?
 | [], i, h, j, _ => absurd h (by simp)
 | x :: r, 0, h, j, hj => by
  rw [List.flatMap_cons, List.getElem?_append_left (by rw [enP_len]; omega)]
  simp
 | x :: r, i + 1, h, j, hj => by
  rw [List.flatMap_cons, List.getElem?_append_right (by rw [enP_len]; omega), enP_len, show (i + 1) * 13 + j - 13 = i * 13 + j by omega]
  exact flatP_get r i (by simpa using h) j hj
theorem spsFlat {w : World} {g : Nat} {X : List Sp} {T : TypeId} (h : Blk w g (X.flatMap enP).toArray T) (hat : ∀ a ∈ X, SpAt w a pl0) : SpsAt w (some ⟨g, 0, none⟩) X.length X (fun _ => pl0) := by
 refine ⟨rfl, fun _ => ⟨g, 0, rfl, fun i hi j u hu => ?_⟩, fun i hi => hat _ (List.getElem_mem hi)⟩
 have hj : j < 13 := (Array.getElem?_eq_some_iff.1 hu).1
 rw [Nat.zero_add]
 refine h.cell _ ?_
 rw [List.getElem?_toArray, flatP_get X i hi j hj]
 unfold enP
 rw [Array.getElem?_toList]
 exact hu
end Go.Proofs.YtnffedmcblbkoaaGreatDoor
