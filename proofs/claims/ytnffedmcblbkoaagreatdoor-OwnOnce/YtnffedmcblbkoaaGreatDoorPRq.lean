/-
  Merged: PR, PT.
-/
import Derived.Test.YtnffedmcblbkoaaGreatDoorFKq
import Derived.Test.YtnffedmcblbkoaaGreatDoorOZ
import Derived.Test.YtnffedmcblbkoaaGreatDoorGAq
import Derived.Test.YtnffedmcblbkoaaGreatDoorSOq
namespace Go.Proofs.YtnffedmcblbkoaaGreatDoor
open Go Go.RowKit
set_option maxRecDepth 100000
def spZ : Sp := ⟨0, 0, 0, 0, [], ⟨#[]⟩, ⟨#[]⟩, 0, 0, 0, 0, [], []⟩
def spAt (Y : List Sp) (i : Nat) : Sp := Y.getD i spZ
abbrev knK (K : Nat → List Int) (i : Nat) : List Nat := (K i).map Int.toNat
abbrev cnK (fin : Nat → Nod) (K : Nat → List Int) (i : Nat) : List Nat := (knK K i).filter (fun c => decide ((fin c).fr < (fin c).til))
abbrev upK (C : List Int) (Y : List Sp) (c : Nat) : Nat := ((cutN C (nmOf (zs Y))).getD c (-1)).toNat
structure FoB (Y : List Sp) (C : List Int) (dp : Nat → Nat) (fin : Nat → Nod) (X : List Spot) (K : Nat → List Int) (R : List Int) : Prop where
 fo : FoC Y C fin X K R
 sh : Shape (cutX C (zs Y)) (cutN C (nmOf (zs Y))) dp fin
 rise : RiseS X
 one : OneT Y
theorem nmC_range (Y : List Sp) (C : List Int) (i : Nat) (hi : i < Y.length) : (cutN C (nmOf (zs Y))).getD i (-1) = -1 ∨ ∃ j : Nat, j < Y.length ∧ (cutN C (nmOf (zs Y))).getD i (-1) = (j : Int) := by
 have hnl : (nmOf (zs Y)).length = Y.length := by simp [nmOf, zs_len]
 have hr : ∀ x ∈ nmOf (zs Y), -1 ≤ x ∧ x < (Y.length : Int) := fun x hx => by
  unfold nmOf at hx
  obtain ⟨s, _, rfl⟩ := List.mem_map.1 hx
  have := idx_range (zs Y) s.a.par
  rw [zs_len] at this
  exact this
 have hl : i < (cutN C (nmOf (zs Y))).length := by rw [cutN_len, hnl]; exact hi
 have h := cutN_range C Y.length (nmOf (zs Y)) hr (cutN C (nmOf (zs Y)))[i] (List.getElem_mem hl)
 have e : (cutN C (nmOf (zs Y))).getD i (-1) = (cutN C (nmOf (zs Y)))[i] := by simp [List.getD, hl]
 rw [e]
 by_cases h1 : (cutN C (nmOf (zs Y)))[i] = -1
 ·exact Or.inl h1
 ·exact Or.inr ⟨(cutN C (nmOf (zs Y)))[i].toNat, by omega, by omega⟩
theorem FoB.mem {Y : List Sp} {C : List Int} {dp : Nat → Nat} {fin : Nat → Nod} {X : List Spot} {K : Nat → List Int} {R : List Int} (h : FoB Y C dp fin X K R) (i : Nat) (hi : i < Y.length) (c : Nat) : c ∈ knK K i ↔ c < Y.length ∧ (cutN C (nmOf (zs Y))).getD c (-1) = (i : Int) := by
 constructor
 ·intro hc
  obtain ⟨z, hz, rfl⟩ := List.mem_map.1 hc
  obtain ⟨q, rfl, h1, h2⟩ := kidsF_iff.1 ((h.fo.kids i hi).1.mem_iff.2 hz)
  exact ⟨by simpa using h1, by simpa using h2⟩
 ·rintro ⟨h1, h2⟩
  exact List.mem_map.2 ⟨(c : Int), (h.fo.kids i hi).1.mem_iff.1 (kidsF_iff.2 ⟨c, rfl, h1, h2⟩), by simp⟩
theorem FoB.pos {Y : List Sp} {C : List Int} {dp : Nat → Nat} {fin : Nat → Nod} {X : List Spot} {K : Nat → List Int} {R : List Int} (h : FoB Y C dp fin X K R) (i : Nat) (hi : i < Y.length) : ∀ z ∈ K i, 0 ≤ z := fun _ hz => (kidsF_mem ((h.fo.kids i hi).1.mem_iff.2 hz)).1
theorem FoB.nodup {Y : List Sp} {C : List Int} {dp : Nat → Nat} {fin : Nat → Nod} {X : List Spot} {K : Nat → List Int} {R : List Int} (h : FoB Y C dp fin X K R) (i : Nat) (hi : i < Y.length) : (knK K i).Nodup := by
 have h1 : (K i).Nodup := (h.fo.kids i hi).1.nodup_iff.1 (kidsF_nodup _ _ _)
 refine List.pairwise_map.2 (List.Pairwise.imp_of_mem ?_ h1)
 intro a b ha hb hab e
 have := h.pos i hi a ha
 have := h.pos i hi b hb
 omega
theorem FoB.tree {Y : List Sp} {C : List Int} {dp : Nat → Nat} {fin : Nat → Nod} {X : List Spot} {K : Nat → List Int} {R : List Int} (h : FoB Y C dp fin X K R) : TreeK (knK K) (upK C Y) dp Y.length 1000 := by
 have hcl : (cutX C (zs Y)).length = Y.length := by rw [cutX_len, zs_len]
 refine ⟨fun i hi c hc => ?_, fun i hi c hc => ?_, fun i hi c hc => ((h.mem i hi c).1 hc).1, h.nodup, fun i hi => (h.sh.bd i (by omega)).1⟩
 ·show ((cutN C (nmOf (zs Y))).getD c (-1)).toNat = i
  rw [((h.mem i hi c).1 hc).2]; simp
 ·exact (h.sh.kd c i (by rw [hcl]; exact ((h.mem i hi c).1 hc).1) (by omega) ((h.mem i hi c).1 hc).2).1
theorem chk_mom {a : Sp} (h : chkS a = 0) : 0 ≤ a.start ∧ a.start ≤ a.fin ∧ a.fin ≤ 4611686018427387904 := by
 unfold chkS at h
 split at h
 ·omega
 ·split at h
  ·omega
  ·rename_i h2
   simp [momB] at h2
   omega
theorem clip_in {s e f t : Int} (_ : s ≤ e) (_ : f ≤ t) : f ≤ (clipI (s, e) (f, t)).1 ∧ (clipI (s, e) (f, t)).1 ≤ (clipI (s, e) (f, t)).2 ∧ (clipI (s, e) (f, t)).2 ≤ t := by
 unfold clipI brI
 by_cases k1 : t ≤ f
 ·simp only [k1, if_true]; omega
 ·by_cases k2 : e ≤ s
  ·simp only [k1, k2, if_true, if_false]; omega
  ·simp only [k1, k2, if_false]; omega
theorem zs_get (Y : List Sp) (i : Nat) (hi : i < Y.length) : ∃ h : i < (zs Y).length, (zs Y)[i].a = Y[i] ∧ (zs Y)[i].nd.id = Y[i].id := by
 refine ⟨by rw [zs_len]; exact hi, ?_⟩
 simp [zs, ndOf]
theorem FoB.inn {Y : List Sp} {C : List Int} {dp : Nat → Nat} {fin : Nat → Nod} {X : List Spot} {K : Nat → List Int} {R : List Int} (h : FoB Y C dp fin X K R) : ∀ (d i : Nat), dp i = d → i < Y.length → 0 ≤ (fin i).fr ∧ (fin i).fr ≤ (fin i).til ∧ (fin i).til ≤ 4611686018427387904 := by
 intro d
 induction d using Nat.strongRecOn with
 | ind d ih =>
  intro i hd hi
  have hcl : (cutX C (zs Y)).length = Y.length := by rw [cutX_len, zs_len]
  have hi' : i < (cutX C (zs Y)).length := by omega
  obtain ⟨hz, z1, z2⟩ := zs_get Y i hi
  obtain ⟨s1, _, s3⟩ := cutX_same C (zs Y) i hz hi'
  have hm := chk_mom (h.one.chk Y[i] (List.getElem_mem hi))
  rw [← z1, ← s1] at hm
  rcases nmC_range Y C i hi with hn | ⟨j, hj, hn⟩
  ·have := (h.sh.rt i hi' hn).2
   rw [this]
   unfold rootN
   simp only
   omega
  ·obtain ⟨k1, k2⟩ := h.sh.kd i j hi' (by omega) hn
   have ih := ih (dp j) (by omega) j rfl hj
   have := clip_in (s := (cutX C (zs Y))[i].a.start) (e := (cutX C (zs Y))[i].a.fin) (f := (fin j).fr) (t := (fin j).til) (by omega) (by omega)
   rw [k2]
   unfold hangN
   simp only
   omega
theorem FoB.kid {Y : List Sp} {C : List Int} {dp : Nat → Nat} {fin : Nat → Nod} {X : List Spot} {K : Nat → List Int} {R : List Int} (h : FoB Y C dp fin X K R) (j : Nat) (hj : j < Y.length) (i : Nat) (hc : i ∈ knK K j) : (fin j).fr ≤ (fin i).fr ∧ (fin i).til ≤ (fin j).til ∧ (fin i).tree = (fin j).tree := by
 have hcl : (cutX C (zs Y)).length = Y.length := by rw [cutX_len, zs_len]
 obtain ⟨hi, hn⟩ := (h.mem j hj i).1 hc
 have hi' : i < (cutX C (zs Y)).length := by omega
 obtain ⟨hz, z1, z2⟩ := zs_get Y i hi
 obtain ⟨s1, _, s3⟩ := cutX_same C (zs Y) i hz hi'
 have hm := chk_mom (h.one.chk Y[i] (List.getElem_mem hi))
 rw [← z1, ← s1] at hm
 obtain ⟨k1, k2⟩ := h.sh.kd i j hi' (by omega) hn
 have ih := h.inn (dp j) j rfl hj
 have := clip_in (s := (cutX C (zs Y))[i].a.start) (e := (cutX C (zs Y))[i].a.fin) (f := (fin j).fr) (t := (fin j).til) (by omega) (by omega)
 rw [k2]
 exact ⟨this.1, this.2.2, rfl⟩
theorem FoB.ids {Y : List Sp} {C : List Int} {dp : Nat → Nat} {fin : Nat → Nod} {X : List Spot} {K : Nat → List Int} {R : List Int} (h : FoB Y C dp fin X K R) (i : Nat) (hi : i < Y.length) : (spAt Y i).id = (fin i).id := by
 have hcl : (cutX C (zs Y)).length = Y.length := by rw [cutX_len, zs_len]
 have hi' : i < (cutX C (zs Y)).length := by omega
 obtain ⟨hz, z1, z2⟩ := zs_get Y i hi
 obtain ⟨s1, _, s3⟩ := cutX_same C (zs Y) i hz hi'
 have := h.sh.idG (fun q hq hn => by
  rcases nmC_range Y C q (by omega) with e | ⟨j, hj, e⟩
  ·exact absurd e hn
  ·rw [e]; omega) i hi'
 rw [this, s3, z2]
 simp [spAt, List.getD, hi]
abbrev LegN := Nat × Int × Int
def TileF (hi : Int) : Int → List LegN → Prop
 | lo, [] => lo = hi
 | lo, (_, a, b) :: r => a = lo ∧ a < b ∧ TileF hi b r
def AdjN : List LegN → Prop
 | x :: y :: r => x.1 ≠ y.1 ∧ AdjN (y :: r)
 | _ => True
end Go.Proofs.YtnffedmcblbkoaaGreatDoor
