/-
  Merged: PC, PG.
-/
import Derived.Test.YtnffedmcblbkoaaGreatDoorOXq
import Derived.Test.YtnffedmcblbkoaaGreatDoorPBq
namespace Go.Proofs.YtnffedmcblbkoaaGreatDoor
open Go Go.RowKit
set_option maxRecDepth 100000
structure SEnv (base f sb : Nat) (W0 : World) (X : List Spot) (K : Nat → List Int) (rvv : Value) (R : List Int) (A : Nat → Sp) (fin : Nat → Nod) (KN C : Nat → List Nat) : Prop where
 fr : ∀ V, Upd (fun k => base ≤ k) W0 V → ForestAt V f sb X K rvv R
 nd : ∀ i (h : i < X.length), X[i].nd = fin i
 sp : ∀ i (h : i < X.length), X[i].a = A i
 kn : ∀ i, i < X.length → K i = (KN i).map (fun c : Nat => (c : Int)) ∧ (∀ c ∈ KN i, c < X.length) ∧ (KN i).length ≤ 1000
 cn : ∀ i, C i = (KN i).filter (fun c => decide ((fin c).fr < (fin c).til))
def RobS (W w' : World) (a : Sp) (p : Pl) : Prop := ∀ w5 : World, (∀ j, W.heap.size ≤ j → j < w'.heap.size → w5.heap[j]? = w'.heap[j]?) → SpAt w5 a p
theorem span_at {W : World} {f sb : Nat} {X : List Spot} {K : Nat → List Int} {rv : Value} {R : List Int} (h : ForestAt W f sb X K rv R) (k : Nat) (hk : k < X.length) (id : Int) (hid : X[k].nd.id = id) :
  Calls Tryz.prog 40 #[.pointer (some ⟨f, 0, none⟩), .int .u64 id] W fun e w' => ∃ p', e = .returned (.tuple #[spV X[k].a p', .bool true]) ∧ RobS W w' X[k].a p' ∧ Below W.heap.size W w' := by
 refine (span_any f sb X K rv R id W h).mono ?_
 rintro e w' ⟨hd, hb⟩
 rcases hd with ⟨j, hj, h1, p', rfl, hr⟩ | ⟨h1, _⟩
 ·have := rise_same h.rise hj hk (by rw [h1, hid])
  subst this
  exact ⟨p', rfl, hr, hb⟩
 ·exact absurd hid (h1 k hk)
def someF (fin : Nat → Nod) (L : List Nat) : List Nat := L.filter (fun c => decide ((fin c).fr < (fin c).til))
theorem someF_take (fin : Nat → Nod) (L : List Nat) (i : Nat) (hi : i < L.length) : someF fin (L.take (i + 1)) = if (fin L[i]).fr < (fin L[i]).til then someF fin (L.take i) ++ [L[i]] else someF fin (L.take i) := by
 unfold someF
 rw [List.take_succ_eq_append_getElem hi, List.filter_append]
 by_cases h : (fin L[i]).fr < (fin L[i]).til
 ·rw [if_pos h]; simp [h]
 ·rw [if_neg h]; simp [h]
theorem someF_sub {fin : Nat → Nod} {L : List Nat} {c : Nat} (h : c ∈ someF fin L) : c ∈ L := (List.mem_filter.1 h).1
def GLoopS (base : Nat) (W : World) (A : Nat → Sp) (fin : Nat → Nod) (KN C : Nat → List Nat) (fu tb : Nat) (D : List Nat) (B0 cb0 : Nat → Nat) (sv : Value) (vs : List Value) (x bx : Nat) (px : Pl) (i : Nat) (wr : World) : Prop :=
 ∃ p B cv cb sv' wvx, SwS base wr A fin C tb (D ++ preN KN fu ((KN x).take i)) p B cv cb (.pointer none) sv' (vs ++ [.pointer (some ⟨bx, 0, none⟩)] ++ (preN KN fu ((KN x).take i)).map (pB B)) nilV [] ∧ (∀ y ∈ D, B y = B0 y ∧ (C y ≠ [] → cb y = cb0 y)) ∧ (∀ y ∈ preN KN fu ((KN x).take i), W.heap.size ≤ B y ∧ (C y ≠ [] → W.heap.size ≤ cb y)) ∧ Blk wr bx (swL (A x) px (fin x) wvx 0) 128 ∧ wr.ownsRow base 119 1 wvx (someF fin ((KN x).take i)).length ((someF fin ((KN x).take i)).map (pB B)) ∧ (∀ y ∈ D ++ preN KN fu ((KN x).take i), B y ≠ bx ∧ (C y ≠ [] → wvx.ownBlock ≠ some (cb y))) ∧ (∀ g, wvx.ownBlock = some g → sv'.ownBlock ≠ some g) ∧ Upd (GrwV tb sv) W wr ∧ W.heap.size ≤ bx ∧ (∀ g, wvx.ownBlock = some g → W.heap.size ≤ g) ∧ ∀ g, sv'.ownBlock = some g → sv.ownBlock = some g ∨ W.heap.size ≤ g
theorem GLoopS.below {base : Nat} {W : World} {A : Nat → Sp} {fin : Nat → Nod} {KN C : Nat → List Nat} {fu tb : Nat} {D : List Nat} {B0 cb0 : Nat → Nat} {sv : Value} {vs : List Value} {x bx : Nat} {px : Pl} {i : Nat} {wr w' : World} (h : GLoopS base W A fin KN C fu tb D B0 cb0 sv vs x bx px i wr) (hb : Below wr.heap.size wr w') : GLoopS base W A fin KN C fu tb D B0 cb0 sv vs x bx px i w' := by
 obtain ⟨p1, B1, cv1, cb1, sv1, wvx, g1, g2, g3, g4, g5, g6, gap, g7, g8, g9, g10⟩ := h
 exact ⟨p1, B1, cv1, cb1, sv1, wvx, g1.below hb, g2, g3, g4.below hb g4.lt, ownsRow_upd g5 (Upd.ofBelow (S := fun _ => False) hb (fun k h1 h2 => by omega)) (fun _ _ h => h), g6, gap, g7.trans (Upd.ofBelow (S := GrwV tb sv) hb (fun k h1 h2 => by omega)) (fun _ _ h => h), g8, g9, g10⟩
theorem GLoopS.skip {base : Nat} {W : World} {A : Nat → Sp} {fin : Nat → Nod} {KN C : Nat → List Nat} {fu tb : Nat} {D : List Nat} {B0 cb0 : Nat → Nat} {sv : Value} {vs : List Value} {x bx i : Nat} {w5 : World} {p5 : Nat → Pl} {B5 : Nat → Nat} {cv5 : Nat → Value} {cb5 : Nat → Nat} {sv5 wvx : Value} {px : Pl} (hi : i < (KN x).length) (hno : ¬ (fin (KN x)[i]).fr < (fin (KN x)[i]).til) (hO : SwS base w5 A fin C tb (D ++ preN KN fu ((KN x).take (i + 1))) p5 B5 cv5 cb5 (.pointer none) sv5 (vs ++ [.pointer (some ⟨bx, 0, none⟩)] ++ (preN KN fu ((KN x).take (i + 1))).map (pB B5)) nilV []) (h1 : ∀ y ∈ D, B5 y = B0 y ∧ (C y ≠ [] → cb5 y = cb0 y)) (h2 : ∀ y ∈ preN KN fu ((KN x).take (i + 1)), W.heap.size ≤ B5 y ∧ (C y ≠ [] → W.heap.size ≤ cb5 y)) (hB : Blk w5 bx (swL (A x) px (fin x) wvx 0) 128) (hr : w5.ownsRow base 119 1 wvx (someF fin ((KN x).take i)).length ((someF fin ((KN x).take i)).map (pB B5))) (h3 : ∀ y ∈ D ++ preN KN fu ((KN x).take (i + 1)), B5 y ≠ bx ∧ (C y ≠ [] → wvx.ownBlock ≠ some (cb5 y))) (hap : ∀ g, wvx.ownBlock = some g → sv5.ownBlock ≠ some g) (hU : Upd (GrwV tb sv) W w5) (hbx : W.heap.size ≤ bx) (hev : ∀ g, wvx.ownBlock = some g → W.heap.size ≤ g) (hee : ∀ g, sv5.ownBlock = some g → sv.ownBlock = some g ∨ W.heap.size ≤ g) : GLoopS base W A fin KN C fu tb D B0 cb0 sv vs x bx px (i + 1) w5 := by
 refine ⟨p5, B5, cv5, cb5, sv5, wvx, hO, h1, h2, hB, ?_, h3, hap, hU, hbx, hev, hee⟩
 rw [someF_take fin _ i hi, if_neg hno]
 exact hr
theorem GLoopS.step {base : Nat} {W : World} {A : Nat → Sp} {fin : Nat → Nod} {KN C : Nat → List Nat} {fu tb : Nat} {D : List Nat} {B0 cb0 : Nat → Nat} {sv : Value} {vs : List Value} {x bx i : Nat} {w5 : World} {p5 : Nat → Pl} {B5 : Nat → Nat} {cv5 : Nat → Value} {cb5 : Nat → Nat} {sv5 wvx : Value} {px : Pl} (hi : i < (KN x).length) (hyes : (fin (KN x)[i]).fr < (fin (KN x)[i]).til) (hO : SwS base w5 A fin C tb (D ++ preN KN fu ((KN x).take (i + 1))) p5 B5 cv5 cb5 (.pointer none) sv5 (vs ++ [.pointer (some ⟨bx, 0, none⟩)] ++ (preN KN fu ((KN x).take (i + 1))).map (pB B5)) nilV []) (h1 : ∀ y ∈ D, B5 y = B0 y ∧ (C y ≠ [] → cb5 y = cb0 y)) (h2 : ∀ y ∈ preN KN fu ((KN x).take (i + 1)), W.heap.size ≤ B5 y ∧ (C y ≠ [] → W.heap.size ≤ cb5 y)) (hB : Blk w5 bx (swL (A x) px (fin x) wvx 0) 128) (hr : w5.ownsRow base 119 1 wvx (someF fin ((KN x).take i)).length ((someF fin ((KN x).take i)).map (pB B5))) (h3 : ∀ y ∈ D ++ preN KN fu ((KN x).take (i + 1)), B5 y ≠ bx ∧ (C y ≠ [] → wvx.ownBlock ≠ some (cb5 y))) (hap : ∀ g, wvx.ownBlock = some g → sv5.ownBlock ≠ some g) (hU : Upd (GrwV tb sv) W w5) (hbx : W.heap.size ≤ bx) (hev : ∀ g, wvx.ownBlock = some g → W.heap.size ≤ g) (hee : ∀ g, sv5.ownBlock = some g → sv.ownBlock = some g ∨ W.heap.size ≤ g)
  {u2 u3 : World} {v' : Value} (hb : Below w5.heap.size w5 u2) (hg : u2.grownBy u3 wvx.ownBlock) (hm : Moved u2 wvx v') (ho : u3.ownsRow base 119 1 v' ((someF fin ((KN x).take i)).length + 1) ((someF fin ((KN x).take i)).map (pB B5) ++ [pB B5 (KN x)[i]])) :
  GLoopS base W A fin KN C fu tb D B0 cb0 sv vs x bx px (i + 1) (u3.setCell ⟨bx, 15, none⟩ v') ∧ u3.cell? ⟨bx, 15, none⟩ = some wvx ∧ u3.frozen? ⟨bx, 15, none⟩ = false ∧ (∀ b c T, Blk w5 b c T → T ≠ 119 → T ≠ 128 → Blk (u3.setCell ⟨bx, 15, none⟩ v') b c T) := by
 have hO2 := hO.below hb
 have hB2 := hB.below hb hB.lt
 have u3' : Upd (fun k => wvx.ownBlock = some k) u2 u3 := ⟨hg.os, hg.tape, hg.output, hg.size, fun k hk hn => hg.block k hk (fun e => hn e.symm)⟩
 have hr2 := ownsRow_upd hr (Upd.ofBelow (S := fun _ => False) hb (fun k h1 h2 => by omega)) (fun _ _ h => h)
 have hB3 : Blk u3 bx (swL (A x) px (fin x) wvx 0) 128 := hB2.upd u3' (fun e => row_type hr2 hB2 (by decide) e)
 have u4 : Upd (fun k => k = bx) u3 (u3.setCell ⟨bx, 15, none⟩ v') := Upd.setCell (S := fun k => k = bx) (Upd.refl _ _) (p := ⟨bx, 15, none⟩) (fun _ => rfl) _
 have hmv : ∀ g, v'.ownBlock = some g → wvx.ownBlock = some g ∨ u2.heap.size ≤ g := fun g e => by
  rcases hm with hm | ⟨k, hk, hs⟩
  ·rw [hm] at e; exact Or.inl e
  ·rw [hk] at e; cases e; exact Or.inr hs
 have hs5 := hU.size
 have hs2 := hb.size
 have uw : Upd (fun k => wvx.ownBlock = some k ∨ k = bx) u2 (u3.setCell ⟨bx, 15, none⟩ v') := (u3'.mono (S' := fun k => wvx.ownBlock = some k ∨ k = bx) (fun k _ e => Or.inl e)).trans u4 (fun k _ e => Or.inr e)
 refine ⟨⟨p5, B5, cv5, cb5, sv5, v', hO2.upd uw (fun y hy hor => ?_) (fun y hy hn hor => ?_) (fun hor => ?_) (fun k e hor => ?_) (fun k e => by simp [Value.ownBlock] at e), h1, h2, ?_, ?_, fun y hy => ⟨(h3 y hy).1, fun hn e => ?_⟩, fun g e e' => ?_, ?_, hbx, fun g e => ?_, hee⟩, hB3.cell 15 rfl, hB3.frozen 15, fun b c T hbT h1' h2' => ?_⟩
 ·rcases hor with e | e
  ·exact row_type hr2 (hO2.blk y hy) (by decide) e
  ·exact (h3 y hy).1 e
 ·rcases hor with e | e
  ·exact (h3 y hy).2 hn e
  ·obtain ⟨c, fr, hc⟩ := hO2.kidT hy hn
   unfold Blk at hB2
   rw [e, hB2] at hc
   simp at hc
 ·rcases hor with e | e
  ·exact row_type hr2 hO2.tree (by decide) e
  ·exact blk_ne hO2.tree hB2 (by decide) e
 ·rcases hor with e' | e'
  ·exact hap k e' e
  ·rw [e'] at e; exact row_type hO2.row hB2 (by decide) e
 ·have := hB3.set 15 v'
  rwa [swL_set15] at this
 ·have := ownsRow_upd ho u4 (fun k e e' => by
   subst e'
   rcases hmv _ e with h' | h'
   ·exact row_type hr2 hB2 (by decide) h'
   ·have := hB2.lt; omega)
  rw [someF_take fin _ i hi, if_pos hyes, List.length_append, List.map_append]
  exact this
 ·rcases hmv _ e with h' | h'
  ·exact (h3 y hy).2 hn h'
  ·obtain ⟨c, fr, hc⟩ := hO2.kidT hy hn
   have := (Array.getElem?_eq_some_iff.1 hc).1
   omega
 ·rcases hmv g e with h' | h'
  ·exact hap g h' e'
  ·obtain ⟨cur, hh⟩ := owns_type hO2.row e'
   have := (Array.getElem?_eq_some_iff.1 hh).1
   omega
 ·have a1 : Upd (GrwV tb sv) W u2 := hU.trans (Upd.ofBelow (S := GrwV tb sv) hb (fun k h1 h2 => by omega)) (fun _ _ h => h)
  refine (a1.trans (u3'.mono (S' := fun k => W.heap.size ≤ k) (fun k _ e => hev k e)) (fun k hk h => by omega)).trans u4 (fun k hk e => by omega)
 ·rcases hmv g e with h' | h'
  ·exact hev g h'
  ·omega
 ·have q1 := hbT.below hb hbT.lt
  refine q1.upd uw (fun hor => ?_)
  rcases hor with e | e
  ·exact row_type hr2 q1 h1' e
  ·exact blk_ne q1 hB2 h2' e
end Go.Proofs.YtnffedmcblbkoaaGreatDoor
