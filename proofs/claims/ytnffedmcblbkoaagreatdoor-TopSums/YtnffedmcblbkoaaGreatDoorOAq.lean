/-
  Merged: OA, OB.
-/
import Derived.Test.YtnffedmcblbkoaaGreatDoorOXq
import Derived.Test.YtnffedmcblbkoaaGreatDoorOZ
namespace Go.Proofs.YtnffedmcblbkoaaGreatDoor
open Go Go.RowKit
set_option maxRecDepth 100000
def spL (d : Nod) (wv rv : Value) : Array Value := #[.int .u64 d.id, .int .i64 d.fr, .int .i64 d.til, wv, rv]
structure UpO (base : Nat) (W W' : World) : Prop where
 upd : Upd (fun k => base ≤ k) W W'
 keep : ∀ (k : Nat) (c : Array Value) (T : TypeId) (fr : Nat × Nat), W.heap[k]? = some (Obj.cells c T fr) → T ≠ 157 → T ≠ 153 → W'.heap[k]? = some (Obj.cells c T fr)
theorem UpO.refl (base : Nat) (W : World) : UpO base W W := ⟨Upd.refl _ _, fun _ _ _ _ h _ _ => h⟩
theorem UpO.trans {base : Nat} {A B C : World} (h : UpO base A B) (k : UpO base B C) : UpO base A C :=
 ⟨h.upd.trans k.upd (fun _ _ h => h), fun j c T fr hc h1 h2 => k.keep j c T fr (h.keep j c T fr hc h1 h2) h1 h2⟩
theorem UpO.ofSpot {base b : Nat} {W W' : World} {c : Array Value} (hu : Upd (fun k => k = b) W W') (hb : Blk W b c 157) (hl : base ≤ b) : UpO base W W' :=
 ⟨hu.mono (fun k _ e => by subst e; exact hl), fun j c' T fr hc h1 _ => (hu.block j (Array.getElem?_eq_some_iff.1 hc).1 (fun e => by
  subst e
  unfold Blk at hb
  rw [hc] at hb
  simp at hb
  exact h1 hb.2.1)).trans hc⟩
def WaitAt (W : World) (v : Value) (g : Nat) (L : List Value) : Prop :=
 (v = .slice none 0 0 ∧ L = []) ∨ ∃ off cap c fr, v = .slice (some ⟨g, off, none⟩) L.length cap ∧ L.length ≤ cap ∧ W.heap[g]? = some (.cells c 153 fr) ∧ ∀ i u, L[i]? = some u → c[off + i]? = some u
theorem WaitAt.upd {S : Nat → Prop} {W W' : World} {v : Value} {g : Nat} {L : List Value} (h : WaitAt W v g L) (hu : Upd S W W') (hS : L ≠ [] → ¬ S g) : WaitAt W' v g L ∨ L = [] := by
 by_cases hL : L = []
 ·exact Or.inr hL
 ·left
  rcases h with ⟨h1, h2⟩ | ⟨off, cap, c, fr, h1, h2, h3, h4⟩
  ·exact absurd h2 hL
  ·exact Or.inr ⟨off, cap, c, fr, h1, h2, (hu.block g (Array.getElem?_eq_some_iff.1 h3).1 (hS hL)).trans h3, h4⟩
def Empt (v : Value) : Prop := ∃ ad cap, v = .slice ad 0 cap
structure OwnS (base : Nat) (W : World) (fin : Nat → Nod) (D : List Nat) (B : Nat → Nat) (sw sr : Nat → List Nat) (wv rv : Nat → Value) (wb : Nat → Nat) : Prop where
 blk : ∀ x ∈ D, Blk W (B x) (spL (fin x) (wv x) (rv x)) 157
 low : ∀ x ∈ D, base ≤ B x
 inj : ∀ x ∈ D, ∀ y ∈ D, B x = B y → x = y
 wait : ∀ x ∈ D, WaitAt W (wv x) (wb x) ((sw x).map (pB B)) ∨ (sw x = [] ∧ Empt (wv x))
 run : ∀ x ∈ D, W.ownsRow base 153 1 (rv x) (sr x).length ((sr x).map (pB B))
 ap1 : ∀ x ∈ D, ∀ y ∈ D, x ≠ y → ∀ g, (rv x).ownBlock = some g → (rv y).ownBlock ≠ some g
 ap2 : ∀ x ∈ D, ∀ y ∈ D, sw y ≠ [] → (rv x).ownBlock ≠ some (wb y)
 lb : base ≤ W.heap.size
theorem OwnS.upd {S : Nat → Prop} {base : Nat} {W W' : World} {fin : Nat → Nod} {D : List Nat} {B : Nat → Nat} {sw sr : Nat → List Nat} {wv rv : Nat → Value} {wb : Nat → Nat} (h : OwnS base W fin D B sw sr wv rv wb) (hu : Upd S W W') (h1 : ∀ x ∈ D, ¬ S (B x)) (h2 : ∀ x ∈ D, ∀ g, (rv x).ownBlock = some g → ¬ S g) (h3 : ∀ x ∈ D, sw x ≠ [] → ¬ S (wb x)) : OwnS base W' fin D B sw sr wv rv wb := by
 refine ⟨fun x hx => (h.blk x hx).upd hu (h1 x hx), h.low, h.inj, fun x hx => ?_, fun x hx => ownsRow_upd (h.run x hx) hu (h2 x hx), h.ap1, h.ap2, Nat.le_trans h.lb hu.size⟩
 rcases h.wait x hx with hw | hw
 ·by_cases hn : sw x = []
  ·right
   refine ⟨hn, ?_⟩
   rcases hw with ⟨e, _⟩ | ⟨off, cap, c, fr, e, _⟩
   ·exact ⟨_, _, e⟩
   ·exact ⟨_, _, by rw [e, hn]; rfl⟩
  ·left
   rcases hw.upd hu (fun _ => h3 x hx hn) with h' | h'
   ·exact h'
   ·exact absurd (List.map_eq_nil_iff.1 h') hn
 ·exact Or.inr hw
theorem OwnS.below {base : Nat} {W W' : World} {fin : Nat → Nod} {D : List Nat} {B : Nat → Nat} {sw sr : Nat → List Nat} {wv rv : Nat → Value} {wb : Nat → Nat} (h : OwnS base W fin D B sw sr wv rv wb) (hb : Below W.heap.size W W') : OwnS base W' fin D B sw sr wv rv wb :=
 h.upd (S := fun _ => False) (Upd.ofBelow hb (fun k h1 h2 => by omega)) (fun _ _ h => h) (fun _ _ _ _ h => h) (fun _ _ _ h => h)
theorem OwnS.noRow {base : Nat} {W : World} {fin : Nat → Nod} {D : List Nat} {B : Nat → Nat} {sw sr : Nat → List Nat} {wv rv : Nat → Value} {wb : Nat → Nat} (h : OwnS base W fin D B sw sr wv rv wb) {x y : Nat} (hx : x ∈ D) (hy : y ∈ D) : (rv y).ownBlock ≠ some (B x) ∧ (sw y ≠ [] → wb y ≠ B x) := by
 have hB := h.blk x hx
 unfold Blk at hB
 refine ⟨fun e => ?_, fun hn e => ?_⟩
 ·rcases (h.run y hy).2 with ⟨e1, _⟩ | ⟨g, cap, cur, e1, _, hh, _⟩
  ·rw [e1] at e; simp [Value.ownBlock] at e
  ·rw [e1] at e
   simp [Value.ownBlock] at e
   subst e
   rw [hB] at hh
   simp at hh
 ·rcases h.wait y hy with (⟨_, h2⟩ | ⟨off, cap, c, fr, _, _, h3, _⟩) | ⟨h2, _⟩
  ·exact hn (List.map_eq_nil_iff.1 h2)
  ·rw [e, hB] at h3
   simp at h3
  ·exact hn h2
theorem spL_set3 (d : Nod) (wv rv v : Value) : (spL d wv rv).setIfInBounds 3 v = spL d v rv := rfl
theorem spL_set4 (d : Nod) (wv rv v : Value) : (spL d wv rv).setIfInBounds 4 v = spL d wv v := rfl
theorem OwnS.append {base : Nat} {W W2 W3 : World} {fin : Nat → Nod} {D : List Nat} {B : Nat → Nat} {sw sr : Nat → List Nat} {wv rv : Nat → Value} {wb : Nat → Nat} (h : OwnS base W fin D B sw sr wv rv wb) {x c : Nat} (hx : x ∈ D) (hb : Below W.heap.size W W2) {v' : Value} (hg : W2.grownBy W3 (rv x).ownBlock) (hm : Moved W2 (rv x) v') (ho : W3.ownsRow base 153 1 v' ((sr x).length + 1) ((sr x).map (pB B) ++ [pB B c])) :
  OwnS base (W3.setCell ⟨B x, 4, none⟩ v') fin D B sw (upF sr x (sr x ++ [c])) wv (upF rv x v') wb ∧ UpO base W (W3.setCell ⟨B x, 4, none⟩ v') ∧ W3.cell? ⟨B x, 4, none⟩ = some (rv x) ∧ (∀ j, W3.frozen? ⟨B x, j, none⟩ = false) ∧ W3.cell? ⟨B x, 3, none⟩ = some (wv x) := by
 have h2 := h.below hb
 have u3 : Upd (fun k => (rv x).ownBlock = some k) W2 W3 := ⟨hg.os, hg.tape, hg.output, hg.size, fun k hk hn => hg.block k hk (fun e => hn e.symm)⟩
 have hB3 : ∀ y ∈ D, Blk W3 (B y) (spL (fin y) (wv y) (rv y)) 157 := fun y hy => (h2.blk y hy).upd u3 (fun e => (h2.noRow hy hx).1 e)
 have hmv : ∀ g, v'.ownBlock = some g → (rv x).ownBlock = some g ∨ W2.heap.size ≤ g := fun g e => by
  rcases hm with hm | ⟨k, hk, hs⟩
  ·rw [hm] at e; exact Or.inl e
  ·rw [hk] at e; cases e; exact Or.inr hs
 have hrl : ∀ y ∈ D, ∀ g, (rv y).ownBlock = some g → base ≤ g ∧ g < W2.heap.size := fun y hy g e => owns_lt (h2.run y hy) e
 have u4 : Upd (fun k => k = B x) W3 (W3.setCell ⟨B x, 4, none⟩ v') := Upd.setCell (S := fun k => k = B x) (Upd.refl _ _) (p := ⟨B x, 4, none⟩) (fun _ => rfl) _
 have hwl : ∀ y ∈ D, sw y ≠ [] → wb y < W2.heap.size := fun y hy hn => by
  rcases h2.wait y hy with (⟨_, e⟩ | ⟨off, cap, c, fr, _, _, h3, _⟩) | ⟨e, _⟩
  ·exact absurd (List.map_eq_nil_iff.1 e) hn
  ·exact (Array.getElem?_eq_some_iff.1 h3).1
  ·exact absurd e hn
 refine ⟨⟨fun y hy => ?_, h.low, h.inj, fun y hy => ?_, fun y hy => ?_, fun y hy z hz hyz g e1 e2 => ?_, fun y hy z hz hn e => ?_, by have := h2.lb; have := u3.size; have := u4.size; omega⟩, ?_, (hB3 x hx).cell 4 rfl, fun j => (hB3 x hx).frozen j, (hB3 x hx).cell 3 rfl⟩
 ·by_cases e : y = x
  ·subst e
   rw [upF_same]
   have := (hB3 y hy).set 4 v'
   rwa [spL_set4] at this
  ·rw [upF_ne _ _ e]
   exact (hB3 y hy).other _ _ (fun e' => e (h.inj y hy x hx e'))
 ·rcases h2.wait y hy with hw | hw
  ·by_cases hn : sw y = []
   ·right
    refine ⟨hn, ?_⟩
    rcases hw with ⟨e, _⟩ | ⟨off, cap, c, fr, e, _⟩
    ·exact ⟨_, _, e⟩
    ·exact ⟨_, _, by rw [e, hn]; rfl⟩
   ·left
    rcases (hw.upd u3 (fun _ e => h.ap2 x hx y hy hn e)) with h' | h'
    ·rcases h'.upd u4 (fun _ e => (h2.noRow hx hy).2 hn e) with h'' | h''
     ·exact h''
     ·exact absurd (List.map_eq_nil_iff.1 h'') hn
    ·exact absurd (List.map_eq_nil_iff.1 h') hn
  ·exact Or.inr hw
 ·by_cases e : y = x
  ·subst e
   rw [upF_same, upF_same]
   have := ownsRow_upd ho u4 (fun k hk e => by
    subst e
    rcases hmv _ hk with h' | h'
    ·exact (h2.noRow hy hy).1 h'
    ·have := (h2.blk y hy).lt; omega)
   simpa using this
  ·rw [upF_ne _ _ e, upF_ne _ _ e]
   refine ownsRow_upd (ownsRow_upd (h2.run y hy) u3 (fun k hk hh => h.ap1 x hx y hy (fun e' => e e'.symm) k hh hk)) u4 (fun k hk e' => ?_)
   subst e'
   exact (h2.noRow hx hy).1 hk
 ·by_cases ey : y = x
  ·subst ey
   rw [upF_same] at e1
   rw [upF_ne _ _ (fun e => hyz e.symm)] at e2
   rcases hmv g e1 with h' | h'
   ·exact h.ap1 y hy z hz hyz g h' e2
   ·have := (hrl z hz g e2).2; omega
  ·rw [upF_ne _ _ ey] at e1
   by_cases ez : z = x
   ·subst ez
    rw [upF_same] at e2
    rcases hmv g e2 with h' | h'
    ·exact h.ap1 y hy z hz hyz g e1 h'
    ·have := (hrl y hy g e1).2; omega
   ·rw [upF_ne _ _ ez] at e2
    exact h.ap1 y hy z hz hyz g e1 e2
 ·by_cases ey : y = x
  ·subst ey
   rw [upF_same] at e
   rcases hmv _ e with h' | h'
   ·exact h.ap2 y hy z hz hn h'
   ·have := hwl z hz hn; omega
  ·rw [upF_ne _ _ ey] at e
   exact h.ap2 y hy z hz hn e
 ·have u0 : Upd (fun k => base ≤ k) W W2 := Upd.ofBelow hb (fun k h1 h2 => by omega)
  have a1 : UpO base W W3 := by
   refine ⟨u0.trans u3 (fun k _ e => (hrl x hx k e).1), fun j c' T fr hc h1' h2' => ?_⟩
   have hc2 := (hb.block j (Array.getElem?_eq_some_iff.1 hc).1).trans hc
   refine (u3.block j (Array.getElem?_eq_some_iff.1 hc2).1 (fun e => ?_)).trans hc2
   obtain ⟨cur, hh⟩ := owns_type (h2.run x hx) e
   rw [hc2] at hh
   simp at hh
   exact h2' hh.2.1
  exact a1.trans (UpO.ofSpot u4 (hB3 x hx) (h.low x hx))
theorem OwnS.setW {base : Nat} {W : World} {fin : Nat → Nod} {D : List Nat} {B : Nat → Nat} {sw sr : Nat → List Nat} {wv rv : Nat → Value} {wb : Nat → Nat} (h : OwnS base W fin D B sw sr wv rv wb) {x : Nat} (hx : x ∈ D) (v' : Value) (L : List Nat) (hn : L ≠ [] → sw x ≠ []) (hv : WaitAt W v' (wb x) (L.map (pB B)) ∨ (L = [] ∧ Empt v')) :
  OwnS base (W.setCell ⟨B x, 3, none⟩ v') fin D B (upF sw x L) sr (upF wv x v') rv wb ∧ UpO base W (W.setCell ⟨B x, 3, none⟩ v') := by
 have u4 : Upd (fun k => k = B x) W (W.setCell ⟨B x, 3, none⟩ v') := Upd.setCell (S := fun k => k = B x) (Upd.refl _ _) (p := ⟨B x, 3, none⟩) (fun _ => rfl) _
 refine ⟨⟨fun y hy => ?_, h.low, h.inj, fun y hy => ?_, fun y hy => ?_, h.ap1, fun y hy z hz hz' e => ?_, by have := h.lb; have := u4.size; omega⟩, UpO.ofSpot u4 (h.blk x hx) (h.low x hx)⟩
 ·by_cases e : y = x
  ·subst e
   rw [upF_same]
   have := (h.blk y hy).set 3 v'
   rwa [spL_set3] at this
  ·rw [upF_ne _ _ e]
   exact (h.blk y hy).other _ _ (fun e' => e (h.inj y hy x hx e'))
 ·by_cases e : y = x
  ·subst e
   rw [upF_same, upF_same]
   rcases hv with hw | hw
   ·by_cases hL : L = []
    ·right
     refine ⟨hL, ?_⟩
     rcases hw with ⟨e, _⟩ | ⟨off, cap, c, fr, e, _⟩
     ·exact ⟨_, _, e⟩
     ·exact ⟨_, _, by rw [e, hL]; rfl⟩
    ·left
     rcases hw.upd u4 (fun _ e => (h.noRow hy hy).2 (hn hL) e) with h' | h'
     ·exact h'
     ·exact absurd (List.map_eq_nil_iff.1 h') hL
   ·exact Or.inr hw
  ·rw [upF_ne _ _ e, upF_ne _ _ e]
   rcases h.wait y hy with hw | hw
   ·by_cases hL : sw y = []
    ·right
     refine ⟨hL, ?_⟩
     rcases hw with ⟨e, _⟩ | ⟨off, cap, c, fr, e, _⟩
     ·exact ⟨_, _, e⟩
     ·exact ⟨_, _, by rw [e, hL]; rfl⟩
    ·left
     rcases hw.upd u4 (fun _ e => (h.noRow hx hy).2 hL e) with h' | h'
     ·exact h'
     ·exact absurd (List.map_eq_nil_iff.1 h') hL
   ·exact Or.inr hw
 ·refine ownsRow_upd (h.run y hy) u4 (fun k hk e' => ?_)
  subst e'
  exact (h.noRow hx hy).1 hk
 ·by_cases ez : z = x
  ·subst ez
   rw [upF_same] at hz'
   exact h.ap2 y hy z hz (hn hz') e
  ·rw [upF_ne _ _ ez] at hz'
   exact h.ap2 y hy z hz hz' e
theorem OwnS.cut {base : Nat} {W : World} {fin : Nat → Nod} {D : List Nat} {B : Nat → Nat} {sw sr : Nat → List Nat} {wv rv : Nat → Value} {wb : Nat → Nat} (h : OwnS base W fin D B sw sr wv rv wb) {x : Nat} (hx : x ∈ D) (g n cap m : Nat) (hv : rv x = .slice (some ⟨g, 0, none⟩) n cap) (hm : m ≤ (sr x).length) :
  OwnS base (W.setCell ⟨B x, 4, none⟩ (.slice (some ⟨g, 0, none⟩) m cap)) fin D B sw (upF sr x ((sr x).take m)) wv (upF rv x (.slice (some ⟨g, 0, none⟩) m cap)) wb ∧ UpO base W (W.setCell ⟨B x, 4, none⟩ (.slice (some ⟨g, 0, none⟩) m cap)) := by
 have u4 : Upd (fun k => k = B x) W (W.setCell ⟨B x, 4, none⟩ (.slice (some ⟨g, 0, none⟩) m cap)) := Upd.setCell (S := fun k => k = B x) (Upd.refl _ _) (p := ⟨B x, 4, none⟩) (fun _ => rfl) _
 have hob : ∀ y, (upF rv x (.slice (some ⟨g, 0, none⟩) m cap) y).ownBlock = (rv y).ownBlock := fun y => by
  by_cases e : y = x
  ·subst e; rw [upF_same, hv]; rfl
  ·rw [upF_ne _ _ e]
 refine ⟨⟨fun y hy => ?_, h.low, h.inj, fun y hy => ?_, fun y hy => ?_, fun y hy z hz hyz k e1 => ?_, fun y hy z hz hz' => ?_, by have := h.lb; have := u4.size; omega⟩, UpO.ofSpot u4 (h.blk x hx) (h.low x hx)⟩
 ·by_cases e : y = x
  ·subst e
   rw [upF_same]
   have := (h.blk y hy).set 4 (.slice (some ⟨g, 0, none⟩) m cap)
   rwa [spL_set4] at this
  ·rw [upF_ne _ _ e]
   exact (h.blk y hy).other _ _ (fun e' => e (h.inj y hy x hx e'))
 ·rcases h.wait y hy with hw | hw
  ·by_cases hL : sw y = []
   ·right
    refine ⟨hL, ?_⟩
    rcases hw with ⟨e, _⟩ | ⟨off, cap, c, fr, e, _⟩
    ·exact ⟨_, _, e⟩
    ·exact ⟨_, _, by rw [e, hL]; rfl⟩
   ·left
    rcases hw.upd u4 (fun _ e => (h.noRow hx hy).2 hL e) with h' | h'
    ·exact h'
    ·exact absurd (List.map_eq_nil_iff.1 h') hL
  ·exact Or.inr hw
 ·by_cases e : y = x
  ·subst e
   rw [upF_same, upF_same]
   have hr := ownsRow_upd (h.run y hy) u4 (fun k hk e' => by subst e'; exact (h.noRow hy hy).1 hk)
   rcases hr.2 with ⟨e1, _⟩ | ⟨g', cap', cur, e1, hb, hh, hc, hcm, hcs, ht⟩
   ·rw [hv] at e1; simp at e1
   ·rw [hv] at e1
    simp at e1
    obtain ⟨rfl, hn', rfl⟩ := e1
    have hlen : ((sr y).take m).length = m := by simp; omega
    refine ⟨by simp, Or.inr ⟨g, cap, cur, by rw [hlen], hb, hh, by rw [hlen]; omega, hcm, hcs, ?_⟩⟩
    rw [hlen, Nat.mul_one, List.map_take, ← ht, List.take_take, Nat.mul_one, Nat.min_eq_left hm]
  ·rw [upF_ne _ _ e, upF_ne _ _ e]
   refine ownsRow_upd (h.run y hy) u4 (fun k hk e' => ?_)
   subst e'
   exact (h.noRow hx hy).1 hk
 ·rw [hob] at e1 ⊢
  exact h.ap1 y hy z hz hyz k e1
 ·rw [hob]
  exact h.ap2 y hy z hz hz'
def moveM (fin : Nat → Nod) (at_ : Int) : List Nat → List Nat → List Nat × List Nat
 | [], r => ([], r)
 | c :: w, r => if (fin c).fr ≤ at_ then moveM fin at_ w (r ++ [c]) else (c :: w, r)
def popR (fin : Nat → Nod) (at_ : Int) : List Nat → List Nat
 | [] => []
 | c :: r => if at_ < (fin c).til then c :: r else popR fin at_ r
def popM (fin : Nat → Nod) (at_ : Int) (r : List Nat) : List Nat := (popR fin at_ r.reverse).reverse
def nextM (fin : Nat → Nod) (at_ : Int) (w r : List Nat) : Option Nat × List Nat × List Nat :=
 ((popM fin at_ (moveM fin at_ w r).2).getLast?, (moveM fin at_ w r).1, popM fin at_ (moveM fin at_ w r).2)
theorem popM_keep (fin : Nat → Nod) (at_ : Int) (r : List Nat) (c : Nat) (h : at_ < (fin c).til) : popM fin at_ (r ++ [c]) = r ++ [c] := by
 simp [popM, popR, h]
theorem popM_drop (fin : Nat → Nod) (at_ : Int) (r : List Nat) (c : Nat) (h : ¬ at_ < (fin c).til) : popM fin at_ (r ++ [c]) = popM fin at_ r := by
 simp [popM, popR, h]
theorem infoPS : (Tryz.prog.info? 153).map (fun i => (i.zero, i.size, i.bytes)) = some (some (.pointer none), 1, 8) := by kernel_rfl
theorem infoPS_parts : ∃ i, Tryz.prog.info? 153 = some i ∧ i.zero = some (.pointer none) ∧ i.size = 1 ∧ i.bytes = 8 := by
 have h := infoPS
 cases hq : Tryz.prog.info? 153 with
 | none => rw [hq] at h; simp at h
 | some i =>
  rw [hq] at h
  simp at h
  exact ⟨i, rfl, h.1, h.2.1, h.2.2⟩
def nxV (B : Nat → Nat) : Option Nat → Value
 | some c => pB B c
 | none => .pointer none
def wlen (b : Nat) (W : World) : Nat := match W.cell? ⟨b, 3, none⟩ with | some (.slice _ n _) => n | _ => 0
theorem OwnS.wlen {base : Nat} {W : World} {fin : Nat → Nod} {D : List Nat} {B : Nat → Nat} {sw sr : Nat → List Nat} {wv rv : Nat → Value} {wb : Nat → Nat} (h : OwnS base W fin D B sw sr wv rv wb) {x : Nat} (hx : x ∈ D) : wlen (B x) W = (sw x).length := by
 have c3 : W.cell? ⟨B x, 3, none⟩ = some (wv x) := (h.blk x hx).cell 3 rfl
 unfold Go.Proofs.YtnffedmcblbkoaaGreatDoor.wlen
 rw [c3]
 rcases h.wait x hx with (⟨e, h2⟩ | ⟨off, cap, c, fr, e, _⟩) | ⟨h2, ad, cap, e⟩
 ·rw [e, List.map_eq_nil_iff.1 h2]; rfl
 ·rw [e]; simp
 ·rw [e, h2]; rfl
theorem WaitAt.head {W : World} {v : Value} {g : Nat} {u : Value} {L : List Value} (h : WaitAt W v g (u :: L)) : ∃ off cap, v = .slice (some ⟨g, off, none⟩) (L.length + 1) cap ∧ L.length + 1 ≤ cap ∧ W.cell? ⟨g, off, none⟩ = some u ∧ ∀ W' : World, W'.heap[g]? = W.heap[g]? → WaitAt W' (.slice (some ⟨g, off + 1, none⟩) L.length (cap - 1)) g L := by
 rcases h with ⟨_, h2⟩ | ⟨off, cap, c, fr, e, hc, hh, hi⟩
 ·cases h2
 ·refine ⟨off, cap, e, hc, ?_, fun W' hW => Or.inr ⟨off + 1, cap - 1, c, fr, rfl, by simp at hc; omega, by rw [hW]; exact hh, fun i w hw => ?_⟩⟩
  ·have := hi 0 u rfl
   simp only [World.cell?, hh]
   simpa using this
  ·have := hi (i + 1) w (by simpa using hw)
   rw [show off + 1 + i = off + (i + 1) by omega]
   exact this
set_option maxHeartbeats 4000000 in
theorem next_any (base : Nat) (fin : Nat → Nod) (D : List Nat) (B : Nat → Nat) (sw sr : Nat → List Nat) (wv rv : Nat → Value) (wb : Nat → Nat) (x : Nat) (hx : x ∈ D) (at_ : Int) (W : World) (h : OwnS base W fin D B sw sr wv rv wb) (hwD : ∀ c ∈ sw x, c ∈ D) (hrD : ∀ c ∈ sr x, c ∈ D) (hl : (sw x).length + (sr x).length ≤ 1000) :
  Calls Tryz.prog 103 #[pB B x, .int .i64 at_] W fun e W' => e = .returned (nxV B (nextM fin at_ (sw x) (sr x)).1) ∧ (∃ wv' rv', OwnS base W' fin D B (upF sw x (nextM fin at_ (sw x) (sr x)).2.1) (upF sr x (nextM fin at_ (sw x) (sr x)).2.2) wv' rv' wb) ∧ UpO base W W' := by
 obtain ⟨i0, hi0, hz0, hz1, hz2⟩ := infoPS_parts
 have START : Hid (OwnS base W fin D B (upF sw x (sw x)) (upF sr x (sr x)) wv rv wb) := by rw [upF_self, upF_self]; exact h
 have HX : Hid (x ∈ D) := hx
 have HWD : Hid (∀ c ∈ sw x, c ∈ D) := hwD
 have HRD : Hid (∀ c ∈ sr x, c ∈ D) := hrD
 have HL : Hid ((sw x).length + (sr x).length ≤ 1000) := hl
 clear h hx hwD hrD hl
 have e0 : pB B x = .pointer (some ⟨B x, 0, none⟩) := rfl
 rw [e0]
 clear e0
 go_enter Tryz.func103, Tryz.ntmps103
 go_wp2
 go_loopw [6] (fun _ wr => ∃ w r wv' rv', OwnS base wr fin D B (upF sw x w) (upF sr x r) wv' rv' wb ∧ moveM fin at_ (sw x) (sr x) = moveM fin at_ w r ∧ (∀ c ∈ w, c ∈ D) ∧ (∀ c ∈ r, c ∈ D) ∧ w.length + r.length ≤ 1000 ∧ UpO base W wr) (fun _ wr => wlen (B x) wr)
 case atStart => exact ⟨sw x, sr x, wv, rv, START.out, rfl, HWD.out, HRD.out, HL.out, UpO.refl _ _⟩
 case round =>
  obtain ⟨w, r, wv', rv', hO, hM, hwD, hrD, hl, hU⟩ := hrel
  have HO : Hid (OwnS base wr fin D B (upF sw x w) (upF sr x r) wv' rv' wb) := hO
  have HM : Hid (moveM fin at_ (sw x) (sr x) = moveM fin at_ w r) := hM
  have HW2 : Hid (∀ c ∈ w, c ∈ D) := hwD
  have HR2 : Hid (∀ c ∈ r, c ∈ D) := hrD
  have HL2 : Hid (w.length + r.length ≤ 1000) := hl
  have HU : Hid (UpO base W wr) := hU
  have c3 : wr.cell? ⟨B x, 3, none⟩ = some (wv' x) := (hO.blk x HX.out).cell 3 rfl
  have c4 : wr.cell? ⟨B x, 4, none⟩ = some (rv' x) := (hO.blk x HX.out).cell 4 rfl
  -- whether a further one moves
  have hcase : (∃ c w2, w = c :: w2 ∧ (fin c).fr ≤ at_) ∨ (moveM fin at_ w r = (w, r) ∧ ((∃ ad cap, wv' x = .slice ad 0 cap ∧ w = []) ∨ ∃ c w2, w = c :: w2 ∧ ¬ (fin c).fr ≤ at_)) := by
   cases w with
   | nil =>
    right
    refine ⟨rfl, Or.inl ?_⟩
    rcases hO.wait x HX.out with (⟨e, _⟩ | ⟨off, cap, c, fr, e, _⟩) | ⟨_, ad, cap, e⟩
    ·exact ⟨_, _, e, rfl⟩
    ·exact ⟨_, _, by rw [e, upF_same]; rfl, rfl⟩
    ·exact ⟨ad, cap, e, rfl⟩
   | cons c w2 =>
    by_cases hc : (fin c).fr ≤ at_
    ·exact Or.inl ⟨c, w2, rfl, hc⟩
    ·exact Or.inr ⟨by simp [moveM, hc], Or.inr ⟨c, w2, rfl, hc⟩⟩
  have hhead : ∀ c w2, w = c :: w2 → ∃ off cap, wv' x = .slice (some ⟨wb x, off, none⟩) (w2.length + 1) cap ∧ w2.length + 1 ≤ cap ∧ wr.cell? ⟨wb x, off, none⟩ = some (pB B c) ∧ wr.cell? ⟨B c, 1, none⟩ = some (.int .i64 (fin c).fr) ∧ ∀ W' : World, W'.heap[wb x]? = wr.heap[wb x]? → WaitAt W' (.slice (some ⟨wb x, off + 1, none⟩) w2.length (cap - 1)) (wb x) (w2.map (pB B)) := fun c w2 e => by
   subst e
   rcases hO.wait x HX.out with hw | ⟨e, _⟩
   ·rw [upF_same] at hw
    obtain ⟨off, cap, e1, e2, e3, e4⟩ := WaitAt.head hw
    simp only [List.length_map] at e1 e2 e4
    exact ⟨off, cap, e1, e2, e3, (hO.blk c (HW2.out c (by simp))).cell 1 rfl, e4⟩
   ·rw [upF_same] at e; cases e
  have HHEAD : Hid (∀ c w2, w = c :: w2 → ∃ off cap, wv' x = .slice (some ⟨wb x, off, none⟩) (w2.length + 1) cap ∧ w2.length + 1 ≤ cap ∧ wr.cell? ⟨wb x, off, none⟩ = some (pB B c) ∧ wr.cell? ⟨B c, 1, none⟩ = some (.int .i64 (fin c).fr) ∧ ∀ W' : World, W'.heap[wb x]? = wr.heap[wb x]? → WaitAt W' (.slice (some ⟨wb x, off + 1, none⟩) w2.length (cap - 1)) (wb x) (w2.map (pB B))) := hhead
  clear hO hM hwD hrD hl hU hhead
  rcases hcase with ⟨c, w2, rfl, hc⟩ | ⟨hst, hcase⟩
  ·obtain ⟨off, cap, e1, e2, e3, e4, e5⟩ := HHEAD.out c w2 rfl
   have HE5 : Hid (∀ W' : World, W'.heap[wb x]? = wr.heap[wb x]? → WaitAt W' (.slice (some ⟨wb x, off + 1, none⟩) w2.length (cap - 1)) (wb x) (w2.map (pB B))) := e5
   rw [e1] at c3
   unfold pB at e3
   have HE1 : Hid (wv' x = .slice (some ⟨wb x, off, none⟩) (w2.length + 1) cap) := e1
   obtain ⟨n2, hn2⟩ : ∃ n2, w2.length = n2 := ⟨_, rfl⟩
   have HN2 : Hid (w2.length = n2) := hn2
   rw [hn2] at c3 e2
   have hn3 : (n2 : Int) + 1 ≤ 1000 := by have := HL2.out; simp at this; omega
   have hcap : (n2 : Int) + 1 ≤ (cap : Int) := by omega
   clear e1 e5 hn2 HHEAD
   have y4 := fun (o : Obj) => (World.cell?_alloc_lt wr o ⟨B x, 4, none⟩ (World.block_lt_of_cell? wr _ c4)).trans c4
   have HOK : Hid (∀ W', Below wr.heap.size wr W' → W'.ownsRow base 153 1 (rv' x) r.length (r.map (pB B))) := fun W' hb => by
    have := (OwnS.below HO.out hb).run x HX.out
    rwa [upF_same] at this
   have HAD : Hid (∀ (u2 u3 : World) (v' : Value), Below wr.heap.size wr u2 → u2.grownBy u3 (rv' x).ownBlock → Moved u2 (rv' x) v' → u3.ownsRow base 153 1 v' (r.length + 1) (r.map (pB B) ++ [pB B c]) → (OwnS base (u3.setCell ⟨B x, 4, none⟩ v') fin D B (upF sw x (c :: w2)) (upF sr x (r ++ [c])) wv' (upF rv' x v') wb ∧ UpO base wr (u3.setCell ⟨B x, 4, none⟩ v')) ∧ u3.cell? ⟨B x, 4, none⟩ = some (rv' x) ∧ (∀ j, u3.frozen? ⟨B x, j, none⟩ = false) ∧ u3.cell? ⟨B x, 3, none⟩ = some (.slice (some ⟨wb x, off, none⟩) (n2 + 1) cap)) := fun u2 u3 v' hb hg hm ho => by
    have := OwnS.append HO.out (c := c) HX.out hb hg hm (by rw [upF_same]; exact ho)
    rw [upF_same, upF_twice, HE1.out, HN2.out] at this
    exact ⟨⟨this.1, this.2.1⟩, this.2.2⟩
   have hlb : base ≤ wr.heap.size := HO.out.lb
   have hrl : Hid (r.length ≤ 1000) := by have h1 : (c :: w2).length + r.length ≤ 1000 := HL2.out; have h2 : r.length ≤ 1000 := (by omega); exact h2
   generalize hkv : rv' x = kv at c4 y4 HOK HAD
   go_wp2
   go_region_law (refine step_app _ (by rfl) _ _ 155 155 (by rfl) base 153 i0 (.pointer none) 8 Tryz.underlying155 hi0 hz0 hz1 hz2 rfl kv r.length (r.map (pB B)) (by rfl) (HOK.out _ (by repeat' first | exact Below.refl _ _ | refine Below.alloc ?_ (by first | omega | (simp; omega) | (simp; done)) _ | refine Below.drew ?_)) (.slice (some ⟨wr.heap.size, 0, none⟩) 1 1) 1 [.pointer (some ⟨B c, 0, none⟩)] (by rfl) (src_at Tryz.underlying155 (by first | exact heap_alloc_new _ _ | exact heap_alloc_new wr.drew _) rfl) (by have := hrl.out; unfold maxLen; omega) (by have := hrl.out; omega) (by first | (simp; omega) | omega) ?_; intro v8 w8 o8 g8 m8; obtain ⟨ad8, cap8, rfl⟩ := owns_slice o8; obtain ⟨A8, e8, f8, z8⟩ := HAD.out _ w8 _ (by repeat' first | exact Below.refl _ _ | refine Below.alloc ?_ (by first | omega | (simp; omega) | (simp; done)) _ | refine Below.drew ?_) g8 m8 o8; have HA8 : Hid (OwnS base (w8.setCell ⟨B x, 4, none⟩ (.slice ad8 (r.length + 1) cap8)) fin D B (upF sw x (c :: w2)) (upF sr x (r ++ [c])) wv' (upF rv' x (.slice ad8 (r.length + 1) cap8)) wb ∧ UpO base wr (w8.setCell ⟨B x, 4, none⟩ (.slice ad8 (r.length + 1) cap8))) := A8; clear A8 o8 g8 m8 HOK)
   all_goals
    go_wp2
    obtain ⟨v3, hv3⟩ : ∃ v3, Value.slice (if cap = 1 then some ⟨wb x, off, none⟩ else some ⟨wb x, off + 1, none⟩) n2 (cap - 1) = v3 := ⟨_, rfl⟩
    rw [hv3]
    have hO8 := HA8.out.1
    have hwt : WaitAt (w8.setCell ⟨B x, 4, none⟩ (.slice ad8 (r.length + 1) cap8)) v3 (wb x) (w2.map (pB B)) ∨ (w2 = [] ∧ Empt v3) := by
     by_cases hc1 : cap = 1
     ·right
      have h0 : n2 = 0 := by omega
      rw [if_pos hc1, h0] at hv3
      exact ⟨List.eq_nil_of_length_eq_zero (HN2.out.trans h0), _, _, hv3.symm⟩
     ·left
      rw [if_neg hc1] at hv3
      rcases hO8.wait x HX.out with hw | ⟨e, _⟩
      ·rw [upF_same] at hw
       obtain ⟨o', c', f1, _, _, f4⟩ := WaitAt.head hw
       simp only [List.length_map] at f1 f4
       rw [HE1.out] at f1
       simp only [Value.slice.injEq, Option.some.injEq, Addr.mk.injEq, true_and, and_true] at f1
       obtain ⟨rfl, rfl⟩ := f1
       have := f4 (w8.setCell ⟨B x, 4, none⟩ (.slice ad8 (r.length + 1) cap8)) rfl
       rw [HN2.out, hv3] at this
       exact this
      ·rw [upF_same] at e; cases e
    obtain ⟨hO9, hU9⟩ := hO8.setW HX.out v3 w2 (fun _ => by rw [upF_same]; simp) hwt
    rw [upF_twice] at hO9
    refine ⟨⟨w2, r ++ [c], _, _, hO9, ?_, fun y hy => HW2.out y (by simp [hy]), fun y hy => ?_, ?_, (HU.out.trans HA8.out.2).trans hU9⟩, ?_⟩
    ·rw [HM.out]; simp [moveM, hc]
    ·rcases List.mem_append.1 hy with hy | hy
     ·exact HR2.out y hy
     ·simp at hy; subst hy; exact HW2.out y (by simp)
    ·have h1 : (c :: w2).length + r.length ≤ 1000 := HL2.out
     simp at h1 ⊢
     omega
    ·rw [hO9.wlen HX.out, OwnS.wlen HO.out HX.out, upF_same, upF_same]
     simp
  ·have HST : Hid (moveM fin at_ w r = (w, r)) := hst
   have HNX : Hid ((nextM fin at_ (sw x) (sr x)) = ((popM fin at_ r).getLast?, w, popM fin at_ r)) := by
    have e : nextM fin at_ (sw x) (sr x) = ((popM fin at_ r).getLast?, w, popM fin at_ r) := by
     unfold nextM
     rw [HM.out, HST.out]
    exact e
   clear hst
   -- behind the first loop: what is left
   have LEN : Hid (∃ ad cap, rv' x = .slice ad r.length cap) := by
    have := owns_slice (HO.out.run x HX.out)
    rw [upF_same] at this
    exact this
   obtain ⟨ad, capr, hrv⟩ := LEN.out
   have HRV : Hid (rv' x = .slice ad r.length capr) := hrv
   rw [hrv] at c4
   obtain ⟨nr, hnr⟩ : ∃ nr, r.length = nr := ⟨_, rfl⟩
   have HNR : Hid (r.length = nr) := hnr
   rw [hnr] at c4
   have hnr1 : (nr : Int) ≤ 1000 := by have := HL2.out; omega
   have REST : Hid (OwnS base wr fin D B (upF sw x w) (upF sr x r) wv' rv' wb ∧ UpO base W wr) := ⟨HO.out, HU.out⟩
   clear hrv hnr LEN
   rcases hcase with ⟨ad0, cap0, e1, rfl⟩ | ⟨c, w2, rfl, hc⟩
   ·rw [e1] at c3
    clear e1 HHEAD
    go_wp2
    go_loopw [5] (fun y wq => ∃ r2 wv2 rv2, y = .int .i64 ((r2.length : Int) - 1) ∧ OwnS base wq fin D B (upF sw x []) (upF sr x r2) wv2 rv2 wb ∧ popM fin at_ r = popM fin at_ r2 ∧ (∀ c ∈ r2, c ∈ D) ∧ r2.length ≤ 1000 ∧ UpO base W wq) (fun y _ => ((intOf y) + 1).toNat)
    case atStart => exact ⟨r, wv', rv', by rw [HNR.out], REST.out.1, rfl, HR2.out, by have := HL2.out; omega, REST.out.2⟩
    case round =>
     obtain ⟨r2, wv2, rv2, rfl, hO2, hP2, hD2, hl2, hU2⟩ := hrel
     have HO2 : Hid (OwnS base wr fin D B (upF sw x []) (upF sr x r2) wv2 rv2 wb) := hO2
     have HU2 : Hid (UpO base W wr) := hU2
     have HP2 : Hid (popM fin at_ r = popM fin at_ r2) := hP2
     have HD2 : Hid (∀ c ∈ r2, c ∈ D) := hD2
     have d4 : wr.cell? ⟨B x, 4, none⟩ = some (rv2 x) := (hO2.blk x HX.out).cell 4 rfl
     have df : ∀ j, wr.frozen? ⟨B x, j, none⟩ = false := fun j => (hO2.blk x HX.out).frozen j
     have hrun := hO2.run x HX.out
     rw [upF_same] at hrun
     have hcat : r2 = [] ∨ ∃ r3 c3', r2 = r3 ++ [c3'] := by
      rcases List.eq_nil_or_concat r2 with e | ⟨r3, c3', e⟩
      ·exact Or.inl e
      ·exact Or.inr ⟨r3, c3', by rw [e, List.concat_eq_append]⟩
     rcases hcat with rfl | ⟨r3, c3', rfl⟩
     ·clear hO2 hP2 hD2 hU2 d4 df hrun c3 c4
      simp only [List.length_nil]
      go_wp2
      go_ret
      refine ⟨?_, ⟨wv2, rv2, ?_⟩, HU2.out⟩
      ·rw [HNX.out, HP2.out]; rfl
      ·rw [HNX.out, HP2.out]; exact HO2.out
     ·have hcD : c3' ∈ D := HD2.out c3' (by simp)
      have t2 : wr.cell? ⟨B c3', 2, none⟩ = some (.int .i64 (fin c3').til) := (hO2.blk c3' hcD).cell 2 rfl
      obtain ⟨n3, hn3'⟩ : ∃ n3, r3.length = n3 := ⟨_, rfl⟩
      have HN3 : Hid (r3.length = n3) := hn3'
      obtain ⟨g, cap3, hrv2, hcell⟩ : ∃ g cap3, rv2 x = .slice (some ⟨g, 0, none⟩) (n3 + 1) cap3 ∧ wr.cell? ⟨g, n3, none⟩ = some (pB B c3') ∧ n3 + 1 ≤ cap3 := by
       rcases hrun.2 with ⟨_, e⟩ | ⟨g, cap3, cur, e1, _, hh, hc, _⟩
       ·simp at e
       ·refine ⟨g, cap3, by rw [e1]; simp [hn3'], ?_, by simp [hn3'] at hc; omega⟩
        have := hrun.cells (g := g) (by rw [e1]; rfl) n3 (pB B c3') (by rw [List.getElem?_map, List.getElem?_append_right (by omega), hn3', Nat.sub_self]; rfl)
        rw [Addr.add_mid, Nat.zero_add] at this
        exact this
      obtain ⟨hcell, hcap3⟩ := hcell
      have HRV2 : Hid (rv2 x = .slice (some ⟨g, 0, none⟩) (n3 + 1) cap3) := hrv2
      rw [hrv2] at d4
      unfold pB at hcell
      have hidx : ((r3 ++ [c3']).length : Int) - 1 = (n3 : Int) := by simp; omega
      rw [hidx]
      have hl3 : (n3 : Int) + 1 ≤ 1000 := by simp at hl2; omega
      have hz3 : (0 : Int) ≤ (n3 : Int) := by omega
      have hc3' : (n3 : Int) + 1 ≤ (cap3 : Int) := by omega
      have hw3 : IntKind.i64.wrap ((n3 : Int) - 1) = (n3 : Int) - 1 := by unfold IntKind.wrap; simp [IntKind.signed, IntKind.bits]; omega
      clear hO2 hP2 hD2 hU2 hrun hn3' hidx hrv2 c3 c4 hl2 hcap3
      by_cases hta : at_ < (fin c3').til
      ·go_wp2
       go_ret
       have hpk : popM fin at_ r = r3 ++ [c3'] := by rw [HP2.out, popM_keep _ _ _ _ hta]
       refine ⟨?_, ⟨wv2, rv2, ?_⟩, HU2.out⟩
       ·rw [HNX.out, hpk]
        simp [nxV, pB]
       ·rw [HNX.out, hpk]; exact HO2.out
      ·go_wp2
       go_roundw
       case rel =>
        obtain ⟨q1, q2⟩ := OwnS.cut HO2.out HX.out g (n3 + 1) cap3 n3 HRV2.out (by rw [upF_same]; simp; have := HN3.out; omega)
        rw [upF_same, upF_twice, show (r3 ++ [c3']).take n3 = r3 by rw [← HN3.out]; simp] at q1
        refine ⟨r3, wv2, _, by rw [HN3.out], q1, by rw [HP2.out, popM_drop _ _ _ _ hta], fun c hc => HD2.out c (by simp [hc]), by have := HN3.out; omega, HU2.out.trans q2⟩
       case measure => (simp [intOf]; try omega)
   ·obtain ⟨off, cap, e1, e2, e3, e4, -⟩ := HHEAD.out c w2 rfl
    rw [e1] at c3
    unfold pB at e3
    obtain ⟨n2, hn2⟩ : ∃ n2, w2.length = n2 := ⟨_, rfl⟩
    rw [hn2] at c3 e2
    have hn3 : (n2 : Int) + 1 ≤ 1000 := by have := HL2.out; simp at this; omega
    clear e1 HHEAD hn2
    go_wp2
    go_loopw [5] (fun y wq => ∃ r2 wv2 rv2, y = .int .i64 ((r2.length : Int) - 1) ∧ OwnS base wq fin D B (upF sw x (c :: w2)) (upF sr x r2) wv2 rv2 wb ∧ popM fin at_ r = popM fin at_ r2 ∧ (∀ c ∈ r2, c ∈ D) ∧ r2.length ≤ 1000 ∧ UpO base W wq) (fun y _ => ((intOf y) + 1).toNat)
    case atStart => exact ⟨r, wv', rv', by rw [HNR.out], REST.out.1, rfl, HR2.out, by have := HL2.out; omega, REST.out.2⟩
    case round =>
     obtain ⟨r2, wv2, rv2, rfl, hO2, hP2, hD2, hl2, hU2⟩ := hrel
     have HO2 : Hid (OwnS base wr fin D B (upF sw x (c :: w2)) (upF sr x r2) wv2 rv2 wb) := hO2
     have HU2 : Hid (UpO base W wr) := hU2
     have HP2 : Hid (popM fin at_ r = popM fin at_ r2) := hP2
     have HD2 : Hid (∀ c ∈ r2, c ∈ D) := hD2
     have d4 : wr.cell? ⟨B x, 4, none⟩ = some (rv2 x) := (hO2.blk x HX.out).cell 4 rfl
     have df : ∀ j, wr.frozen? ⟨B x, j, none⟩ = false := fun j => (hO2.blk x HX.out).frozen j
     have hrun := hO2.run x HX.out
     rw [upF_same] at hrun
     have hcat : r2 = [] ∨ ∃ r3 c3', r2 = r3 ++ [c3'] := by
      rcases List.eq_nil_or_concat r2 with e | ⟨r3, c3', e⟩
      ·exact Or.inl e
      ·exact Or.inr ⟨r3, c3', by rw [e, List.concat_eq_append]⟩
     rcases hcat with rfl | ⟨r3, c3', rfl⟩
     ·clear hO2 hP2 hD2 hU2 d4 df hrun c3 c4
      simp only [List.length_nil]
      go_wp2
      go_ret
      refine ⟨?_, ⟨wv2, rv2, ?_⟩, HU2.out⟩
      ·rw [HNX.out, HP2.out]; rfl
      ·rw [HNX.out, HP2.out]; exact HO2.out
     ·have hcD : c3' ∈ D := HD2.out c3' (by simp)
      have t2 : wr.cell? ⟨B c3', 2, none⟩ = some (.int .i64 (fin c3').til) := (hO2.blk c3' hcD).cell 2 rfl
      obtain ⟨n3, hn3'⟩ : ∃ n3, r3.length = n3 := ⟨_, rfl⟩
      have HN3 : Hid (r3.length = n3) := hn3'
      obtain ⟨g, cap3, hrv2, hcell⟩ : ∃ g cap3, rv2 x = .slice (some ⟨g, 0, none⟩) (n3 + 1) cap3 ∧ wr.cell? ⟨g, n3, none⟩ = some (pB B c3') ∧ n3 + 1 ≤ cap3 := by
       rcases hrun.2 with ⟨_, e⟩ | ⟨g, cap3, cur, e1, _, hh, hc, _⟩
       ·simp at e
       ·refine ⟨g, cap3, by rw [e1]; simp [hn3'], ?_, by simp [hn3'] at hc; omega⟩
        have := hrun.cells (g := g) (by rw [e1]; rfl) n3 (pB B c3') (by rw [List.getElem?_map, List.getElem?_append_right (by omega), hn3', Nat.sub_self]; rfl)
        rw [Addr.add_mid, Nat.zero_add] at this
        exact this
      obtain ⟨hcell, hcap3⟩ := hcell
      have HRV2 : Hid (rv2 x = .slice (some ⟨g, 0, none⟩) (n3 + 1) cap3) := hrv2
      rw [hrv2] at d4
      unfold pB at hcell
      have hidx : ((r3 ++ [c3']).length : Int) - 1 = (n3 : Int) := by simp; omega
      rw [hidx]
      have hl3 : (n3 : Int) + 1 ≤ 1000 := by simp at hl2; omega
      have hz3 : (0 : Int) ≤ (n3 : Int) := by omega
      have hc3' : (n3 : Int) + 1 ≤ (cap3 : Int) := by omega
      have hw3 : IntKind.i64.wrap ((n3 : Int) - 1) = (n3 : Int) - 1 := by unfold IntKind.wrap; simp [IntKind.signed, IntKind.bits]; omega
      clear hO2 hP2 hD2 hU2 hrun hn3' hidx hrv2 c3 c4 hl2 hcap3
      by_cases hta : at_ < (fin c3').til
      ·go_wp2
       go_ret
       have hpk : popM fin at_ r = r3 ++ [c3'] := by rw [HP2.out, popM_keep _ _ _ _ hta]
       refine ⟨?_, ⟨wv2, rv2, ?_⟩, HU2.out⟩
       ·rw [HNX.out, hpk]
        simp [nxV, pB]
       ·rw [HNX.out, hpk]; exact HO2.out
      ·go_wp2
       go_roundw
       case rel =>
        obtain ⟨q1, q2⟩ := OwnS.cut HO2.out HX.out g (n3 + 1) cap3 n3 HRV2.out (by rw [upF_same]; simp; have := HN3.out; omega)
        rw [upF_same, upF_twice, show (r3 ++ [c3']).take n3 = r3 by rw [← HN3.out]; simp] at q1
        refine ⟨r3, wv2, _, by rw [HN3.out], q1, by rw [HP2.out, popM_drop _ _ _ _ hta], fun c hc => HD2.out c (by simp [hc]), by have := HN3.out; omega, HU2.out.trans q2⟩
       case measure => (simp [intOf]; try omega)
end Go.Proofs.YtnffedmcblbkoaaGreatDoor
