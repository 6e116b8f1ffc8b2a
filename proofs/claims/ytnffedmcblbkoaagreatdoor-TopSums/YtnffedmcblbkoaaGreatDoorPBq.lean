/-
  Merged: PB, PD, PE, PF.
-/
import Derived.Test.YtnffedmcblbkoaaGreatDoorOZ
import Derived.Test.YtnffedmcblbkoaaGreatDoorMwq
import Derived.Test.YtnffedmcblbkoaaGreatDoorPAq
import Derived.Deep.RegionHeld3
import Derived.Deep.RegionLaw
namespace Go.Proofs.YtnffedmcblbkoaaGreatDoor
open Go Go.RowKit
set_option maxRecDepth 100000
def swL (a : Sp) (p : Pl) (d : Nod) (cv : Value) (h : Int) : Array Value := #[.int .u64 a.hi, .int .u64 a.lo, .int .u64 a.id, .int .u64 a.par, .slice p.la a.links.length p.lc, .string a.svc, .string a.op, .int .i64 a.kind, .int .i64 a.status, .int .i64 a.start, .int .i64 a.fin, .slice p.aa a.attrs.length p.ac, .slice p.ea a.events.length p.ec, .int .i64 d.fr, .int .i64 d.til, cv, .int .u64 h]
theorem swL_set15 (a : Sp) (p : Pl) (d : Nod) (cv v : Value) (h : Int) : (swL a p d cv h).setIfInBounds 15 v = swL a p d v h := rfl
theorem swL_set16 (a : Sp) (p : Pl) (d : Nod) (cv : Value) (h h' : Int) : (swL a p d cv h).setIfInBounds 16 (.int .u64 h') = swL a p d cv h' := rfl
def twL (r sv lv : Value) : Array Value := #[r, sv, lv]
theorem twL_set0 (r sv lv v : Value) : (twL r sv lv).setIfInBounds 0 v = twL v sv lv := rfl
theorem twL_set1 (r sv lv v : Value) : (twL r sv lv).setIfInBounds 1 v = twL r v lv := rfl
theorem twL_set2 (r sv lv v : Value) : (twL r sv lv).setIfInBounds 2 v = twL r sv v := rfl
def hungI (L : List (Nat × Int × Int)) (y : Nat) : Int := L.foldl (fun h l => if l.1 = y then IntKind.u64.wrap (h + lenI (l.2.1, l.2.2)) else h) 0
theorem hungI_snoc (L : List (Nat × Int × Int)) (l : Nat × Int × Int) (y : Nat) : hungI (L ++ [l]) y = if l.1 = y then IntKind.u64.wrap (hungI L y + lenI (l.2.1, l.2.2)) else hungI L y := by
 unfold hungI
 rw [List.foldl_append]
 rfl
def legX (A : Nat → Sp) (l : Nat × Int × Int) : Int × Int × Int := ((A l.1).id, l.2.1, l.2.2)
def KidAt (W : World) (v : Value) (g : Nat) (L : List Value) : Prop := ∃ ad cap, v = .slice ad L.length cap ∧ (L ≠ [] → ad = some ⟨g, 0, none⟩ ∧ ∃ (c : Array Value) (fr : Nat × Nat), W.heap[g]? = some (.cells c 119 fr) ∧ ∀ (i : Nat) (u : Value), L[i]? = some u → c[i]? = some u)
theorem KidAt.upd {S : Nat → Prop} {W W' : World} {v : Value} {g : Nat} {L : List Value} (h : KidAt W v g L) (hu : Upd S W W') (hS : L ≠ [] → ¬ S g) : KidAt W' v g L := by
 obtain ⟨ad, cap, h1, h2⟩ := h
 refine ⟨ad, cap, h1, fun hn => ?_⟩
 obtain ⟨h3, c, fr, h4, h5⟩ := h2 hn
 exact ⟨h3, c, fr, (hu.block g (Array.getElem?_eq_some_iff.1 h4).1 (hS hn)).trans h4, h5⟩
theorem KidAt.cell {W : World} {v : Value} {g : Nat} {L : List Value} (h : KidAt W v g L) : ∃ ad cap, v = .slice ad L.length cap ∧ ∀ i u, L[i]? = some u → ad = some ⟨g, 0, none⟩ ∧ W.cell? ⟨g, i, none⟩ = some u := by
 obtain ⟨ad, cap, h1, h2⟩ := h
 refine ⟨ad, cap, h1, fun i u hu => ?_⟩
 obtain ⟨h3, c, fr, h4, h5⟩ := h2 (fun e => by rw [e] at hu; simp at hu)
 exact ⟨h3, by simp [World.cell?, h4, h5 i u hu]⟩
theorem KidAt.of {W : World} {base n : Nat} {v : Value} {xs : List Value} (h : W.ownsRow base 119 1 v n xs) (hn : xs.length = n) : KidAt W v (blkOf v) xs := by
 rcases h.2 with ⟨e1, e2⟩ | ⟨g, cap, cur, e1, hbg, hh, hc, hcm, hcs, ht⟩
 ·refine ⟨none, 0, by rw [e1, hn, e2], fun hx => absurd (List.eq_nil_of_length_eq_zero (by omega)) hx⟩
 ·refine ⟨_, cap, by rw [e1, hn], fun hx => ⟨by rw [e1]; rfl, cur, _, by rw [e1]; exact hh, fun i u hu => ?_⟩⟩
  have hi := (List.getElem?_eq_some_iff.1 hu).1
  have : (cur.toList.take (n * 1))[i]? = some u := by rw [ht]; exact hu
  rw [List.getElem?_take_of_lt (by omega)] at this
  simpa using this
structure SwS (base : Nat) (W : World) (A : Nat → Sp) (fin : Nat → Nod) (C : Nat → List Nat) (tb : Nat) (D : List Nat) (p : Nat → Pl) (B : Nat → Nat) (cv : Nat → Value) (cb : Nat → Nat) (r sv : Value) (vs : List Value) (lv : Value) (L : List (Nat × Int × Int)) : Prop where
 blk : ∀ y ∈ D, Blk W (B y) (swL (A y) (p y) (fin y) (cv y) (hungI L y)) 128
 low : ∀ y ∈ D, base ≤ B y
 inj : ∀ x ∈ D, ∀ y ∈ D, B x = B y → x = y
 kid : ∀ y ∈ D, KidAt W (cv y) (cb y) ((C y).map (pB B))
 tree : Blk W tb (twL r sv lv) 122
 row : W.ownsRow base 119 1 sv vs.length vs
 legs : W.ownsRow base 50 3 lv L.length (L.flatMap (fun l => legC (legX A l)))
 ap : ∀ y ∈ D, C y ≠ [] → sv.ownBlock ≠ some (cb y)
 cl : ∀ y ∈ D, ∀ c ∈ C y, c ∈ D
 lb : base ≤ W.heap.size
theorem SwS.upd {S : Nat → Prop} {base : Nat} {W W' : World} {A : Nat → Sp} {fin : Nat → Nod} {C : Nat → List Nat} {tb : Nat} {D : List Nat} {p : Nat → Pl} {B : Nat → Nat} {cv : Nat → Value} {cb : Nat → Nat} {r sv : Value} {vs : List Value} {lv : Value} {L : List (Nat × Int × Int)} (h : SwS base W A fin C tb D p B cv cb r sv vs lv L) (hu : Upd S W W') (h1 : ∀ y ∈ D, ¬ S (B y)) (h2 : ∀ y ∈ D, C y ≠ [] → ¬ S (cb y)) (h3 : ¬ S tb) (h4 : ∀ k, sv.ownBlock = some k → ¬ S k) (h5 : ∀ k, lv.ownBlock = some k → ¬ S k) : SwS base W' A fin C tb D p B cv cb r sv vs lv L :=
 ⟨fun y hy => (h.blk y hy).upd hu (h1 y hy), h.low, h.inj, fun y hy => (h.kid y hy).upd hu (fun hn => h2 y hy (fun e => hn (by rw [e]; rfl))), h.tree.upd hu h3, ownsRow_upd h.row hu h4, ownsRow_upd h.legs hu h5, h.ap, h.cl, Nat.le_trans h.lb hu.size⟩
theorem SwS.below {base : Nat} {W W' : World} {A : Nat → Sp} {fin : Nat → Nod} {C : Nat → List Nat} {tb : Nat} {D : List Nat} {p : Nat → Pl} {B : Nat → Nat} {cv : Nat → Value} {cb : Nat → Nat} {r sv : Value} {vs : List Value} {lv : Value} {L : List (Nat × Int × Int)} (h : SwS base W A fin C tb D p B cv cb r sv vs lv L) (hb : Below W.heap.size W W') : SwS base W' A fin C tb D p B cv cb r sv vs lv L :=
 h.upd (S := fun _ => False) (Upd.ofBelow hb (fun k h1 h2 => by omega)) (fun _ _ h => h) (fun _ _ _ h => h) (fun h => h) (fun _ _ h => h) (fun _ _ h => h)
def GrwV (tb : Nat) (sv : Value) (k : Nat) : Prop := k = tb ∨ sv.ownBlock = some k
theorem SwS.noV {base : Nat} {W : World} {A : Nat → Sp} {fin : Nat → Nod} {C : Nat → List Nat} {tb : Nat} {D : List Nat} {p : Nat → Pl} {B : Nat → Nat} {cv : Nat → Value} {cb : Nat → Nat} {r sv : Value} {vs : List Value} {lv : Value} {L : List (Nat × Int × Int)} (h : SwS base W A fin C tb D p B cv cb r sv vs lv L) {b : Nat} {c : Array Value} {T : TypeId} {fr : Nat × Nat} (hb : W.heap[b]? = some (.cells c T fr)) (h1 : T ≠ 122) (h2 : T ≠ 119) : ¬ GrwV tb sv b := by
 rintro (e | e)
 ·have ht := h.tree
  unfold Blk at ht
  rw [← e, hb] at ht
  simp at ht
  exact h1 ht.2.1
 ·obtain ⟨cur, hh⟩ := owns_type h.row e
  rw [hb] at hh
  simp at hh
  exact h2 hh.2.1
theorem row_type {W : World} {base n s : Nat} {e : TypeId} {v : Value} {xs : List Value} (h : W.ownsRow base e s v n xs) {b : Nat} {c : Array Value} {T : TypeId} {fr : Nat × Nat} (hb : W.heap[b]? = some (.cells c T fr)) (hT : T ≠ e) : v.ownBlock ≠ some b := fun e' => by
 obtain ⟨cur, hh⟩ := owns_typeS h e'
 rw [hb] at hh
 simp at hh
 exact hT hh.2.1
theorem blk_ne {W : World} {b b' : Nat} {c c' : Array Value} {T T' : TypeId} (h : Blk W b c T) (h' : Blk W b' c' T') (hT : T ≠ T') : b ≠ b' := fun e => by
 unfold Blk at h h'
 rw [e, h'] at h
 simp at h
 exact hT h.2.symm
theorem SwS.kidT {base : Nat} {W : World} {A : Nat → Sp} {fin : Nat → Nod} {C : Nat → List Nat} {tb : Nat} {D : List Nat} {p : Nat → Pl} {B : Nat → Nat} {cv : Nat → Value} {cb : Nat → Nat} {r sv : Value} {vs : List Value} {lv : Value} {L : List (Nat × Int × Int)} (h : SwS base W A fin C tb D p B cv cb r sv vs lv L) {y : Nat} (hy : y ∈ D) (hn : C y ≠ []) : ∃ c fr, W.heap[cb y]? = some (.cells c 119 fr) := by
 obtain ⟨ad, cap, _, h2⟩ := h.kid y hy
 obtain ⟨_, c, fr, h4, _⟩ := h2 (fun e => hn (List.map_eq_nil_iff.1 e))
 exact ⟨c, fr, h4⟩
theorem SwS.more {base : Nat} {W W2 W3 : World} {A : Nat → Sp} {fin : Nat → Nod} {C : Nat → List Nat} {tb : Nat} {D : List Nat} {p : Nat → Pl} {B : Nat → Nat} {cv : Nat → Value} {cb : Nat → Nat} {r sv : Value} {vs : List Value} {L : List (Nat × Int × Int)} (h : SwS base W A fin C tb D p B cv cb r sv vs nilV L) (hb : Below W.heap.size W W2) {v' : Value} (hg : W2.grownBy W3 sv.ownBlock) (hm : Moved W2 sv v') (u : Value) (ho : W3.ownsRow base 119 1 v' (vs.length + 1) (vs ++ [u])) :
  SwS base (W3.setCell ⟨tb, 1, none⟩ v') A fin C tb D p B cv cb r v' (vs ++ [u]) nilV L ∧ Upd (GrwV tb sv) W (W3.setCell ⟨tb, 1, none⟩ v') ∧ W3.cell? ⟨tb, 1, none⟩ = some sv ∧ W3.frozen? ⟨tb, 1, none⟩ = false ∧ (∀ g, v'.ownBlock = some g → sv.ownBlock = some g ∨ W.heap.size ≤ g) := by
 have h2 := h.below hb
 have u3 : Upd (fun k => sv.ownBlock = some k) W2 W3 := ⟨hg.os, hg.tape, hg.output, hg.size, fun k hk hn => hg.block k hk (fun e => hn e.symm)⟩
 have u4 : Upd (fun k => k = tb) W3 (W3.setCell ⟨tb, 1, none⟩ v') := Upd.setCell (S := fun k => k = tb) (Upd.refl _ _) (p := ⟨tb, 1, none⟩) (fun _ => rfl) _
 have hevt : sv.ownBlock ≠ some tb := row_type h2.row h2.tree (by decide)
 have ht3 : Blk W3 tb (twL r sv nilV) 122 := h2.tree.upd u3 (fun e => hevt e)
 have uw : Upd (GrwV tb sv) W2 (W3.setCell ⟨tb, 1, none⟩ v') := (u3.mono (S' := GrwV tb sv) (fun k _ e => Or.inr e)).trans u4 (fun k _ e => Or.inl e)
 have hmv : ∀ g, v'.ownBlock = some g → sv.ownBlock = some g ∨ W2.heap.size ≤ g := fun g e => by
  rcases hm with hm | ⟨k, hk, hs⟩
  ·rw [hm] at e; exact Or.inl e
  ·rw [hk] at e; cases e; exact Or.inr hs
 have hs2 := hb.size
 have hs3 := u3.size
 have hs4 := u4.size
 refine ⟨⟨fun y hy => (h2.blk y hy).upd uw (h2.noV (h2.blk y hy) (by decide) (by decide)), h.low, h.inj, fun y hy => (h2.kid y hy).upd uw (fun hn => ?_), ?_, ?_, ?_, fun y hy hn e => ?_, h.cl, by have := h.lb; omega⟩, (Upd.ofBelow (S := GrwV tb sv) hb (fun k h1 h2 => by omega)).trans uw (fun _ _ h => h), ht3.cell 1 rfl, ht3.frozen 1, fun g e => ?_⟩
 ·have hn' : C y ≠ [] := fun e => hn (by rw [e]; rfl)
  rintro (e | e)
  ·obtain ⟨c, fr, hc⟩ := h2.kidT hy hn'
   have ht := h2.tree
   unfold Blk at ht
   rw [e, ht] at hc
   simp at hc
  ·exact h2.ap y hy hn' e
 ·have := ht3.set 1 v'
  rwa [twL_set1] at this
 ·have := ownsRow_upd ho u4 (fun k e e' => by
   subst e'
   rcases hmv _ e with h' | h'
   ·exact hevt h'
   ·have := h2.tree.lt; omega)
  rw [List.length_append]
  exact this
 ·exact ownsRow_upd h2.legs uw (fun k e => by simp [Value.ownBlock] at e)
 ·rcases hmv _ e with h' | h'
  ·exact h2.ap y hy hn h'
  ·obtain ⟨c, fr, hc⟩ := h2.kidT hy hn
   have := (Array.getElem?_eq_some_iff.1 hc).1
   omega
 ·rcases hmv g e with h' | h'
  ·exact Or.inl h'
  ·exact Or.inr (by omega)
theorem SwS.cast {base : Nat} {W : World} {A : Nat → Sp} {fin : Nat → Nod} {C : Nat → List Nat} {tb : Nat} {D D' : List Nat} {p : Nat → Pl} {B : Nat → Nat} {cv : Nat → Value} {cb : Nat → Nat} {r sv : Value} {vs vs' : List Value} {lv : Value} {L : List (Nat × Int × Int)} (h : SwS base W A fin C tb D p B cv cb r sv vs lv L) (hD : ∀ y, y ∈ D' ↔ y ∈ D) (hv : vs = vs') : SwS base W A fin C tb D' p B cv cb r sv vs' lv L := by
 subst hv
 exact ⟨fun x hx => h.blk x ((hD x).1 hx), fun x hx => h.low x ((hD x).1 hx), fun x hx y hy => h.inj x ((hD x).1 hx) y ((hD y).1 hy), fun x hx => h.kid x ((hD x).1 hx), h.tree, h.row, h.legs, fun x hx => h.ap x ((hD x).1 hx), fun x hx c hc => (hD c).2 (h.cl x ((hD x).1 hx) c hc), h.lb⟩
theorem SwS.add {base : Nat} {W : World} {A : Nat → Sp} {fin : Nat → Nod} {C : Nat → List Nat} {tb : Nat} {D : List Nat} {p : Nat → Pl} {B : Nat → Nat} {cv : Nat → Value} {cb : Nat → Nat} {r sv : Value} {vs : List Value} {lv : Value} (h : SwS base W A fin C tb D p B cv cb r sv vs lv []) {x bx : Nat} {px : Pl} {wvx : Value} (hx : x ∉ D) (hsx : ∀ c ∈ C x, c ∈ D) (hb : Blk W bx (swL (A x) px (fin x) wvx 0) 128) (hlow : base ≤ bx) (hne : ∀ y ∈ D, B y ≠ bx) (ho : W.ownsRow base 119 1 wvx (C x).length ((C x).map (pB B))) (hap : ∀ g, wvx.ownBlock = some g → sv.ownBlock ≠ some g) :
  SwS base W A fin C tb (x :: D) (upF p x px) (upF B x bx) (upF cv x wvx) (upF cb x (blkOf wvx)) r sv vs lv [] := by
 have hxs : ∀ y ∈ x :: D, x ∉ C y := fun y hy hc => by
  rcases List.mem_cons.1 hy with e | hy
  ·subst e; exact hx (hsx y hc)
  ·exact hx (h.cl y hy x hc)
 have hned : ∀ y ∈ D, y ≠ x := fun y hy e => hx (by rw [← e]; exact hy)
 have hko := KidAt.of ho (by simp)
 refine ⟨fun y hy => ?_, fun y hy => ?_, fun y hy z hz e => ?_, fun y hy => ?_, h.tree, h.row, h.legs, fun y hy hn e => ?_, fun y hy c hc => ?_, h.lb⟩
 ·rcases List.mem_cons.1 hy with e | hy
  ·subst e; rw [upF_same, upF_same, upF_same]; exact hb
  ·rw [upF_ne _ _ (hned y hy), upF_ne _ _ (hned y hy), upF_ne _ _ (hned y hy)]; exact h.blk y hy
 ·rcases List.mem_cons.1 hy with e | hy
  ·subst e; rw [upF_same]; exact hlow
  ·rw [upF_ne _ _ (hned y hy)]; exact h.low y hy
 ·rcases List.mem_cons.1 hy with ey | hy' <;> rcases List.mem_cons.1 hz with ez | hz'
  ·rw [ey, ez]
  ·rw [ey, upF_same, upF_ne _ _ (hned z hz')] at e
   exact absurd e.symm (hne z hz')
  ·rw [ez, upF_same, upF_ne _ _ (hned y hy')] at e
   exact absurd e (hne y hy')
  ·rw [upF_ne _ _ (hned y hy'), upF_ne _ _ (hned z hz')] at e
   exact h.inj y hy' z hz' e
 ·rw [map_up (hxs y hy)]
  rcases List.mem_cons.1 hy with e | hy
  ·subst e
   rw [upF_same, upF_same]
   exact hko
  ·rw [upF_ne _ _ (hned y hy), upF_ne _ _ (hned y hy)]
   exact h.kid y hy
 ·rcases List.mem_cons.1 hy with e' | hy
  ·subst e'
   rw [upF_same] at e
   rcases ho.2 with ⟨_, e2⟩ | ⟨g, cap, cur, e1, _⟩
   ·exact hn (List.eq_nil_of_length_eq_zero e2)
   ·have e3 : wvx.ownBlock = some g := by rw [e1]; rfl
    unfold blkOf at e
    rw [e3] at e
    exact hap g e3 e
  ·rw [upF_ne _ _ (hned y hy)] at e
   exact h.ap y hy hn e
 ·rcases List.mem_cons.1 hy with e | hy
  ·subst e; exact List.mem_cons_of_mem _ (hsx c hc)
  ·exact List.mem_cons_of_mem _ (h.cl y hy c hc)
theorem infoPW : (Tryz.prog.info? 119).map (fun i => (i.zero, i.size, i.bytes)) = some (some (.pointer none), 1, 8) := by kernel_rfl
theorem infoPW_parts : ∃ i, Tryz.prog.info? 119 = some i ∧ i.zero = some (.pointer none) ∧ i.size = 1 ∧ i.bytes = 8 := by
 have h := infoPW
 cases hq : Tryz.prog.info? 119 with
 | none => rw [hq] at h; simp at h
 | some i =>
  rw [hq] at h
  simp at h
  exact ⟨i, rfl, h.1, h.2.1, h.2.2⟩
theorem until_any (b : Nat) (til to : Int) (w : World) (h : w.cell? ⟨b, 13 + 1, none⟩ = some (.int .i64 til)) :
  Calls Tryz.prog 110 #[.pointer (some ⟨b, 13, none⟩), .int .i64 to] w fun e w' => e = .returned (.int .i64 (min til to)) ∧ w' = w := by
 go_enter Tryz.func110, Tryz.ntmps110
 go_wp2
 all_goals go_ret
 all_goals refine ⟨?_, rfl⟩
 all_goals (show Ending.returned (Value.int _ _) = _; congr 2; try omega)
theorem outlasts_any (b1 b2 : Nat) (i1 t1 i2 t2 to : Int) (w : World) (h1 : w.cell? ⟨b1, 13 + 1, none⟩ = some (.int .i64 t1)) (h2 : w.cell? ⟨b2, 13 + 1, none⟩ = some (.int .i64 t2)) (h3 : w.cell? ⟨b1, 2, none⟩ = some (.int .u64 i1)) (h4 : w.cell? ⟨b2, 2, none⟩ = some (.int .u64 i2)) :
  Calls Tryz.prog 175 #[.pointer (some ⟨b1, 0, none⟩), .pointer (some ⟨b2, 0, none⟩), .int .i64 to] w fun e w' => e = .returned (.bool (decide (min t2 to < min t1 to) || (decide (min t1 to = min t2 to) && decide (i1 < i2)))) ∧ ∃ m, w' = w.drewN m := by
 have U1 := fun n => until_any b1 t1 to (w.drewN n) h1
 have U2 := fun n => until_any b2 t2 to (w.drewN n) h2
 obtain ⟨m1, hm1⟩ : ∃ m1, min t1 to = m1 := ⟨_, rfl⟩
 obtain ⟨m2, hm2⟩ : ∃ m2, min t2 to = m2 := ⟨_, rfl⟩
 rw [hm1] at U1 ⊢
 rw [hm2] at U2 ⊢
 clear hm1 hm2 h1 h2
 by_cases k1 : m2 < m1
 ·have d1 : decide (m2 < m1) = true := decide_eq_true k1
  go_enter Tryz.func175, Tryz.ntmps175
  go_wp2
  go_quiet (first | (go_at_call 110; (with_reducible refine Calls.quiet_of_same (U1 _))) | (go_at_call 110; (with_reducible refine Calls.quiet_of_same (U2 _))))
  go_wp2
  go_quiet (fail)
  go_wp2
  go_ret
  exact ⟨by rw [d1]; rfl, _, World.drewN_drewN _ _ _⟩
 ·have d1 : decide (m2 < m1) = false := decide_eq_false k1
  by_cases k2 : m1 = m2
  ·have d2 : decide (m1 = m2) = true := decide_eq_true k2
   go_enter Tryz.func175, Tryz.ntmps175
   go_wp2
   go_quiet (first | (go_at_call 110; (with_reducible refine Calls.quiet_of_same (U1 _))) | (go_at_call 110; (with_reducible refine Calls.quiet_of_same (U2 _))))
   go_wp2
   go_quiet (fail)
   go_wp2
   go_ret
   exact ⟨by rw [d1, d2]; rfl, _, World.drewN_drewN _ _ _⟩
  ·have d2 : decide (m1 = m2) = false := decide_eq_false k2
   have d3 : (m1 == m2) = false := by simp [k2]
   go_enter Tryz.func175, Tryz.ntmps175
   go_wp2
   go_quiet (first | (go_at_call 110; (with_reducible refine Calls.quiet_of_same (U1 _))) | (go_at_call 110; (with_reducible refine Calls.quiet_of_same (U2 _))))
   go_wp2
   go_quiet (fail)
   go_wp2
   go_ret
   exact ⟨by rw [d1, d2]; rfl, _, World.drewN_drewN _ _ _⟩
def ptrO (B : Nat → Nat) : Option Nat → Value
 | none => .pointer none
 | some c => .pointer (some ⟨B c, 0, none⟩)
structure AwR (W : World) (b g : Nat) (kv : Value) (Cs : List Nat) (B : Nat → Nat) (fin : Nat → Nod) : Prop where
 head : W.cell? ⟨b, 13 + 2, none⟩ = some kv
 row : ∃ ad cap, kv = .slice ad Cs.length cap ∧ ∀ i (h : i < Cs.length), ad = some ⟨g, 0, none⟩ ∧ W.cell? ⟨g, i, none⟩ = some (.pointer (some ⟨B Cs[i], 0, none⟩))
 each : ∀ c ∈ Cs, W.cell? ⟨B c, 2, none⟩ = some (.int .u64 (fin c).id) ∧ W.cell? ⟨B c, 13, none⟩ = some (.int .i64 (fin c).fr) ∧ W.cell? ⟨B c, 13 + 1, none⟩ = some (.int .i64 (fin c).til)
 len : Cs.length ≤ 1000
set_option maxHeartbeats 4000000 in
theorem awaited_any (b g : Nat) (kv : Value) (Cs : List Nat) (B : Nat → Nat) (fin : Nat → Nod) (to : Int) (w : World) (h : AwR w b g kv Cs B fin) :
  Calls Tryz.prog 108 #[.pointer (some ⟨b, 13, none⟩), .int .i64 to] w fun e w' => e = .returned (ptrO B (awaitM fin to Cs)) ∧ ∃ m, w' = w.drewN m := by
 obtain ⟨hh, ⟨ad, cap, rfl, hrow⟩, heach, hlen⟩ := h
 obtain ⟨n, hn⟩ : ∃ n, Cs.length = n := ⟨_, rfl⟩
 rw [hn] at hh
 have hn1 : (n : Int) ≤ 1000 := by omega
 go_enter Tryz.func108, Tryz.ntmps108
 go_wp2
 have NXT : Hid (∀ (i : Nat) (hi : i < n), ∃ c, c ∈ Cs ∧ ad = some ⟨g, 0, none⟩ ∧ w.cell? ⟨g, i, none⟩ = some (.pointer (some ⟨B c, 0, none⟩)) ∧ awaitM fin to (Cs.take (i + 1)) = pickA fin to (awaitM fin to (Cs.take i)) c) := fun i hi => by
  have hi' : i < Cs.length := by omega
  exact ⟨Cs[i], List.getElem_mem hi', (hrow i hi').1, (hrow i hi').2, awaitM_take fin to Cs i hi'⟩
 have HE : Hid (∀ c ∈ Cs, w.cell? ⟨B c, 2, none⟩ = some (.int .u64 (fin c).id) ∧ w.cell? ⟨B c, 13, none⟩ = some (.int .i64 (fin c).fr) ∧ w.cell? ⟨B c, 13 + 1, none⟩ = some (.int .i64 (fin c).til)) := heach
 have HEND : Hid (awaitM fin to (Cs.take n) = awaitM fin to Cs) := by
  have e : Cs.take n = Cs := List.take_of_length_le (by omega)
  show _ = _
  rw [e]
 have HIN : Hid (∀ i l, awaitM fin to (Cs.take i) = some l → l ∈ Cs) := fun i l hl => List.mem_of_mem_take (awaitM_some hl).1
 clear hn hlen hrow heach hh
 go_loopw [5, 13] (fun y5 y13 wr => ∃ (i m : Nat), y13 = .int .i64 i ∧ i ≤ n ∧ y5 = ptrO B (awaitM fin to (Cs.take i)) ∧ wr = w.drewN m) (fun _ y13 _ => n - (intOf y13).toNat)
 case atStart => exact ⟨0, 0, rfl, by omega, rfl, rfl⟩
 case round =>
  obtain ⟨i, m, rfl, hin, rfl, rfl⟩ := hrel
  by_cases hlt : i < n
  ·obtain ⟨c, hc, rfl, cr, heq⟩ := NXT.out i hlt
   obtain ⟨q1, q2, q3⟩ := HE.out c hc
   have HEQ : Hid (awaitM fin to (Cs.take (i + 1)) = pickA fin to (awaitM fin to (Cs.take i)) c) := heq
   clear heq
   by_cases hf : (fin c).fr < to
   ·have df : decide ((fin c).fr < to) = true := decide_eq_true hf
    cases hl : awaitM fin to (Cs.take i) with
    | none =>
     have HL : Hid (awaitM fin to (Cs.take i) = none) := hl
     simp only [ptrO]
     clear hl NXT HE
     go_wp2
     go_roundw
     case rel => exact ⟨i + 1, m, by simp, by omega, by rw [HEQ.out, HL.out]; unfold pickA; rw [if_pos hf], rfl⟩
     case measure => (simp [intOf]; try omega)
    | some l =>
     have HL : Hid (awaitM fin to (Cs.take i) = some l) := hl
     obtain ⟨r1, r2, r3⟩ := HE.out l (HIN.out i l hl)
     have OL := outlasts_any (B c) (B l) (fin c).id (fin c).til (fin l).id (fin l).til to (w.drewN m) q3 r3 q1 r1
     have HO : Hid (outM (fin c) (fin l) to = (decide (min (fin l).til to < min (fin c).til to) || (decide (min (fin c).til to = min (fin l).til to) && decide ((fin c).id < (fin l).id)))) := rfl
     obtain ⟨o, ho⟩ : ∃ o, (decide (min (fin l).til to < min (fin c).til to) || (decide (min (fin c).til to = min (fin l).til to) && decide ((fin c).id < (fin l).id))) = o := ⟨_, rfl⟩
     rw [ho] at OL HO
     simp only [ptrO]
     clear hl NXT HE r1 r2 r3 q1 q3 ho
     cases o with
     | true =>
      go_wp2_with (go_at_call 175; refine OL.mono ?_; clear OL; rintro e w1 ⟨rfl, m1, rfl⟩)
      go_roundw
      case rel => exact ⟨i + 1, _, by simp, by omega, by rw [HEQ.out, HL.out]; unfold pickA; rw [if_pos hf]; simp only; rw [if_pos HO.out], rfl⟩
      case measure => (simp [intOf]; try omega)
     | false =>
      go_wp2_with (go_at_call 175; refine OL.mono ?_; clear OL; rintro e w1 ⟨rfl, m1, rfl⟩)
      go_roundw
      case rel => exact ⟨i + 1, _, by simp, by omega, by rw [HEQ.out, HL.out]; unfold pickA; rw [if_pos hf]; simp only; rw [if_neg (by rw [HO.out]; simp)], rfl⟩
      case measure => (simp [intOf]; try omega)
   ·have df : decide ((fin c).fr < to) = false := decide_eq_false hf
    clear NXT HE
    go_wp2
    go_roundw
    case rel => exact ⟨i + 1, m, by simp, by omega, by rw [HEQ.out]; unfold pickA; rw [if_neg hf], rfl⟩
    case measure => (simp [intOf]; try omega)
  ·have hni : ¬ (i : Int) < (n : Int) := by omega
   have HI : Hid (i = n) := by have e : i = n := (by omega); exact e
   clear hin hlt
   go_wp2
   go_ret
   exact ⟨by rw [← HEND.out, ← HI.out]; rfl, m, rfl⟩
theorem step_appX {P : Program} (w : World) {ops : Array Oper} {o : Oper} {a : Act} {K : Act → World → Prop} {Q : Exit → Act → World → Prop} {E : Prop} (hgd : o.guard = none) (s x : Operand) (t tx : TypeId)
  (ho : o.op = .call { callee := .builtin .append, args := #[s, x], argTypes := #[t, tx] })
  (base : Nat) (e : TypeId) (i : TypeInfo) (z : Value) (size bytes : Nat) (ht : P.underlying t = some (.slice e)) (hi : P.info? e = some i) (hz : i.zero = some z) (hsize : i.size = size) (hby : i.bytes = bytes) (hzs : z.cells.size = size)
  (v : Value) (n : Nat) (xs : List Value) (hv : a.eval s = v) (hown : w.ownsRow base e size v n xs) (y : Value) (m : Nat) (news : List Value) (hx : a.eval x = y) (hs : Src P size tx y m news w)
  (h63 : n + m ≤ maxLen) (hbytes : (n + m + (n + m) / 4 + 192) * bytes ≤ 281474976710656) (hbase : base ≤ w.heap.size)
  (h : ∀ v' w', w'.ownsRow base e size v' (n + m) (xs ++ news) → w.grownBy w' v.ownBlock → Moved w v v' → K (a.put o.dst v') w') : if Region.wanted o (yielded ops a.tmps) = true then Oper.wp P o a w K Q else E := by
 subst hby
 have hw : Region.wanted o (yielded ops a.tmps) = true := by simp [Region.wanted, hgd]
 rw [if_pos hw]
 obtain ⟨v', w', hr, h2, h3, h4⟩ := run_appW (P := P) w base t tx o.type e i z size ht hi hz hsize hzs v n xs hown y m news hs h63 hbytes hbase
 unfold Oper.wp execOp
 simp only [ho, resolve, invoke, builtin, Sem.run_bind, Sem.run_pure, Result.andThen_ok, List.map_toArray, List.map_cons, List.map_nil, hv, hx, hr]
 exact h v' w' h2 h3 h4
theorem src_at3 {P : Program} {tx e : TypeId} (hu : P.underlying tx = some (.slice e)) {W : World} {b : Nat} {x y z : Value} {t : TypeId} (h : W.heap[b]? = some (.cells #[x, y, z] t (0, 0))) (h1 : x.oneCell' = true) (h2 : y.oneCell' = true) (h3 : z.oneCell' = true) : Src P 3 tx (.slice (some ⟨b, 0, none⟩) 1 1) 1 [x, y, z] W := by
 refine Src.ofSlice _ hu ⟨b, 0, none⟩ 1 1 _ rfl ?_ ?_
 ·intro j u hj
  match j, hj with
  | 0, hj => simp at hj; subst hj; simp [Addr.add, World.cell?, h]
  | 1, hj => simp at hj; subst hj; simp [Addr.add, World.cell?, h]
  | 2, hj => simp at hj; subst hj; simp [Addr.add, World.cell?, h]
  | j + 3, hj => simp at hj
 ·intro u hu
  simp at hu
  rcases hu with rfl | rfl | rfl
  ·exact h1
  ·exact h2
  ·exact h3
theorem SwS.hang {base : Nat} {W w5 V : World} {A : Nat → Sp} {fin : Nat → Nod} {C : Nat → List Nat} {tb : Nat} {D : List Nat} {p : Nat → Pl} {B : Nat → Nat} {cv : Nat → Value} {cb : Nat → Nat} {r sv : Value} {vs : List Value} {lv : Value} {L : List (Nat × Int × Int)} (h : SwS base W A fin C tb D p B cv cb r sv vs lv L) {s : Nat} (hs : s ∈ D) (a b : Int) (hb : Below W.heap.size W w5) (hV : w5.setCell ⟨B s, 16, none⟩ (.int .u64 (IntKind.u64.wrap (hungI L s + lenI (a, b)))) = V) :
  V.cell? ⟨tb, 2, none⟩ = some lv ∧ V.cell? ⟨B s, 2, none⟩ = some (.int .u64 (A s).id) ∧ base ≤ V.heap.size ∧ (∀ u, Below V.heap.size V u → u.ownsRow base 50 3 lv L.length (L.flatMap (fun l => legC (legX A l)))) ∧
  ∀ (u2 u3 : World) (v' : Value), Below V.heap.size V u2 → u2.grownBy u3 lv.ownBlock → Moved u2 lv v' → u3.ownsRow base 50 3 v' (L.length + 1) (L.flatMap (fun l => legC (legX A l)) ++ [.int .u64 (A s).id, .int .i64 a, .int .i64 b]) → (SwS base (u3.setCell ⟨tb, 2, none⟩ v') A fin C tb D p B cv cb r sv vs v' (L ++ [(s, a, b)]) ∧ Upd (fun k => k = tb ∨ base ≤ k) W (u3.setCell ⟨tb, 2, none⟩ v')) ∧ u3.cell? ⟨tb, 2, none⟩ = some lv ∧ u3.frozen? ⟨tb, 2, none⟩ = false := by
 have h5 := h.below hb
 have u1 : Upd (fun k => k = B s) w5 V := by rw [← hV]; exact Upd.setCell (S := fun k => k = B s) (Upd.refl _ _) (p := ⟨B s, 16, none⟩) (fun _ => rfl) _
 have hsz : V.heap.size = w5.heap.size := by rw [← hV]; simp
 have bS : Blk V (B s) (swL (A s) (p s) (fin s) (cv s) (hungI (L ++ [(s, a, b)]) s)) 128 := by
  have := (h5.blk s hs).set 16 (.int .u64 (IntKind.u64.wrap (hungI L s + lenI (a, b))))
  rw [swL_set16, hV] at this
  rw [hungI_snoc, if_pos rfl]
  exact this
 have bO : ∀ y ∈ D, Blk V (B y) (swL (A y) (p y) (fin y) (cv y) (hungI (L ++ [(s, a, b)]) y)) 128 := fun y hy => by
  by_cases e : y = s
  ·subst e; exact bS
  ·rw [hungI_snoc, if_neg (fun e' => e e'.symm)]
   exact (h5.blk y hy).upd u1 (fun e' => e (h.inj y hy s hs e'))
 have kO : ∀ y ∈ D, KidAt V (cv y) (cb y) ((C y).map (pB B)) := fun y hy => (h5.kid y hy).upd u1 (fun hn e => by
  obtain ⟨c, fr, hc⟩ := h5.kidT hy (fun e => hn (by rw [e]; rfl))
  have hB := h5.blk s hs
  unfold Blk at hB
  rw [e, hB] at hc
  simp at hc)
 have tV : Blk V tb (twL r sv lv) 122 := h5.tree.upd u1 (fun e => blk_ne h5.tree (h5.blk s hs) (by decide) e)
 have rV : V.ownsRow base 119 1 sv vs.length vs := ownsRow_upd h5.row u1 (fun k e e' => row_type h5.row (h5.blk s hs) (by decide) (by rw [← e']; exact e))
 have lV : V.ownsRow base 50 3 lv L.length (L.flatMap (fun l => legC (legX A l))) := ownsRow_upd h5.legs u1 (fun k e e' => row_type h5.legs (h5.blk s hs) (by decide) (by rw [← e']; exact e))
 have uW : Upd (fun k => k = tb ∨ base ≤ k) W V := (Upd.ofBelow (S := fun k => k = tb ∨ base ≤ k) hb (fun k h1 h2 => by omega)).trans (u1.mono (S' := fun k => k = tb ∨ base ≤ k) (fun k _ e => Or.inr (by rw [e]; exact h.low s hs))) (fun _ _ h => h)
 refine ⟨tV.cell 2 rfl, bS.cell 2 rfl, by have := h5.lb; omega, fun u hu => ownsRow_upd lV (Upd.ofBelow (S := fun _ => False) hu (fun k h1 h2 => by omega)) (fun _ _ h => h), fun u2 u3 v' hb2 hg hm ho => ?_⟩
 have b2 : Upd (fun _ => False) V u2 := Upd.ofBelow (S := fun _ => False) hb2 (fun k h1 h2 => by omega)
 have u3' : Upd (fun k => lv.ownBlock = some k) u2 u3 := ⟨hg.os, hg.tape, hg.output, hg.size, fun k hk hn => hg.block k hk (fun e => hn e.symm)⟩
 have u4 : Upd (fun k => k = tb) u3 (u3.setCell ⟨tb, 2, none⟩ v') := Upd.setCell (S := fun k => k = tb) (Upd.refl _ _) (p := ⟨tb, 2, none⟩) (fun _ => rfl) _
 have l2 := ownsRow_upd lV b2 (fun _ _ h => h)
 have t2 := tV.upd b2 (fun h => h)
 have t3 : Blk u3 tb (twL r sv lv) 122 := t2.upd u3' (fun e => row_type l2 t2 (by decide) e)
 have hmv : ∀ g, v'.ownBlock = some g → lv.ownBlock = some g ∨ u2.heap.size ≤ g := fun g e => by
  rcases hm with hm | ⟨k, hk, hs⟩
  ·rw [hm] at e; exact Or.inl e
  ·rw [hk] at e; cases e; exact Or.inr hs
 have uw : Upd (fun k => k = tb ∨ lv.ownBlock = some k) u2 (u3.setCell ⟨tb, 2, none⟩ v') := (u3'.mono (S' := fun k => k = tb ∨ lv.ownBlock = some k) (fun k _ e => Or.inr e)).trans u4 (fun k _ e => Or.inl e)
 have no : ∀ (k : Nat) (c : Array Value) (T : TypeId) (fr : Nat × Nat), u2.heap[k]? = some (.cells c T fr) → T ≠ 122 → T ≠ 50 → ¬ (k = tb ∨ lv.ownBlock = some k) := fun k c T fr hk h1 h2 hor => by
  rcases hor with e | e
  ·unfold Blk at t2
   rw [← e, hk] at t2
   simp at t2
   exact h1 t2.2.1
  ·exact row_type l2 hk h2 e
 have hs2 := b2.size
 have hs3 := u3'.size
 have hs4 := u4.size
 have hlb := h5.lb
 refine ⟨⟨⟨fun y hy => ?_, h.low, h.inj, fun y hy => ?_, ?_, ?_, ?_, h.ap, h.cl, by omega⟩, ?_⟩, t3.cell 2 rfl, t3.frozen 2⟩
 ·have q := (bO y hy).upd b2 (fun h => h)
  exact q.upd uw (no _ _ _ _ q (by decide) (by decide))
 ·have q := (kO y hy).upd b2 (fun _ h => h)
  refine q.upd uw (fun hn => ?_)
  obtain ⟨ad, cap, _, q2⟩ := q
  obtain ⟨_, c, fr, q4, _⟩ := q2 hn
  exact no _ _ _ _ q4 (by decide) (by decide)
 ·have := t3.set 2 v'
  rwa [twL_set2] at this
 ·refine ownsRow_upd (ownsRow_upd rV b2 (fun _ _ h => h)) uw (fun k e => ?_)
  obtain ⟨cur, hh⟩ := owns_type (ownsRow_upd rV b2 (fun _ _ h => h)) e
  exact no _ _ _ _ hh (by decide) (by decide)
 ·have := ownsRow_upd ho u4 (fun k e e' => by
   subst e'
   rcases hmv _ e with h' | h'
   ·exact row_type l2 t2 (by decide) h'
   ·have := t2.lt; omega)
  rw [List.length_append, List.flatMap_append]
  exact this
 ·refine ((uW.trans (b2.mono (S' := fun k => k = tb ∨ base ≤ k) (fun k _ h => h.elim)) (fun _ _ h => h)).trans (u3'.mono (S' := fun k => k = tb ∨ base ≤ k) (fun k hk e => Or.inr ?_)) (fun _ _ h => h)).trans (u4.mono (S' := fun k => k = tb ∨ base ≤ k) (fun k _ e => Or.inl e)) (fun _ _ h => h)
  rcases l2.2 with ⟨e1, _⟩ | ⟨g', cap', cur, e1, hb', _⟩
  ·rw [e1] at e; simp [Value.ownBlock] at e
  ·rw [e1] at e
   simp [Value.ownBlock] at e
   omega
set_option maxHeartbeats 4000000 in
theorem hangW_some (base : Nat) (A : Nat → Sp) (fin : Nat → Nod) (C : Nat → List Nat) (tb : Nat) (D : List Nat) (p : Nat → Pl) (B : Nat → Nat) (cv : Nat → Value) (cb : Nat → Nat) (r sv : Value) (vs : List Value) (lv : Value) (L : List (Nat × Int × Int)) (s : Nat) (hs : s ∈ D) (a b : Int) (hab : a < b) (ha : In64 (a, b)) (hl : L.length ≤ 4000) (W : World) (h : SwS base W A fin C tb D p B cv cb r sv vs lv L) :
  Calls Tryz.prog 109 #[.pointer (some ⟨tb, 0, none⟩), .pointer (some ⟨B s, 0, none⟩), .int .i64 a, .int .i64 b] W fun e W' => e = .returned (.tuple #[]) ∧ ∃ lv', SwS base W' A fin C tb D p B cv cb r sv vs lv' (L ++ [(s, a, b)]) ∧ Upd (fun k => k = tb ∨ base ≤ k) W W' := by
 obtain ⟨i0, hi0, hz0, hz1, hz2⟩ := infoLeg_parts
 have LE := fun w => length_any (a, b) w ha
 have bs := h.blk s hs
 have c16 : W.cell? ⟨B s, 13 + 3, none⟩ = some (.int .u64 (hungI L s)) := bs.cell 16 rfl
 have HB : Hid (∀ w5, Below W.heap.size W w5 → w5.cell? ⟨B s, 13 + 3, none⟩ = some (.int .u64 (hungI L s)) ∧ w5.frozen? ⟨B s, 13 + 3, none⟩ = false) := fun w5 hb => ⟨(bs.below hb bs.lt).cell 16 rfl, (bs.below hb bs.lt).frozen 16⟩
 have HH : Hid (SwS base W A fin C tb D p B cv cb r sv vs lv L) := h
 clear h ha bs
 go_enter Tryz.func109, Tryz.ntmps109
 go_wp2
 go_region_law (go_simp; go_at_call 62; (with_reducible refine (LE _).mono ?_); rintro e w5 ⟨rfl, hb5⟩; have H5 : Hid (Below W.heap.size W w5) := ((Below.refl W.heap.size W).drew).trans hb5; obtain ⟨d1, d2⟩ := HB.out w5 H5.out; clear hb5)
 all_goals
  obtain ⟨V, hV⟩ : ∃ V, w5.setCell ⟨B s, 16, none⟩ (.int .u64 (IntKind.u64.wrap (hungI L s + lenI (a, b)))) = V := ⟨_, rfl⟩
  rw [hV]
  obtain ⟨e1, e2, hlb, e3, e4⟩ := SwS.hang HH.out hs a b H5.out hV
  have HOK : Hid (∀ u, Below V.heap.size V u → u.ownsRow base 50 3 lv L.length (L.flatMap (fun l => legC (legX A l)))) := e3
  have HAD : Hid (∀ (u2 u3 : World) (v' : Value), Below V.heap.size V u2 → u2.grownBy u3 lv.ownBlock → Moved u2 lv v' → u3.ownsRow base 50 3 v' (L.length + 1) (L.flatMap (fun l => legC (legX A l)) ++ [.int .u64 (A s).id, .int .i64 a, .int .i64 b]) → (SwS base (u3.setCell ⟨tb, 2, none⟩ v') A fin C tb D p B cv cb r sv vs v' (L ++ [(s, a, b)]) ∧ Upd (fun k => k = tb ∨ base ≤ k) W (u3.setCell ⟨tb, 2, none⟩ v')) ∧ u3.cell? ⟨tb, 2, none⟩ = some lv ∧ u3.frozen? ⟨tb, 2, none⟩ = false) := e4
  have y1 := fun (o : Obj) => (World.cell?_alloc_lt V o ⟨tb, 2, none⟩ (World.block_lt_of_cell? V _ e1)).trans e1
  clear e3 e4 hV d1 d2 c16 HB LE H5
  have hl' : Hid (L.length ≤ 4000) := hl
  go_wp2
  go_region_law (refine step_appX _ (by rfl) _ _ 41 41 (by rfl) base 50 i0 (.agg #[.int .u64 0, .int .i64 0, .int .i64 0]) 3 24 Tryz.underlying41 hi0 hz0 hz1 hz2 rfl lv L.length (L.flatMap (fun l => legC (legX A l))) (by rfl) (HOK.out _ (by repeat' first | exact Below.refl _ _ | refine Below.alloc ?_ (by first | omega | (simp; omega) | (simp; done)) _ | refine Below.drew ?_)) (.slice (some ⟨V.heap.size, 0, none⟩) 1 1) 1 [.int .u64 (A s).id, .int .i64 a, .int .i64 b] (by rfl) (src_at3 Tryz.underlying41 (by first | exact heap_alloc_new _ _ | exact heap_alloc_new V.drew _) rfl rfl rfl) (by have := hl'.out; unfold maxLen; omega) (by have := hl'.out; omega) (by first | (simp; omega) | omega) ?_; intro v8 w8 o8 g8 m8; obtain ⟨ad8, cap8, rfl⟩ := owns_sliceS o8; obtain ⟨A8, f8, f9⟩ := HAD.out _ w8 _ (by repeat' first | exact Below.refl _ _ | refine Below.alloc ?_ (by first | omega | (simp; omega) | (simp; done)) _ | refine Below.drew ?_) g8 m8 o8; have HA8 : Hid (SwS base (w8.setCell ⟨tb, 2, none⟩ (.slice ad8 (L.length + 1) cap8)) A fin C tb D p B cv cb r sv vs (.slice ad8 (L.length + 1) cap8) (L ++ [(s, a, b)]) ∧ Upd (fun k => k = tb ∨ base ≤ k) W (w8.setCell ⟨tb, 2, none⟩ (.slice ad8 (L.length + 1) cap8))) := A8; clear A8 o8 g8 m8 HOK HAD)
  all_goals
   go_wp2
   go_end0
   exact ⟨rfl, _, HA8.out⟩
theorem hangW_any (base : Nat) (A : Nat → Sp) (fin : Nat → Nod) (C : Nat → List Nat) (tb : Nat) (D : List Nat) (p : Nat → Pl) (B : Nat → Nat) (cv : Nat → Value) (cb : Nat → Nat) (r sv : Value) (vs : List Value) (lv : Value) (L : List (Nat × Int × Int)) (s : Nat) (hs : s ∈ D) (a b : Int) (ha : In64 (a, b)) (hl : L.length ≤ 4000) (W : World) (h : SwS base W A fin C tb D p B cv cb r sv vs lv L) :
  Calls Tryz.prog 109 #[.pointer (some ⟨tb, 0, none⟩), .pointer (some ⟨B s, 0, none⟩), .int .i64 a, .int .i64 b] W fun e W' => e = .returned (.tuple #[]) ∧ ∃ lv', SwS base W' A fin C tb D p B cv cb r sv vs lv' (L ++ hangM s a b) ∧ Upd (fun k => k = tb ∨ base ≤ k) W W' := by
 by_cases hab : a < b
 ·have := hangW_some base A fin C tb D p B cv cb r sv vs lv L s hs a b hab ha hl W h
  unfold hangM
  rw [if_pos hab]
  exact this
 ·have HH : Hid (SwS base W A fin C tb D p B cv cb r sv vs lv L) := h
  clear h
  go_enter Tryz.func109, Tryz.ntmps109
  go_wp2
  go_end0
  unfold hangM
  rw [if_neg (by omega), List.append_nil]
  exact ⟨rfl, ⟨lv, HH.out⟩, Upd.refl _ _⟩
structure BkE (A : Nat → Sp) (fin : Nat → Nod) (C : Nat → List Nat) (D : List Nat) : Prop where
 ida : ∀ y ∈ D, (A y).id = (fin y).id
 rg : ∀ y ∈ D, In64 ((fin y).fr, (fin y).til)
 len : ∀ y ∈ D, (C y).length ≤ 1000
theorem AwR.of {base : Nat} {W : World} {A : Nat → Sp} {fin : Nat → Nod} {C : Nat → List Nat} {tb : Nat} {D : List Nat} {p : Nat → Pl} {B : Nat → Nat} {cv : Nat → Value} {cb : Nat → Nat} {r sv : Value} {vs : List Value} {lv : Value} {L : List (Nat × Int × Int)} (h : SwS base W A fin C tb D p B cv cb r sv vs lv L) (E : BkE A fin C D) {s : Nat} (hs : s ∈ D) : AwR W (B s) (cb s) (cv s) (C s) B fin := by
 refine ⟨(h.blk s hs).cell 15 rfl, ?_, fun c hc => ?_, E.len s hs⟩
 ·obtain ⟨ad, cap, e, hc⟩ := (h.kid s hs).cell
  rw [List.length_map] at e
  exact ⟨ad, cap, e, fun i hi => hc i _ (by simp [hi, pB])⟩
 ·have hb := h.blk c (h.cl s hs c hc)
  exact ⟨by rw [← E.ida c (h.cl s hs c hc)]; exact hb.cell 2 rfl, hb.cell 13 rfl, hb.cell 14 rfl⟩
theorem szN_pos {C : Nat → List Nat} {fu : Nat} {L : List Nat} (h : DeepN C fu L) {c : Nat} (hc : c ∈ L) : 1 ≤ szN C fu c := by
 cases fu with
 | zero => rw [show L = [] from h] at hc; cases hc
 | succ fu => unfold szN; omega
theorem sum_two (g : Nat → Nat) : ∀ L : List Nat, (L.map (fun c => 2 * g c)).sum = 2 * (L.map g).sum
 | [] => rfl
 | x :: r => by simp only [List.map_cons, List.sum_cons, sum_two g r]; omega
theorem unt_in {d : Nod} {to : Int} (h : In64 (d.fr, d.til)) (ht : in64 to) : in64 (min d.til to) := by
 obtain ⟨_, h2⟩ := h
 unfold in64 at *
 simp only at h2
 omega
def BkR (base : Nat) (W : World) (A : Nat → Sp) (fin : Nat → Nod) (C : Nat → List Nat) (tb : Nat) (D : List Nat) (p : Nat → Pl) (B : Nat → Nat) (cv : Nat → Value) (cb : Nat → Nat) (r sv : Value) (vs : List Value) (L : List (Nat × Int × Int)) (fu s : Nat) (to t : Int) (wr : World) : Prop :=
 ∃ lv M, in64 t ∧ SwS base wr A fin C tb D p B cv cb r sv vs lv (L ++ M) ∧ (∀ N, PathR fin C s t N → PathR fin C s to (M ++ N)) ∧ M.length + potN fin (fun c => 2 * szN C fu c) t (C s) + 2 ≤ 2 * szN C (fu + 1) s ∧ Upd (fun k => k = tb ∨ base ≤ k) W wr
set_option maxHeartbeats 8000000 in
theorem back_any (base : Nat) (A : Nat → Sp) (fin : Nat → Nod) (C : Nat → List Nat) (tb : Nat) (D : List Nat) (p : Nat → Pl) (B : Nat → Nat) (cv : Nat → Value) (cb : Nat → Nat) (r sv : Value) (vs : List Value) (E : BkE A fin C D) : ∀ (fuel : Nat) (W : World) (s : Nat) (to : Int) (lv : Value) (L : List (Nat × Int × Int)), DeepN C fuel [s] → s ∈ D → in64 to → SwS base W A fin C tb D p B cv cb r sv vs lv L → L.length + 2 * szN C fuel s ≤ 4000 →
  Calls Tryz.prog 76 #[.pointer (some ⟨tb, 0, none⟩), .pointer (some ⟨B s, 0, none⟩), .int .i64 to] W fun e W' => e = .returned (.tuple #[]) ∧ ∃ lv' M, SwS base W' A fin C tb D p B cv cb r sv vs lv' (L ++ M) ∧ PathR fin C s to M ∧ M.length + 1 ≤ 2 * szN C fuel s ∧ Upd (fun k => k = tb ∨ base ≤ k) W W' := by
 intro fuel
 induction fuel with
 | zero =>
  intro W s to lv L hD
  exact absurd (show [s] = [] from hD) (by simp)
 | succ fu ih =>
  intro W s to lv L hD hs hto hS hlen
  have hDk : DeepN C fu (C s) := hD s (by simp)
  have HST : Hid (BkR base W A fin C tb D p B cv cb r sv vs L fu s to to W) := by
   refine ⟨lv, [], hto, by rw [List.append_nil]; exact hS, fun N hN => hN, ?_, Upd.refl _ _⟩
   have h1 := potN_le fin (fun c => 2 * szN C fu c) to (C s)
   rw [sum_two] at h1
   have h2 : szN C (fu + 1) s = 1 + ((C s).map (szN C fu)).sum := rfl
   simp only [List.length_nil]
   omega
  have HE : Hid (BkE A fin C D) := E
  have HIH : Hid (∀ (W : World) (s : Nat) (to : Int) (lv : Value) (L : List (Nat × Int × Int)), DeepN C fu [s] → s ∈ D → in64 to → SwS base W A fin C tb D p B cv cb r sv vs lv L → L.length + 2 * szN C fu s ≤ 4000 →
   Calls Tryz.prog 76 #[.pointer (some ⟨tb, 0, none⟩), .pointer (some ⟨B s, 0, none⟩), .int .i64 to] W fun e W' => e = .returned (.tuple #[]) ∧ ∃ lv' M, SwS base W' A fin C tb D p B cv cb r sv vs lv' (L ++ M) ∧ PathR fin C s to M ∧ M.length + 1 ≤ 2 * szN C fu s ∧ Upd (fun k => k = tb ∨ base ≤ k) W W') := ih
  have HM : Hid (s ∈ D ∧ DeepN C fu (C s) ∧ L.length + 2 * szN C (fu + 1) s ≤ 4000) := ⟨hs, hDk, hlen⟩
  clear ih hD hs hto hS hlen hDk E
  go_enter Tryz.func76, Tryz.ntmps76
  go_wp2
  go_loopw [2] (fun y wr => ∃ t : Int, y = .int .i64 t ∧ BkR base W A fin C tb D p B cv cb r sv vs L fu s to t wr) (fun y _ => potN fin (fun c => 2 * szN C fu c) (intOf y) (C s))
  case atStart => exact ⟨to, rfl, HST.out⟩
  case round =>
   obtain ⟨t, rfl, lv1, M, ht, hS, hP, hl, hU⟩ := hrel
   obtain ⟨hs, hDk, hlen⟩ := HM.out
   have bs := hS.blk s hs
   have c13 : wr.cell? ⟨B s, 13, none⟩ = some (.int .i64 (fin s).fr) := bs.cell 13 rfl
   have HS : Hid (SwS base wr A fin C tb D p B cv cb r sv vs lv1 (L ++ M)) := hS
   have HP : Hid ((∀ N, PathR fin C s t N → PathR fin C s to (M ++ N)) ∧ M.length + potN fin (fun c => 2 * szN C fu c) t (C s) + 2 ≤ 2 * szN C (fu + 1) s ∧ Upd (fun k => k = tb ∨ base ≤ k) W wr ∧ in64 t) := ⟨hP, hl, hU, ht⟩
   by_cases hgt : (fin s).fr < t
   ·have AW := awaited_any (B s) (cb s) (cv s) (C s) B fin t wr (AwR.of hS HE.out hs)
    cases hA : awaitM fin t (C s) with
    | none =>
     rw [hA] at AW
     have HG := fun m => hangW_any base A fin C tb D p B cv cb r sv vs lv1 (L ++ M) s hs (fin s).fr t ⟨(HE.out.rg s hs).1, ht⟩ (by rw [List.length_append]; omega) (wr.drewN m) (hS.below (below_drewN (Below.refl _ _) m))
     have HFIN : Hid (∀ m W', Upd (fun k => k = tb ∨ base ≤ k) (wr.drewN m) W' → (∃ lv', SwS base W' A fin C tb D p B cv cb r sv vs lv' (L ++ M ++ hangM s (fin s).fr t)) → ∃ lv' M', SwS base W' A fin C tb D p B cv cb r sv vs lv' (L ++ M') ∧ PathR fin C s to M' ∧ M'.length + 1 ≤ 2 * szN C (fu + 1) s ∧ Upd (fun k => k = tb ∨ base ≤ k) W W') := fun m W' hu hex => by
      obtain ⟨lv', h'⟩ := hex
      have e : hangM s (fin s).fr t = [(s, (fin s).fr, t)] := by unfold hangM; rw [if_pos hgt]
      rw [e, List.append_assoc] at h'
      refine ⟨lv', _, h', hP _ (PathR.own hgt hA), ?_, (hU.drewN m).trans hu (fun _ _ h => h)⟩
      rw [List.length_append]
      simp only [List.length_cons, List.length_nil]
      omega
     simp only [ptrO] at AW
     clear hS hP hl hU ht hA bs HP hlen hDk HIH
     go_wp2_with (first
      | (go_at_call 108; refine AW.mono ?_; clear AW; rintro e w1 ⟨rfl, m, rfl⟩)
      | (go_at_call 109; refine (HG m).mono ?_; clear HG; rintro e w2 ⟨rfl, lv2, hS2, hU2⟩; have HR := HFIN.out m w2 hU2 ⟨lv2, hS2⟩; clear HFIN hS2 hU2))
     (try simp only [Exit.inBlock, Exit.then])
     refine bodyPost_ret (results_none rfl _ _ _) rfl ?_
     exact ⟨rfl, HR⟩
    | some c =>
     rw [hA] at AW
     obtain ⟨a1, a2, _⟩ := awaitM_some hA
     have hc := hS.cl s hs c a1
     have bc := hS.blk c hc
     have c14 : wr.cell? ⟨B c, 13 + 1, none⟩ = some (.int .i64 (fin c).til) := bc.cell 14 rfl
     have UN := fun m => until_any (B c) (fin c).til t (wr.drewN m) c14
     have hun : in64 (min (fin c).til t) := unt_in (HE.out.rg c hc) ht
     have hz1 := szN_pos hDk a1
     have hpl := potN_less fin (fun c => 2 * szN C fu c) t c a2 (C s) a1
     have hpl : potN fin (fun c => 2 * szN C fu c) (fin c).fr (C s) + 2 * szN C fu c ≤ potN fin (fun c => 2 * szN C fu c) t (C s) := hpl
     have hge : (hangM s (min (fin c).til t) t).length ≤ 1 := by
      unfold hangM
      by_cases e : min (fin c).til t < t
      ·rw [if_pos e]; simp
      ·rw [if_neg e]; simp
     have HG := fun m => hangW_any base A fin C tb D p B cv cb r sv vs lv1 (L ++ M) s hs (min (fin c).til t) t ⟨hun, ht⟩ (by rw [List.length_append]; omega) (wr.drewN m) (hS.below (below_drewN (Below.refl _ _) m))
     have HBK : Hid (∀ m w2 lv2, Upd (fun k => k = tb ∨ base ≤ k) (wr.drewN m) w2 → SwS base w2 A fin C tb D p B cv cb r sv vs lv2 (L ++ M ++ hangM s (min (fin c).til t) t) → Calls Tryz.prog 76 #[.pointer (some ⟨tb, 0, none⟩), .pointer (some ⟨B c, 0, none⟩), .int .i64 (min (fin c).til t)] w2 fun e W' => e = .returned (.tuple #[]) ∧ W'.cell? ⟨B c, 13, none⟩ = some (.int .i64 (fin c).fr) ∧ BkR base W A fin C tb D p B cv cb r sv vs L fu s to (fin c).fr W') := fun m w2 lv2 hu2 hS2 => by
      refine (HIH.out w2 c (min (fin c).til t) lv2 _ (hDk.one a1) hc hun hS2 ?_).mono ?_
      ·simp only [List.length_append]
       omega
      ·rintro e W' ⟨rfl, lv3, N, h1, h2, h3, h4⟩
       refine ⟨rfl, (h1.blk c hc).cell 13 rfl, lv3, M ++ hangM s (min (fin c).til t) t ++ N, (HE.out.rg c hc).1, ?_, fun N' hN' => ?_, ?_, ((hU.drewN m).trans hu2 (fun _ _ h => h)).trans h4 (fun _ _ h => h)⟩
       ·rw [← List.append_assoc, ← List.append_assoc]
        exact h1
       ·have := hP _ (PathR.via hgt hA h2 hN')
        simp only [List.append_assoc] at this ⊢
        exact this
       ·simp only [List.length_append]
        omega
     have HME : Hid (potN fin (fun c => 2 * szN C fu c) (fin c).fr (C s) < potN fin (fun c => 2 * szN C fu c) t (C s)) := by
      have h : potN fin (fun c => 2 * szN C fu c) (fin c).fr (C s) < potN fin (fun c => 2 * szN C fu c) t (C s) := by omega
      exact h
     simp only [ptrO] at AW
     clear hS hP hl hU ht hA bs HP hlen hDk HIH c14 bc hz1 hpl hge hun
     obtain ⟨mn, hmn⟩ : ∃ mn, min (fin c).til t = mn := ⟨_, rfl⟩
     rw [hmn] at UN HG HBK
     clear hmn
     go_wp2_with (first
      | (go_at_call 108; refine AW.mono ?_; clear AW; rintro e w1 ⟨rfl, m, rfl⟩)
      | (go_at_call 110; refine (UN m).mono ?_; clear UN; rintro e w1 ⟨rfl, rfl⟩)
      | (go_at_call 109; refine (HG m).mono ?_; clear HG; rintro e w2 ⟨rfl, lv2, hS2, hU2⟩; have BK := HBK.out m w2 lv2 hU2 hS2; clear HBK hS2 hU2)
      | (go_at_call 76; refine BK.mono ?_; clear BK; rintro e w3 ⟨rfl, d13, hR⟩; have HR : Hid (BkR base W A fin C tb D p B cv cb r sv vs L fu s to (fin c).fr w3) := hR; clear hR))
     go_roundw
     case rel => exact ⟨_, rfl, HR.out⟩
     case measure => exact HME.out
   ·have HFIN : Hid (∃ lv' M', SwS base wr A fin C tb D p B cv cb r sv vs lv' (L ++ M') ∧ PathR fin C s to M' ∧ M'.length + 1 ≤ 2 * szN C (fu + 1) s ∧ Upd (fun k => k = tb ∨ base ≤ k) W wr) := ⟨lv1, M, hS, by have := hP [] (PathR.stop (by omega)); rwa [List.append_nil] at this, by omega, hU⟩
    clear hS hP hl hU ht bs HP hlen hDk HIH HS
    go_wp2
    go_end0
    exact ⟨rfl, HFIN.out⟩
end Go.Proofs.YtnffedmcblbkoaaGreatDoor
