/-
  Merged: QA, QD, QE, HH, GC, HJ.
-/
import Derived.Test.YtnffedmcblbkoaaGreatDoorPRq
import Derived.Test.YtnffedmcblbkoaaGreatDoorFKq
import Derived.Test.YtnffedmcblbkoaaGreatDoorSOq
import Derived.Test.YtnffedmcblbkoaaGreatDoorOZ
import Derived.Test.YtnffedmcblbkoaaGreatDoorGMq
import Derived.Test.YtnffedmcblbkoaaGreatDoorOXq
import Derived.RangeFuncNested
import Derived.RangeFuncBound
import Derived.RangeFuncCalls
import Derived.RangeFuncLeaves
import Derived.RangeFuncBox
import Derived.Shelf.Abstract
import Derived.Shelf.RegionOpen
import Derived.WalkKit
import Derived.OwnWalkIn
import Derived.TacticsInMore
import Derived.LoopNIn
import Derived.LoopIn
import Derived.Test.YtnffedmcblbkoaaGreatDoorZmq
import Derived.Stop.RegionWithIn
import Derived.Test.YtnffedmcblbkoaaGreatDoorGAq
import Derived.Test.YtnffedmcblbkoaaGreatDoorFSq
namespace Go.Proofs.YtnffedmcblbkoaaGreatDoor
open Go Go.RowKit
set_option maxRecDepth 100000
theorem ring_shift {nm : List Int} {n : Nat} {c : Int} {p : Nat} (h : Ring nm n c p) (j : Nat) : ∃ p', Ring nm n (upN nm j c) p' := by
 refine ring_least (j := p) h.pos ?_ (fun t _ => ?_)
 ·rw [← upN_add, Nat.add_comm, upN_add, h.back]
 ·rw [← upN_add]
  exact h.inn ⟨_, rfl⟩
theorem ring_home {nm : List Int} {n : Nat} {c : Int} {p : Nat} (h : Ring nm n c p) (t : Nat) : ∃ s, upN nm s (upN nm t c) = c := by
 obtain ⟨t', h1, h2⟩ := h.in_ t
 refine ⟨p - t', ?_⟩
 rw [h2, ← upN_add, show t' + (p - t') = p by omega]
 exact h.back
theorem CutsL.only {nm : List Int} {n : Nat} (hr : ∀ x ∈ nm, -1 ≤ x ∧ x < (n : Int)) (hn : nm.length = n) : ∀ (k : Nat) (C : List Int), k ≤ n → CutsL nm n k C → ∀ m ∈ C, ∃ (c : Int) (p : Nat), Ring nm n c p ∧ LeastR nm c m
 | 0, C, _, h => fun m hm => by
  have e : C = [] := h
  rw [e] at hm
  cases hm
 | k + 1, C, hk, h => fun m hm => by
  rcases h with ⟨⟨m1, m2⟩, C0, m', h1, h2, rfl⟩ | ⟨_, h1⟩
  ·rcases List.mem_append.1 hm with hm | hm
   ·exact CutsL.only hr hn k C0 (by omega) h1 m hm
   ·simp at hm
    subst hm
    have hb := frAt_back nm n hr hn k (by omega)
    obtain ⟨c, hc⟩ : ∃ c : Nat, cutEnd nm n k = c := ⟨(cutEnd nm n k).toNat, by omega⟩
    rw [hc] at m2 h2
    obtain ⟨p, hp⟩ := ring_of hr hn (by omega) hc (by simpa using m2)
    exact ⟨c, p, hp, h2⟩
  ·exact CutsL.only hr hn k C (by omega) h1 m hm
def LeastOwn (nm : List Int) (n : Nat) (i : Int) : Prop := (∃ p, Ring nm n i p) ∧ ∀ j, i ≤ upN nm j i
theorem cut_iff {nm : List Int} {n : Nat} (hr : ∀ x ∈ nm, -1 ≤ x ∧ x < (n : Int)) (hn : nm.length = n) {C : List Int} (hC : CutsL nm n n C) (i : Nat) : (∃ c ∈ C, c.toNat = i) ↔ LeastOwn nm n i := by
 constructor
 ·rintro ⟨m, hm, rfl⟩
  obtain ⟨c, p, hp, ⟨j, h1⟩, h2⟩ := hC.only hr hn n C (Nat.le_refl _) m hm
  have h0 := hp.inn ⟨j, h1⟩
  have e : ((m.toNat : Nat) : Int) = m := by omega
  rw [e]
  refine ⟨by rw [h1]; exact ring_shift hp j, fun j' => ?_⟩
  have := h2 (j + j')
  rwa [upN_add, ← h1] at this
 ·rintro ⟨⟨p, hp⟩, hl⟩
  obtain ⟨m, hm, t, h1⟩ := ring_cut hr hn hC hp
  obtain ⟨c, q, hq, ⟨j, h2⟩, h3⟩ := hC.only hr hn n C (Nat.le_refl _) m hm
  obtain ⟨s, h4⟩ := ring_home hp t
  refine ⟨m, hm, ?_⟩
  have g1 := hl t
  have g2 := h3 (j + s)
  rw [upN_add, ← h2, h1, h4] at g2
  omega
theorem cutX_org (C : List Int) : ∀ (X : List Spot) (i : Nat) (h : i < X.length) (h' : i < (cutX C X).length), (cutX C X)[i].nd.par = X[i].nd.par ∧ ((∃ c ∈ C, c.toNat = i) → (cutX C X)[i].nd.org = 3) ∧ ((¬ ∃ c ∈ C, c.toNat = i) → (cutX C X)[i].nd.org = X[i].nd.org) := by
 induction C with
 | nil =>
  intro X i h h'
  refine ⟨rfl, fun hh => ?_, fun _ => rfl⟩
  obtain ⟨c, hc, _⟩ := hh
  cases hc
 | cons c r ih =>
  intro X i h h'
  obtain ⟨i1, i2, i3⟩ := ih (X.modify c.toNat loopS) i (by simpa using h) h'
  rw [List.getElem_modify] at i1 i3
  refine ⟨?_, fun hh => ?_, fun hh => ?_⟩
  ·show (cutX r (X.modify c.toNat loopS))[i].nd.par = _
   rw [i1]
   split <;> rfl
  ·show (cutX r (X.modify c.toNat loopS))[i].nd.org = 3
   by_cases hr : ∃ c ∈ r, c.toNat = i
   ·exact i2 hr
   ·obtain ⟨d, hd, e⟩ := hh
    rcases List.mem_cons.1 hd with rfl | hd
    ·rw [i3 hr, if_pos e]
     rfl
    ·exact absurd ⟨d, hd, e⟩ hr
  ·show (cutX r (X.modify c.toNat loopS))[i].nd.org = _
   rw [i3 (fun ⟨d, hd, e⟩ => hh ⟨d, by simp [hd], e⟩), if_neg (fun e => hh ⟨c, by simp, e⟩)]
abbrev nmY (Y : List Sp) : List Int := nmOf (zs Y)
theorem nmY_len (Y : List Sp) : (nmY Y).length = Y.length := by simp [nmY, nmOf, zs_len]
theorem nmY_range (Y : List Sp) : ∀ x ∈ nmY Y, -1 ≤ x ∧ x < (Y.length : Int) := fun x hx => by
 unfold nmY nmOf at hx
 obtain ⟨s, _, rfl⟩ := List.mem_map.1 hx
 have := idx_range (zs Y) s.a.par
 rw [zs_len] at this
 exact this
theorem nmY_at (Y : List Sp) (i : Nat) (hi : i < Y.length) : (nmY Y).getD i 0 = idxI (zs Y) Y[i].par := by
 have : i < (nmY Y).length := by rw [nmY_len]; exact hi
 rw [List.getD_eq_getElem?_getD, List.getElem?_eq_getElem this]
 simp [nmY, nmOf, zs]
theorem rise_zs {Y : List Sp} (hr : Y.Pairwise (fun a b => a.id < b.id)) : RiseS (zs Y) := fun i j hi hj hij => by
 rw [zs_len] at hi hj
 simp only [zs, List.getElem_map]
 exact List.pairwise_iff_getElem.1 hr i j hi hj hij
theorem nmY_some {Y : List Sp} (hr : Y.Pairwise (fun a b => a.id < b.id)) {i j : Nat} (hi : i < Y.length) (hj : j < Y.length) : (nmY Y).getD i 0 = (j : Int) ↔ Y[j].id = Y[i].par := by
 rw [nmY_at Y i hi]
 obtain ⟨hz, _, z2⟩ := zs_get Y j hj
 constructor
 ·intro h
  by_cases hh : ∃ q, ∃ h : q < Y.length, Y[q].id = Y[i].par
  ·obtain ⟨q, hq, e⟩ := hh
   obtain ⟨hzq, _, q2⟩ := zs_get Y q hq
   have := idx_found (rise_zs hr) hzq (id := Y[i].par) (by rw [q2]; exact e)
   have : q = j := by omega
   subst this
   exact e
  ·have := idx_none (X := zs Y) (id := Y[i].par) (fun q hq e => hh ⟨q, by rw [zs_len] at hq; exact hq, by
    obtain ⟨_, _, q2⟩ := zs_get Y q (by rw [zs_len] at hq; exact hq)
    rw [← q2]; exact e⟩)
   omega
 ·intro e
  exact idx_found (rise_zs hr) hz (by rw [z2]; exact e)
theorem nmY_none {Y : List Sp} (hr : Y.Pairwise (fun a b => a.id < b.id)) {i : Nat} (hi : i < Y.length) : (nmY Y).getD i 0 = -1 ↔ ∀ j (hj : j < Y.length), Y[j].id ≠ Y[i].par := by
 constructor
 ·intro h j hj e
  have := (nmY_some hr hi hj).2 e
  omega
 ·intro h
  rw [nmY_at Y i hi]
  exact idx_none fun q hq e => by
   have hq' : q < Y.length := by rw [zs_len] at hq; exact hq
   obtain ⟨_, _, q2⟩ := zs_get Y q hq'
   exact h q hq' (by rw [← q2]; exact e)
theorem chk_id {a : Sp} (h : chkS a = 0) : a.id ≠ 0 := fun e => by
 unfold chkS at h
 rw [if_pos (by simp [e])] at h
 omega
structure OrgK (Y : List Sp) (d : Nod) (i : Nat) (hi : i < Y.length) : Prop where
 born : Y[i].par = 0 → d.org = 1
 orphan : Y[i].par ≠ 0 → (∀ j (hj : j < Y.length), Y[j].id ≠ Y[i].par) → d.org = 2
 looped : ∀ j (hj : j < Y.length), Y[j].id = Y[i].par → LeastOwn (nmY Y) Y.length i → d.org = 3
 inner : ∀ j (hj : j < Y.length), Y[j].id = Y[i].par → ¬ LeastOwn (nmY Y) Y.length i → d.org = 0
 par : (d.org = 0 → d.par = Y[i].par) ∧ (d.org ≠ 0 → d.par = 0)
theorem getD_eq {l : List Int} {i : Nat} (h : i < l.length) (a b : Int) : l.getD i a = l.getD i b := by simp [List.getD, h]
theorem FoB.org {Y : List Sp} {C : List Int} {dp : Nat → Nat} {fin : Nat → Nod} {X : List Spot} {K : Nat → List Int} {R : List Int} (h : FoB Y C dp fin X K R) (hr : Y.Pairwise (fun a b => a.id < b.id)) (hC : CutsL (nmOf (zs Y)) Y.length Y.length C) (i : Nat) (hi : i < Y.length) : OrgK Y (fin i) i hi := by
 have hcl : (cutX C (zs Y)).length = Y.length := by rw [cutX_len, zs_len]
 have hi' : i < (cutX C (zs Y)).length := by omega
 obtain ⟨hz, z1, z2⟩ := zs_get Y i hi
 obtain ⟨s1, _, s3⟩ := cutX_same C (zs Y) i hz hi'
 obtain ⟨o1, o2, o3⟩ := cutX_org C (zs Y) i hz hi'
 have zo : (zs Y)[i].nd.org = 0 := by simp [zs, ndOf]
 have zp : (zs Y)[i].nd.par = 0 := by simp [zs, ndOf]
 have hnl := nmY_len Y
 have ci := cut_iff (nmY_range Y) hnl hC i
 have hg := cutN_get C (nmY Y) i (by omega)
 have hcn : i < (cutN C (nmY Y)).length := by rw [cutN_len]; omega
 rw [getD_eq hcn 0 (-1)] at hg
 have idz : ∀ j (hj : j < Y.length), Y[j].id ≠ 0 := fun j hj => chk_id (h.one.chk _ (List.getElem_mem hj))
 by_cases hL : LeastOwn (nmY Y) Y.length i
 ·have hc := ci.2 hL
  rw [if_pos hc] at hg
  have e := (h.sh.rt i hi' hg).2
  have ho : (fin i).org = 3 := by rw [e]; unfold rootN; simp only; rw [if_pos (o2 hc)]
  have hp : (fin i).par = 0 := by rw [e]; unfold rootN; simp only; rw [o1, zp]
  obtain ⟨⟨p, hp'⟩, _⟩ := hL
  have h1 := hp'.inn ⟨1, rfl⟩
  have h2 : upN (nmY Y) 1 (i : Int) = (nmY Y).getD i 0 := rfl
  rw [h2] at h1
  have hj := (nmY_some hr hi (j := ((nmY Y).getD i 0).toNat) (by omega)).1 (by omega)
  refine ⟨fun hp0 => absurd (hj.trans hp0) (idz _ _), fun _ hn => absurd hj (hn _ _), fun _ _ _ _ => ho, fun _ _ _ hn => absurd ⟨⟨p, hp'⟩, by assumption⟩ hn, fun h0 => by omega, fun _ => hp⟩
 ·have hc : ¬ ∃ c ∈ C, c.toNat = i := fun hc => hL (ci.1 hc)
  rw [if_neg hc] at hg
  have oo := o3 hc
  rw [zo] at oo
  rcases nmC_range Y C i hi with hn | ⟨j, hj, hn⟩
  ·have hn' : (nmY Y).getD i 0 = -1 := hg.symm.trans hn
   have e := (h.sh.rt i hi' hn).2
   have hp : (fin i).par = 0 := by rw [e]; unfold rootN; simp only; rw [o1, zp]
   have no := (nmY_none hr hi).1 hn'
   have ho : (fin i).org = if Y[i].par = 0 then 1 else 2 := by
    rw [e]
    unfold rootN
    simp only
    rw [oo, if_neg (by omega), s1, z1]
   refine ⟨fun h0 => by rw [ho, if_pos h0], fun h0 _ => by rw [ho, if_neg h0], fun j hj e => absurd e (no j hj), fun j hj e => absurd e (no j hj), fun h0 => ?_, fun _ => hp⟩
   rw [ho] at h0
   split at h0 <;> omega
  ·have hn' : (nmY Y).getD i 0 = (j : Int) := hg.symm.trans hn
   have e := (h.sh.kd i j hi' (by omega) hn).2
   have hj' := (nmY_some hr hi hj).1 hn'
   have ho : (fin i).org = 0 := by rw [e]; unfold hangN; simp only; exact oo
   have hp : (fin i).par = Y[i].par := by
    rw [e]
    unfold hangN
    simp only
    rw [← hj', ← h.ids j hj]
    simp [spAt, List.getD, hj]
   exact ⟨fun h0 => absurd (hj'.trans h0) (idz j hj), fun _ hn => absurd hj' (hn j hj), fun _ _ _ hl => absurd hl hL, fun _ _ _ _ => ho, fun _ => hp, fun h0 => absurd ho h0⟩
theorem Ring.le {nm : List Int} {n : Nat} {c : Int} {p : Nat} (h : Ring nm n c p) : p ≤ n := by
 obtain ⟨d, hd⟩ := dist_exists nm n c p h
 have hnd : ((List.range p).map (fun k => (upN nm (k + 1) c).toNat)).Nodup := by
  rw [List.nodup_iff_pairwise_ne, List.pairwise_map]
  refine List.Pairwise.imp_of_mem ?_ List.pairwise_lt_range
  intro a b ha hb hab e
  have ha' := List.mem_range.1 ha
  have hb' := List.mem_range.1 hb
  have h1 := h.inn (q := upN nm (a + 1) c) ⟨_, rfl⟩
  have h2 := h.inn (q := upN nm (b + 1) c) ⟨_, rfl⟩
  have e' : upN nm (a + 1) c = upN nm (b + 1) c := by omega
  have d1 := hd (a + 1) (by omega) (by omega)
  have d2 := hd (b + 1) (by omega) (by omega)
  rw [e', d2] at d1
  omega
 have := sub_len _ (List.range n) hnd (fun x hx => by
  obtain ⟨k, _, rfl⟩ := List.mem_map.1 hx
  have := h.inn (q := upN nm (k + 1) c) ⟨_, rfl⟩
  exact List.mem_range.2 (by omega))
 simpa using this
def OnWay (U : List Int) (n k t : Nat) : Prop := ∀ j, 0 < j → j < t → 0 ≤ upN U j k ∧ upN U j k < n ∧ upN U j k ≠ k
theorem one_permR {X Y : List Sp} (h : OneT X) (hp : X.Perm Y) : OneT Y :=
 ⟨by rw [← hp.length_eq]; exact h.len, fun a ha => h.chk a (hp.mem_iff.2 ha), fun a ha => h.fits a (hp.mem_iff.2 ha), fun a ha => h.small a (hp.mem_iff.2 ha), fun a ha b hb => h.tr a (hp.mem_iff.2 ha) b (hp.mem_iff.2 hb), (hp.map _).nodup_iff.1 h.ids⟩
theorem cutX_depX (C : List Int) : ∀ (X : List Spot) (i : Nat) (h : i < X.length) (h' : i < (cutX C X).length), (cutX C X)[i].nd.dep = X[i].nd.dep := by
 induction C with
 | nil => exact fun _ _ _ _ => rfl
 | cons c r ih =>
  intro X i h h'
  have := ih (X.modify c.toNat loopS) i (by simpa using h) h'
  rw [List.getElem_modify] at this
  show (cutX r (X.modify c.toNat loopS))[i].nd.dep = _
  rw [this]
  split <;> rfl
section
variable {Y : List Sp} {C : List Int} {dp : Nat → Nat} {fin : Nat → Nod} {X : List Spot} {K : Nat → List Int} {R : List Int}
theorem FoB.two (h : FoB Y C dp fin X K R) (i : Nat) (hi : i < Y.length) : ((cutN C (nmOf (zs Y))).getD i (-1) = -1 ∧ dp i = 0 ∧ (fin i).dep = 0 ∧ (fin i).fr = Y[i].start ∧ (fin i).til = Y[i].fin ∧ (fin i).tree = (fin i).id ∧ (fin i).par = 0) ∨ ∃ j, j < Y.length ∧ (cutN C (nmOf (zs Y))).getD i (-1) = (j : Int) ∧ dp i = dp j + 1 ∧ (fin i).dep = (fin j).dep + 1 ∧ ((fin i).fr, (fin i).til) = clipI (Y[i].start, Y[i].fin) ((fin j).fr, (fin j).til) ∧ (fin i).tree = (fin j).tree ∧ (fin i).par = (fin j).id := by
 have hcl : (cutX C (zs Y)).length = Y.length := by rw [cutX_len, zs_len]
 have hi' : i < (cutX C (zs Y)).length := by omega
 obtain ⟨hz, z1, z2⟩ := zs_get Y i hi
 obtain ⟨s1, _, s3⟩ := cutX_same C (zs Y) i hz hi'
 have o1 := (cutX_org C (zs Y) i hz hi').1
 have d1 := cutX_depX C (zs Y) i hz hi'
 have zd : (zs Y)[i].nd.dep = 0 := by simp [zs, ndOf]
 have zp : (zs Y)[i].nd.par = 0 := by simp [zs, ndOf]
 rcases nmC_range Y C i hi with hn | ⟨j, hj, hn⟩
 ·obtain ⟨e0, e⟩ := h.sh.rt i hi' hn
  refine Or.inl ⟨hn, e0, ?_⟩
  rw [e]
  unfold rootN
  simp only
  rw [s1, z1, d1, zd, o1, zp]
  refine ⟨?_, ?_, ?_, ?_, ?_⟩ <;> first | rfl | trivial
 ·obtain ⟨e0, e⟩ := h.sh.kd i j hi' (by omega) hn
  refine Or.inr ⟨j, hj, hn, e0, ?_⟩
  rw [e]
  unfold hangN
  simp only
  rw [s1, z1]
  refine ⟨?_, ?_, ?_, ?_⟩ <;> first | rfl | trivial
abbrev rtN (R : List Int) : List Nat := R.map Int.toNat
theorem FoB.rts (h : FoB Y C dp fin X K R) : (∀ z ∈ R, 0 ≤ z ∧ z < Y.length) ∧ (∀ x, x ∈ rtN R ↔ x < Y.length ∧ (cutN C (nmOf (zs Y))).getD x (-1) = -1) ∧ (rtN R).Nodup := by
 have hm : ∀ z ∈ R, ∃ q : Nat, z = (q : Int) ∧ q < Y.length ∧ (cutN C (nmOf (zs Y))).getD q (-1) = -1 := fun z hz => by
  obtain ⟨q, e, h1, h2⟩ := kidsF_iff.1 (h.fo.roots.1.mem_iff.2 hz)
  exact ⟨q, e, h1, h2⟩
 refine ⟨fun z hz => ?_, fun x => ⟨fun hx => ?_, fun hx => ?_⟩, ?_⟩
 ·obtain ⟨q, rfl, h1, _⟩ := hm z hz
  omega
 ·obtain ⟨z, hz, rfl⟩ := List.mem_map.1 hx
  obtain ⟨q, rfl, h1, h2⟩ := hm z hz
  exact ⟨by simpa using h1, by simpa using h2⟩
 ·exact List.mem_map.2 ⟨(x : Int), h.fo.roots.1.mem_iff.1 (kidsF_iff.2 ⟨x, rfl, hx.1, hx.2⟩), by simp⟩
 ·have h1 : R.Nodup := h.fo.roots.1.nodup_iff.1 (kidsF_nodup _ _ _)
  refine List.pairwise_map.2 (List.Pairwise.imp_of_mem ?_ h1)
  intro a b ha hb hab e
  obtain ⟨q, rfl, _⟩ := hm a ha
  obtain ⟨q', rfl, _⟩ := hm b hb
  omega
abbrev allN (K : Nat → List Int) (R : List Int) : List Nat := preN (knK K) 1001 (rtN R)
theorem FoB.all (h : FoB Y C dp fin X K R) : DeepN (knK K) 1001 (rtN R) ∧ (allN K R).Nodup ∧ (∀ x, x ∈ allN K R ↔ x < Y.length) ∧ (allN K R).length = Y.length := by
 have T := h.tree
 obtain ⟨_, r2, r3⟩ := h.rts
 have rd : ∀ x ∈ rtN R, x < Y.length ∧ dp x = 0 := fun x hx => by
  obtain ⟨h1, h2⟩ := (r2 x).1 hx
  rcases h.two x h1 with ⟨_, e, _⟩ | ⟨j, hj, e, _⟩
  ·exact ⟨h1, e⟩
  ·omega
 have hD := T.deep 1001 (rtN R) (fun x hx => ⟨(rd x hx).1, by omega⟩)
 have hN := T.nodup 1001 0 (rtN R) rd r3
 have hm : ∀ (d x : Nat), dp x = d → x < Y.length → x ∈ allN K R := by
  intro d
  induction d using Nat.strongRecOn with
  | ind d ih =>
   intro x hd hx
   rcases h.two x hx with ⟨e, _⟩ | ⟨j, hj, e, e1, _⟩
   ·exact preN_mem _ _ _ hD x ((r2 x).2 ⟨hx, e⟩)
   ·exact preN_down _ _ _ hD j (ih (dp j) (by omega) j rfl hj) x ((h.mem j hj x).2 ⟨hx, e⟩)
 have hi : ∀ x, x ∈ allN K R ↔ x < Y.length := fun x => ⟨fun hx => (T.above 1001 (rtN R) (fun y hy => (rd y hy).1) x hx).1, fun hx => hm (dp x) x rfl hx⟩
 refine ⟨hD, hN, hi, ?_⟩
 have l1 : (allN K R).length ≤ (List.range Y.length).length := sub_len _ (List.range Y.length) hN (fun x hx => List.mem_range.2 ((hi x).1 hx))
 have l2 : (List.range Y.length).length ≤ (allN K R).length := sub_len (List.range Y.length) (allN K R) List.nodup_range (fun x hx => (hi x).2 (List.mem_range.1 hx))
 simp only [List.length_range] at l1 l2
 omega
end
set_option maxHeartbeats 4000000 in
theorem ids_any (f sb : Nat) (X : List Spot) (K : Nat → List Int) (rv : Value) (R : List Int) (w : World) (h : ForestAt w f sb X K rv R) :
  Calls Tryz.prog 14 #[.pointer (some ⟨f, 0, none⟩)] w fun e w' => ∃ r, e = .returned (.slice (some ⟨r, 0, none⟩) X.length X.length) ∧ Blk w' r (fillC .u64 (X.map (fun x => x.nd.id)) 0) 33 ∧ w.heap.size ≤ r ∧ Below w.heap.size w w' := by
 have hl := h.small
 have hf : w.cell? ⟨f, 0, none⟩ = some (.slice (some ⟨sb, 0, none⟩) X.length X.length) := h.head.cell 0 rfl
 have HF : Hid (w.cell? ⟨f, 0, none⟩ = some (.slice (some ⟨sb, 0, none⟩) X.length X.length)) := hf
 have HB : Hid (Blk w sb (rowS X) 104) := h.row
 have hflt : Hid (f < w.heap.size) := World.block_lt_of_cell? w _ hf
 obtain ⟨n, hn⟩ : ∃ n, X.length = n := ⟨_, rfl⟩
 have HN : Hid (X.length = n) := hn
 rw [hn] at hl hf ⊢
 clear h hn
 go_enter Tryz.func14, Tryz.ntmps14
 go_wp2_with (at_make; refine wpList_mk rfl _ _ 30 rfl 33 (.int .u64 0) 1 8 Tryz.underlying30 infoID n rfl rfl (by omega) (by unfold maxLen; omega) ?_; intro w1 b1 hb1; have f1 : w1.cell? ⟨f, 0, none⟩ = some (.slice (some ⟨sb, 0, none⟩) n n) := (hb1.cell (p := ⟨f, 0, none⟩) hflt.out).trans hf)
 have B0 : Hid (Blk w1 w.heap.size (fillC .u64 [] n) 33) := by
  rw [fill_start, ← made_one]; exact b1
 have HB1 : Hid (Below w.heap.size w w1) := hb1
 obtain ⟨r, hrr⟩ : ∃ r, w.heap.size = r := ⟨_, rfl⟩
 have HRR : Hid (w.heap.size = r) := hrr
 rw [hrr] at B0 ⊢
 clear b1 hb1 hrr f1 hf
 go_loopw [17] (fun x wr => ∃ k : Nat, x = .int .i64 k ∧ k ≤ n ∧ Blk wr r (fillC .u64 ((X.take k).map (fun x => x.nd.id)) (n - k)) 33 ∧ Below w.heap.size w wr) (fun x _ => n - (intOf x).toNat)
 case atStart => exact ⟨0, rfl, by omega, by simpa using B0.out, HB1.out⟩
 case round =>
  obtain ⟨k, rfl, hkn, hblk, hb⟩ := hrel
  have HBB : Hid (Below w.heap.size w wr) := hb
  have HBK : Hid (Blk wr r (fillC .u64 ((X.take k).map (fun x => x.nd.id)) (n - k)) 33) := hblk
  clear hb hblk
  by_cases hlt : k < n
  ·have hkX : k < X.length := by rw [HN.out]; exact hlt
   have f1 : wr.cell? ⟨f, 0, none⟩ = some (.slice (some ⟨sb, 0, none⟩) n n) := (HBB.out.cell (p := ⟨f, 0, none⟩) hflt.out).trans (by rw [← HN.out]; exact HF.out)
   have LD : Hid (wr.rangeAt sb (k * 21) (enS X[k])) := Blk.range (Blk.below HB.out HBB.out (Blk.lt HB.out)) k hkX
   have hT : Hid ((X.take (k + 1)).map (fun x => x.nd.id) = (X.take k).map (fun x => x.nd.id) ++ [X[k].nd.id]) := by rw [List.take_succ_eq_append_getElem hkX, List.map_append]; rfl
   obtain ⟨x, hx⟩ : ∃ x, X[k]'hkX = x := ⟨_, rfl⟩
   rw [hx] at LD hT
   have hkr : Hid (∀ W, Upd (fun j => j = wr.heap.size) (wr.alloc (.cells zSpotL.toArray 104)) W → Below w.heap.size w W ∧ Blk W r (fillC .u64 ((X.take k).map (fun x => x.nd.id)) (n - k)) 33) := fun W hu => by
    have hs := HBB.out.size
    have hb : Below w.heap.size w W := (HBB.out.alloc hs _).trans (hu.below (by simp; omega) (fun j hj e => by omega))
    refine ⟨hb, ?_⟩
    have h0 : Blk (wr.alloc (.cells zSpotL.toArray 104)) r (fillC .u64 ((X.take k).map (fun x => x.nd.id)) (n - k)) 33 := Blk.alloc HBK.out _
    exact Blk.upd h0 hu (fun e => by have := Blk.lt HBK.out; omega)
   have hlen : ((X.take k).map (fun x => x.nd.id)).length = k := by simp; omega
   have hnk : n - k = (n - (k + 1)) + 1 := by omega
   have GET0 : Hid (∀ W, Blk W r (fillC .u64 ((X.take k).map (fun x => x.nd.id)) (n - k)) 33 → W.cell? ⟨r, k, none⟩ = some (.int .u64 0) ∧ Blk (W.setCell ⟨r, k, none⟩ (.int .u64 x.nd.id)) r (fillC .u64 ((X.take (k + 1)).map (fun x => x.nd.id)) (n - (k + 1))) 33) := fun W hW => by
    refine ⟨Blk.cell hW k (by rw [hnk]; have := fill_get .u64 ((X.take k).map (fun x => x.nd.id)) (n - (k + 1)); rwa [hlen] at this), ?_⟩
    have := Blk.set hW k (.int .u64 x.nd.id)
    rw [hnk] at this
    have e := fill_set .u64 ((X.take k).map (fun x => x.nd.id)) (n - (k + 1)) x.nd.id
    rw [hlen] at e
    rw [e, ← hT.out] at this
    exact this
   clear hx hlen hnk
   go_wp2_with (first
    | (refine wpList_spot rfl _ rfl sb _ x LD.out rfl ?_)
    | (refine wpList_stW rfl 104 _ _ rfl wr.heap.size zSpotL (enS x) 104 (Blk.new _ _ _) rfl rfl rfl (by kernel_rfl) (enS_one _) ?_; intro w2 n2 u2; obtain ⟨hb2, hr2⟩ := hkr.out w2 u2; have e3 : w2.cell? ⟨wr.heap.size, 13, none⟩ = some (.int .u64 x.nd.id) := Blk.cell n2 13 rfl; obtain ⟨d1, hr3⟩ := GET0.out w2 hr2; have d2 := Blk.frozen hr2 k; have HR3 : Hid (Blk (w2.setCell ⟨r, k, none⟩ (.int .u64 x.nd.id)) r (fillC .u64 ((X.take (k + 1)).map (fun x => x.nd.id)) (n - (k + 1))) 33) := hr3; have HB3 : Hid (Below w.heap.size w (w2.setCell ⟨r, k, none⟩ (.int .u64 x.nd.id))) := Below.setCell hb2 (by have := HRR.out; simp; omega) _; clear n2 u2 hb2 hr2 hr3))
   go_roundw
   case rel => exact ⟨k + 1, by simp, by omega, HR3.out, HB3.out⟩
   case measure => simp [intOf]; omega
  ·obtain rfl : k = n := by omega
   go_wp2
   go_ret
   refine ⟨r, rfl, ?_, by have := HRR.out; omega, HBB.out⟩
   have := HBK.out
   rw [List.take_of_length_le (by rw [HN.out]; exact Nat.le_refl _), Nat.sub_self] at this
   exact this
section
variable {Y : List Sp} {C : List Int} {dp : Nat → Nat} {fin : Nat → Nod} {X : List Spot} {K : Nat → List Int} {R : List Int}
theorem FoB.nd (h : FoB Y C dp fin X K R) (i : Nat) (hi : i < X.length) : X[i].nd = fin i := (h.fo.each i (by rw [← h.fo.len]; exact hi) hi).2
theorem FoB.idInjR (h : FoB Y C dp fin X K R) {i j : Nat} (hi : i < Y.length) (hj : j < Y.length) (e : (fin i).id = (fin j).id) : i = j := by
 have hl := h.fo.len
 refine rise_same h.rise (by omega) (by omega) ?_
 rw [h.nd i (by omega), h.nd j (by omega)]
 exact e
theorem FoB.orgZ (h : FoB Y C dp fin X K R) (i : Nat) (hi : i < Y.length) : (dp i = 0 → (fin i).org ≠ 0) ∧ (0 < dp i → (fin i).org = 0) := by
 have hcl : (cutX C (zs Y)).length = Y.length := by rw [cutX_len, zs_len]
 have hi' : i < (cutX C (zs Y)).length := by omega
 obtain ⟨hz, z1, z2⟩ := zs_get Y i hi
 obtain ⟨o1, o2, o3⟩ := cutX_org C (zs Y) i hz hi'
 have zo : (zs Y)[i].nd.org = 0 := by simp [zs, ndOf]
 rcases nmC_range Y C i hi with hn | ⟨j, hj, hn⟩
 ·obtain ⟨e0, e⟩ := h.sh.rt i hi' hn
  refine ⟨fun _ => ?_, fun h0 => by omega⟩
  rw [e]
  unfold rootN
  simp only
  split
  ·omega
  ·split <;> omega
 ·obtain ⟨e0, e⟩ := h.sh.kd i j hi' (by omega) hn
  refine ⟨fun h0 => by omega, fun _ => ?_⟩
  rw [e]
  unfold hangN
  simp only
  rw [o3, zo]
  rintro ⟨c, hc, hci⟩
  have hg := cutN_get C (nmY Y) i (by rw [nmY_len]; exact hi)
  have hcn : i < (cutN C (nmY Y)).length := by rw [cutN_len, nmY_len]; exact hi
  rw [getD_eq hcn 0 (-1), if_pos ⟨c, hc, hci⟩] at hg
  have : (cutN C (nmY Y)).getD i (-1) = (j : Int) := hn
  omega
theorem FoB.rlen (h : FoB Y C dp fin X K R) : (rtN R).length ≤ 1000 := by
 have h1 := sub_len _ (List.range Y.length) h.rts.2.2 (fun c hc => List.mem_range.2 ((h.rts.2.1 c).1 hc).1)
 have h2 := h.one.len
 simp only [List.length_range] at h1
 omega
end
end Go.Proofs.YtnffedmcblbkoaaGreatDoor
