/-
  Merged: FJ, FO, FL, FN.
-/
import Derived.Test.YtnffedmcblbkoaaGreatDoorFQq
namespace Go.Proofs.YtnffedmcblbkoaaGreatDoor
open Go Go.RowKit
set_option maxRecDepth 100000
def ancN (nm : List Int) : Nat → Nat → Int
 | 0, i => (i : Int)
 | k + 1, i => if nm.getD i (-1) = -1 then -1 else ancN nm k (nm.getD i (-1)).toNat
def Desc (nm : List Int) (x i : Nat) : Prop := ∃ k, ancN nm k i = (x : Int)
theorem nm_get {X0 : List Spot} {nm : List Int} (hr : ∀ i, i < X0.length → nm.getD i (-1) ≠ -1 → 0 ≤ nm.getD i (-1) ∧ nm.getD i (-1) < X0.length) {i : Nat} (hi : i < X0.length) (hn : nm.getD i (-1) ≠ -1) : ∃ j : Nat, nm.getD i (-1) = (j : Int) ∧ j < X0.length ∧ (nm.getD i (-1)).toNat = j := by
 have := hr i hi hn
 exact ⟨(nm.getD i (-1)).toNat, by omega, by omega, rfl⟩
theorem anc_dp {X0 : List Spot} {nm : List Int} {dp : Nat → Nat} {fin : Nat → Nod} (sh : Shape X0 nm dp fin) (hr : ∀ i, i < X0.length → nm.getD i (-1) ≠ -1 → 0 ≤ nm.getD i (-1) ∧ nm.getD i (-1) < X0.length) : ∀ (k i x : Nat), i < X0.length → ancN nm k i = (x : Int) → x < X0.length ∧ dp i = dp x + k
 | 0, i, x, hi, h => by
  rw [ancN] at h
  obtain rfl : i = x := by omega
  exact ⟨hi, rfl⟩
 | k + 1, i, x, hi, h => by
  rw [ancN] at h
  by_cases hn : nm.getD i (-1) = -1
  ·rw [if_pos hn] at h; omega
  ·rw [if_neg hn] at h
   obtain ⟨j, h1, h2, h3⟩ := nm_get hr hi hn
   rw [h3] at h
   have ih := anc_dp sh hr k j x h2 h
   have := (sh.kd i j hi h2 h1).1
   exact ⟨ih.1, by omega⟩
theorem desc_same {X0 : List Spot} {nm : List Int} {dp : Nat → Nat} {fin : Nat → Nod} (sh : Shape X0 nm dp fin) (hr : ∀ i, i < X0.length → nm.getD i (-1) ≠ -1 → 0 ≤ nm.getD i (-1) ∧ nm.getD i (-1) < X0.length) {x i : Nat} (hi : i < X0.length) (h : Desc nm x i) (hd : dp i = dp x) : i = x := by
 obtain ⟨k, hk⟩ := h
 have := (anc_dp sh hr k i x hi hk).2
 obtain rfl : k = 0 := by omega
 rw [ancN] at hk
 omega
theorem desc_refl (nm : List Int) (x : Nat) : Desc nm x x := ⟨0, rfl⟩
theorem desc_up {nm : List Int} {x i j : Nat} (h : nm.getD i (-1) = (j : Int)) (hd : Desc nm x j) : Desc nm x i := by
 obtain ⟨k, hk⟩ := hd
 refine ⟨k + 1, ?_⟩
 rw [ancN, if_neg (by omega), h]
 simpa using hk
theorem desc_kid {X0 : List Spot} {nm : List Int} {dp : Nat → Nat} {fin : Nat → Nod} (sh : Shape X0 nm dp fin) (hr : ∀ i, i < X0.length → nm.getD i (-1) ≠ -1 → 0 ≤ nm.getD i (-1) ∧ nm.getD i (-1) < X0.length) {x : Nat} (hx : x < X0.length) : ∀ (k i : Nat), i < X0.length → ancN nm k i = (x : Int) → i ≠ x → ∃ c, c < X0.length ∧ nm.getD c (-1) = (x : Int) ∧ Desc nm c i
 | 0, i, hi, h, hne => by rw [ancN] at h; omega
 | k + 1, i, hi, h, hne => by
  rw [ancN] at h
  by_cases hn : nm.getD i (-1) = -1
  ·rw [if_pos hn] at h; omega
  ·rw [if_neg hn] at h
   obtain ⟨j, h1, h2, h3⟩ := nm_get hr hi hn
   rw [h3] at h
   by_cases e : j = x
   ·subst e
    exact ⟨i, hi, h1, desc_refl nm i⟩
   ·obtain ⟨c, hc1, hc2, hc3⟩ := desc_kid sh hr hx k j h2 h e
    exact ⟨c, hc1, hc2, desc_up h1 hc3⟩
theorem desc_root {X0 : List Spot} {nm : List Int} {dp : Nat → Nat} {fin : Nat → Nod} (sh : Shape X0 nm dp fin) (hr : ∀ i, i < X0.length → nm.getD i (-1) ≠ -1 → 0 ≤ nm.getD i (-1) ∧ nm.getD i (-1) < X0.length) : ∀ (d i : Nat), i < X0.length → dp i = d → ∃ r, r < X0.length ∧ nm.getD r (-1) = -1 ∧ Desc nm r i
 | 0, i, hi, h => by
  by_cases hn : nm.getD i (-1) = -1
  ·exact ⟨i, hi, hn, desc_refl nm i⟩
  ·obtain ⟨j, h1, h2, _⟩ := nm_get hr hi hn
   have := (sh.kd i j hi h2 h1).1
   omega
 | d + 1, i, hi, h => by
  by_cases hn : nm.getD i (-1) = -1
  ·exact ⟨i, hi, hn, desc_refl nm i⟩
  ·obtain ⟨j, h1, h2, _⟩ := nm_get hr hi hn
   have h3 := (sh.kd i j hi h2 h1).1
   obtain ⟨r, h4, h5, h6⟩ := desc_root sh hr d j h2 (by omega)
   exact ⟨r, h4, h5, desc_up h1 h6⟩
structure Box (f bf bv bd : Nat) (vis : Value) (w : World) : Prop where
 cf : w.cell? ⟨bf, 0, none⟩ = some (.pointer (some ⟨f, 0, none⟩))
 cv : w.cell? ⟨bv, 0, none⟩ = some vis
 cd : w.cell? ⟨bd, 0, none⟩ = some (.func (.func 138) #[] #[.pointer (some ⟨bf, 0, none⟩), .pointer (some ⟨bv, 0, none⟩), .pointer (some ⟨bd, 0, none⟩)])
theorem cell_upd {S : Nat → Prop} {w w' : World} (hu : Upd S w w') {b o : Nat} {v : Value} (h : w.cell? ⟨b, o, none⟩ = some v) (hS : ¬ S b) : w'.cell? ⟨b, o, none⟩ = some v := by
 have := hu.block b (World.block_lt_of_cell? w _ h) hS
 simp only [World.cell?, this] at h ⊢
 exact h
theorem Box.upd {S : Nat → Prop} {f bf bv bd : Nat} {vis : Value} {w w' : World} (h : Box f bf bv bd vis w) (hu : Upd S w w') (h1 : ¬ S bf) (h2 : ¬ S bv) (h3 : ¬ S bd) : Box f bf bv bd vis w' :=
 ⟨cell_upd hu h.cf h1, cell_upd hu h.cv h2, cell_upd hu h.cd h3⟩
structure Grow (base f sb bx bf bv bd N : Nat) (X0 : List Spot) (nm : List Int) (dp : Nat → Nat) (fin : Nat → Nod) (KV : Nat → Value) : Prop where
 sh : Shape X0 nm dp fin
 hr : ∀ i, i < X0.length → nm.getD i (-1) ≠ -1 → 0 ≤ nm.getD i (-1) ∧ nm.getD i (-1) < X0.length
 n : X0.length = N
 l : N ≤ 1000
 xx : ¬ GrW sb KV N bx
 xf : ¬ GrW sb KV N bf
 xv : ¬ GrW sb KV N bv
 xd : ¬ GrW sb KV N bd
def Hof (nm : List Int) (V : Nat → Prop) (i : Nat) : Prop := nm.getD i (-1) ≠ -1 ∧ V (nm.getD i (-1)).toNat
structure Dn (base f sb bx bf bv bd N : Nat) (X0 : List Spot) (nm : List Int) (fin : Nat → Nod) (KV : Nat → Value) (rv : Value) (R : List Int) (V : Nat → Prop) (w : World) (X : List Spot) (K : Nat → List Int) : Prop where
 g : GrS base f sb X0 nm fin KV rv R (Hof nm V) V w X K
 up : ∀ i, i < N → V i → nm.getD i (-1) ≠ -1 → V (nm.getD i (-1)).toNat
 box : Box f bf bv bd (.func (.func 91) #[] #[.pointer (some ⟨bx, 0, none⟩)]) w
 bx : w.cell? ⟨bx, 0, none⟩ = some (.pointer (some ⟨f, 0, none⟩))
structure Lev (N : Nat) (nm : List Int) (dp : Nat → Nat) (V : Nat → Prop) (lv : Nat) (L : List Int) : Prop where
 el : ∀ x ∈ L, ∃ i : Nat, x = i ∧ i < N ∧ dp i = lv ∧ ¬ V i ∧ (nm.getD i (-1) ≠ -1 → V (nm.getD i (-1)).toNat)
 nodup : L.Nodup
def Rd (base f sb : Nat) (X0 : List Spot) (nm : List Int) (fin : Nat → Nod) (KV : Nat → Value) (rv : Value) (R : List Int) (V : Nat → Prop) (K : Nat → List Int) (ad : Option Addr) (L : List Int) : Prop := ∀ (H1 V1 : Nat → Prop) W X1 K1, GrS base f sb X0 nm fin KV rv R H1 V1 W X1 K1 → (∀ i, i < X0.length → V i → K1 i = K i) → ∀ q (hq : q < L.length), ∃ g, ad = some ⟨g, 0, none⟩ ∧ W.cell? ⟨g, q, none⟩ = some (.int .i64 L[q])
def DnR (base f sb bx bf bv bd N : Nat) (X0 : List Spot) (nm : List Int) (fin : Nat → Nod) (KV : Nat → Value) (rv : Value) (R : List Int) (V : Nat → Prop) (K : Nat → List Int) (L : List Int) (w w' : World) : Prop := ∃ V' X' K', Dn base f sb bx bf bv bd N X0 nm fin KV rv R V' w' X' K' ∧ (∀ i, i < N → (V' i ↔ V i ∨ ∃ x ∈ L, Desc nm x.toNat i)) ∧ (∀ i, i < N → V i → K' i = K i) ∧ Upd (GrW sb KV N) w w'
theorem Dn.upd {base f sb bx bf bv bd N : Nat} {X0 : List Spot} {nm : List Int} {dp : Nat → Nat} {fin : Nat → Nod} {KV : Nat → Value} {rv : Value} {R : List Int} {V V' : Nat → Prop} {w w' : World} {X X' : List Spot} {K K' : Nat → List Int} (G : Grow base f sb bx bf bv bd N X0 nm dp fin KV) (h : Dn base f sb bx bf bv bd N X0 nm fin KV rv R V w X K) (hg : GrS base f sb X0 nm fin KV rv R (Hof nm V') V' w' X' K') (hup : ∀ i, i < N → V' i → nm.getD i (-1) ≠ -1 → V' (nm.getD i (-1)).toNat) (hu : Upd (GrW sb KV N) w w') : Dn base f sb bx bf bv bd N X0 nm fin KV rv R V' w' X' K' :=
 ⟨hg, hup, h.box.upd hu G.xf G.xv G.xd, cell_upd hu h.bx G.xx⟩
theorem visit_dn {base f sb bx bf bv bd N : Nat} {X0 : List Spot} {nm : List Int} {dp : Nat → Nat} {fin : Nat → Nod} {KV : Nat → Value} {rv : Value} {R : List Int} {V : Nat → Prop} {w : World} {X : List Spot} {K : Nat → List Int} (G : Grow base f sb bx bf bv bd N X0 nm dp fin KV) (h : Dn base f sb bx bf bv bd N X0 nm fin KV rv R V w X K) {x : Nat} (hx : x < N) (hV : ¬ V x) (hp : nm.getD x (-1) ≠ -1 → V (nm.getD x (-1)).toNat) :
  Calls Tryz.prog 91 #[.pointer (some ⟨sb, x * 21, none⟩), .pointer (some ⟨bx, 0, none⟩)] w fun e w' => e = .returned (.bool true) ∧ ∃ X' K', Dn base f sb bx bf bv bd N X0 nm fin KV rv R (fun i => V i ∨ i = x) w' X' K' ∧ (∀ i, V i → K' i = K i) ∧ Upd (GrW sb KV N) w w' := by
 have hl := h.g.len
 have hn := G.n
 have hnd : (X[x]'(by omega)).nd = fin x := by
  by_cases hnn : nm.getD x (-1) = -1
  ·rw [h.g.nd1 x (by omega) hnn, (G.sh.rt x (by omega) hnn).2]
  ·exact h.g.nd2 x (by omega) hnn ⟨hnn, hp hnn⟩
 refine (visit_any base f sb bx x N X0 nm dp fin KV rv R _ V w X K h.g G.sh hn G.l h.bx G.xx hx hV (fun i hi hix hh => ?_) hnd).mono ?_
 ·have := hh.2
  rw [hix] at this
  exact hV (by simpa using this)
 ·rintro e w' ⟨rfl, X', K', hG, hK, hu⟩
  refine ⟨rfl, X', K', h.upd G (hG.cast (fun i hi => ?_) (fun i hi => Iff.rfl)) (fun i hi hv hne => ?_) hu, hK, hu⟩
  ·unfold Hof
   constructor
   ·rintro (⟨h1, h2⟩ | h1)
    ·exact ⟨h1, Or.inl h2⟩
    ·exact ⟨by rw [h1]; omega, Or.inr (by rw [h1]; simp)⟩
   ·rintro ⟨h1, h2 | h2⟩
    ·exact Or.inl ⟨h1, h2⟩
    ·have := G.hr i hi h1
     exact Or.inr (by omega)
  ·rcases hv with hv | hv
   ·exact Or.inl (h.up i hi hv hne)
   ·subst hv; exact Or.inl (hp hne)
theorem rd_kids {base f sb : Nat} {X0 : List Spot} {nm : List Int} {fin : Nat → Nod} {KV : Nat → Value} {rv : Value} {R : List Int} {V : Nat → Prop} {K : Nat → List Int} {x : Nat} (hx : x < X0.length) (hV : V x) {ad : Option Addr} {cap : Nat} (hk : KV x = .slice ad (K x).length cap) : Rd base f sb X0 nm fin KV rv R V K ad (K x) := fun H1 V1 W X1 K1 hG hK q hq => by
 obtain ⟨ad', cap', hkv', hc⟩ := hG.kid_cell (x := x) hx
 have e := hK x hx hV
 obtain ⟨g, h1, h2⟩ := hc q (by rw [e]; exact hq)
 rw [hk] at hkv'
 injection hkv' with e1
 simp only [e] at h2
 exact ⟨g, e1.trans h1, h2⟩
theorem rd_roots {base f sb : Nat} {X0 : List Spot} {nm : List Int} {fin : Nat → Nod} {KV : Nat → Value} {R : List Int} {V : Nat → Prop} {K : Nat → List Int} {ad : Option Addr} {cap : Nat} : Rd base f sb X0 nm fin KV (.slice ad R.length cap) R V K ad R := fun H1 V1 W X1 K1 hG _ q hq => by
 have ho := hG.at_.roots
 rcases ho.2 with ⟨h1, h2⟩ | ⟨g, cap', cur, h1, _, hh, _, _, _, ht⟩
 ·omega
 ·simp at h1
  refine ⟨g, h1.1, ?_⟩
  have h3 : (cur.toList.take (R.length * 1))[q]? = (R.map (Value.int .i64))[q]? := by rw [ht]
  rw [List.getElem?_take_of_lt (by omega)] at h3
  simp only [World.cell?, hh]
  simpa [hq] using h3
theorem down_one {base f sb bx bf bv bd N : Nat} {X0 : List Spot} {nm : List Int} {dp : Nat → Nat} {fin : Nat → Nod} {KV : Nat → Value} {rv : Value} {R : List Int} {V : Nat → Prop} {w1 w2 : World} {x lv : Nat} {X1 : List Spot} {K K1 : Nat → List Int} (G : Grow base f sb bx bf bv bd N X0 nm dp fin KV) (hx : x < N) (hlv : dp x = lv) (hV : ¬ V x) (hup : ∀ i, i < N → V i → nm.getD i (-1) ≠ -1 → V (nm.getD i (-1)).toNat)
  (h1 : Dn base f sb bx bf bv bd N X0 nm fin KV rv R (fun i => V i ∨ i = x) w1 X1 K1) (hK1 : ∀ i, i < N → V i → K1 i = K i) :
  Lev N nm dp (fun i => V i ∨ i = x) (lv + 1) (K1 x) ∧ (∃ ad cap, KV x = .slice ad (K1 x).length cap ∧ w1.cell? ⟨sb, x * 21 + 20, none⟩ = some (.slice ad (K1 x).length cap) ∧ Rd base f sb X0 nm fin KV rv R (fun i => V i ∨ i = x) K1 ad (K1 x)) ∧ (DnR base f sb bx bf bv bd N X0 nm fin KV rv R (fun i => V i ∨ i = x) K1 (K1 x) w1 w2 → ∃ V' X' K', Dn base f sb bx bf bv bd N X0 nm fin KV rv R V' w2 X' K' ∧ (∀ i, i < N → (V' i ↔ V i ∨ Desc nm x i)) ∧ (∀ i, i < N → V i → K' i = K i) ∧ Upd (GrW sb KV N) w1 w2) := by
 have hn := G.n
 have hpm := (h1.g.kv x (by omega) (Or.inr rfl)).1
 refine ⟨⟨fun y hy => ?_, hpm.nodup_iff.1 (kidsF_nodup _ _ _)⟩, ?_, ?_⟩
 ·obtain ⟨c, rfl, hc, hcx⟩ := kidsF_iff.1 (hpm.mem_iff.2 hy)
  have hd := (G.sh.kd c x hc (by omega) hcx).1
  refine ⟨c, rfl, by omega, by omega, ?_, fun _ => Or.inr (by rw [hcx]; simp)⟩
  rintro (hh | hh)
  ·have := hup c (by omega) hh (by rw [hcx]; omega)
   rw [hcx] at this
   exact hV (by simpa using this)
  ·subst hh; omega
 ·obtain ⟨ad, cap, hk, _⟩ := h1.g.kid_cell (x := x) (by omega)
  refine ⟨ad, cap, hk, ?_, rd_kids (by omega) (Or.inr rfl) hk⟩
  have hl := h1.g.len
  rw [← hk, ← (h1.g.same x (by omega)).2.2]
  exact (h1.g.at_.row.spots x (by omega)).c20
 ·rintro ⟨V', X', K', hD, hV', hK', hu⟩
  refine ⟨V', X', K', hD, fun i hi => ?_, fun i hi hv => (hK' i hi (Or.inl hv)).trans (hK1 i hi hv), hu⟩
  rw [hV' i hi]
  constructor
  ·rintro ((hh | hh) | ⟨y, hy, hd⟩)
   ·exact Or.inl hh
   ·subst hh; exact Or.inr (desc_refl nm i)
   ·obtain ⟨c, rfl, hc, hcx⟩ := kidsF_iff.1 (hpm.mem_iff.2 hy)
    simp only [Int.toNat_natCast] at hd
    obtain ⟨k, hk⟩ := hd
    have hk2 : ancN nm (k + 1) i = (x : Int) ∨ True := Or.inr trivial
    refine Or.inr ?_
    have key : ∀ k i, ancN nm k i = (c : Int) → Desc nm x i := by
     intro k
     induction k with
     | zero =>
      intro i h
      rw [ancN] at h
      obtain rfl : i = c := by omega
      exact desc_up hcx (desc_refl nm x)
     | succ k ih =>
      intro i h
      rw [ancN] at h
      by_cases hnn : nm.getD i (-1) = -1
      ·rw [if_pos hnn] at h; omega
      ·rw [if_neg hnn] at h
       obtain ⟨m, hm⟩ := ih _ h
       exact ⟨m + 1, by rw [ancN, if_neg hnn]; exact hm⟩
    exact key k i hk
  ·rintro (hh | hh)
   ·exact Or.inl (Or.inl hh)
   ·by_cases e : i = x
    ·exact Or.inl (Or.inr e)
    ·obtain ⟨k, hk⟩ := hh
     obtain ⟨c, hc1, hc2, hc3⟩ := desc_kid G.sh G.hr (by omega) k i (by omega) hk e
     exact Or.inr ⟨(c : Int), hpm.mem_iff.1 (kidsF_iff.2 ⟨c, rfl, hc1, hc2⟩), by simpa using hc3⟩
set_option maxHeartbeats 8000000 in
theorem down_any (base f sb bx bf bv bd N : Nat) (X0 : List Spot) (nm : List Int) (dp : Nat → Nat) (fin : Nat → Nod) (KV : Nat → Value) (rv : Value) (R : List Int) (G : Grow base f sb bx bf bv bd N X0 nm dp fin KV) : ∀ (fuel : Nat) (V : Nat → Prop) (w : World) (X : List Spot) (K : Nat → List Int) (L : List Int) (ad : Option Addr) (cap lv : Nat), 1002 ≤ fuel + lv → lv ≤ 1001 → Dn base f sb bx bf bv bd N X0 nm fin KV rv R V w X K → Lev N nm dp V lv L → Rd base f sb X0 nm fin KV rv R V K ad L → L.length ≤ 1000 →
  Calls Tryz.prog 138 #[.slice ad L.length cap, .pointer (some ⟨bf, 0, none⟩), .pointer (some ⟨bv, 0, none⟩), .pointer (some ⟨bd, 0, none⟩)] w fun e w' => e = .returned (.bool true) ∧ DnR base f sb bx bf bv bd N X0 nm fin KV rv R V K L w w' := by
 intro fuel
 induction fuel with
 | zero =>
  intro V w X K L ad cap lv hfu hlv
  omega
 | succ fuel ih =>
  intro V w X K L ad cap lv hfu hlv hD hLev hRd hLl
  have HIH : Hid _ := ih
  have HD : Hid (Dn base f sb bx bf bv bd N X0 nm fin KV rv R V w X K) := hD
  have HLev : Hid (Lev N nm dp V lv L) := hLev
  have HRd : Hid (Rd base f sb X0 nm fin KV rv R V K ad L) := hRd
  have HG : Hid (Grow base f sb bx bf bv bd N X0 nm dp fin KV) := G
  obtain ⟨m, hm⟩ : ∃ m, L.length = m := ⟨_, rfl⟩
  have HM : Hid (L.length = m) := hm
  rw [hm] at hLl ⊢
  clear ih hD hLev hRd hm
  go_enter Tryz.func138, Tryz.ntmps138
  go_wp2
  go_loopw [11] (fun y wr => ∃ (q : Nat), y = .int .i64 q ∧ q ≤ m ∧ DnR base f sb bx bf bv bd N X0 nm fin KV rv R V K (L.take q) w wr) (fun y _ => m - (intOf y).toNat)
  case atStart => exact ⟨0, rfl, by omega, V, X, K, HD.out, fun i _ => by simp, fun _ _ _ => rfl, Upd.refl _ _⟩
  case round =>
   obtain ⟨q, rfl, hqm, hR⟩ := hrel
   have HR : Hid (DnR base f sb bx bf bv bd N X0 nm fin KV rv R V K (L.take q) w wr) := hR
   clear hR
   by_cases hlt : q < m
   ·have hq : q < L.length := by rw [HM.out]; exact hlt
    obtain ⟨V1, X1, K1, hD1, hV1, hK1, hU1⟩ := HR.out
    obtain ⟨g, rfl, gc⟩ := HRd.out _ _ wr X1 K1 hD1.g (fun i hi => hK1 i (by rw [← HG.out.n]; exact hi)) q hq
    obtain ⟨x, hxe, hxN, hxl, hxV, hxp⟩ := HLev.out.el _ (List.getElem_mem hq)
    rw [hxe] at gc
    have hxV1 : ¬ V1 x := fun hh => by
     rcases (hV1 x hxN).1 hh with h | ⟨y, hy, hd⟩
     ·exact hxV h
     ·obtain ⟨y', hye, hyN, hyl, _⟩ := HLev.out.el y (List.mem_of_mem_take hy)
      subst hye
      simp only [Int.toNat_natCast] at hd
      have he := desc_same HG.out.sh HG.out.hr (by rw [HG.out.n]; exact hxN) hd (by omega)
      subst he
      obtain ⟨p, hp, hpe⟩ := List.getElem_of_mem hy
      rw [List.getElem_take] at hpe
      have hpq : p < q := by simp at hp; omega
      exact (List.pairwise_iff_getElem.1 HLev.out.nodup) p q (by omega) hq hpq (by rw [hpe, hxe])
    have hxp1 : nm.getD x (-1) ≠ -1 → V1 (nm.getD x (-1)).toNat := fun hne => by
     have h1 := HG.out.hr x (by rw [HG.out.n]; exact hxN) hne
     have h2 := HG.out.n
     exact (hV1 _ (by omega)).2 (Or.inl (hxp hne))
    have VI := visit_dn (w := wr.drew) HG.out ⟨hD1.g.below ((Below.refl _ _).drew), hD1.up, ⟨hD1.box.cf, hD1.box.cv, hD1.box.cd⟩, hD1.bx⟩ hxN hxV1 hxp1
    have c1 := hD1.box.cf
    have c2 := hD1.box.cv
    have c3 := hD1.box.cd
    have c4 : wr.cell? ⟨f, 0, none⟩ = some (.slice (some ⟨sb, 0, none⟩) N N) := by
     have := hD1.g.at_.head.cell 0 rfl
     rwa [hD1.g.len, HG.out.n] at this
    have NEXT : Hid (∀ w5 X' K', Dn base f sb bx bf bv bd N X0 nm fin KV rv R (fun i => V1 i ∨ i = x) w5 X' K' → (∀ i, V1 i → K' i = K1 i) → Upd (GrW sb KV N) wr.drew w5 → ∃ ad5 m5 cap5, w5.cell? ⟨sb, x * 21 + 20, none⟩ = some (.slice ad5 m5 cap5) ∧ w5.cell? ⟨bd, 0, none⟩ = some (.func (.func 138) #[] #[.pointer (some ⟨bf, 0, none⟩), .pointer (some ⟨bv, 0, none⟩), .pointer (some ⟨bd, 0, none⟩)]) ∧ Calls Tryz.prog 138 #[.slice ad5 m5 cap5, .pointer (some ⟨bf, 0, none⟩), .pointer (some ⟨bv, 0, none⟩), .pointer (some ⟨bd, 0, none⟩)] w5 fun e w' => e = .returned (.bool true) ∧ DnR base f sb bx bf bv bd N X0 nm fin KV rv R V K (L.take (q + 1)) w w') := fun w5 X' K' hD5 hK5 hU5 => by
     obtain ⟨hL5, ⟨ad5, cap5, hkv5, h20, hrd5⟩, hfin⟩ := down_one (w2 := w5) (lv := lv) HG.out hxN hxl hxV1 hD1.up hD5 (K := K1) (fun i _ => hK5 i)
     refine ⟨ad5, (K' x).length, cap5, h20, hD5.box.cd, ?_⟩
     have hlen5 : (K' x).length ≤ 1000 := by
      have hp := (hD5.g.kv x (by rw [HG.out.n]; exact hxN) (Or.inr rfl)).1.length_eq
      have := kidsF_len nm X0.length x
      have := HG.out.n
      have := HG.out.l
      omega
     refine (HIH.out _ w5 X' K' (K' x) ad5 cap5 (lv + 1) (by omega) (by have := (HG.out.sh.bd x (by rw [HG.out.n]; exact hxN)).1; omega) hD5 hL5 hrd5 hlen5).mono ?_
     rintro e w' ⟨rfl, hR5⟩
     obtain ⟨V2, X2, K2, hD2, hV2, hK2, hU2⟩ := (down_one (w2 := w') (lv := lv) HG.out hxN hxl hxV1 hD1.up hD5 (K := K1) (fun i _ => hK5 i)).2.2 hR5
     refine ⟨rfl, V2, X2, K2, hD2, fun i hi => ?_, fun i hi hv => (hK2 i hi ((hV1 i hi).2 (Or.inl hv))).trans (hK1 i hi hv), (hU1.drew.trans hU5 (fun _ _ h => h)).trans hU2 (fun _ _ h => h)⟩
     ·rw [hV2 i hi, hV1 i hi, List.take_succ_eq_append_getElem hq, hxe]
      constructor
      ·rintro ((h | ⟨y, hy, hd⟩) | h)
       ·exact Or.inl h
       ·exact Or.inr ⟨y, List.mem_append_left _ hy, hd⟩
       ·exact Or.inr ⟨(x : Int), List.mem_append_right _ (by simp), by simpa using h⟩
      ·rintro (h | ⟨y, hy, hd⟩)
       ·exact Or.inl (Or.inl h)
       ·rcases List.mem_append.1 hy with hy | hy
        ·exact Or.inl (Or.inr ⟨y, hy, hd⟩)
        ·simp at hy
         subst hy
         exact Or.inr (by simpa using hd)
    clear hV1 hK1 hU1 hxe hxV hxp hxV1 hxp1 hD1
    go_wp2
    go_region_law (first
     | (go_simp; go_at_call 91; (with_reducible refine VI.mono ?_); clear VI; rintro e w5 ⟨rfl, X5, K5, hD5, hK5, hU5⟩; obtain ⟨ad5, m5, cap5, h20, hcd5, NX⟩ := NEXT.out w5 X5 K5 hD5 hK5 hU5; clear hD5 hK5 hU5 NEXT)
     | (go_simp; go_at_call 138; (with_reducible refine NX.mono ?_); clear NX; rintro e w6 ⟨rfl, h6⟩; have H6 : Hid _ := h6; clear h6))
    all_goals
     go_wp2
     go_roundw
     case rel => exact ⟨q + 1, by simp, by omega, H6.out⟩
     case measure => simp [intOf]; omega
   ·obtain rfl : q = m := by omega
    go_wp2
    go_ret
    refine ⟨rfl, ?_⟩
    have := HR.out
    rwa [List.take_of_length_le (by rw [HM.out]; exact Nat.le_refl _)] at this
theorem GrS.grw_lt {base f sb : Nat} {X0 : List Spot} {nm : List Int} {fin : Nat → Nod} {KV : Nat → Value} {rv : Value} {R : List Int} {H V : Nat → Prop} {w : World} {X : List Spot} {K : Nat → List Int} (h : GrS base f sb X0 nm fin KV rv R H V w X K) {k : Nat} (hk : GrW sb KV X0.length k) : k < w.heap.size ∧ (k = sb ∨ base ≤ k) := by
 rcases hk with rfl | ⟨i, hi, e⟩
 ·exact ⟨h.at_.row.lt, Or.inl rfl⟩
 ·have hl := h.len
  have ho := h.at_.kids i (by omega)
  rw [(h.same i hi).2.2] at ho
  exact ⟨(owns_lt ho e).2, Or.inr (owns_lt ho e).1⟩
def GrE (base f sb : Nat) (X0 : List Spot) (nm : List Int) (fin : Nat → Nod) (KV : Nat → Value) (rv : Value) (R : List Int) (w : World) : Prop := ∃ X K, GrS base f sb X0 nm fin KV rv R (fun _ => True) (fun _ => True) w X K
set_option maxHeartbeats 4000000 in
theorem walkG_any (base f sb bx N : Nat) (X0 : List Spot) (nm : List Int) (dp : Nat → Nat) (fin : Nat → Nod) (KV : Nat → Value) (ad : Option Addr) (cap : Nat) (R : List Int) (w : World) (X : List Spot) (K : Nat → List Int) (hG : GrS base f sb X0 nm fin KV (.slice ad R.length cap) R (fun _ => False) (fun _ => False) w X K) (sh : Shape X0 nm dp fin) (hr : ∀ i, i < X0.length → nm.getD i (-1) ≠ -1 → 0 ≤ nm.getD i (-1) ∧ nm.getD i (-1) < X0.length) (hN : X0.length = N) (hl : N ≤ 1000) (hbx : w.cell? ⟨bx, 0, none⟩ = some (.pointer (some ⟨f, 0, none⟩))) (hbW : ¬ GrW sb KV N bx) (hp : (kidsF nm N (-1)).Perm R) :
  Calls Tryz.prog 90 #[.pointer (some ⟨f, 0, none⟩), .func (.func 91) #[] #[.pointer (some ⟨bx, 0, none⟩)]] w fun e w' => e = .returned (.tuple #[]) ∧ GrE base f sb X0 nm fin KV (.slice ad R.length cap) R w' ∧ Upd (GrW sb KV N) w w' := by
 have hRl : R.length ≤ 1000 := by have := hp.length_eq; have := kidsF_len nm N (-1); omega
 have DOWN : Hid (∀ W, Below w.heap.size w W → Box f w.heap.size (w.heap.size + 1) (w.heap.size + 2) (.func (.func 91) #[] #[.pointer (some ⟨bx, 0, none⟩)]) W → W.cell? ⟨f, 1, none⟩ = some (.slice ad R.length cap) ∧ Calls Tryz.prog 138 #[.slice ad R.length cap, .pointer (some ⟨w.heap.size, 0, none⟩), .pointer (some ⟨w.heap.size + 1, 0, none⟩), .pointer (some ⟨w.heap.size + 2, 0, none⟩)] W fun e w' => e = .returned (.bool true) ∧ GrE base f sb X0 nm fin KV (.slice ad R.length cap) R w' ∧ Upd (GrW sb KV N) w w') := fun W hb hBox => by
  have hGW := hG.below hb
  have hlt := fun k (hk : GrW sb KV N k) => (hG.grw_lt (by rw [hN]; exact hk)).1
  have G : Grow base f sb bx w.heap.size (w.heap.size + 1) (w.heap.size + 2) N X0 nm dp fin KV := ⟨sh, hr, hN, hl, hbW, fun hk => by have := hlt _ hk; omega, fun hk => by have := hlt _ hk; omega, fun hk => by have := hlt _ hk; omega⟩
  have D : Dn base f sb bx w.heap.size (w.heap.size + 1) (w.heap.size + 2) N X0 nm fin KV (.slice ad R.length cap) R (fun _ => False) W X K := ⟨hGW.cast (fun i hi => by unfold Hof; simp) (fun i hi => Iff.rfl), fun i hi h => h.elim, hBox, (hb.cell (World.block_lt_of_cell? w _ hbx)).trans hbx⟩
  refine ⟨hGW.at_.head.cell 1 rfl, ?_⟩
  refine (down_any base f sb bx _ _ _ N X0 nm dp fin KV (.slice ad R.length cap) R G 1002 (fun _ => False) W X K R ad cap 0 (by omega) (by omega) D ⟨fun x hx => ?_, hp.nodup_iff.1 (kidsF_nodup _ _ _)⟩ rd_roots hRl).mono ?_
  ·obtain ⟨i, rfl, hi, hix⟩ := kidsF_iff.1 (hp.mem_iff.2 hx)
   exact ⟨i, rfl, hi, (sh.rt i (by omega) hix).1, fun h => h, fun h => absurd hix h⟩
  ·rintro e w' ⟨rfl, V', X', K', hD, hV', _, hu⟩
   have hall : ∀ i, i < X0.length → V' i := fun i hi => by
    obtain ⟨r, h1, h2, h3⟩ := desc_root sh hr (dp i) i hi rfl
    exact (hV' i (by omega)).2 (Or.inr ⟨(r : Int), hp.mem_iff.1 (kidsF_iff.2 ⟨r, rfl, by omega, h2⟩), by simpa using h3⟩)
   refine ⟨rfl, ⟨X', K', ?_⟩, (Upd.ofBelow (S := GrW sb KV N) hb (fun k h1 h2 => by omega)).trans hu (fun _ _ h => h)⟩
   refine ⟨hD.g.at_, hD.g.len, hD.g.same, hD.g.nd1, fun i hi hn _ => ?_, fun i hi hn h => absurd trivial h, fun i hi _ => hD.g.kv i hi (hall i hi), fun i hi h => absurd trivial h⟩
   obtain ⟨j, h1, h2, h3⟩ := nm_get hr hi hn
   exact hD.g.nd2 i hi hn ⟨hn, by rw [h3]; exact hall j h2⟩
 have hfl : Hid (f < w.heap.size) := hG.at_.head.lt
 obtain ⟨m, hm⟩ : ∃ m, R.length = m := ⟨_, rfl⟩
 have c1 : w.cell? ⟨f, 1, none⟩ = some (.slice ad m cap) := by rw [← hm]; exact hG.at_.head.cell 1 rfl
 obtain ⟨W3, hW3⟩ : ∃ W3, ((w.alloc (.cells #[.pointer (some ⟨f, 0, none⟩)] 24)).alloc (.cells #[(.func (.func 91) #[] #[.pointer (some ⟨bx, 0, none⟩)])] 189)).alloc (.cells #[.nilFunc] 230) = W3 := ⟨_, rfl⟩
 have b0 : Blk W3 w.heap.size #[.pointer (some ⟨f, 0, none⟩)] 24 := by rw [← hW3]; exact ((Blk.new w _ _).alloc _).alloc _
 have b1 : Blk W3 (w.heap.size + 1) #[(.func (.func 91) #[] #[.pointer (some ⟨bx, 0, none⟩)])] 189 := by
  rw [← hW3]
  have := Blk.new (w.alloc (.cells #[.pointer (some ⟨f, 0, none⟩)] 24)) #[(.func (.func 91) #[] #[.pointer (some ⟨bx, 0, none⟩)])] 189
  rw [World.size_alloc] at this
  exact this.alloc _
 have b2 : Blk W3 (w.heap.size + 1 + 1) #[.nilFunc] 230 := by
  rw [← hW3]
  have := Blk.new ((w.alloc (.cells #[.pointer (some ⟨f, 0, none⟩)] 24)).alloc (.cells #[(.func (.func 91) #[] #[.pointer (some ⟨bx, 0, none⟩)])] 189)) #[.nilFunc] 230
  rw [World.size_alloc, World.size_alloc] at this
  exact this
 have hb3 : Below w.heap.size w W3 := by rw [← hW3]; exact (((Below.refl _ _).alloc (Nat.le_refl _) _).alloc (by simp) _).alloc (by simp; omega) _
 have k2 : W3.cell? ⟨w.heap.size + 1 + 1, 0, none⟩ = some .nilFunc := b2.cell 0 rfl
 have kz : W3.frozen? ⟨w.heap.size + 1 + 1, 0, none⟩ = false := b2.frozen 0
 obtain ⟨W4, hW4⟩ : ∃ W4, W3.setCell ⟨w.heap.size + 1 + 1, 0, none⟩ (.func (.func 138) #[] #[.pointer (some ⟨w.heap.size, 0, none⟩), .pointer (some ⟨w.heap.size + 1, 0, none⟩), .pointer (some ⟨w.heap.size + 1 + 1, 0, none⟩)]) = W4 := ⟨_, rfl⟩
 have hb4 : Below w.heap.size w W4 := by rw [← hW4]; exact Below.setCell hb3 (by simp; omega) _
 have q0 : W4.cell? ⟨w.heap.size, 0, none⟩ = some (.pointer (some ⟨f, 0, none⟩)) := by rw [← hW4]; exact (b0.other _ _ (by simp; omega)).cell 0 rfl
 have q1 : W4.cell? ⟨w.heap.size + 1, 0, none⟩ = some (.func (.func 91) #[] #[.pointer (some ⟨bx, 0, none⟩)]) := by rw [← hW4]; exact (b1.other _ _ (by simp)).cell 0 rfl
 have q2 : W4.cell? ⟨w.heap.size + 1 + 1, 0, none⟩ = some (.func (.func 138) #[] #[.pointer (some ⟨w.heap.size, 0, none⟩), .pointer (some ⟨w.heap.size + 1, 0, none⟩), .pointer (some ⟨w.heap.size + 1 + 1, 0, none⟩)]) := by rw [← hW4]; exact (b2.set 0 _).cell 0 rfl
 obtain ⟨q3, DN⟩ := DOWN.out W4.drew hb4.drew ⟨q0, q1, q2⟩
 rw [hm] at q3 DN
 have hst : (store ⟨w.heap.size + 1 + 1, 0, none⟩ (.func (.func 138) #[] #[.pointer (some ⟨w.heap.size, 0, none⟩), .pointer (some ⟨w.heap.size + 1, 0, none⟩), .pointer (some ⟨w.heap.size + 1 + 1, 0, none⟩)])).run Tryz.prog W3 = .ok () W4 := by
  rw [run_store _ _ _ _ _ rfl, k2, ← hW4]
  simp [kz]
 rw [← hW3] at k2 kz hW4 hst
 clear hW3
 clear hG sh hr hp hbW hN b0 b1 b2 hb3 hb4 DOWN hbx c1
 go_enter Tryz.func90, Tryz.ntmps90
 go_wp2
 go_region_law (go_simp; go_at_call 138; (with_reducible refine DN.mono ?_); clear DN; rintro e w6 ⟨rfl, h6, u6⟩; have H6 : Hid _ := h6; have U6 : Hid _ := u6; clear h6 u6)
 all_goals
  go_wp2
  go_end0
  exact ⟨rfl, H6.out, U6.out⟩
theorem PlAt.sortR {base : Nat} {w w' : World} {f sb : Nat} {X : List Spot} {K : Nat → List Int} {rv : Value} {R L : List Int} (h : PlAt base w f sb X K rv R) (ho : w'.ownsRow base 3 1 rv L.length (L.map (Value.int .i64))) (hu : Upd (fun k => rv.ownBlock = some k) w w') : PlAt base w' f sb X K rv L :=
 ⟨h.head.upd hu (fun e => by have := (owns_lt h.roots e).1; have := h.fb; omega), h.row.upd hu (fun e => by have := (owns_lt h.roots e).1; have := h.sbb; omega), h.fb, h.sbb, h.ne, Nat.le_trans h.le hu.size, ho, fun i hi => ownsRow_upd (h.kids i hi) hu (fun k e hh => h.apartR i hi k hh e), h.apart, h.apartR⟩
def kvOf (X : List Spot) (i : Nat) : Value := match X[i]? with | some x => x.kv | none => .slice none 0 0
theorem kvOf_get (X : List Spot) (i : Nat) (h : i < X.length) : kvOf X i = X[i].kv := by simp [kvOf, h]
def Grown (f sb : Nat) (X0 : List Spot) (nm : List Int) (fin : Nat → Nod) (base : Nat) (w w' : World) : Prop := ∃ X K rv R, PlAt base w' f sb X K rv R ∧ X.length = X0.length ∧ (∀ i (h : i < X0.length) (h' : i < X.length), X[i].a = X0[i].a ∧ X[i].p = X0[i].p ∧ X[i].nd = fin i ∧ (kidsF nm X0.length i).Perm (K i) ∧ (K i).Pairwise (fun a b => ¬ ltK (fin b.toNat) (fin a.toNat))) ∧ (kidsF nm X0.length (-1)).Perm R ∧ R.Pairwise (fun a b => ¬ ltK (fin b.toNat) (fin a.toNat)) ∧ Upd (fun k => k = sb ∨ base ≤ k) w w'
set_option maxHeartbeats 4000000 in
theorem grow_any (base f sb N : Nat) (X0 X : List Spot) (nm : List Int) (dp : Nat → Nat) (fin : Nat → Nod) (rv : Value) (w : World) (hP : PlAt base w f sb X (fun i => kidsF nm N i) rv (kidsF nm N (-1))) (hF : PlF X0 X nm N) (sh : Shape X0 nm dp fin) (hr : ∀ i, i < X0.length → nm.getD i (-1) ≠ -1 → 0 ≤ nm.getD i (-1) ∧ nm.getD i (-1) < X0.length) (hN : X0.length = N) (hl : N ≤ 1000) :
  Calls Tryz.prog 56 #[.pointer (some ⟨f, 0, none⟩)] w fun e w' => e = .returned (.tuple #[]) ∧ Grown f sb X0 nm fin base w w' := by
 have hXl : X.length = N := by rw [← hN]; exact hF.len
 obtain ⟨ad, cap, rfl⟩ := owns_slice hP.roots
 have hRl : (kidsF nm N (-1)).length ≤ 1000 := Nat.le_trans (kidsF_len _ _ _) hl
 obtain ⟨W, hW⟩ : ∃ W, w.alloc (.cells #[.pointer (some ⟨f, 0, none⟩)] 24) = W := ⟨_, rfl⟩
 have hb : Below w.heap.size w W := by rw [← hW]; exact (Below.refl _ _).alloc (Nat.le_refl _) _
 have cx : W.cell? ⟨w.heap.size, 0, none⟩ = some (.pointer (some ⟨f, 0, none⟩)) := by rw [← hW]; exact (Blk.new w _ _).cell 0 rfl
 have hPW : PlAt base W.drew f sb X (fun i => kidsF nm N i) (.slice ad (kidsF nm N (-1)).length cap) (kidsF nm N (-1)) := hP.below hb.drew
 have c1 : W.cell? ⟨f, 1, none⟩ = some (.slice ad (kidsF nm N (-1)).length cap) := hPW.head.cell 1 rfl
 have hfin : ∀ i (hi : i < N), nm.getD i (-1) = -1 → (X[i]'(by omega)).nd = fin i := fun i hi hn => by
  rw [hF.nd i (by omega), if_pos ⟨hi, hn⟩, (sh.rt i (by omega) hn).2]
 have SO := sort_any f sb base X _ _ (kidsF nm N (-1)) W.drew (hPW.head.cell 0 rfl) hPW.row hPW.roots (fun x hx => by have := kidsF_mem hx; omega) hRl (fun e => by have := (owns_lt hPW.roots e).1; have := hPW.fb; omega) (fun e => by have := (owns_lt hPW.roots e).1; have := hPW.sbb; omega)
 have WK : Hid (∀ w2 (L : List Int), (kidsF nm N (-1)).Perm L → L.Pairwise (fun i j => ∀ (hi : i.toNat < X.length) (hj : j.toNat < X.length), ¬ ltK X[j.toNat].nd X[i.toNat].nd) → w2.ownsRow base 3 1 (.slice ad (kidsF nm N (-1)).length cap) (kidsF nm N (-1)).length (L.map (Value.int .i64)) → Upd (fun k => (Value.slice ad (kidsF nm N (-1)).length cap).ownBlock = some k) W.drew w2 → w2.cell? ⟨w.heap.size, 0, none⟩ = some (.pointer (some ⟨f, 0, none⟩)) ∧ Calls Tryz.prog 90 #[.pointer (some ⟨f, 0, none⟩), .func (.func 91) #[] #[.pointer (some ⟨w.heap.size, 0, none⟩)]] w2 fun e w' => e = .returned (.tuple #[]) ∧ Grown f sb X0 nm fin base w w') := fun w2 L hp hs ho hu => by
  have hll : L.length = (kidsF nm N (-1)).length := hp.length_eq.symm
  have hP2 := hPW.sortR (L := L) (by rw [hll]; exact ho) hu
  have hown : ∀ k, (Value.slice ad (kidsF nm N (-1)).length cap).ownBlock = some k → base ≤ k ∧ k < w.heap.size := fun k e => owns_lt hP.roots e
  have cx2 : w2.cell? ⟨w.heap.size, 0, none⟩ = some (.pointer (some ⟨f, 0, none⟩)) := cell_upd hu (w := W.drew) cx (fun e => by have := (hown _ e).2; omega)
  refine ⟨cx2, ?_⟩
  have hS : L.Pairwise (fun a b => ¬ ltK (fin b.toNat) (fin a.toNat)) := by
   refine List.Pairwise.imp_of_mem ?_ hs
   intro a b ha hb' hab
   obtain ⟨i, rfl, hi, hix⟩ := kidsF_iff.1 (hp.mem_iff.2 ha)
   obtain ⟨j, rfl, hj, hjx⟩ := kidsF_iff.1 (hp.mem_iff.2 hb')
   have h1 := hab (by simp; omega) (by simp; omega)
   simp only [Int.toNat_natCast] at h1 ⊢
   rw [hfin i hi hix, hfin j hj hjx] at h1
   exact h1
  have hG : GrS base f sb X0 nm fin (kvOf X) (.slice ad L.length cap) L (fun _ => False) (fun _ => False) w2 X (fun i => kidsF nm N i) := by
   rw [hll]
   refine ⟨hP2, hF.len, fun i hi => ⟨(hF.same i hi).1, (hF.same i hi).2, (kvOf_get X i (by omega)).symm⟩, fun i hi hn => ?_, fun i hi hn h => h.elim, fun i hi hn _ => ?_, fun i hi h => h.elim, fun i hi _ => by rw [hN]⟩
   ·rw [hF.nd i hi, if_pos ⟨by omega, hn⟩]
   ·rw [hF.nd i hi, if_neg (fun hh => hn hh.2)]
  refine (walkG_any base f sb w.heap.size N X0 nm dp fin (kvOf X) ad cap L w2 X _ hG sh hr hN hl cx2 (fun hk => ?_) hp).mono ?_
  ·rcases hk with hk | ⟨i, hi, e⟩
   ·have := hP.sbb; have := hP.le; omega
   ·rw [kvOf_get X i (by omega)] at e
    have := (owns_lt (hP.kids i (by omega)) e).2
    omega
  ·rintro e w' ⟨rfl, ⟨X', K', hG'⟩, hu'⟩
   refine ⟨rfl, X', K', .slice ad L.length cap, L, hG'.at_, hG'.len, fun i hi hi' => ?_, by rw [hN]; exact hp, hS, ?_⟩
   ·refine ⟨(hG'.same i hi).1, (hG'.same i hi).2.1, ?_, (hG'.kv i hi trivial).1, (hG'.kv i hi trivial).2⟩
    by_cases hn : nm.getD i (-1) = -1
    ·rw [hG'.nd1 i hi hn, (sh.rt i hi hn).2]
    ·exact hG'.nd2 i hi hn trivial
   ·have u1 : Upd (fun k => k = sb ∨ base ≤ k) w W.drew := Upd.ofBelow hb.drew (fun k h1 h2 => by omega)
    refine (u1.trans (hu.mono (S' := fun k => k = sb ∨ base ≤ k) (fun k _ e => Or.inr (hown k e).1)) (fun _ _ h => h)).trans hu' (fun k hk hh => ?_)
    exact (hG.grw_lt (by rw [hN]; exact hh)).2
 clear hPW hfin hF sh hr hN hP
 obtain ⟨m, hm⟩ : ∃ m, (kidsF nm N (-1)).length = m := ⟨_, rfl⟩
 rw [hm] at SO WK c1
 have HW : Hid (W = W) := rfl
 go_enter Tryz.func56, Tryz.ntmps56
 go_wp2
 go_region_law (go_simp; go_at_call 89; (with_reducible refine SO.mono ?_); clear SO; rintro e w5 ⟨rfl, L, h1, h2, h3, h4⟩; obtain ⟨cx5, WC⟩ := WK.out w5 L h1 h2 h3 h4; clear h1 h2 h3 h4 WK)
 all_goals
  go_wp2_with (go_at_call 90; refine WC.mono ?_; rintro e w6 ⟨rfl, h6⟩)
  go_end0
  exact ⟨rfl, h6⟩
end Go.Proofs.YtnffedmcblbkoaaGreatDoor
