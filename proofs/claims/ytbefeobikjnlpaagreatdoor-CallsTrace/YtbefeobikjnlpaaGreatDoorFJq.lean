/-
  Merged: FJ, FO.
-/
import Derived.Test.YtbefeobikjnlpaaGreatDoorFQq
namespace Go.Proofs.YtbefeobikjnlpaaGreatDoor
open Go Go.RowKit
set_option maxRecDepth 100000

/-- So many steps up. -/
def ancN (nm : List Int) : Nat → Nat → Int
  | 0, i => (i : Int)
  | k + 1, i => if nm.getD i (-1) = -1 then -1 else ancN nm k (nm.getD i (-1)).toNat
/-- x is i, or above it. -/
def Desc (nm : List Int) (x i : Nat) : Prop := ∃ k, ancN nm k i = (x : Int)
theorem nm_get {X0 : List Spot} {nm : List Int} (hr : ∀ i, i < X0.length → nm.getD i (-1) ≠ -1 → 0 ≤ nm.getD i (-1) ∧ nm.getD i (-1) < X0.length) {i : Nat} (hi : i < X0.length) (hn : nm.getD i (-1) ≠ -1) : ∃ j : Nat, nm.getD i (-1) = (j : Int) ∧ j < X0.length ∧ (nm.getD i (-1)).toNat = j := by
  have := hr i hi hn
  exact ⟨(nm.getD i (-1)).toNat, by omega, by omega, rfl⟩
theorem anc_dp {X0 : List Spot} {nm : List Int} {dp : Nat → Nat} {fin : Nat → Nod} (sh : Shape X0 nm dp fin) (hr : ∀ i, i < X0.length → nm.getD i (-1) ≠ -1 → 0 ≤ nm.getD i (-1) ∧ nm.getD i (-1) < X0.length) : ∀ (k i x : Nat), i < X0.length → ancN nm k i = (x : Int) → x < X0.length ∧ dp i = dp x + k
  | 0, i, x, hi, h => by
    rw [ancN] at h
    obtain rfl : i = x := by omega
    exact ⟨hi, rfl⟩
  | k + 1, i, x, hi, h => by
    rw [ancN] at h
    by_cases hn : nm.getD i (-1) = -1
    · rw [if_pos hn] at h; omega
    · rw [if_neg hn] at h
      obtain ⟨j, h1, h2, h3⟩ := nm_get hr hi hn
      rw [h3] at h
      have ih := anc_dp sh hr k j x h2 h
      have := (sh.kd i j hi h2 h1).1
      exact ⟨ih.1, by omega⟩
theorem desc_same {X0 : List Spot} {nm : List Int} {dp : Nat → Nat} {fin : Nat → Nod} (sh : Shape X0 nm dp fin) (hr : ∀ i, i < X0.length → nm.getD i (-1) ≠ -1 → 0 ≤ nm.getD i (-1) ∧ nm.getD i (-1) < X0.length) {x i : Nat} (hi : i < X0.length) (h : Desc nm x i) (hd : dp i = dp x) : i = x := by
  obtain ⟨k, hk⟩ := h
  have := (anc_dp sh hr k i x hi hk).2
  obtain rfl : k = 0 := by omega
  rw [ancN] at hk
  omega
theorem desc_refl (nm : List Int) (x : Nat) : Desc nm x x := ⟨0, rfl⟩
theorem desc_up {nm : List Int} {x i j : Nat} (h : nm.getD i (-1) = (j : Int)) (hd : Desc nm x j) : Desc nm x i := by
  obtain ⟨k, hk⟩ := hd
  refine ⟨k + 1, ?_⟩
  rw [ancN, if_neg (by omega), h]
  simpa using hk
/-- A step further down. -/
theorem desc_kid {X0 : List Spot} {nm : List Int} {dp : Nat → Nat} {fin : Nat → Nod} (sh : Shape X0 nm dp fin) (hr : ∀ i, i < X0.length → nm.getD i (-1) ≠ -1 → 0 ≤ nm.getD i (-1) ∧ nm.getD i (-1) < X0.length) {x : Nat} (hx : x < X0.length) : ∀ (k i : Nat), i < X0.length → ancN nm k i = (x : Int) → i ≠ x → ∃ c, c < X0.length ∧ nm.getD c (-1) = (x : Int) ∧ Desc nm c i
  | 0, i, hi, h, hne => by rw [ancN] at h; omega
  | k + 1, i, hi, h, hne => by
    rw [ancN] at h
    by_cases hn : nm.getD i (-1) = -1
    · rw [if_pos hn] at h; omega
    · rw [if_neg hn] at h
      obtain ⟨j, h1, h2, h3⟩ := nm_get hr hi hn
      rw [h3] at h
      by_cases e : j = x
      · subst e
        exact ⟨i, hi, h1, desc_refl nm i⟩
      · obtain ⟨c, hc1, hc2, hc3⟩ := desc_kid sh hr hx k j h2 h e
        exact ⟨c, hc1, hc2, desc_up h1 hc3⟩
/-- Everyone is beneath a root. -/
theorem desc_root {X0 : List Spot} {nm : List Int} {dp : Nat → Nat} {fin : Nat → Nod} (sh : Shape X0 nm dp fin) (hr : ∀ i, i < X0.length → nm.getD i (-1) ≠ -1 → 0 ≤ nm.getD i (-1) ∧ nm.getD i (-1) < X0.length) : ∀ (d i : Nat), i < X0.length → dp i = d → ∃ r, r < X0.length ∧ nm.getD r (-1) = -1 ∧ Desc nm r i
  | 0, i, hi, h => by
    by_cases hn : nm.getD i (-1) = -1
    · exact ⟨i, hi, hn, desc_refl nm i⟩
    · obtain ⟨j, h1, h2, _⟩ := nm_get hr hi hn
      have := (sh.kd i j hi h2 h1).1
      omega
  | d + 1, i, hi, h => by
    by_cases hn : nm.getD i (-1) = -1
    · exact ⟨i, hi, hn, desc_refl nm i⟩
    · obtain ⟨j, h1, h2, _⟩ := nm_get hr hi hn
      have h3 := (sh.kd i j hi h2 h1).1
      obtain ⟨r, h4, h5, h6⟩ := desc_root sh hr d j h2 (by omega)
      exact ⟨r, h4, h5, desc_up h1 h6⟩
/-- The closures' boxes. -/
structure Box (f bf bv bd : Nat) (vis : Value) (w : World) : Prop where
  cf : w.cell? ⟨bf, 0, none⟩ = some (.pointer (some ⟨f, 0, none⟩))
  cv : w.cell? ⟨bv, 0, none⟩ = some vis
  cd : w.cell? ⟨bd, 0, none⟩ = some (.func (.func 86) #[] #[.pointer (some ⟨bf, 0, none⟩), .pointer (some ⟨bv, 0, none⟩), .pointer (some ⟨bd, 0, none⟩)])
theorem cell_upd {S : Nat → Prop} {w w' : World} (hu : Upd S w w') {b o : Nat} {v : Value} (h : w.cell? ⟨b, o, none⟩ = some v) (hS : ¬ S b) : w'.cell? ⟨b, o, none⟩ = some v := by
  have := hu.block b (World.block_lt_of_cell? w _ h) hS
  simp only [World.cell?, this] at h ⊢
  exact h
theorem Box.upd {S : Nat → Prop} {f bf bv bd : Nat} {vis : Value} {w w' : World} (h : Box f bf bv bd vis w) (hu : Upd S w w') (h1 : ¬ S bf) (h2 : ¬ S bv) (h3 : ¬ S bd) : Box f bf bv bd vis w' :=
  ⟨cell_upd hu h.cf h1, cell_upd hu h.cv h2, cell_upd hu h.cd h3⟩
end Go.Proofs.YtbefeobikjnlpaaGreatDoor

namespace Go.Proofs.YtbefeobikjnlpaaGreatDoor
open Go Go.RowKit
set_option maxRecDepth 100000

/-- What stays the same all the way. -/
structure Grow (base f sb bx bf bv bd N : Nat) (X0 : List Spot) (nm : List Int) (dp : Nat → Nat) (fin : Nat → Nod) (KV : Nat → Value) : Prop where
  sh : Shape X0 nm dp fin
  hr : ∀ i, i < X0.length → nm.getD i (-1) ≠ -1 → 0 ≤ nm.getD i (-1) ∧ nm.getD i (-1) < X0.length
  n : X0.length = N
  l : N ≤ 1000
  xx : ¬ GrW sb KV N bx
  xf : ¬ GrW sb KV N bf
  xv : ¬ GrW sb KV N bv
  xd : ¬ GrW sb KV N bd
/-- Hung are those whose parents were visited. -/
def Hof (nm : List Int) (V : Nat → Prop) (i : Nat) : Prop := nm.getD i (-1) ≠ -1 ∧ V (nm.getD i (-1)).toNat
/-- A place in the way down. -/
structure Dn (base f sb bx bf bv bd N : Nat) (X0 : List Spot) (nm : List Int) (fin : Nat → Nod) (KV : Nat → Value) (rv : Value) (R : List Int) (V : Nat → Prop) (w : World) (X : List Spot) (K : Nat → List Int) : Prop where
  g : GrS base f sb X0 nm fin KV rv R (Hof nm V) V w X K
  up : ∀ i, i < N → V i → nm.getD i (-1) ≠ -1 → V (nm.getD i (-1)).toNat
  box : Box f bf bv bd (.func (.func 53) #[] #[.pointer (some ⟨bx, 0, none⟩)]) w
  bx : w.cell? ⟨bx, 0, none⟩ = some (.pointer (some ⟨f, 0, none⟩))
/-- A row whose spots stand at one depth, none of them visited, all that are above them visited. -/
structure Lev (N : Nat) (nm : List Int) (dp : Nat → Nat) (V : Nat → Prop) (lv : Nat) (L : List Int) : Prop where
  el : ∀ x ∈ L, ∃ i : Nat, x = i ∧ i < N ∧ dp i = lv ∧ ¬ V i ∧ (nm.getD i (-1) ≠ -1 → V (nm.getD i (-1)).toNat)
  nodup : L.Nodup
/-- It can be read. -/
def Rd (base f sb : Nat) (X0 : List Spot) (nm : List Int) (fin : Nat → Nod) (KV : Nat → Value) (rv : Value) (R : List Int) (V : Nat → Prop) (K : Nat → List Int) (ad : Option Addr) (L : List Int) : Prop := ∀ (H1 V1 : Nat → Prop) W X1 K1, GrS base f sb X0 nm fin KV rv R H1 V1 W X1 K1 → (∀ i, i < X0.length → V i → K1 i = K i) → ∀ q (hq : q < L.length), ∃ g, ad = some ⟨g, 0, none⟩ ∧ W.cell? ⟨g, q, none⟩ = some (.int .i64 L[q])
/-- Behind the way down. -/
def DnR (base f sb bx bf bv bd N : Nat) (X0 : List Spot) (nm : List Int) (fin : Nat → Nod) (KV : Nat → Value) (rv : Value) (R : List Int) (V : Nat → Prop) (K : Nat → List Int) (L : List Int) (w w' : World) : Prop := ∃ V' X' K', Dn base f sb bx bf bv bd N X0 nm fin KV rv R V' w' X' K' ∧ (∀ i, i < N → (V' i ↔ V i ∨ ∃ x ∈ L, Desc nm x.toNat i)) ∧ (∀ i, i < N → V i → K' i = K i) ∧ Upd (GrW sb KV N) w w'
theorem Dn.upd {base f sb bx bf bv bd N : Nat} {X0 : List Spot} {nm : List Int} {dp : Nat → Nat} {fin : Nat → Nod} {KV : Nat → Value} {rv : Value} {R : List Int} {V V' : Nat → Prop} {w w' : World} {X X' : List Spot} {K K' : Nat → List Int} (G : Grow base f sb bx bf bv bd N X0 nm dp fin KV) (h : Dn base f sb bx bf bv bd N X0 nm fin KV rv R V w X K) (hg : GrS base f sb X0 nm fin KV rv R (Hof nm V') V' w' X' K') (hup : ∀ i, i < N → V' i → nm.getD i (-1) ≠ -1 → V' (nm.getD i (-1)).toNat) (hu : Upd (GrW sb KV N) w w') : Dn base f sb bx bf bv bd N X0 nm fin KV rv R V' w' X' K' :=
  ⟨hg, hup, h.box.upd hu G.xf G.xv G.xd, cell_upd hu h.bx G.xx⟩
/-- One visit, in the way down. -/
theorem visit_dn {base f sb bx bf bv bd N : Nat} {X0 : List Spot} {nm : List Int} {dp : Nat → Nat} {fin : Nat → Nod} {KV : Nat → Value} {rv : Value} {R : List Int} {V : Nat → Prop} {w : World} {X : List Spot} {K : Nat → List Int} (G : Grow base f sb bx bf bv bd N X0 nm dp fin KV) (h : Dn base f sb bx bf bv bd N X0 nm fin KV rv R V w X K) {x : Nat} (hx : x < N) (hV : ¬ V x) (hp : nm.getD x (-1) ≠ -1 → V (nm.getD x (-1)).toNat) :
    Calls Tryz.prog 53 #[.pointer (some ⟨sb, x * 21, none⟩), .pointer (some ⟨bx, 0, none⟩)] w fun e w' => e = .returned (.bool true) ∧ ∃ X' K', Dn base f sb bx bf bv bd N X0 nm fin KV rv R (fun i => V i ∨ i = x) w' X' K' ∧ (∀ i, V i → K' i = K i) ∧ Upd (GrW sb KV N) w w' := by
  have hl := h.g.len
  have hn := G.n
  have hnd : (X[x]'(by omega)).nd = fin x := by
    by_cases hnn : nm.getD x (-1) = -1
    · rw [h.g.nd1 x (by omega) hnn, (G.sh.rt x (by omega) hnn).2]
    · exact h.g.nd2 x (by omega) hnn ⟨hnn, hp hnn⟩
  refine (visit_any base f sb bx x N X0 nm dp fin KV rv R _ V w X K h.g G.sh hn G.l h.bx G.xx hx hV (fun i hi hix hh => ?_) hnd).mono ?_
  · have := hh.2
    rw [hix] at this
    exact hV (by simpa using this)
  · rintro e w' ⟨rfl, X', K', hG, hK, hu⟩
    refine ⟨rfl, X', K', h.upd G (hG.cast (fun i hi => ?_) (fun i hi => Iff.rfl)) (fun i hi hv hne => ?_) hu, hK, hu⟩
    · unfold Hof
      constructor
      · rintro (⟨h1, h2⟩ | h1)
        · exact ⟨h1, Or.inl h2⟩
        · exact ⟨by rw [h1]; omega, Or.inr (by rw [h1]; simp)⟩
      · rintro ⟨h1, h2 | h2⟩
        · exact Or.inl ⟨h1, h2⟩
        · have := G.hr i hi h1
          exact Or.inr (by omega)
    · rcases hv with hv | hv
      · exact Or.inl (h.up i hi hv hne)
      · subst hv; exact Or.inl (hp hne)
/-- The row of a spot that was visited can be read. -/
theorem rd_kids {base f sb : Nat} {X0 : List Spot} {nm : List Int} {fin : Nat → Nod} {KV : Nat → Value} {rv : Value} {R : List Int} {V : Nat → Prop} {K : Nat → List Int} {x : Nat} (hx : x < X0.length) (hV : V x) {ad : Option Addr} {cap : Nat} (hk : KV x = .slice ad (K x).length cap) : Rd base f sb X0 nm fin KV rv R V K ad (K x) := fun H1 V1 W X1 K1 hG hK q hq => by
  obtain ⟨ad', cap', hkv', hc⟩ := hG.kid_cell (x := x) hx
  have e := hK x hx hV
  obtain ⟨g, h1, h2⟩ := hc q (by rw [e]; exact hq)
  rw [hk] at hkv'
  injection hkv' with e1
  simp only [e] at h2
  exact ⟨g, e1.trans h1, h2⟩
theorem rd_roots {base f sb : Nat} {X0 : List Spot} {nm : List Int} {fin : Nat → Nod} {KV : Nat → Value} {R : List Int} {V : Nat → Prop} {K : Nat → List Int} {ad : Option Addr} {cap : Nat} : Rd base f sb X0 nm fin KV (.slice ad R.length cap) R V K ad R := fun H1 V1 W X1 K1 hG _ q hq => by
  have ho := hG.at_.roots
  rcases ho.2 with ⟨h1, h2⟩ | ⟨g, cap', cur, h1, _, hh, _, _, _, ht⟩
  · omega
  · simp at h1
    refine ⟨g, h1.1, ?_⟩
    have h3 : (cur.toList.take (R.length * 1))[q]? = (R.map (Value.int .i64))[q]? := by rw [ht]
    rw [List.getElem?_take_of_lt (by omega)] at h3
    simp only [World.cell?, hh]
    simpa [hq] using h3
/-- A spot and all that is beneath it. -/
theorem down_one {base f sb bx bf bv bd N : Nat} {X0 : List Spot} {nm : List Int} {dp : Nat → Nat} {fin : Nat → Nod} {KV : Nat → Value} {rv : Value} {R : List Int} {V : Nat → Prop} {w1 w2 : World} {x lv : Nat} {X1 : List Spot} {K K1 : Nat → List Int} (G : Grow base f sb bx bf bv bd N X0 nm dp fin KV) (hx : x < N) (hlv : dp x = lv) (hV : ¬ V x) (hup : ∀ i, i < N → V i → nm.getD i (-1) ≠ -1 → V (nm.getD i (-1)).toNat)
    (h1 : Dn base f sb bx bf bv bd N X0 nm fin KV rv R (fun i => V i ∨ i = x) w1 X1 K1) (hK1 : ∀ i, i < N → V i → K1 i = K i) :
    Lev N nm dp (fun i => V i ∨ i = x) (lv + 1) (K1 x) ∧ (∃ ad cap, KV x = .slice ad (K1 x).length cap ∧ w1.cell? ⟨sb, x * 21 + 20, none⟩ = some (.slice ad (K1 x).length cap) ∧ Rd base f sb X0 nm fin KV rv R (fun i => V i ∨ i = x) K1 ad (K1 x)) ∧ (DnR base f sb bx bf bv bd N X0 nm fin KV rv R (fun i => V i ∨ i = x) K1 (K1 x) w1 w2 → ∃ V' X' K', Dn base f sb bx bf bv bd N X0 nm fin KV rv R V' w2 X' K' ∧ (∀ i, i < N → (V' i ↔ V i ∨ Desc nm x i)) ∧ (∀ i, i < N → V i → K' i = K i) ∧ Upd (GrW sb KV N) w1 w2) := by
  have hn := G.n
  have hpm := (h1.g.kv x (by omega) (Or.inr rfl)).1
  refine ⟨⟨fun y hy => ?_, hpm.nodup_iff.1 (kidsF_nodup _ _ _)⟩, ?_, ?_⟩
  · obtain ⟨c, rfl, hc, hcx⟩ := kidsF_iff.1 (hpm.mem_iff.2 hy)
    have hd := (G.sh.kd c x hc (by omega) hcx).1
    refine ⟨c, rfl, by omega, by omega, ?_, fun _ => Or.inr (by rw [hcx]; simp)⟩
    rintro (hh | hh)
    · have := hup c (by omega) hh (by rw [hcx]; omega)
      rw [hcx] at this
      exact hV (by simpa using this)
    · subst hh; omega
  · obtain ⟨ad, cap, hk, _⟩ := h1.g.kid_cell (x := x) (by omega)
    refine ⟨ad, cap, hk, ?_, rd_kids (by omega) (Or.inr rfl) hk⟩
    have hl := h1.g.len
    rw [← hk, ← (h1.g.same x (by omega)).2.2]
    exact (h1.g.at_.row.spots x (by omega)).c20
  · rintro ⟨V', X', K', hD, hV', hK', hu⟩
    refine ⟨V', X', K', hD, fun i hi => ?_, fun i hi hv => (hK' i hi (Or.inl hv)).trans (hK1 i hi hv), hu⟩
    rw [hV' i hi]
    constructor
    · rintro ((hh | hh) | ⟨y, hy, hd⟩)
      · exact Or.inl hh
      · subst hh; exact Or.inr (desc_refl nm i)
      · obtain ⟨c, rfl, hc, hcx⟩ := kidsF_iff.1 (hpm.mem_iff.2 hy)
        simp only [Int.toNat_natCast] at hd
        obtain ⟨k, hk⟩ := hd
        have hk2 : ancN nm (k + 1) i = (x : Int) ∨ True := Or.inr trivial
        refine Or.inr ?_
        have key : ∀ k i, ancN nm k i = (c : Int) → Desc nm x i := by
          intro k
          induction k with
          | zero =>
            intro i h
            rw [ancN] at h
            obtain rfl : i = c := by omega
            exact desc_up hcx (desc_refl nm x)
          | succ k ih =>
            intro i h
            rw [ancN] at h
            by_cases hnn : nm.getD i (-1) = -1
            · rw [if_pos hnn] at h; omega
            · rw [if_neg hnn] at h
              obtain ⟨m, hm⟩ := ih _ h
              exact ⟨m + 1, by rw [ancN, if_neg hnn]; exact hm⟩
        exact key k i hk
    · rintro (hh | hh)
      · exact Or.inl (Or.inl hh)
      · by_cases e : i = x
        · exact Or.inl (Or.inr e)
        · obtain ⟨k, hk⟩ := hh
          obtain ⟨c, hc1, hc2, hc3⟩ := desc_kid G.sh G.hr (by omega) k i (by omega) hk e
          exact Or.inr ⟨(c : Int), hpm.mem_iff.1 (kidsF_iff.2 ⟨c, rfl, hc1, hc2⟩), by simpa using hc3⟩
end Go.Proofs.YtbefeobikjnlpaaGreatDoor
