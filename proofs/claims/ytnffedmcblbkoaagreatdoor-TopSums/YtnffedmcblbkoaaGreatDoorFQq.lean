/-
  Merged: FQ, FR.
-/
import Derived.Test.YtnffedmcblbkoaaGreatDoorFIq
import Derived.Test.YtnffedmcblbkoaaGreatDoorFSq
namespace Go.Proofs.YtnffedmcblbkoaaGreatDoor
open Go Go.RowKit
set_option maxRecDepth 100000
structure Shape (X0 : List Spot) (nm : List Int) (dp : Nat → Nat) (fin : Nat → Nod) : Prop where
 rt : ∀ i (h : i < X0.length), nm.getD i (-1) = -1 → dp i = 0 ∧ fin i = rootN X0[i]
 kd : ∀ i j (hi : i < X0.length) (_ : j < X0.length), nm.getD i (-1) = (j : Int) → dp i = dp j + 1 ∧ fin i = hangN X0[i] (fin j)
 bd : ∀ i, i < X0.length → dp i ≤ 1000 ∧ 0 ≤ (fin i).dep ∧ (fin i).dep ≤ 1000000
structure GrS (base f sb : Nat) (X0 : List Spot) (nm : List Int) (fin : Nat → Nod) (KV : Nat → Value) (rv : Value) (R : List Int) (H V : Nat → Prop) (w : World) (X : List Spot) (K : Nat → List Int) : Prop where
 at_ : PlAt base w f sb X K rv R
 len : X.length = X0.length
 same : ∀ i (h : i < X0.length), (X[i]'(by omega)).a = X0[i].a ∧ (X[i]'(by omega)).p = X0[i].p ∧ (X[i]'(by omega)).kv = KV i
 nd1 : ∀ i (h : i < X0.length), nm.getD i (-1) = -1 → (X[i]'(by omega)).nd = rootN X0[i]
 nd2 : ∀ i (h : i < X0.length), nm.getD i (-1) ≠ -1 → H i → (X[i]'(by omega)).nd = fin i
 nd3 : ∀ i (h : i < X0.length), nm.getD i (-1) ≠ -1 → ¬ H i → (X[i]'(by omega)).nd = X0[i].nd
 kv : ∀ i, i < X0.length → V i → (kidsF nm X0.length i).Perm (K i) ∧ (K i).Pairwise (fun a b => ¬ ltK (fin b.toNat) (fin a.toNat))
 kn : ∀ i, i < X0.length → ¬ V i → K i = kidsF nm X0.length i
def GrW (sb : Nat) (KV : Nat → Value) (n : Nat) (k : Nat) : Prop := k = sb ∨ ∃ i, i < n ∧ (KV i).ownBlock = some k
theorem GrS.hang {base f sb : Nat} {X0 : List Spot} {nm : List Int} {fin : Nat → Nod} {KV : Nat → Value} {rv : Value} {R : List Int} {H V : Nat → Prop} {w w' : World} {X : List Spot} {K : Nat → List Int} (h : GrS base f sb X0 nm fin KV rv R H V w X K) {c : Nat} (hc : c < X.length) (d : Nod) (hd : nm.getD c (-1) ≠ -1) (hf : fin c = hangN (X0[c]'(by have := h.len; omega)) d) (hn : ¬ H c) (hB : Blk w' sb (rowS (X.set c (hangS X[c] d))) 104) (hu : Upd (fun k => k = sb) w w') : GrS base f sb X0 nm fin KV rv R (fun i => H i ∨ i = c) V w' (X.set c (hangS X[c] d)) K := by
 have hl := h.len
 have hg : ∀ i (hi : i < X0.length), i ≠ c → ((X.set c (hangS X[c] d))[i]'(by simp; omega)) = (X[i]'(by omega)) := fun i hi hne => by rw [List.getElem_set_ne (fun e => hne e.symm)]
 refine ⟨h.at_.spot hc _ rfl hB hu, by simp [hl], fun i hi => ?_, fun i hi h1 => ?_, fun i hi h1 h2 => ?_, fun i hi h1 h2 => ?_, h.kv, h.kn⟩
 ·by_cases e : i = c
  ·subst e; simp only [List.getElem_set_self]; exact h.same i hi
  ·rw [hg i hi e]; exact h.same i hi
 ·by_cases e : i = c
  ·subst e; exact absurd h1 hd
  ·rw [hg i hi e]; exact h.nd1 i hi h1
 ·by_cases e : i = c
  ·subst e
   simp only [List.getElem_set_self]
   rw [hf]
   show hangN X[i] d = _
   unfold hangN
   rw [h.nd3 i hi hd hn, (h.same i hi).1]
  ·rw [hg i hi e]
   rcases h2 with h2 | h2
   ·exact h.nd2 i hi h1 h2
   ·exact absurd h2 e
 ·have e : i ≠ c := fun e => h2 (Or.inr e)
  rw [hg i hi e]
  exact h.nd3 i hi h1 (fun hh => h2 (Or.inl hh))
theorem GrS.sorted {base f sb : Nat} {X0 : List Spot} {nm : List Int} {fin : Nat → Nod} {KV : Nat → Value} {rv : Value} {R : List Int} {H V : Nat → Prop} {w w' : World} {X : List Spot} {K : Nat → List Int} (h : GrS base f sb X0 nm fin KV rv R H V w X K) {x : Nat} (hx : x < X.length) (hv : ¬ V x) (L : List Int) (hp : (K x).Perm L) (hs : L.Pairwise (fun a b => ¬ ltK (fin b.toNat) (fin a.toNat))) (ho : w'.ownsRow base 3 1 X[x].kv L.length (L.map (Value.int .i64))) (hu : Upd (fun k => X[x].kv.ownBlock = some k) w w') : GrS base f sb X0 nm fin KV rv R H (fun i => V i ∨ i = x) w' X (fun i => if i = x then L else K i) := by
 have hl := h.len
 have A := h.at_
 have hlt := fun g (e : X[x].kv.ownBlock = some g) => owns_lt (A.kids x hx) e
 refine ⟨⟨A.head.upd hu (fun e => by have := (hlt _ e).1; have := A.fb; omega), A.row.upd hu (fun e => by have := (hlt _ e).1; have := A.sbb; omega), A.fb, A.sbb, A.ne, Nat.le_trans A.le hu.size, ownsRow_upd A.roots hu (fun k e hh => A.apartR x hx k e hh), fun i hi => ?_, A.apart, A.apartR⟩, hl, h.same, h.nd1, h.nd2, h.nd3, fun i hi h1 => ?_, fun i hi h1 => ?_⟩
 ·by_cases e : i = x
  ·subst e; simp only [if_true]; exact ho
  ·simp only [e, if_false]
   exact ownsRow_upd (A.kids i hi) hu (fun k e1 hh => A.apart x i hx hi (fun e' => e e'.symm) k hh e1)
 ·by_cases e : i = x
  ·subst e
   simp only [if_true]
   refine ⟨?_, hs⟩
   rw [← h.kn i hi hv]
   exact hp
  ·simp only [e, if_false]
   rcases h1 with h1 | h1
   ·exact h.kv i hi h1
   ·exact absurd h1 e
 ·have e : i ≠ x := fun e => h1 (Or.inr e)
  simp only [e, if_false]
  exact h.kn i hi (fun hh => h1 (Or.inl hh))
theorem GrS.upd {S : Nat → Prop} {base f sb : Nat} {X0 : List Spot} {nm : List Int} {fin : Nat → Nod} {KV : Nat → Value} {rv : Value} {R : List Int} {H V : Nat → Prop} {w w' : World} {X : List Spot} {K : Nat → List Int} (h : GrS base f sb X0 nm fin KV rv R H V w X K) (hu : Upd S w w') (h1 : ¬ S f) (h2 : ¬ S sb) (h3 : ∀ g, rv.ownBlock = some g → ¬ S g) (h4 : ∀ i (hi : i < X.length) g, X[i].kv.ownBlock = some g → ¬ S g) : GrS base f sb X0 nm fin KV rv R H V w' X K :=
 ⟨h.at_.upd hu h1 h2 h3 h4, h.len, h.same, h.nd1, h.nd2, h.nd3, h.kv, h.kn⟩
theorem GrS.below {base f sb : Nat} {X0 : List Spot} {nm : List Int} {fin : Nat → Nod} {KV : Nat → Value} {rv : Value} {R : List Int} {H V : Nat → Prop} {w w' : World} {X : List Spot} {K : Nat → List Int} (h : GrS base f sb X0 nm fin KV rv R H V w X K) (hb : Below w.heap.size w w') : GrS base f sb X0 nm fin KV rv R H V w' X K :=
 h.upd (S := fun _ => False) (Upd.ofBelow hb (fun k h1 h2 => by omega)) (fun h => h) (fun h => h) (fun _ _ h => h) (fun _ _ _ _ h => h)
theorem GrS.cast {base f sb : Nat} {X0 : List Spot} {nm : List Int} {fin : Nat → Nod} {KV : Nat → Value} {rv : Value} {R : List Int} {H H' V V' : Nat → Prop} {w : World} {X : List Spot} {K : Nat → List Int} (h : GrS base f sb X0 nm fin KV rv R H V w X K) (hH : ∀ i, i < X0.length → (H i ↔ H' i)) (hV : ∀ i, i < X0.length → (V i ↔ V' i)) : GrS base f sb X0 nm fin KV rv R H' V' w X K :=
 ⟨h.at_, h.len, h.same, h.nd1, fun i hi a b => h.nd2 i hi a ((hH i hi).2 b), fun i hi a b => h.nd3 i hi a (fun hh => b ((hH i hi).1 hh)), fun i hi a => h.kv i hi ((hV i hi).2 a), fun i hi a => h.kn i hi (fun hh => a ((hV i hi).1 hh))⟩
theorem kidsF_iff {nm : List Int} {n : Nat} {j x : Int} : x ∈ kidsF nm n j ↔ ∃ i : Nat, x = i ∧ i < n ∧ nm.getD i (-1) = j := by
 unfold kidsF
 simp only [List.mem_map, List.mem_filter, List.mem_range, beq_iff_eq]
 constructor
 ·rintro ⟨i, ⟨h1, h2⟩, rfl⟩; exact ⟨i, rfl, h1, h2⟩
 ·rintro ⟨i, rfl, h1, h2⟩; exact ⟨i, ⟨h1, h2⟩, rfl⟩
theorem kidsF_nodup (nm : List Int) (n : Nat) (j : Int) : (kidsF nm n j).Nodup := by
 unfold kidsF
 have h : (List.filter (fun i => nm.getD i (-1) == j) (List.range n)).Nodup := List.Nodup.sublist List.filter_sublist List.nodup_range
 unfold List.Nodup at h ⊢
 rw [List.pairwise_map]
 exact h.imp (fun hne e => hne (by omega))
structure Vis (f sb bx x N : Nat) (d : Nod) (w : World) : Prop where
 all : w.cell? ⟨bx, 0, none⟩ = some (.pointer (some ⟨f, 0, none⟩)) ∧ w.cell? ⟨f, 0, none⟩ = some (.slice (some ⟨sb, 0, none⟩) N N) ∧ w.cell? ⟨sb, x * 21 + 13, none⟩ = some (.int .u64 d.id) ∧ w.cell? ⟨sb, x * 21 + 13 + 1, none⟩ = some (.int .u64 d.par) ∧ w.cell? ⟨sb, x * 21 + 13 + 2, none⟩ = some (.int .i64 d.org) ∧ w.cell? ⟨sb, x * 21 + 13 + 3, none⟩ = some (.int .u64 d.tree) ∧ w.cell? ⟨sb, x * 21 + 13 + 4, none⟩ = some (.int .i64 d.dep) ∧ w.cell? ⟨sb, x * 21 + 13 + 5, none⟩ = some (.int .i64 d.fr) ∧ w.cell? ⟨sb, x * 21 + 13 + 6, none⟩ = some (.int .i64 d.til)
theorem GrS.kid_cell {base f sb : Nat} {X0 : List Spot} {nm : List Int} {fin : Nat → Nod} {KV : Nat → Value} {rv : Value} {R : List Int} {H V : Nat → Prop} {w : World} {X : List Spot} {K : Nat → List Int} (h : GrS base f sb X0 nm fin KV rv R H V w X K) {x : Nat} (hx : x < X0.length) : ∃ ad cap, KV x = .slice ad (K x).length cap ∧ ∀ q (hq : q < (K x).length), ∃ g, ad = some ⟨g, 0, none⟩ ∧ w.cell? ⟨g, q, none⟩ = some (.int .i64 (K x)[q]) := by
 have hx' : x < X.length := by rw [h.len]; exact hx
 have ho := h.at_.kids x hx'
 rw [(h.same x hx).2.2] at ho
 obtain ⟨ad, cap, hv⟩ := owns_slice ho
 refine ⟨ad, cap, hv, fun q hq => ?_⟩
 rw [hv] at ho
 rcases ho.2 with ⟨h1, h2⟩ | ⟨g, cap', cur, h1, _, hh, _, _, _, ht⟩
 ·omega
 ·simp at h1
  refine ⟨g, h1.1, ?_⟩
  have h3 : (cur.toList.take ((K x).length * 1))[q]? = ((K x).map (Value.int .i64))[q]? := by rw [ht]
  rw [List.getElem?_take_of_lt (by omega)] at h3
  simp only [World.cell?, hh]
  simpa [hq] using h3
set_option maxHeartbeats 8000000 in
theorem visit_any (base f sb bx x N : Nat) (X0 : List Spot) (nm : List Int) (dp : Nat → Nat) (fin : Nat → Nod) (KV : Nat → Value) (rv : Value) (R : List Int) (H V : Nat → Prop) (w : World) (X : List Spot) (K : Nat → List Int) (hG : GrS base f sb X0 nm fin KV rv R H V w X K) (sh : Shape X0 nm dp fin) (hN : X0.length = N) (hl : N ≤ 1000) (hbx : w.cell? ⟨bx, 0, none⟩ = some (.pointer (some ⟨f, 0, none⟩))) (hbW : ¬ GrW sb KV N bx) (hx : x < N) (hV : ¬ V x) (hH : ∀ i, i < N → nm.getD i (-1) = x → ¬ H i) (hnd : (X[x]'(by have := hG.len; omega)).nd = fin x) :
  Calls Tryz.prog 91 #[.pointer (some ⟨sb, x * 21, none⟩), .pointer (some ⟨bx, 0, none⟩)] w fun e w' => e = .returned (.bool true) ∧ ∃ X' K', GrS base f sb X0 nm fin KV rv R (fun i => H i ∨ nm.getD i (-1) = x) (fun i => V i ∨ i = x) w' X' K' ∧ (∀ i, V i → K' i = K i) ∧ Upd (GrW sb KV N) w w' := by
 have hKx : K x = kidsF nm N x := by rw [← hN]; exact hG.kn x (by omega) hV
 have hxX : x < X.length := by have := hG.len; omega
 obtain ⟨ad, cap, hkv, _⟩ := hG.kid_cell (x := x) (by omega)
 rw [hKx] at hkv
 have e20 : w.cell? ⟨sb, x * 21 + 20, none⟩ = some (.slice ad (kidsF nm N x).length cap) := by
  rw [← hkv, ← (hG.same x (by omega)).2.2]
  exact (hG.at_.row.spots x hxX).c20
 have hlen : (kidsF nm N x).length ≤ 1000 := Nat.le_trans (kidsF_len _ _ _) hl
 have VIS : Hid (∀ W X1 (H1 : Nat → Prop), GrS base f sb X0 nm fin KV rv R H1 V W X1 K → (hx1 : x < X1.length) → X1[x].nd = fin x → Upd (GrW sb KV N) w W → Vis f sb bx x N (fin x) W) := fun W X1 H1 hG1 hx1 hn1 hu => by
  have hb1 : W.cell? ⟨bx, 0, none⟩ = some (.pointer (some ⟨f, 0, none⟩)) := by
   have := hu.block bx (World.block_lt_of_cell? w _ hbx) hbW
   simp only [World.cell?, this] at hbx ⊢; exact hbx
  have s := hG1.at_.row.spots x hx1
  have c0 := hG1.at_.head.cell 0 rfl
  rw [hG1.len, hN] at c0
  rw [← hn1]
  exact ⟨hb1, c0, s.c13, s.c14, s.c15, s.c16, s.c17, s.c18, s.c19⟩
 have HANG : Hid (∀ W X1 (H1 : Nat → Prop) (q : Nat) (hq : q < (kidsF nm N x).length) (c : Nat), GrS base f sb X0 nm fin KV rv R H1 V W X1 K → (∀ i, H1 i ↔ (H i ∨ (i : Int) ∈ (kidsF nm N x).take q)) → (kidsF nm N x)[q] = (c : Int) → (hx1 : x < X1.length) → X1[x].nd = fin x → c < N ∧ Calls Tryz.prog 92 #[.pointer (some ⟨sb, c * 21, none⟩), ndV (fin x)] W fun e w' => e = .returned (.tuple #[]) ∧ (∃ X2, GrS base f sb X0 nm fin KV rv R (fun i => H1 i ∨ i = c) V w' X2 K ∧ ∃ hx2 : x < X2.length, X2[x].nd = fin x) ∧ Upd (fun k => k = sb) W w') := fun W X1 H1 q hq c hG1 hH1 hc hx1 hn1 => by
  have hmem : (c : Int) ∈ kidsF nm N x := by rw [← hc]; exact List.getElem_mem hq
  obtain ⟨c', e, hcN, hcx⟩ := kidsF_iff.1 hmem
  obtain rfl : c' = c := by omega
  have hl1 := hG1.len
  have hkd := sh.kd c' x (by omega) (by omega) hcx
  have hne : c' ≠ x := fun e => by subst e; have := hkd.1; omega
  have hnH : ¬ H1 c' := fun hh => by
   rcases (hH1 c').1 hh with h1 | h1
   ·exact hH c' hcN hcx h1
   ·have hnd := kidsF_nodup nm N x
    obtain ⟨p, hp, hpe⟩ := List.getElem_of_mem h1
    rw [List.getElem_take] at hpe
    have hpq : p < q := by simp at hp; omega
    have := (List.pairwise_iff_getElem.1 hnd) p q (by omega) hq hpq
    exact this (by rw [hpe, hc])
  refine ⟨hcN, (hang_any sb c' X1 (fin x) W hG1.at_.row (by omega) (sh.bd x (by omega)).2).mono ?_⟩
  rintro e w' ⟨rfl, hB, hu⟩
  refine ⟨rfl, ⟨_, hG1.hang (by omega) (fin x) (by rw [hcx]; omega) hkd.2 hnH hB hu, by simp; omega, ?_⟩, hu⟩
  rw [List.getElem_set_ne hne]
  exact hn1
 have SORT : Hid (∀ W X1 (H1 : Nat → Prop), GrS base f sb X0 nm fin KV rv R H1 V W X1 K → (∀ i, H1 i ↔ (H i ∨ (i : Int) ∈ kidsF nm N x)) → Calls Tryz.prog 89 #[.pointer (some ⟨f, 0, none⟩), .slice ad (kidsF nm N x).length cap] W fun e w' => e = .returned (.tuple #[]) ∧ (∃ X' K', GrS base f sb X0 nm fin KV rv R (fun i => H i ∨ nm.getD i (-1) = x) (fun i => V i ∨ i = x) w' X' K' ∧ ∀ i, V i → K' i = K i) ∧ Upd (GrW sb KV N) W w') := fun W X1 H1 hG1 hH1 => by
  have hl1 := hG1.len
  have hx1 : x < X1.length := by omega
  have hk1 : X1[x].kv = .slice ad (kidsF nm N x).length cap := by rw [(hG1.same x (by omega)).2.2]; exact hkv
  have ho := hG1.at_.kids x hx1
  rw [hk1, hKx] at ho
  have c0 := hG1.at_.head.cell 0 rfl
  refine (sort_any f sb base X1 _ _ (kidsF nm N x) W c0 hG1.at_.row ho (fun y hy => by have := kidsF_mem hy; omega) hlen (fun e => by have := (owns_lt ho e).1; have := hG1.at_.fb; omega) (fun e => by have := (owns_lt ho e).1; have := hG1.at_.sbb; omega)).mono ?_
  rintro e w' ⟨rfl, L', hp, hs, ho', hu⟩
  have hlen' : L'.length = (kidsF nm N x).length := hp.length_eq.symm
  refine ⟨rfl, ⟨X1, _, (hG1.sorted hx1 hV L' (by rw [hKx]; exact hp) ?_ (by rw [hk1, hlen']; exact ho') (by rw [hk1]; exact hu)).cast (fun i hi => ?_) (fun i hi => Iff.rfl), fun i hi => if_neg (fun (e : i = x) => hV (by rw [← e]; exact hi))⟩, hu.mono (fun k _ e => Or.inr ⟨x, hx, by rw [hkv]; exact e⟩)⟩
  ·refine List.Pairwise.imp_of_mem ?_ hs
   intro a b ha hb hab
   have ha' := kidsF_iff.1 (hp.mem_iff.2 ha)
   have hb' := kidsF_iff.1 (hp.mem_iff.2 hb)
   obtain ⟨i, rfl, hi, hix⟩ := ha'
   obtain ⟨j, rfl, hj, hjx⟩ := hb'
   have hab' := hab (by simp; omega) (by simp; omega)
   have h1 : (X1[i]'(by omega)).nd = fin i := hG1.nd2 i (by omega) (by rw [hix]; omega) ((hH1 i).2 (Or.inr (kidsF_iff.2 ⟨i, rfl, hi, hix⟩)))
   have h2 : (X1[j]'(by omega)).nd = fin j := hG1.nd2 j (by omega) (by rw [hjx]; omega) ((hH1 j).2 (Or.inr (kidsF_iff.2 ⟨j, rfl, hj, hjx⟩)))
   simp only [Int.toNat_natCast] at hab' ⊢
   rw [h1, h2] at hab'
   exact hab'
  ·rw [hH1 i]
   refine or_congr Iff.rfl ?_
   rw [kidsF_iff]
   constructor
   ·rintro ⟨j, e, _, h2⟩
    obtain rfl : i = j := by omega
    exact h2
   ·intro h2
    exact ⟨i, rfl, by omega, h2⟩
 have KC : Hid (∀ W X1 (H1 : Nat → Prop), GrS base f sb X0 nm fin KV rv R H1 V W X1 K → ∀ q (hq : q < (kidsF nm N x).length), ∃ g, ad = some ⟨g, 0, none⟩ ∧ W.cell? ⟨g, q, none⟩ = some (.int .i64 (kidsF nm N x)[q])) := fun W X1 H1 hG1 q hq => by
  obtain ⟨ad', cap', hkv', hc⟩ := hG1.kid_cell (x := x) (by omega)
  rw [hkv] at hkv'
  obtain ⟨g, h1, h2⟩ := hc q (by rw [hKx]; exact hq)
  simp only [hKx] at h2
  injection hkv' with e1
  exact ⟨g, e1.trans h1, h2⟩
 have G0 : Hid (∃ X1, GrS base f sb X0 nm fin KV rv R (fun i => H i ∨ (i : Int) ∈ (kidsF nm N x).take 0) V w X1 K ∧ ∃ hx1 : x < X1.length, X1[x].nd = fin x) := ⟨X, hG.cast (fun i hi => by simp) (fun i hi => Iff.rfl), hxX, hnd⟩
 obtain ⟨m, hm⟩ : ∃ m, (kidsF nm N x).length = m := ⟨_, rfl⟩
 have HM : Hid ((kidsF nm N x).length = m) := hm
 have HXN : Hid (x < N) := hx
 have hbxl : Hid (bx < w.heap.size) := World.block_lt_of_cell? w _ hbx
 rw [hm] at e20 hlen SORT hkv
 have HKV : Hid (KV x = .slice ad m cap) := hkv
 clear hG sh hH hnd hV hKx hkv hm hbW
 go_enter Tryz.func91, Tryz.ntmps91
 go_wp2
 go_loopw [11] (fun y wr => ∃ (q : Nat) (X1 : List Spot), y = .int .i64 q ∧ q ≤ m ∧ GrS base f sb X0 nm fin KV rv R (fun i => H i ∨ (i : Int) ∈ (kidsF nm N x).take q) V wr X1 K ∧ (∃ hx1 : x < X1.length, X1[x].nd = fin x) ∧ Upd (GrW sb KV N) w wr) (fun y _ => m - (intOf y).toNat)
 case atStart =>
  obtain ⟨X1, h1, h2⟩ := G0.out
  exact ⟨0, X1, rfl, by omega, h1, h2, Upd.refl _ _⟩
 case round =>
  obtain ⟨q, X1, rfl, hqm, hG1, ⟨hx1, hn1⟩, hU⟩ := hrel
  obtain ⟨v0, v1, v2, v3, v4, v5, v6, v7, v8⟩ := (VIS.out wr X1 _ hG1 hx1 hn1 hU).all
  have HG1 : Hid (GrS base f sb X0 nm fin KV rv R (fun i => H i ∨ (i : Int) ∈ (kidsF nm N x).take q) V wr X1 K) := hG1
  have HU : Hid (Upd (GrW sb KV N) w wr) := hU
  have HX1 : Hid (∃ hx1 : x < X1.length, X1[x].nd = fin x) := ⟨hx1, hn1⟩
  by_cases hlt : q < m
  ·have hq : q < (kidsF nm N x).length := by rw [HM.out]; exact hlt
   obtain ⟨g, rfl, gc⟩ := KC.out wr X1 _ hG1 q hq
   have hmem := kidsF_mem (List.getElem_mem hq)
   obtain ⟨c, hc⟩ : ∃ c : Nat, (kidsF nm N x)[q] = (c : Int) := ⟨((kidsF nm N x)[q]).toNat, by omega⟩
   obtain ⟨hcN, HA⟩ := HANG.out wr.drew X1 _ q hq c (hG1.below ((Below.refl _ _).drew)) (fun i => Iff.rfl) hc hx1 hn1
   have HTK : Hid (∀ i : Nat, (H i ∨ (i : Int) ∈ (kidsF nm N x).take q) ∨ i = c ↔ (H i ∨ (i : Int) ∈ (kidsF nm N x).take (q + 1))) := fun i => by
    rw [List.take_succ_eq_append_getElem hq, List.mem_append, hc]
    simp only [List.mem_singleton]
    constructor
    ·rintro ((h | h) | h)
     ·exact Or.inl h
     ·exact Or.inr (Or.inl h)
     ·exact Or.inr (Or.inr (by omega))
    ·rintro (h | h | h)
     ·exact Or.inl (Or.inl h)
     ·exact Or.inl (Or.inr h)
     ·exact Or.inr (by omega)
   rw [hc] at gc
   have HUW : Hid (∀ w', Upd (fun k => k = sb) wr.drew w' → Upd (GrW sb KV N) w w') := fun w' hu => HU.out.drew.trans hu (fun k _ e => Or.inl e)
   unfold ndV at HA
   clear hG1 hU hn1 hmem hc hx1
   go_wp2
   go_region_law (go_simp; go_at_call 92; (with_reducible refine HA.mono ?_); clear HA; rintro e w5 ⟨rfl, h5, u5⟩; have H5 : Hid _ := h5; have U5 : Hid (Upd (fun k => k = sb) wr.drew w5) := u5; clear h5 u5)
   all_goals
    go_wp2
    go_roundw
    case rel =>
     obtain ⟨X2, hG2, hx2⟩ := H5.out
     exact ⟨q + 1, X2, by simp, by omega, hG2.cast (fun i hi => HTK.out i) (fun i hi => Iff.rfl), hx2, HUW.out _ U5.out⟩
    case measure => simp [intOf]; omega
  ·obtain rfl : q = m := by omega
   have SO := SORT.out wr.drew X1 _ (hG1.below ((Below.refl _ _).drew)) (fun i => by rw [List.take_of_length_le (by rw [HM.out]; exact Nat.le_refl _)])
   have f20 : wr.cell? ⟨sb, x * 21 + 20, none⟩ = some (.slice ad q cap) := by
    rw [← HKV.out, ← (hG1.same x (by have := HXN.out; omega)).2.2]
    exact (hG1.at_.row.spots x hx1).c20
   clear hG1 hU hn1 hx1
   go_wp2
   go_region_law (go_simp; go_at_call 89; (with_reducible refine SO.mono ?_); clear SO; rintro e w5 ⟨rfl, h5, u5⟩; have H5 : Hid _ := h5; have U5 : Hid (Upd (GrW sb KV N) wr.drew w5) := u5; clear h5 u5)
   all_goals
    go_wp2
    go_ret
    obtain ⟨X', K', hG5, hK5⟩ := H5.out
    exact ⟨rfl, X', K', hG5, hK5, HU.out.drew.trans U5.out (fun _ _ h => h)⟩
end Go.Proofs.YtnffedmcblbkoaaGreatDoor
