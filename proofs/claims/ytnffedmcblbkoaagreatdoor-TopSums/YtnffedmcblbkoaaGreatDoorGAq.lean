/-
  Merged: GA, GK, GL.
-/
import Derived.Test.YtnffedmcblbkoaaGreatDoorFXq
import Derived.Test.YtnffedmcblbkoaaGreatDoorFKq
import Derived.Test.YtnffedmcblbkoaaGreatDoorFJq
namespace Go.Proofs.YtnffedmcblbkoaaGreatDoor
open Go Go.RowKit
set_option maxRecDepth 100000
def zs (Y : List Sp) : List Spot := Y.map (fun a => ⟨a, ⟨none, 0, none, 0, none, 0⟩, ndOf a, none, 0, 0⟩)
theorem zs_len (Y : List Sp) : (zs Y).length = Y.length := by simp [zs]
def Like (X Z : List Spot) : Prop := X.map (fun x => (x.a, x.nd)) = Z.map (fun x => (x.a, x.nd))
theorem Like.len {X Z : List Spot} (h : Like X Z) : X.length = Z.length := by
 have := congrArg List.length h
 simpa using this
theorem Like.get {X Z : List Spot} (h : Like X Z) (i : Nat) (h1 : i < X.length) (h2 : i < Z.length) : X[i].a = Z[i].a ∧ X[i].nd = Z[i].nd := by
 have e : (X.map (fun x => (x.a, x.nd)))[i]'(by simpa using h1) = (Z.map (fun x => (x.a, x.nd)))[i]'(by simpa using h2) := by
  have h' := h
  unfold Like at h'
  simp only [h']
 simp only [List.getElem_map, Prod.mk.injEq] at e
 exact e
theorem findIdx_map {α β : Type} (g : α → β) (p : β → Bool) : ∀ l : List α, (l.map g).findIdx? p = l.findIdx? (fun x => p (g x))
 | [] => rfl
 | x :: r => by simp [List.findIdx?_cons, findIdx_map g p r]
theorem Like.idx {X Z : List Spot} (h : Like X Z) (id : Int) : idxI X id = idxI Z id := by
 have e : X.findIdx? (fun x => x.nd.id == id) = Z.findIdx? (fun x => x.nd.id == id) := by
  have h1 := findIdx_map (fun x : Spot => (x.a, x.nd)) (fun q => q.2.id == id) X
  have h2 := findIdx_map (fun x : Spot => (x.a, x.nd)) (fun q => q.2.id == id) Z
  rw [← h1, ← h2, h]
 unfold idxI
 rw [e]
theorem Like.nm {X Z : List Spot} (h : Like X Z) : nmOf X = nmOf Z := by
 apply List.ext_getElem
 ·simp [nmOf, h.len]
 ·intro i h1 h2
  have h1' : i < X.length := by simpa [nmOf] using h1
  have h2' : i < Z.length := by simpa [nmOf] using h2
  simp only [nmOf, List.getElem_map]
  rw [(h.get i h1' h2').1, h.idx]
theorem Like.shape {X Z : List Spot} {nm : List Int} {dp : Nat → Nat} {fin : Nat → Nod} (h : Like X Z) (sh : Shape Z nm dp fin) : Shape X nm dp fin := by
 have hl := h.len
 have hroot : ∀ i (h1 : i < X.length) (h2 : i < Z.length), rootN X[i] = rootN Z[i] := fun i h1 h2 => by
  obtain ⟨e1, e2⟩ := h.get i h1 h2
  unfold rootN
  rw [e1, e2]
 have hhang : ∀ i (h1 : i < X.length) (h2 : i < Z.length) d, hangN X[i] d = hangN Z[i] d := fun i h1 h2 d => by
  obtain ⟨e1, e2⟩ := h.get i h1 h2
  unfold hangN
  rw [e1, e2]
 refine ⟨fun i hi hn => ?_, fun i j hi hj hn => ?_, fun i hi => sh.bd i (by omega)⟩
 ·rw [hroot i hi (by omega)]; exact sh.rt i (by omega) hn
 ·rw [hhang i hi (by omega)]; exact sh.kd i j (by omega) (by omega) hn
theorem nm_range (X : List Spot) : ∀ i, i < X.length → (nmOf X).getD i (-1) ≠ -1 → 0 ≤ (nmOf X).getD i (-1) ∧ (nmOf X).getD i (-1) < X.length := fun i hi hn => by
 have e : (nmOf X).getD i (-1) = idxI X X[i].a.par := by simp [nmOf, hi]
 rw [e] at hn ⊢
 have := idx_range X X[i].a.par
 omega
theorem Shape.id {X : List Spot} {dp : Nat → Nat} {fin : Nat → Nod} (sh : Shape X (nmOf X) dp fin) (i : Nat) (hi : i < X.length) : (fin i).id = X[i].nd.id := by
 by_cases hn : (nmOf X).getD i (-1) = -1
 ·rw [(sh.rt i hi hn).2]; rfl
 ·obtain ⟨h1, h2⟩ := nm_range X i hi hn
  rw [(sh.kd i ((nmOf X).getD i (-1)).toNat hi (by omega) (by omega)).2]; rfl
structure FoR (Y : List Sp) (fin : Nat → Nod) (X : List Spot) (K : Nat → List Int) (R : List Int) : Prop where
 len : X.length = Y.length
 each : ∀ i (h : i < Y.length) (h' : i < X.length), X[i].a = Y[i] ∧ X[i].nd = fin i
 kids : ∀ i, i < Y.length → (kidsF (nmOf (zs Y)) Y.length i).Perm (K i) ∧ (K i).Pairwise (fun a b => ¬ ltK (fin b.toNat) (fin a.toNat))
 roots : (kidsF (nmOf (zs Y)) Y.length (-1)).Perm R ∧ R.Pairwise (fun a b => ¬ ltK (fin b.toNat) (fin a.toNat))
theorem owns_holds {w : World} {base : Nat} {v : Value} {L : List Int} (h : w.ownsRow base 3 1 v L.length (L.map (Value.int .i64))) : ∃ ad cap, v = .slice ad L.length cap ∧ HoldsV w ad L.length (intsV .i64 L) := by
 rcases h.2 with ⟨rfl, h0⟩ | ⟨g, cap, cur, rfl, hbg, hh, hnc, hcm, hcs, ht⟩
 ·rw [h0]
  have hL : L = [] := List.eq_nil_of_length_eq_zero h0
  subst hL
  exact ⟨none, 0, rfl, HoldsV.nil w⟩
 ·refine ⟨_, cap, rfl, by simp [intsV], fun j u hu => ⟨_, rfl, ?_⟩⟩
  have := h.cells (g := g) rfl j u hu
  exact this
set_option maxHeartbeats 1000000 in
theorem rest_ok (X Y : List Sp) (w : World) (h1 : OneT X) (hp : X.Perm Y) (hr : Y.Pairwise (fun a b => a.id < b.id)) (hno : NoRing (nmOf (zs Y)) Y.length) (dp : Nat → Nat) (fin : Nat → Nod) (sh : Shape (zs Y) (nmOf (zs Y)) dp fin) :
  Rest w X fun e w' => ∃ f sb X' K rv R, e = .returned (.tuple #[.pointer (some ⟨f, 0, none⟩), .int .i64 0]) ∧ ForestAt w' f sb X' K rv R ∧ FoR Y fin X' K R ∧ Below w.heap.size w w' := by
 intro wr f sb Z hB
 have hZl := hB.len
 have hXY := hp.length_eq
 have hX1 := h1.len
 have hlo := hB.lo
 have hbs := hB.below.size
 have S1 := sortSp_any sb Z wr hB.row (by omega)
 rw [hZl] at S1
 refine S1.mono ?_
 rintro e w2 ⟨rfl, Z', hpZ, hsZ, hB2, u2⟩
 refine ⟨rfl, ?_⟩
 have hZ'l : Z'.length = X.length := by rw [← hpZ.length_eq]; exact hZl
 -- what each spot of the sorted list is
 have hZa : Z.map (fun z => z.a) = X := by
  apply List.ext_getElem
  ·simpa using hZl
  ·intro i a b
   simp only [List.getElem_map]
   exact (hB.done i (by simpa using a) b (by omega)).a_
 have hLd : ∀ z ∈ Z, Laid wr f z.a z := fun z hz => by
  obtain ⟨i, hi, rfl⟩ := List.mem_iff_getElem.1 hz
  have L := hB.done i hi (by omega) (by omega)
  exact ⟨rfl, by rw [L.a_]; exact L.nd, L.kv, by rw [L.a_]; exact L.at_⟩
 have hLd' : ∀ z ∈ Z', Laid wr f z.a z := fun z hz => hLd z (hpZ.mem_iff.2 hz)
 have hYZ : Y = Z'.map (fun z => z.a) := by
  refine rise_unique Y _ ?_ hr ?_
  ·refine hp.symm.trans ?_
   rw [← hZa]
   exact hpZ.map _
  ·have hnd : (Z'.map (fun z => z.a.id)).Nodup := by
    have e : Z'.map (fun z => z.a.id) = (Z'.map (fun z => z.a)).map (fun a => a.id) := by simp
    rw [e]
    have hperm : (X.map (fun a => a.id)).Perm ((Z'.map (fun z => z.a)).map (fun a => a.id)) := by
     rw [← hZa]
     exact (hpZ.map _).map _
    exact hperm.nodup_iff.1 h1.ids
   rw [List.pairwise_map]
   have hnd2 := List.pairwise_map.1 hnd
   refine List.Pairwise.imp_of_mem ?_ (hsZ.and hnd2)
   intro a b ha hb hab
   have e1 : a.nd.id = a.a.id := by rw [(hLd' a ha).nd]; rfl
   have e2 : b.nd.id = b.a.id := by rw [(hLd' b hb).nd]; rfl
   obtain ⟨c1, c2⟩ := hab
   rw [e1, e2] at c1
   omega
 have hlike : Like Z' (zs Y) := by
  unfold Like zs
  rw [hYZ, List.map_map, List.map_map]
  refine List.map_congr_left fun z hz => ?_
  simp only [Function.comp]
  rw [(hLd' z hz).nd]
 have hYl : Y.length = Z'.length := by rw [hYZ]; simp
 have sh' := hlike.shape sh
 rw [← hlike.nm] at sh' hno
 have hid := fun i (hi : i < Z'.length) => Shape.id sh' i hi
 have hZnd : ∀ i (hi : i < Z'.length), Z'[i].nd = ndOf Z'[i].a := fun i hi => (hLd' _ (List.getElem_mem hi)).nd
 have hrise : RiseS Z' := fun i j hi hj hij => by
  rw [hZnd i hi, hZnd j hj]
  rw [hYZ, List.pairwise_map] at hr
  exact List.pairwise_iff_getElem.1 hr i j hi hj hij
 have hhead : Blk w2 f #[.slice (some ⟨sb, 0, none⟩) Z'.length Z'.length, .slice none 0 0] 92 := by
  rw [hZ'l]; exact hB.head.upd u2 (fun e => by omega)
 refine (plant_any f sb Z' w2 hhead hB2 (by omega) (fun i hi => (hLd' _ (List.getElem_mem hi)).kv) hrise (by omega) (by rw [← hYl]; exact hno)).mono ?_
 rintro e w3 ⟨rfl, base, X1, rv, hbase, hP, hF, u3⟩
 refine ⟨rfl, ?_⟩
 refine (grow_any base f sb Z'.length Z' X1 (nmOf Z') dp fin rv w3 hP hF sh' (nm_range Z') rfl (by omega)).mono ?_
 rintro e w4 ⟨rfl, X4, K, rv4, R, hP4, hl4, hE, hRp, hRs, u4⟩
 refine ⟨rfl, ?_⟩
 have s2 := u2.size
 have s3 := u3.size
 have s4 := u4.size
 have hkeep : ∀ j, f < j → j < wr.heap.size → w4.heap[j]? = wr.heap[j]? := fun j h1 h2 => by
  rw [u4.block j (by omega) (fun e => by rcases e with e | e <;> omega), u3.block j (by omega) (fun e => by rcases e with e | e <;> omega), u2.block j h2 (by omega)]
 have hX4Y : X4.length = Y.length := by omega
 have hEY : ∀ i (h : i < Y.length) (h' : i < X4.length), X4[i].a = Y[i] ∧ X4[i].nd = fin i := fun i h h' => by
  have hi : i < Z'.length := by omega
  refine ⟨?_, (hE i hi h').2.2.1⟩
  rw [(hE i hi h').1]
  subst hYZ
  simp
 refine ⟨f, sb, X4, K, rv4, R, rfl, ⟨hP4.head, hP4.row, ?_, by omega, fun i hi => ?_, fun i hi => ?_, ?_⟩, ⟨hX4Y, hEY, fun i hi => ?_, ?_⟩, ?_⟩
 ·intro i j hi hj hij
  rw [(hE i (by omega) hi).2.2.1, (hE j (by omega) hj).2.2.1, hid i (by omega), hid j (by omega)]
  exact hrise i j (by omega) (by omega) hij
 ·have hi' : i < Z'.length := by omega
  have L := hLd' _ (List.getElem_mem hi')
  obtain ⟨lo, hi2, hlo1, hhi, hS⟩ := L.at_
  rw [(hE i hi' hi).1, (hE i hi' hi).2.1]
  refine ⟨hS w4 (fun j a b => hkeep j (by omega) (by omega)), ?_⟩
  have hmem : Z'[i].a ∈ X := by
   rw [← hZa]
   exact List.mem_map.2 ⟨_, hpZ.mem_iff.2 (List.getElem_mem hi'), rfl⟩
  have hG := chk_good (h1.chk _ hmem)
  exact ⟨Nat.le_trans hG.links (by omega), Nat.le_trans hG.attrs (by omega), Nat.le_trans hG.events (by omega)⟩
 ·obtain ⟨ad, cap, e1, e2⟩ := owns_holds (hP4.kids i hi)
  have hpm := (hE i (by omega) hi).2.2.2.1
  refine ⟨ad, cap, e1, e2, ?_, fun x hx => ?_⟩
  ·have := hpm.length_eq; have := kidsF_len (nmOf Z') Z'.length i; omega
  ·have := kidsF_mem (hpm.mem_iff.2 hx); omega
 ·obtain ⟨ad, cap, e1, e2⟩ := owns_holds hP4.roots
  refine ⟨ad, cap, e1, e2, ?_, fun x hx => ?_⟩
  ·have := hRp.length_eq; have := kidsF_len (nmOf Z') Z'.length (-1); omega
  ·have := kidsF_mem (hRp.mem_iff.2 hx); omega
 ·rw [← hlike.nm, hYl]
  exact (hE i (by omega) (by omega)).2.2.2
 ·rw [← hlike.nm, hYl]
  exact ⟨hRp, hRs⟩
 ·have b1 : Below w.heap.size w w2 := hB.below.trans (u2.below hbs (fun k hk e => by omega))
  have b2 : Below w.heap.size w w3 := b1.trans (u3.below b1.size (fun k hk e => by rcases e with e | e <;> omega))
  exact b2.trans (u4.below b2.size (fun k hk e => by rcases e with e | e <;> omega))
theorem build_any (ad : Option Addr) (n cap : Nat) (X Y : List Sp) (P : Nat → Pl) (w : World) (hX : SpsAt w ad n X P) (h1 : OneT X) (hT : Tabs w) (hp : X.Perm Y) (hr : Y.Pairwise (fun a b => a.id < b.id)) (hno : NoRing (nmOf (zs Y)) Y.length) (dp : Nat → Nat) (fin : Nat → Nod) (sh : Shape (zs Y) (nmOf (zs Y)) dp fin) :
  Calls Tryz.prog 27 #[.slice ad n cap] w fun e w' => ∃ f sb X' K rv R, e = .returned (.tuple #[.pointer (some ⟨f, 0, none⟩), .int .i64 0]) ∧ ForestAt w' f sb X' K rv R ∧ FoR Y fin X' K R ∧ Below w.heap.size w w' :=
 build_ok ad n cap X P w hX h1 hT _ (rest_ok X Y w h1 hp hr hno dp fin sh)
theorem Ends.uniq {nm : List Int} {n : Nat} {i : Int} {k l : Nat} (h : Ends nm n i k) (h' : Ends nm n i l) : k = l := by
 rcases Nat.lt_trichotomy k l with e | e | e
 ·have := h'.2 k e; have := h.1; omega
 ·exact e
 ·have := h.2 l e; have := h'.1; omega
theorem Ends.len {nm : List Int} {n : Nat} {i : Int} {k : Nat} (h : Ends nm n i k) : k ≤ n := by
 have hnd : ((List.range k).map (fun t => (upN nm t i).toNat)).Nodup := by
  rw [List.nodup_iff_pairwise_ne, List.pairwise_map]
  refine List.Pairwise.imp_of_mem ?_ List.pairwise_lt_range
  intro a b ha hb hab e
  have ha := List.mem_range.1 ha
  have hb := List.mem_range.1 hb
  have h1 := h.2 a ha
  have h2 := h.2 b hb
  have e' : upN nm a i = upN nm b i := by omega
  have h3 : upN nm (a + (k - b)) i = -1 := by
   rw [upN_add, e', ← upN_add, show b + (k - b) = k by omega]
   exact h.1
  have := h.2 (a + (k - b)) (by omega)
  omega
 have := sub_len _ (List.range n) hnd (fun x hx => by
  obtain ⟨t, ht, rfl⟩ := List.mem_map.1 hx
  have := h.2 t (List.mem_range.1 ht)
  exact List.mem_range.2 (by omega))
 simpa using this
theorem Ends.zero {nm : List Int} {n i : Nat} {k : Nat} (hi : i < nm.length) (h : Ends nm n i k) (e : nm.getD i (-1) = -1) : k = 1 := by
 refine h.uniq (l := 1) ⟨?_, fun t ht => ?_⟩
 ·show nm.getD (i : Int).toNat 0 = -1
  rw [List.getD_eq_getElem?_getD] at e ⊢
  rw [Int.toNat_natCast, List.getElem?_eq_getElem hi] at *
  exact e
 ·obtain rfl : t = 0 := by omega
  have h1 := h.1
  rcases Nat.eq_zero_or_pos k with h0 | h0
  ·subst h0
   simp only [upN] at h1
   omega
  ·exact h.2 0 h0
theorem Ends.up {nm : List Int} {n i j : Nat} {k : Nat} (hi : i < nm.length) (hn : nm.length = n) (h : Ends nm n j k) (e : nm.getD i (-1) = (j : Int)) : Ends nm n i (k + 1) := by
 have e' : nm.getD (i : Int).toNat 0 = (j : Int) := by
  rw [List.getD_eq_getElem?_getD] at e ⊢
  rw [Int.toNat_natCast, List.getElem?_eq_getElem hi] at *
  exact e
 have s : ∀ t, upN nm (t + 1) i = upN nm t j := fun t => by show upN nm t (nm.getD (i : Int).toNat 0) = _; rw [e']
 refine ⟨by rw [s]; exact h.1, fun t ht => ?_⟩
 cases t with
 | zero => simp only [upN]; omega
 | succ t => rw [s]; exact h.2 t (by omega)
theorem dpF_any (nm : List Int) (n : Nat) : ∃ dp : Nat → Nat, ∀ (i k : Nat), Ends nm n i k → dp i = k - 1 := ⟨fun i => Classical.epsilon (fun d => ∃ k, Ends nm n i k ∧ d = k - 1), fun i k h => by
 obtain ⟨l, h1, h2⟩ := Classical.epsilon_spec (p := fun d => ∃ k, Ends nm n i k ∧ d = k - 1) ⟨_, k, h, rfl⟩
 show Classical.epsilon (fun d => ∃ k, Ends nm n i k ∧ d = k - 1) = k - 1
 rw [h2, h1.uniq h]⟩
def finF (X : List Spot) (nm : List Int) : Nat → Nat → Nod
 | 0, i => if h : i < X.length then rootN X[i] else ⟨0, 0, 0, 0, 0, 0, 0⟩
 | d + 1, i => if h : i < X.length then hangN X[i] (finF X nm d (nm.getD i (-1)).toNat) else ⟨0, 0, 0, 0, 0, 0, 0⟩
theorem finF_dep (X : List Spot) (nm : List Int) (hX : ∀ i (h : i < X.length), X[i].nd.dep = 0) : ∀ d i, 0 ≤ (finF X nm d i).dep ∧ (finF X nm d i).dep ≤ d
 | 0, i => by
  rw [finF]
  split
  ·rename_i h; simp [rootN, hX i h]
  ·exact ⟨by decide, by decide⟩
 | d + 1, i => by
  have ih := finF_dep X nm hX d (nm.getD i (-1)).toNat
  rw [finF]
  split
  ·simp only [hangN]; omega
  ·exact ⟨by decide, by show (0 : Int) ≤ _; omega⟩
theorem shape_of (X : List Spot) (nm : List Int) (hn : nm.length = X.length) (hl : X.length ≤ 1000) (hX : ∀ i (h : i < X.length), X[i].nd.dep = 0) (hE : ∀ i, i < X.length → ∃ k, Ends nm X.length i k) : ∃ dp, Shape X nm dp (fun i => finF X nm (dp i) i) := by
 obtain ⟨dp, hdp⟩ := dpF_any nm X.length
 refine ⟨dp, ?_⟩
 refine ⟨fun i hi e => ?_, fun i j hi hj e => ?_, fun i hi => ?_⟩
 ·obtain ⟨k, hk⟩ := hE i hi
  have h1 := hk.zero (by omega) e
  have h2 : dp i = 0 := by rw [hdp _ _ hk, h1]
  exact ⟨h2, by simp only [h2, finF, hi, dite_true]⟩
 ·obtain ⟨k, hk⟩ := hE j hj
  have hk1 : 1 ≤ k := by
   rcases Nat.eq_zero_or_pos k with h0 | h0
   ·subst h0; have := hk.1; simp only [upN] at this; omega
   ·exact h0
  have h1 := hdp _ _ hk
  have h2 := hdp _ _ (hk.up (by omega) hn e)
  have h3 : dp i = dp j + 1 := by rw [h1, h2]; omega
  refine ⟨h3, ?_⟩
  simp only [h3, finF, hi, dite_true, e, Int.toNat_natCast]
 ·obtain ⟨k, hk⟩ := hE i hi
  have h1 := hdp _ _ hk
  have h2 := hk.len
  have h3 := finF_dep X nm hX (dp i) i
  exact ⟨by omega, h3.1, by have : ((dp i : Nat) : Int) ≤ 1000 := (by omega); omega⟩
theorem cutX_dep (C : List Int) : ∀ X : List Spot, (∀ i (h : i < X.length), X[i].nd.dep = 0) → ∀ i (h : i < (cutX C X).length), (cutX C X)[i].nd.dep = 0 := by
 induction C with
 | nil => exact fun _ h => h
 | cons c r ih =>
  intro X h
  refine ih _ fun i hi => ?_
  rw [List.getElem_modify]
  split
  ·exact h i (by simpa using hi)
  ·exact h i (by simpa using hi)
theorem shape_cut (X : List Spot) (hl : X.length ≤ 1000) (hX : ∀ i (h : i < X.length), X[i].nd.dep = 0) (C : List Int) (hC : CutsL (nmOf X) X.length X.length C) : ∃ dp, Shape (cutX C X) (cutN C (nmOf X)) dp (fun i => finF (cutX C X) (cutN C (nmOf X)) (dp i) i) := by
 have hnl : (nmOf X).length = X.length := by simp [nmOf]
 have hnr : ∀ x ∈ nmOf X, -1 ≤ x ∧ x < X.length := fun x hx => by
  unfold nmOf at hx
  obtain ⟨s, _, rfl⟩ := List.mem_map.1 hx
  exact idx_range X _
 have hlen := cutX_len C X
 exact shape_of (cutX C X) (cutN C (nmOf X)) (by rw [cutN_len, hlen]; exact hnl) (by omega) (cutX_dep C X hX) (fun i hi => by
  rw [hlen] at hi ⊢
  exact cut_ends hnr hnl hC i hi)
theorem cutX_same (C : List Int) : ∀ (X : List Spot) (i : Nat) (h : i < X.length) (h' : i < (cutX C X).length), (cutX C X)[i].a = X[i].a ∧ (cutX C X)[i].p = X[i].p ∧ (cutX C X)[i].nd.id = X[i].nd.id := by
 induction C with
 | nil => exact fun _ _ _ _ => ⟨rfl, rfl, rfl⟩
 | cons c r ih =>
  intro X i h h'
  have := ih (X.modify c.toNat loopS) i (by simpa using h) h'
  rw [List.getElem_modify] at this
  show (cutX r (X.modify c.toNat loopS))[i].a = _ ∧ _
  split at this
  ·exact this
  ·exact this
theorem Like.of {X Z : List Spot} (hl : X.length = Z.length) (h : ∀ i (h1 : i < X.length) (h2 : i < Z.length), X[i].a = Z[i].a ∧ X[i].nd = Z[i].nd) : Like X Z := by
 unfold Like
 apply List.ext_getElem
 ·simp [hl]
 ·intro i h1 h2
  simp only [List.getElem_map]
  obtain ⟨e1, e2⟩ := h i (by simpa using h1) (by simpa using h2)
  rw [e1, e2]
theorem Like.cut {X Z : List Spot} (h : Like X Z) (C : List Int) : Like (cutX C X) (cutX C Z) := by
 induction C generalizing X Z with
 | nil => exact h
 | cons c r ih =>
  refine ih (X := X.modify c.toNat loopS) (Z := Z.modify c.toNat loopS) (Like.of (by simp [h.len]) fun i h1 h2 => ?_)
  obtain ⟨e1, e2⟩ := h.get i (by simpa using h1) (by simpa using h2)
  rw [List.getElem_modify, List.getElem_modify]
  split
  ·exact ⟨e1, by simp only [loopS]; rw [e2]⟩
  ·exact ⟨e1, e2⟩
theorem Shape.idG {X : List Spot} {nm : List Int} {dp : Nat → Nat} {fin : Nat → Nod} (sh : Shape X nm dp fin) (hr : ∀ i, i < X.length → nm.getD i (-1) ≠ -1 → 0 ≤ nm.getD i (-1) ∧ nm.getD i (-1) < X.length) (i : Nat) (hi : i < X.length) : (fin i).id = X[i].nd.id := by
 by_cases hn : nm.getD i (-1) = -1
 ·rw [(sh.rt i hi hn).2]; rfl
 ·obtain ⟨h1, h2⟩ := hr i hi hn
  rw [(sh.kd i (nm.getD i (-1)).toNat hi (by omega) (by omega)).2]; rfl
structure FoC (Y : List Sp) (C : List Int) (fin : Nat → Nod) (X : List Spot) (K : Nat → List Int) (R : List Int) : Prop where
 len : X.length = Y.length
 each : ∀ i (h : i < Y.length) (h' : i < X.length), X[i].a = Y[i] ∧ X[i].nd = fin i
 kids : ∀ i, i < Y.length → (kidsF (cutN C (nmOf (zs Y))) Y.length i).Perm (K i) ∧ (K i).Pairwise (fun a b => ¬ ltK (fin b.toNat) (fin a.toNat))
 roots : (kidsF (cutN C (nmOf (zs Y))) Y.length (-1)).Perm R ∧ R.Pairwise (fun a b => ¬ ltK (fin b.toNat) (fin a.toNat))
def Built (Y : List Sp) (w w' : World) (e : Ending) : Prop := ∃ f sb X' K rv R C dp fin, e = .returned (.tuple #[.pointer (some ⟨f, 0, none⟩), .int .i64 0]) ∧ ForestAt w' f sb X' K rv R ∧ CutsL (nmOf (zs Y)) Y.length Y.length C ∧ Shape (cutX C (zs Y)) (cutN C (nmOf (zs Y))) dp fin ∧ FoC Y C fin X' K R ∧ Below w.heap.size w w'
set_option maxHeartbeats 1000000 in
theorem restR_ok (X Y : List Sp) (w : World) (h1 : OneT X) (hp : X.Perm Y) (hr : Y.Pairwise (fun a b => a.id < b.id)) :
  Rest w X fun e w' => Built Y w w' e := by
 intro wr f sb Z hB
 have hZl := hB.len
 have hXY := hp.length_eq
 have hX1 := h1.len
 have hlo := hB.lo
 have hbs := hB.below.size
 have S1 := sortSp_any sb Z wr hB.row (by omega)
 rw [hZl] at S1
 refine S1.mono ?_
 rintro e w2 ⟨rfl, Z', hpZ, hsZ, hB2, u2⟩
 refine ⟨rfl, ?_⟩
 have hZ'l : Z'.length = X.length := by rw [← hpZ.length_eq]; exact hZl
 -- what each spot of the sorted list is
 have hZa : Z.map (fun z => z.a) = X := by
  apply List.ext_getElem
  ·simpa using hZl
  ·intro i a b
   simp only [List.getElem_map]
   exact (hB.done i (by simpa using a) b (by omega)).a_
 have hLd : ∀ z ∈ Z, Laid wr f z.a z := fun z hz => by
  obtain ⟨i, hi, rfl⟩ := List.mem_iff_getElem.1 hz
  have L := hB.done i hi (by omega) (by omega)
  exact ⟨rfl, by rw [L.a_]; exact L.nd, L.kv, by rw [L.a_]; exact L.at_⟩
 have hLd' : ∀ z ∈ Z', Laid wr f z.a z := fun z hz => hLd z (hpZ.mem_iff.2 hz)
 have hYZ : Y = Z'.map (fun z => z.a) := by
  refine rise_unique Y _ ?_ hr ?_
  ·refine hp.symm.trans ?_
   rw [← hZa]
   exact hpZ.map _
  ·have hnd : (Z'.map (fun z => z.a.id)).Nodup := by
    have e : Z'.map (fun z => z.a.id) = (Z'.map (fun z => z.a)).map (fun a => a.id) := by simp
    rw [e]
    have hperm : (X.map (fun a => a.id)).Perm ((Z'.map (fun z => z.a)).map (fun a => a.id)) := by
     rw [← hZa]
     exact (hpZ.map _).map _
    exact hperm.nodup_iff.1 h1.ids
   rw [List.pairwise_map]
   have hnd2 := List.pairwise_map.1 hnd
   refine List.Pairwise.imp_of_mem ?_ (hsZ.and hnd2)
   intro a b ha hb hab
   have e1 : a.nd.id = a.a.id := by rw [(hLd' a ha).nd]; rfl
   have e2 : b.nd.id = b.a.id := by rw [(hLd' b hb).nd]; rfl
   obtain ⟨c1, c2⟩ := hab
   rw [e1, e2] at c1
   omega
 have hlike : Like Z' (zs Y) := by
  unfold Like zs
  rw [hYZ, List.map_map, List.map_map]
  refine List.map_congr_left fun z hz => ?_
  simp only [Function.comp]
  rw [(hLd' z hz).nd]
 have hYl : Y.length = Z'.length := by rw [hYZ]; simp
 have hZnd : ∀ i (hi : i < Z'.length), Z'[i].nd = ndOf Z'[i].a := fun i hi => (hLd' _ (List.getElem_mem hi)).nd
 have hrise : RiseS Z' := fun i j hi hj hij => by
  rw [hZnd i hi, hZnd j hj]
  rw [hYZ, List.pairwise_map] at hr
  exact List.pairwise_iff_getElem.1 hr i j hi hj hij
 have hhead : Blk w2 f #[.slice (some ⟨sb, 0, none⟩) Z'.length Z'.length, .slice none 0 0] 92 := by
  rw [hZ'l]; exact hB.head.upd u2 (fun e => by omega)
 refine (plantR_any f sb Z' w2 hhead hB2 (by omega) (fun i hi => (hLd' _ (List.getElem_mem hi)).kv) hrise (by omega)).mono ?_
 rintro e w3 ⟨rfl, C, hC, base, X1, rv, hbase, hP, hF, u3⟩
 refine ⟨rfl, ?_⟩
 have hcl := cutX_len C Z'
 have hzl : (zs Y).length = Z'.length := hlike.len.symm
 have hCY : CutsL (nmOf (zs Y)) Y.length Y.length C := by rw [hlike.nm, ← hYl] at hC; exact hC
 obtain ⟨dp, sh⟩ := shape_cut (zs Y) (by omega) (fun i hi => by simp [zs, ndOf]) C (by rw [hzl, ← hYl]; exact hCY)
 obtain ⟨fin, hfin⟩ : ∃ fin, (fun i => finF (cutX C (zs Y)) (cutN C (nmOf (zs Y))) (dp i) i) = fin := ⟨_, rfl⟩
 rw [hfin] at sh
 have sh' := (hlike.cut C).shape sh
 rw [← hlike.nm] at sh'
 have hrg := cutN_range C Z'.length (nmOf Z') (fun x hx => by
  unfold nmOf at hx
  obtain ⟨s, _, rfl⟩ := List.mem_map.1 hx
  exact idx_range Z' _)
 have hrg2 : ∀ i, i < (cutX C Z').length → (cutN C (nmOf Z')).getD i (-1) ≠ -1 → 0 ≤ (cutN C (nmOf Z')).getD i (-1) ∧ (cutN C (nmOf Z')).getD i (-1) < (cutX C Z').length := fun i hi hn => by
  have hin : i < (cutN C (nmOf Z')).length := by rw [cutN_len]; simp [nmOf]; omega
  rw [List.getD_eq_getElem?_getD, List.getElem?_eq_getElem hin] at hn ⊢
  have := hrg _ (List.getElem_mem hin)
  simp only [Option.getD_some] at hn ⊢
  omega
 have hid : ∀ i (hi : i < Z'.length), (fin i).id = Z'[i].nd.id := fun i hi => by
  rw [← (cutX_same C Z' i hi (by omega)).2.2]
  exact Shape.idG sh' hrg2 i (by omega)
 rw [hcl] at hP hF
 refine (grow_any base f sb Z'.length (cutX C Z') X1 (cutN C (nmOf Z')) dp fin rv w3 hP hF sh' hrg2 hcl (by omega)).mono ?_
 rintro e w4 ⟨rfl, X4, K, rv4, R, hP4, hl4, hE0, hRp, hRs, u4⟩
 refine ⟨rfl, ?_⟩
 rw [hcl] at hl4 hRp
 have hE : ∀ i (h : i < Z'.length) (h' : i < X4.length), X4[i].a = Z'[i].a ∧ X4[i].p = Z'[i].p ∧ X4[i].nd = fin i ∧ (kidsF (cutN C (nmOf Z')) Z'.length i).Perm (K i) ∧ (K i).Pairwise (fun a b => ¬ ltK (fin b.toNat) (fin a.toNat)) := fun i h h' => by
  obtain ⟨q1, q2, q3, q4, q5⟩ := hE0 i (by omega) h'
  obtain ⟨c1, c2, _⟩ := cutX_same C Z' i h (by omega)
  rw [hcl] at q4
  exact ⟨q1.trans c1, q2.trans c2, q3, q4, q5⟩
 have s2 := u2.size
 have s3 := u3.size
 have s4 := u4.size
 have hkeep : ∀ j, f < j → j < wr.heap.size → w4.heap[j]? = wr.heap[j]? := fun j h1 h2 => by
  rw [u4.block j (by omega) (fun e => by rcases e with e | e <;> omega), u3.block j (by omega) (fun e => by rcases e with e | e <;> omega), u2.block j h2 (by omega)]
 have hX4Y : X4.length = Y.length := by omega
 have hEY : ∀ i (h : i < Y.length) (h' : i < X4.length), X4[i].a = Y[i] ∧ X4[i].nd = fin i := fun i h h' => by
  have hi : i < Z'.length := by omega
  refine ⟨?_, (hE i hi h').2.2.1⟩
  rw [(hE i hi h').1]
  subst hYZ
  simp
 refine ⟨f, sb, X4, K, rv4, R, C, dp, fin, rfl, ⟨hP4.head, hP4.row, ?_, by omega, fun i hi => ?_, fun i hi => ?_, ?_⟩, hCY, sh, ⟨hX4Y, hEY, fun i hi => ?_, ?_⟩, ?_⟩
 ·intro i j hi hj hij
  rw [(hE i (by omega) hi).2.2.1, (hE j (by omega) hj).2.2.1, hid i (by omega), hid j (by omega)]
  exact hrise i j (by omega) (by omega) hij
 ·have hi' : i < Z'.length := by omega
  have L := hLd' _ (List.getElem_mem hi')
  obtain ⟨lo, hi2, hlo1, hhi, hS⟩ := L.at_
  rw [(hE i hi' hi).1, (hE i hi' hi).2.1]
  refine ⟨hS w4 (fun j a b => hkeep j (by omega) (by omega)), ?_⟩
  have hmem : Z'[i].a ∈ X := by
   rw [← hZa]
   exact List.mem_map.2 ⟨_, hpZ.mem_iff.2 (List.getElem_mem hi'), rfl⟩
  have hG := chk_good (h1.chk _ hmem)
  exact ⟨Nat.le_trans hG.links (by omega), Nat.le_trans hG.attrs (by omega), Nat.le_trans hG.events (by omega)⟩
 ·obtain ⟨ad, cap, e1, e2⟩ := owns_holds (hP4.kids i hi)
  have hpm := (hE i (by omega) hi).2.2.2.1
  refine ⟨ad, cap, e1, e2, ?_, fun x hx => ?_⟩
  ·have := hpm.length_eq; have := kidsF_len (cutN C (nmOf Z')) Z'.length i; omega
  ·have := kidsF_mem (hpm.mem_iff.2 hx); omega
 ·obtain ⟨ad, cap, e1, e2⟩ := owns_holds hP4.roots
  refine ⟨ad, cap, e1, e2, ?_, fun x hx => ?_⟩
  ·have := hRp.length_eq; have := kidsF_len (cutN C (nmOf Z')) Z'.length (-1); omega
  ·have := kidsF_mem (hRp.mem_iff.2 hx); omega
 ·rw [← hlike.nm, hYl]
  exact (hE i (by omega) (by omega)).2.2.2
 ·rw [← hlike.nm, hYl]
  exact ⟨hRp, hRs⟩
 ·have b1 : Below w.heap.size w w2 := hB.below.trans (u2.below hbs (fun k hk e => by omega))
  have b2 : Below w.heap.size w w3 := b1.trans (u3.below b1.size (fun k hk e => by rcases e with e | e <;> omega))
  exact b2.trans (u4.below b2.size (fun k hk e => by rcases e with e | e <;> omega))
theorem buildR_any (ad : Option Addr) (n cap : Nat) (X Y : List Sp) (P : Nat → Pl) (w : World) (hX : SpsAt w ad n X P) (h1 : OneT X) (hT : Tabs w) (hp : X.Perm Y) (hr : Y.Pairwise (fun a b => a.id < b.id)) :
  Calls Tryz.prog 27 #[.slice ad n cap] w fun e w' => Built Y w w' e :=
 build_ok ad n cap X P w hX h1 hT _ (restR_ok X Y w h1 hp hr)
end Go.Proofs.YtnffedmcblbkoaaGreatDoor
