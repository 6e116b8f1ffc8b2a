/-
  Merged by merge.py: GA, G0, OA.
-/
import Derived.Test.YtkdgnhohecifoaaGreatDoorFZ
namespace Go.Proofs.YtkdgnhohecifoaaGreatDoor
open Go Go.RowKit
set_option maxRecDepth 100000

/-- Spots of spans, wherever their lists lie. -/
def zs (Y : List Sp) : List Spot := Y.map (fun a => ⟨a, ⟨none, 0, none, 0, none, 0⟩, ndOf a, none, 0, 0⟩)
theorem zs_len (Y : List Sp) : (zs Y).length = Y.length := by simp [zs]
/-- Spots that say the same of their spans. -/
def Like (X Z : List Spot) : Prop := X.map (fun x => (x.a, x.nd)) = Z.map (fun x => (x.a, x.nd))
theorem Like.len {X Z : List Spot} (h : Like X Z) : X.length = Z.length := by
  have := congrArg List.length h
  simpa using this
theorem Like.get {X Z : List Spot} (h : Like X Z) (i : Nat) (h1 : i < X.length) (h2 : i < Z.length) : X[i].a = Z[i].a ∧ X[i].nd = Z[i].nd := by
  have e : (X.map (fun x => (x.a, x.nd)))[i]'(by simpa using h1) = (Z.map (fun x => (x.a, x.nd)))[i]'(by simpa using h2) := by
    have h' := h
    unfold Like at h'
    simp only [h']
  simp only [List.getElem_map, Prod.mk.injEq] at e
  exact e
theorem Like.symm {X Z : List Spot} (h : Like X Z) : Like Z X := Eq.symm h
theorem findIdx_map {α β : Type} (g : α → β) (p : β → Bool) : ∀ l : List α, (l.map g).findIdx? p = l.findIdx? (fun x => p (g x))
  | [] => rfl
  | x :: r => by simp [List.findIdx?_cons, findIdx_map g p r]
theorem Like.idx {X Z : List Spot} (h : Like X Z) (id : Int) : idxI X id = idxI Z id := by
  have e : X.findIdx? (fun x => x.nd.id == id) = Z.findIdx? (fun x => x.nd.id == id) := by
    have h1 := findIdx_map (fun x : Spot => (x.a, x.nd)) (fun q => q.2.id == id) X
    have h2 := findIdx_map (fun x : Spot => (x.a, x.nd)) (fun q => q.2.id == id) Z
    rw [← h1, ← h2, h]
  unfold idxI
  rw [e]
theorem Like.nm {X Z : List Spot} (h : Like X Z) : nmOf X = nmOf Z := by
  apply List.ext_getElem
  · simp [nmOf, h.len]
  · intro i h1 h2
    have h1' : i < X.length := by simpa [nmOf] using h1
    have h2' : i < Z.length := by simpa [nmOf] using h2
    simp only [nmOf, List.getElem_map]
    rw [(h.get i h1' h2').1, h.idx]
theorem Like.shape {X Z : List Spot} {nm : List Int} {dp : Nat → Nat} {fin : Nat → Nod} (h : Like X Z) (sh : Shape Z nm dp fin) : Shape X nm dp fin := by
  have hl := h.len
  have hroot : ∀ i (h1 : i < X.length) (h2 : i < Z.length), rootN X[i] = rootN Z[i] := fun i h1 h2 => by
    obtain ⟨e1, e2⟩ := h.get i h1 h2
    unfold rootN
    rw [e1, e2]
  have hhang : ∀ i (h1 : i < X.length) (h2 : i < Z.length) d, hangN X[i] d = hangN Z[i] d := fun i h1 h2 d => by
    obtain ⟨e1, e2⟩ := h.get i h1 h2
    unfold hangN
    rw [e1, e2]
  refine ⟨fun i hi hn => ?_, fun i j hi hj hn => ?_, fun i hi => sh.bd i (by omega)⟩
  · rw [hroot i hi (by omega)]; exact sh.rt i (by omega) hn
  · rw [hhang i hi (by omega)]; exact sh.kd i j (by omega) (by omega) hn
theorem nm_range (X : List Spot) : ∀ i, i < X.length → (nmOf X).getD i (-1) ≠ -1 → 0 ≤ (nmOf X).getD i (-1) ∧ (nmOf X).getD i (-1) < X.length := fun i hi hn => by
  have e : (nmOf X).getD i (-1) = idxI X X[i].a.par := by simp [nmOf, hi]
  rw [e] at hn ⊢
  have := idx_range X X[i].a.par
  omega
theorem Shape.id {X : List Spot} {dp : Nat → Nat} {fin : Nat → Nod} (sh : Shape X (nmOf X) dp fin) (i : Nat) (hi : i < X.length) : (fin i).id = X[i].nd.id := by
  by_cases hn : (nmOf X).getD i (-1) = -1
  · rw [(sh.rt i hi hn).2]; rfl
  · obtain ⟨h1, h2⟩ := nm_range X i hi hn
    rw [(sh.kd i ((nmOf X).getD i (-1)).toNat hi (by omega) (by omega)).2]; rfl
/-- What a forest is, of spans by rising IDs. -/
structure FoR (Y : List Sp) (fin : Nat → Nod) (X : List Spot) (K : Nat → List Int) (R : List Int) : Prop where
  len : X.length = Y.length
  each : ∀ i (h : i < Y.length) (h' : i < X.length), X[i].a = Y[i] ∧ X[i].nd = fin i
  kids : ∀ i, i < Y.length → (kidsF (nmOf (zs Y)) Y.length i).Perm (K i) ∧ (K i).Pairwise (fun a b => ¬ ltK (fin b.toNat) (fin a.toNat))
  roots : (kidsF (nmOf (zs Y)) Y.length (-1)).Perm R ∧ R.Pairwise (fun a b => ¬ ltK (fin b.toNat) (fin a.toNat))
theorem owns_holds {w : World} {base : Nat} {v : Value} {L : List Int} (h : w.ownsRow base 3 1 v L.length (L.map (Value.int .i64))) : ∃ ad cap, v = .slice ad L.length cap ∧ HoldsV w ad L.length (intsV .i64 L) := by
  rcases h.2 with ⟨rfl, h0⟩ | ⟨g, cap, cur, rfl, hbg, hh, hnc, hcm, hcs, ht⟩
  · rw [h0]
    have hL : L = [] := List.eq_nil_of_length_eq_zero h0
    subst hL
    exact ⟨none, 0, rfl, HoldsV.nil w⟩
  · refine ⟨_, cap, rfl, by simp [intsV], fun j u hu => ⟨_, rfl, ?_⟩⟩
    have := h.cells (g := g) rfl j u hu
    exact this
set_option maxHeartbeats 1000000 in
theorem rest_ok (X Y : List Sp) (w : World) (h1 : OneT X) (hp : X.Perm Y) (hr : Y.Pairwise (fun a b => a.id < b.id)) (hno : NoRing (nmOf (zs Y)) Y.length) (dp : Nat → Nat) (fin : Nat → Nod) (sh : Shape (zs Y) (nmOf (zs Y)) dp fin) :
    Rest w X fun e w' => ∃ f sb X' K rv R, e = .returned (.tuple #[.pointer (some ⟨f, 0, none⟩), .int .i64 0]) ∧ ForestAt w' f sb X' K rv R ∧ FoR Y fin X' K R ∧ Below w.heap.size w w' := by
  intro wr f sb Z hB
  have hZl := hB.len
  have hXY := hp.length_eq
  have hX1 := h1.len
  have hlo := hB.lo
  have hbs := hB.below.size
  have S1 := sortSp_any sb Z wr hB.row (by omega)
  rw [hZl] at S1
  refine S1.mono ?_
  rintro e w2 ⟨rfl, Z', hpZ, hsZ, hB2, u2⟩
  refine ⟨rfl, ?_⟩
  have hZ'l : Z'.length = X.length := by rw [← hpZ.length_eq]; exact hZl
  -- what each spot of the sorted list is
  have hZa : Z.map (fun z => z.a) = X := by
    apply List.ext_getElem
    · simpa using hZl
    · intro i a b
      simp only [List.getElem_map]
      exact (hB.done i (by simpa using a) b (by omega)).a_
  have hLd : ∀ z ∈ Z, Laid wr f z.a z := fun z hz => by
    obtain ⟨i, hi, rfl⟩ := List.mem_iff_getElem.1 hz
    have L := hB.done i hi (by omega) (by omega)
    exact ⟨rfl, by rw [L.a_]; exact L.nd, L.kv, by rw [L.a_]; exact L.at_⟩
  have hLd' : ∀ z ∈ Z', Laid wr f z.a z := fun z hz => hLd z (hpZ.mem_iff.2 hz)
  have hYZ : Y = Z'.map (fun z => z.a) := by
    refine rise_unique Y _ ?_ hr ?_
    · refine hp.symm.trans ?_
      rw [← hZa]
      exact hpZ.map _
    · have hnd : (Z'.map (fun z => z.a.id)).Nodup := by
        have e : Z'.map (fun z => z.a.id) = (Z'.map (fun z => z.a)).map (fun a => a.id) := by simp
        rw [e]
        have hperm : (X.map (fun a => a.id)).Perm ((Z'.map (fun z => z.a)).map (fun a => a.id)) := by
          rw [← hZa]
          exact (hpZ.map _).map _
        exact hperm.nodup_iff.1 h1.ids
      rw [List.pairwise_map]
      have hnd2 := List.pairwise_map.1 hnd
      refine List.Pairwise.imp_of_mem ?_ (hsZ.and hnd2)
      intro a b ha hb hab
      have e1 : a.nd.id = a.a.id := by rw [(hLd' a ha).nd]; rfl
      have e2 : b.nd.id = b.a.id := by rw [(hLd' b hb).nd]; rfl
      obtain ⟨c1, c2⟩ := hab
      rw [e1, e2] at c1
      omega
  have hlike : Like Z' (zs Y) := by
    unfold Like zs
    rw [hYZ, List.map_map, List.map_map]
    refine List.map_congr_left fun z hz => ?_
    simp only [Function.comp]
    rw [(hLd' z hz).nd]
  have hYl : Y.length = Z'.length := by rw [hYZ]; simp
  have sh' := hlike.shape sh
  rw [← hlike.nm] at sh' hno
  have hid := fun i (hi : i < Z'.length) => Shape.id sh' i hi
  have hZnd : ∀ i (hi : i < Z'.length), Z'[i].nd = ndOf Z'[i].a := fun i hi => (hLd' _ (List.getElem_mem hi)).nd
  have hrise : RiseS Z' := fun i j hi hj hij => by
    rw [hZnd i hi, hZnd j hj]
    rw [hYZ, List.pairwise_map] at hr
    exact List.pairwise_iff_getElem.1 hr i j hi hj hij
  have hhead : Blk w2 f #[.slice (some ⟨sb, 0, none⟩) Z'.length Z'.length, .slice none 0 0] 92 := by
    rw [hZ'l]; exact hB.head.upd u2 (fun e => by omega)
  refine (plant_any f sb Z' w2 hhead hB2 (by omega) (fun i hi => (hLd' _ (List.getElem_mem hi)).kv) hrise (by omega) (by rw [← hYl]; exact hno)).mono ?_
  rintro e w3 ⟨rfl, base, X1, rv, hbase, hP, hF, u3⟩
  refine ⟨rfl, ?_⟩
  refine (grow_any base f sb Z'.length Z' X1 (nmOf Z') dp fin rv w3 hP hF sh' (nm_range Z') rfl (by omega)).mono ?_
  rintro e w4 ⟨rfl, X4, K, rv4, R, hP4, hl4, hE, hRp, hRs, u4⟩
  refine ⟨rfl, ?_⟩
  have s2 := u2.size
  have s3 := u3.size
  have s4 := u4.size
  have hkeep : ∀ j, f < j → j < wr.heap.size → w4.heap[j]? = wr.heap[j]? := fun j h1 h2 => by
    rw [u4.block j (by omega) (fun e => by rcases e with e | e <;> omega), u3.block j (by omega) (fun e => by rcases e with e | e <;> omega), u2.block j h2 (by omega)]
  have hX4Y : X4.length = Y.length := by omega
  have hEY : ∀ i (h : i < Y.length) (h' : i < X4.length), X4[i].a = Y[i] ∧ X4[i].nd = fin i := fun i h h' => by
    have hi : i < Z'.length := by omega
    refine ⟨?_, (hE i hi h').2.2.1⟩
    rw [(hE i hi h').1]
    subst hYZ
    simp
  refine ⟨f, sb, X4, K, rv4, R, rfl, ⟨hP4.head, hP4.row, ?_, by omega, fun i hi => ?_, fun i hi => ?_, ?_⟩, ⟨hX4Y, hEY, fun i hi => ?_, ?_⟩, ?_⟩
  · intro i j hi hj hij
    rw [(hE i (by omega) hi).2.2.1, (hE j (by omega) hj).2.2.1, hid i (by omega), hid j (by omega)]
    exact hrise i j (by omega) (by omega) hij
  · have hi' : i < Z'.length := by omega
    have L := hLd' _ (List.getElem_mem hi')
    obtain ⟨lo, hi2, hlo1, hhi, hS⟩ := L.at_
    rw [(hE i hi' hi).1, (hE i hi' hi).2.1]
    refine ⟨hS w4 (fun j a b => hkeep j (by omega) (by omega)), ?_⟩
    have hmem : Z'[i].a ∈ X := by
      rw [← hZa]
      exact List.mem_map.2 ⟨_, hpZ.mem_iff.2 (List.getElem_mem hi'), rfl⟩
    have hG := chk_good (h1.chk _ hmem)
    exact ⟨Nat.le_trans hG.links (by omega), Nat.le_trans hG.attrs (by omega), Nat.le_trans hG.events (by omega)⟩
  · obtain ⟨ad, cap, e1, e2⟩ := owns_holds (hP4.kids i hi)
    have hpm := (hE i (by omega) hi).2.2.2.1
    refine ⟨ad, cap, e1, e2, ?_, fun x hx => ?_⟩
    · have := hpm.length_eq; have := kidsF_len (nmOf Z') Z'.length i; omega
    · have := kidsF_mem (hpm.mem_iff.2 hx); omega
  · obtain ⟨ad, cap, e1, e2⟩ := owns_holds hP4.roots
    refine ⟨ad, cap, e1, e2, ?_, fun x hx => ?_⟩
    · have := hRp.length_eq; have := kidsF_len (nmOf Z') Z'.length (-1); omega
    · have := kidsF_mem (hRp.mem_iff.2 hx); omega
  · rw [← hlike.nm, hYl]
    exact (hE i (by omega) (by omega)).2.2.2
  · rw [← hlike.nm, hYl]
    exact ⟨hRp, hRs⟩
  · have b1 : Below w.heap.size w w2 := hB.below.trans (u2.below hbs (fun k hk e => by omega))
    have b2 : Below w.heap.size w w3 := b1.trans (u3.below b1.size (fun k hk e => by rcases e with e | e <;> omega))
    exact b2.trans (u4.below b2.size (fun k hk e => by rcases e with e | e <;> omega))
theorem build_any (ad : Option Addr) (n cap : Nat) (X Y : List Sp) (P : Nat → Pl) (w : World) (hX : SpsAt w ad n X P) (h1 : OneT X) (hT : Tabs w) (hp : X.Perm Y) (hr : Y.Pairwise (fun a b => a.id < b.id)) (hno : NoRing (nmOf (zs Y)) Y.length) (dp : Nat → Nat) (fin : Nat → Nod) (sh : Shape (zs Y) (nmOf (zs Y)) dp fin) :
    Calls Tryz.prog 11 #[.slice ad n cap] w fun e w' => ∃ f sb X' K rv R, e = .returned (.tuple #[.pointer (some ⟨f, 0, none⟩), .int .i64 0]) ∧ ForestAt w' f sb X' K rv R ∧ FoR Y fin X' K R ∧ Below w.heap.size w w' :=
  build_ok ad n cap X P w hX h1 hT _ (rest_ok X Y w h1 hp hr hno dp fin sh)
end Go.Proofs.YtkdgnhohecifoaaGreatDoor

namespace Go.Proofs.YtkdgnhohecifoaaGreatDoor
open Go Go.RowKit
set_option maxRecDepth 100000

def pl0 : Pl := ⟨none, 0, none, 0, none, 0⟩
/-- A span of the trace 0/7. -/
def spE (sv : ByteArray) (id par s e : Int) : Sp := ⟨0, 7, id, par, [], sv, ⟨#[98]⟩, 0, 0, s, e, [], []⟩
theorem atE (w : World) (sv : ByteArray) (id par s e : Int) : SpAt w (spE sv id par s e) pl0 :=
  ⟨⟨rfl, fun j u hj => by simp [spE, intsV] at hj⟩, ⟨rfl, fun h => by cases h⟩, ⟨rfl, fun h => by cases h⟩, by simp [spE], by simp [spE], by simp [spE]⟩
theorem smallE (sv : ByteArray) (hs : sv.size ≤ 1000) (id par s e : Int) : (spE sv id par s e).Small := ⟨by simp only [spE]; omega, by simp only [spE]; decide, (fun _ h => by cases h), (fun _ h => by cases h)⟩
theorem fitsE (sv : ByteArray) (id par s e : Int) (h2 : 0 ≤ id ∧ id < 18446744073709551616) (h3 : 0 ≤ par ∧ par < 18446744073709551616) : (spE sv id par s e).Fits :=
  ⟨by simp [spE], by simp [spE], h2, h3, (fun _ h => by cases h), (fun _ h => by cases h)⟩
def enP (a : Sp) : List Value := (spC a pl0).toList
theorem enP_len (a : Sp) : (enP a).length = 13 := rfl
theorem flatP_get : ∀ (X : List Sp) (i : Nat) (h : i < X.length) (j : Nat), j < 13 → (X.flatMap enP)[i * 13 + j]? = (enP X[i])[j]?
  | [], i, h, j, _ => absurd h (by simp)
  | x :: r, 0, h, j, hj => by
    rw [List.flatMap_cons, List.getElem?_append_left (by rw [enP_len]; omega)]
    simp
  | x :: r, i + 1, h, j, hj => by
    rw [List.flatMap_cons, List.getElem?_append_right (by rw [enP_len]; omega), enP_len, show (i + 1) * 13 + j - 13 = i * 13 + j by omega]
    exact flatP_get r i (by simpa using h) j hj
theorem spsFlat {w : World} {g : Nat} {X : List Sp} {T : TypeId} (h : Blk w g (X.flatMap enP).toArray T) (hat : ∀ a ∈ X, SpAt w a pl0) : SpsAt w (some ⟨g, 0, none⟩) X.length X (fun _ => pl0) := by
  refine ⟨rfl, fun _ => ⟨g, 0, rfl, fun i hi j u hu => ?_⟩, fun i hi => hat _ (List.getElem_mem hi)⟩
  have hj : j < 13 := (Array.getElem?_eq_some_iff.1 hu).1
  rw [Nat.zero_add]
  refine h.cell _ ?_
  rw [List.getElem?_toArray, flatP_get X i hi j hj]
  unfold enP
  rw [Array.getElem?_toList]
  exact hu
theorem oneE {X : List Sp} (h : ∀ a ∈ X, ∃ sv id par s e, a = spE sv id par s e ∧ sv.size ≤ 1000 ∧ (0 ≤ id ∧ id < 18446744073709551616) ∧ (0 ≤ par ∧ par < 18446744073709551616) ∧ chkS a = 0) (hl : X.length ≤ 1000) (hn : (X.map (fun a => a.id)).Nodup) : OneT X := by
  refine ⟨hl, fun a ha => ?_, fun a ha => ?_, fun a ha => ?_, fun a ha b hb => ?_, hn⟩
  · obtain ⟨_, _, _, _, _, _, _, _, _, h4⟩ := h a ha; exact h4
  · obtain ⟨_, _, _, _, _, rfl, _, h3, h4, _⟩ := h a ha; exact fitsE _ _ _ _ _ h3 h4
  · obtain ⟨_, _, _, _, _, rfl, h2, _, _⟩ := h a ha; exact smallE _ h2 _ _ _ _
  · obtain ⟨_, _, _, _, _, rfl, _⟩ := h a ha
    obtain ⟨_, _, _, _, _, rfl, _⟩ := h b hb
    exact ⟨rfl, rfl⟩
def svA : ByteArray := ⟨#[97]⟩
theorem four {i : Nat} (h : i < 4) : i = 0 ∨ i = 1 ∨ i = 2 ∨ i = 3 := by omega
theorem pair_of {R : List Int} {a b : Int} (hp : [a, b].Perm R) (hab : a ≠ b) (h : ∀ x y, R = [x, y] → ¬ (x = b ∧ y = a)) : R = [a, b] := by
  have hl := hp.length_eq
  match R, hl, hp, h with
  | [x, y], _, hp, h =>
    have hx : x = a ∨ x = b := by have := hp.mem_iff.2 (show x ∈ [x, y] by simp); simpa using this
    have hy : y = a ∨ y = b := by have := hp.mem_iff.2 (show y ∈ [x, y] by simp); simpa using this
    have hn : [x, y].Nodup := hp.nodup_iff.1 (by simp [hab])
    simp at hn
    have := h x y rfl
    rcases hx with rfl | rfl <;> rcases hy with rfl | rfl
    · exact absurd rfl hn
    · rfl
    · exact absurd ⟨rfl, rfl⟩ this
    · exact absurd rfl hn
theorem alloc_atS {W : World} {c : Array Value} {T : TypeId} {b : Nat} (h : b = W.heap.size) : Blk (W.alloc (.cells c T)) b c T := by
  subst h
  exact Blk.new _ _ _
theorem rise_same {X : List Spot} (hr : RiseS X) {i j : Nat} (hi : i < X.length) (hj : j < X.length) (e : X[i].nd.id = X[j].nd.id) : i = j := by
  rcases Nat.lt_trichotomy i j with h | h | h
  · have := hr i j hi hj h; omega
  · exact h
  · have := hr j i hj hi h; omega
/-- Node, by what is told. -/
theorem node_told (f sb : Nat) (X : List Spot) (K : Nat → List Int) (rv : Value) (R : List Int) (id : Int) (w : World) (h : ForestAt w f sb X K rv R) :
    Calls Tryz.prog 34 #[.pointer (some ⟨f, 0, none⟩), .int .u64 id] w fun e w' => ∃ d b, e = .returned (.tuple #[ndV d, .bool b]) ∧ ((∃ k, ∃ h : k < X.length, X[k].nd.id = id ∧ X[k].nd = d ∧ b = true) ∨ ((∀ i (h : i < X.length), X[i].nd.id ≠ id) ∧ d = zNd ∧ b = false)) ∧ Below w.heap.size w w' := by
  refine (node_any f sb X K rv R id w h).mono ?_
  rintro e w' ⟨⟨k, hk, h1, rfl⟩ | ⟨h1, rfl⟩, hb⟩
  · exact ⟨_, true, rfl, Or.inl ⟨k, hk, h1, rfl, rfl⟩, hb⟩
  · exact ⟨_, false, rfl, Or.inr ⟨h1, rfl, rfl⟩, hb⟩
theorem node_at {W : World} {f sb : Nat} {X : List Spot} {K : Nat → List Int} {rv : Value} {R : List Int} (h : ForestAt W f sb X K rv R) (k : Nat) (hk : k < X.length) (id : Int) (hid : X[k].nd.id = id) :
    Calls Tryz.prog 34 #[.pointer (some ⟨f, 0, none⟩), .int .u64 id] W fun e w' => e = .returned (.tuple #[ndV X[k].nd, .bool true]) ∧ Below W.heap.size W w' := by
  refine (node_told f sb X K rv R id W h).mono ?_
  rintro e w' ⟨d, b, rfl, hd, hb⟩
  rcases hd with ⟨j, hj, h1, h2, rfl⟩ | ⟨h1, _, _⟩
  · have := rise_same h.rise hj hk (by rw [h1, hid])
    subst this
    exact ⟨by rw [h2], hb⟩
  · exact absurd hid (h1 k hk)
theorem node_no {W : World} {f sb : Nat} {X : List Spot} {K : Nat → List Int} {rv : Value} {R : List Int} (h : ForestAt W f sb X K rv R) (id : Int) (hid : ∀ k (hk : k < X.length), X[k].nd.id ≠ id) :
    Calls Tryz.prog 34 #[.pointer (some ⟨f, 0, none⟩), .int .u64 id] W fun e w' => e = .returned (.tuple #[ndV zNd, .bool false]) ∧ Below W.heap.size W w' := by
  refine (node_told f sb X K rv R id W h).mono ?_
  rintro e w' ⟨d, b, rfl, hd, hb⟩
  rcases hd with ⟨j, hj, h1, _⟩ | ⟨_, rfl, rfl⟩
  · exact absurd h1 (hid j hj)
  · exact ⟨rfl, hb⟩
end Go.Proofs.YtkdgnhohecifoaaGreatDoor

namespace Go.Proofs.YtkdgnhohecifoaaGreatDoor
open Go Go.RowKit
set_option maxRecDepth 100000

/-- A pointer to a spot. -/
def pB (B : Nat → Nat) (x : Nat) : Value := .pointer (some ⟨B x, 0, none⟩)
def spL (d : Nod) (wv rv : Value) : Array Value := #[.int .u64 d.id, .int .i64 d.fr, .int .i64 d.til, wv, rv]
theorem owns_type {w : World} {base n : Nat} {e : TypeId} {v : Value} {xs : List Value} (h : w.ownsRow base e 1 v n xs) {g : Nat} (hg : v.ownBlock = some g) : ∃ cur, w.heap[g]? = some (.cells cur e (0, 0)) := by
  rcases h.2 with ⟨e1, _⟩ | ⟨g', cap, cur, e1, _, hh, _⟩
  · rw [e1] at hg; simp [Value.ownBlock] at hg
  · rw [e1] at hg
    simp [Value.ownBlock] at hg
    subst hg
    exact ⟨cur, hh⟩
/-- What a tree's calls write: spots and rows of them, from a block on. -/
structure UpO (base : Nat) (W W' : World) : Prop where
  upd : Upd (fun k => base ≤ k) W W'
  keep : ∀ (k : Nat) (c : Array Value) (T : TypeId) (fr : Nat × Nat), W.heap[k]? = some (Obj.cells c T fr) → T ≠ 108 → T ≠ 104 → W'.heap[k]? = some (Obj.cells c T fr)
theorem UpO.refl (base : Nat) (W : World) : UpO base W W := ⟨Upd.refl _ _, fun _ _ _ _ h _ _ => h⟩
theorem UpO.trans {base : Nat} {A B C : World} (h : UpO base A B) (k : UpO base B C) : UpO base A C :=
  ⟨h.upd.trans k.upd (fun _ _ h => h), fun j c T fr hc h1 h2 => k.keep j c T fr (h.keep j c T fr hc h1 h2) h1 h2⟩
theorem UpO.ofSpot {base b : Nat} {W W' : World} {c : Array Value} (hu : Upd (fun k => k = b) W W') (hb : Blk W b c 108) (hl : base ≤ b) : UpO base W W' :=
  ⟨hu.mono (fun k _ e => by subst e; exact hl), fun j c' T fr hc h1 _ => (hu.block j (Array.getElem?_eq_some_iff.1 hc).1 (fun e => by
    subst e
    unfold Blk at hb
    rw [hc] at hb
    simp at hb
    exact h1 hb.2.1)).trans hc⟩
/-- A row that is read from its head on. -/
def WaitAt (W : World) (v : Value) (g : Nat) (L : List Value) : Prop :=
  (v = .slice none 0 0 ∧ L = []) ∨ ∃ off cap c fr, v = .slice (some ⟨g, off, none⟩) L.length cap ∧ L.length ≤ cap ∧ W.heap[g]? = some (.cells c 104 fr) ∧ ∀ i u, L[i]? = some u → c[off + i]? = some u
theorem WaitAt.upd {S : Nat → Prop} {W W' : World} {v : Value} {g : Nat} {L : List Value} (h : WaitAt W v g L) (hu : Upd S W W') (hS : L ≠ [] → ¬ S g) : WaitAt W' v g L ∨ L = [] := by
  by_cases hL : L = []
  · exact Or.inr hL
  · left
    rcases h with ⟨h1, h2⟩ | ⟨off, cap, c, fr, h1, h2, h3, h4⟩
    · exact absurd h2 hL
    · exact Or.inr ⟨off, cap, c, fr, h1, h2, (hu.block g (Array.getElem?_eq_some_iff.1 h3).1 (hS hL)).trans h3, h4⟩
/-- The length of a row's value, with nothing in it. -/
def Empt (v : Value) : Prop := ∃ ad cap, v = .slice ad 0 cap
/-- Spots of a tree: who waits, who runs. -/
structure OwnS (base : Nat) (W : World) (fin : Nat → Nod) (D : List Nat) (B : Nat → Nat) (sw sr : Nat → List Nat) (wv rv : Nat → Value) (wb : Nat → Nat) : Prop where
  blk : ∀ x ∈ D, Blk W (B x) (spL (fin x) (wv x) (rv x)) 108
  low : ∀ x ∈ D, base ≤ B x
  inj : ∀ x ∈ D, ∀ y ∈ D, B x = B y → x = y
  wait : ∀ x ∈ D, WaitAt W (wv x) (wb x) ((sw x).map (pB B)) ∨ (sw x = [] ∧ Empt (wv x))
  run : ∀ x ∈ D, W.ownsRow base 104 1 (rv x) (sr x).length ((sr x).map (pB B))
  ap1 : ∀ x ∈ D, ∀ y ∈ D, x ≠ y → ∀ g, (rv x).ownBlock = some g → (rv y).ownBlock ≠ some g
  ap2 : ∀ x ∈ D, ∀ y ∈ D, sw y ≠ [] → (rv x).ownBlock ≠ some (wb y)
  lb : base ≤ W.heap.size
theorem OwnS.upd {S : Nat → Prop} {base : Nat} {W W' : World} {fin : Nat → Nod} {D : List Nat} {B : Nat → Nat} {sw sr : Nat → List Nat} {wv rv : Nat → Value} {wb : Nat → Nat} (h : OwnS base W fin D B sw sr wv rv wb) (hu : Upd S W W') (h1 : ∀ x ∈ D, ¬ S (B x)) (h2 : ∀ x ∈ D, ∀ g, (rv x).ownBlock = some g → ¬ S g) (h3 : ∀ x ∈ D, sw x ≠ [] → ¬ S (wb x)) : OwnS base W' fin D B sw sr wv rv wb := by
  refine ⟨fun x hx => (h.blk x hx).upd hu (h1 x hx), h.low, h.inj, fun x hx => ?_, fun x hx => ownsRow_upd (h.run x hx) hu (h2 x hx), h.ap1, h.ap2, Nat.le_trans h.lb hu.size⟩
  rcases h.wait x hx with hw | hw
  · by_cases hn : sw x = []
    · right
      refine ⟨hn, ?_⟩
      rcases hw with ⟨e, _⟩ | ⟨off, cap, c, fr, e, _⟩
      · exact ⟨_, _, e⟩
      · exact ⟨_, _, by rw [e, hn]; rfl⟩
    · left
      rcases hw.upd hu (fun _ => h3 x hx hn) with h' | h'
      · exact h'
      · exact absurd (List.map_eq_nil_iff.1 h') hn
  · exact Or.inr hw
theorem OwnS.below {base : Nat} {W W' : World} {fin : Nat → Nod} {D : List Nat} {B : Nat → Nat} {sw sr : Nat → List Nat} {wv rv : Nat → Value} {wb : Nat → Nat} (h : OwnS base W fin D B sw sr wv rv wb) (hb : Below W.heap.size W W') : OwnS base W' fin D B sw sr wv rv wb :=
  h.upd (S := fun _ => False) (Upd.ofBelow hb (fun k h1 h2 => by omega)) (fun _ _ h => h) (fun _ _ _ _ h => h) (fun _ _ _ h => h)
/-- A spot's block is no row's. -/
theorem OwnS.noRow {base : Nat} {W : World} {fin : Nat → Nod} {D : List Nat} {B : Nat → Nat} {sw sr : Nat → List Nat} {wv rv : Nat → Value} {wb : Nat → Nat} (h : OwnS base W fin D B sw sr wv rv wb) {x y : Nat} (hx : x ∈ D) (hy : y ∈ D) : (rv y).ownBlock ≠ some (B x) ∧ (sw y ≠ [] → wb y ≠ B x) := by
  have hB := h.blk x hx
  unfold Blk at hB
  refine ⟨fun e => ?_, fun hn e => ?_⟩
  · rcases (h.run y hy).2 with ⟨e1, _⟩ | ⟨g, cap, cur, e1, _, hh, _⟩
    · rw [e1] at e; simp [Value.ownBlock] at e
    · rw [e1] at e
      simp [Value.ownBlock] at e
      subst e
      rw [hB] at hh
      simp at hh
  · rcases h.wait y hy with (⟨_, h2⟩ | ⟨off, cap, c, fr, _, _, h3, _⟩) | ⟨h2, _⟩
    · exact hn (List.map_eq_nil_iff.1 h2)
    · rw [e, hB] at h3
      simp at h3
    · exact hn h2
/-- A function of numbers, with another value at x. -/
def upF {α : Type} (f : Nat → α) (x : Nat) (v : α) : Nat → α := fun y => if y = x then v else f y
theorem upF_same {α : Type} (f : Nat → α) (x : Nat) (v : α) : upF f x v x = v := if_pos rfl
theorem upF_ne {α : Type} (f : Nat → α) {x y : Nat} (v : α) (h : y ≠ x) : upF f x v y = f y := if_neg h
theorem upF_self {α : Type} (f : Nat → α) (x : Nat) : upF f x (f x) = f := by
  funext y
  by_cases e : y = x
  · subst e; exact upF_same _ _ _
  · exact upF_ne _ _ e
theorem upF_twice {α : Type} (f : Nat → α) (x : Nat) (u v : α) : upF (upF f x u) x v = upF f x v := by
  funext y
  by_cases e : y = x
  · subst e; rw [upF_same, upF_same]
  · rw [upF_ne _ _ e, upF_ne _ _ e, upF_ne _ _ e]
theorem spL_set3 (d : Nod) (wv rv v : Value) : (spL d wv rv).setIfInBounds 3 v = spL d v rv := rfl
theorem spL_set4 (d : Nod) (wv rv v : Value) : (spL d wv rv).setIfInBounds 4 v = spL d wv v := rfl
/-- The row of those who run is appended to, and its new head is stored. -/
theorem OwnS.append {base : Nat} {W W2 W3 : World} {fin : Nat → Nod} {D : List Nat} {B : Nat → Nat} {sw sr : Nat → List Nat} {wv rv : Nat → Value} {wb : Nat → Nat} (h : OwnS base W fin D B sw sr wv rv wb) {x c : Nat} (hx : x ∈ D) (hb : Below W.heap.size W W2) {v' : Value} (hg : W2.grownBy W3 (rv x).ownBlock) (hm : Moved W2 (rv x) v') (ho : W3.ownsRow base 104 1 v' ((sr x).length + 1) ((sr x).map (pB B) ++ [pB B c])) :
    OwnS base (W3.setCell ⟨B x, 4, none⟩ v') fin D B sw (upF sr x (sr x ++ [c])) wv (upF rv x v') wb ∧ UpO base W (W3.setCell ⟨B x, 4, none⟩ v') ∧ W3.cell? ⟨B x, 4, none⟩ = some (rv x) ∧ (∀ j, W3.frozen? ⟨B x, j, none⟩ = false) ∧ W3.cell? ⟨B x, 3, none⟩ = some (wv x) := by
  have h2 := h.below hb
  have u3 : Upd (fun k => (rv x).ownBlock = some k) W2 W3 := ⟨hg.os, hg.tape, hg.output, hg.size, fun k hk hn => hg.block k hk (fun e => hn e.symm)⟩
  have hB3 : ∀ y ∈ D, Blk W3 (B y) (spL (fin y) (wv y) (rv y)) 108 := fun y hy => (h2.blk y hy).upd u3 (fun e => (h2.noRow hy hx).1 e)
  have hmv : ∀ g, v'.ownBlock = some g → (rv x).ownBlock = some g ∨ W2.heap.size ≤ g := fun g e => by
    rcases hm with hm | ⟨k, hk, hs⟩
    · rw [hm] at e; exact Or.inl e
    · rw [hk] at e; cases e; exact Or.inr hs
  have hrl : ∀ y ∈ D, ∀ g, (rv y).ownBlock = some g → base ≤ g ∧ g < W2.heap.size := fun y hy g e => owns_lt (h2.run y hy) e
  have u4 : Upd (fun k => k = B x) W3 (W3.setCell ⟨B x, 4, none⟩ v') := Upd.setCell (S := fun k => k = B x) (Upd.refl _ _) (p := ⟨B x, 4, none⟩) (fun _ => rfl) _
  have hwl : ∀ y ∈ D, sw y ≠ [] → wb y < W2.heap.size := fun y hy hn => by
    rcases h2.wait y hy with (⟨_, e⟩ | ⟨off, cap, c, fr, _, _, h3, _⟩) | ⟨e, _⟩
    · exact absurd (List.map_eq_nil_iff.1 e) hn
    · exact (Array.getElem?_eq_some_iff.1 h3).1
    · exact absurd e hn
  refine ⟨⟨fun y hy => ?_, h.low, h.inj, fun y hy => ?_, fun y hy => ?_, fun y hy z hz hyz g e1 e2 => ?_, fun y hy z hz hn e => ?_, by have := h2.lb; have := u3.size; have := u4.size; omega⟩, ?_, (hB3 x hx).cell 4 rfl, fun j => (hB3 x hx).frozen j, (hB3 x hx).cell 3 rfl⟩
  · by_cases e : y = x
    · subst e
      rw [upF_same]
      have := (hB3 y hy).set 4 v'
      rwa [spL_set4] at this
    · rw [upF_ne _ _ e]
      exact (hB3 y hy).other _ _ (fun e' => e (h.inj y hy x hx e'))
  · rcases h2.wait y hy with hw | hw
    · by_cases hn : sw y = []
      · right
        refine ⟨hn, ?_⟩
        rcases hw with ⟨e, _⟩ | ⟨off, cap, c, fr, e, _⟩
        · exact ⟨_, _, e⟩
        · exact ⟨_, _, by rw [e, hn]; rfl⟩
      · left
        rcases (hw.upd u3 (fun _ e => h.ap2 x hx y hy hn e)) with h' | h'
        · rcases h'.upd u4 (fun _ e => (h2.noRow hx hy).2 hn e) with h'' | h''
          · exact h''
          · exact absurd (List.map_eq_nil_iff.1 h'') hn
        · exact absurd (List.map_eq_nil_iff.1 h') hn
    · exact Or.inr hw
  · by_cases e : y = x
    · subst e
      rw [upF_same, upF_same]
      have := ownsRow_upd ho u4 (fun k hk e => by
        subst e
        rcases hmv _ hk with h' | h'
        · exact (h2.noRow hy hy).1 h'
        · have := (h2.blk y hy).lt; omega)
      simpa using this
    · rw [upF_ne _ _ e, upF_ne _ _ e]
      refine ownsRow_upd (ownsRow_upd (h2.run y hy) u3 (fun k hk hh => h.ap1 x hx y hy (fun e' => e e'.symm) k hh hk)) u4 (fun k hk e' => ?_)
      subst e'
      exact (h2.noRow hx hy).1 hk
  · by_cases ey : y = x
    · subst ey
      rw [upF_same] at e1
      rw [upF_ne _ _ (fun e => hyz e.symm)] at e2
      rcases hmv g e1 with h' | h'
      · exact h.ap1 y hy z hz hyz g h' e2
      · have := (hrl z hz g e2).2; omega
    · rw [upF_ne _ _ ey] at e1
      by_cases ez : z = x
      · subst ez
        rw [upF_same] at e2
        rcases hmv g e2 with h' | h'
        · exact h.ap1 y hy z hz hyz g e1 h'
        · have := (hrl y hy g e1).2; omega
      · rw [upF_ne _ _ ez] at e2
        exact h.ap1 y hy z hz hyz g e1 e2
  · by_cases ey : y = x
    · subst ey
      rw [upF_same] at e
      rcases hmv _ e with h' | h'
      · exact h.ap2 y hy z hz hn h'
      · have := hwl z hz hn; omega
    · rw [upF_ne _ _ ey] at e
      exact h.ap2 y hy z hz hn e
  · have u0 : Upd (fun k => base ≤ k) W W2 := Upd.ofBelow hb (fun k h1 h2 => by omega)
    have a1 : UpO base W W3 := by
      refine ⟨u0.trans u3 (fun k _ e => (hrl x hx k e).1), fun j c' T fr hc h1' h2' => ?_⟩
      have hc2 := (hb.block j (Array.getElem?_eq_some_iff.1 hc).1).trans hc
      refine (u3.block j (Array.getElem?_eq_some_iff.1 hc2).1 (fun e => ?_)).trans hc2
      obtain ⟨cur, hh⟩ := owns_type (h2.run x hx) e
      rw [hc2] at hh
      simp at hh
      exact h2' hh.2.1
    exact a1.trans (UpO.ofSpot u4 (hB3 x hx) (h.low x hx))
/-- The head of the row of those who wait is stored. -/
theorem OwnS.setW {base : Nat} {W : World} {fin : Nat → Nod} {D : List Nat} {B : Nat → Nat} {sw sr : Nat → List Nat} {wv rv : Nat → Value} {wb : Nat → Nat} (h : OwnS base W fin D B sw sr wv rv wb) {x : Nat} (hx : x ∈ D) (v' : Value) (L : List Nat) (hn : L ≠ [] → sw x ≠ []) (hv : WaitAt W v' (wb x) (L.map (pB B)) ∨ (L = [] ∧ Empt v')) :
    OwnS base (W.setCell ⟨B x, 3, none⟩ v') fin D B (upF sw x L) sr (upF wv x v') rv wb ∧ UpO base W (W.setCell ⟨B x, 3, none⟩ v') := by
  have u4 : Upd (fun k => k = B x) W (W.setCell ⟨B x, 3, none⟩ v') := Upd.setCell (S := fun k => k = B x) (Upd.refl _ _) (p := ⟨B x, 3, none⟩) (fun _ => rfl) _
  refine ⟨⟨fun y hy => ?_, h.low, h.inj, fun y hy => ?_, fun y hy => ?_, h.ap1, fun y hy z hz hz' e => ?_, by have := h.lb; have := u4.size; omega⟩, UpO.ofSpot u4 (h.blk x hx) (h.low x hx)⟩
  · by_cases e : y = x
    · subst e
      rw [upF_same]
      have := (h.blk y hy).set 3 v'
      rwa [spL_set3] at this
    · rw [upF_ne _ _ e]
      exact (h.blk y hy).other _ _ (fun e' => e (h.inj y hy x hx e'))
  · by_cases e : y = x
    · subst e
      rw [upF_same, upF_same]
      rcases hv with hw | hw
      · by_cases hL : L = []
        · right
          refine ⟨hL, ?_⟩
          rcases hw with ⟨e, _⟩ | ⟨off, cap, c, fr, e, _⟩
          · exact ⟨_, _, e⟩
          · exact ⟨_, _, by rw [e, hL]; rfl⟩
        · left
          rcases hw.upd u4 (fun _ e => (h.noRow hy hy).2 (hn hL) e) with h' | h'
          · exact h'
          · exact absurd (List.map_eq_nil_iff.1 h') hL
      · exact Or.inr hw
    · rw [upF_ne _ _ e, upF_ne _ _ e]
      rcases h.wait y hy with hw | hw
      · by_cases hL : sw y = []
        · right
          refine ⟨hL, ?_⟩
          rcases hw with ⟨e, _⟩ | ⟨off, cap, c, fr, e, _⟩
          · exact ⟨_, _, e⟩
          · exact ⟨_, _, by rw [e, hL]; rfl⟩
        · left
          rcases hw.upd u4 (fun _ e => (h.noRow hx hy).2 hL e) with h' | h'
          · exact h'
          · exact absurd (List.map_eq_nil_iff.1 h') hL
      · exact Or.inr hw
  · refine ownsRow_upd (h.run y hy) u4 (fun k hk e' => ?_)
    subst e'
    exact (h.noRow hx hy).1 hk
  · by_cases ez : z = x
    · subst ez
      rw [upF_same] at hz'
      exact h.ap2 y hy z hz (hn hz') e
    · rw [upF_ne _ _ ez] at hz'
      exact h.ap2 y hy z hz hz' e
/-- Those who run are cut off behind m. -/
theorem OwnS.cut {base : Nat} {W : World} {fin : Nat → Nod} {D : List Nat} {B : Nat → Nat} {sw sr : Nat → List Nat} {wv rv : Nat → Value} {wb : Nat → Nat} (h : OwnS base W fin D B sw sr wv rv wb) {x : Nat} (hx : x ∈ D) (g n cap m : Nat) (hv : rv x = .slice (some ⟨g, 0, none⟩) n cap) (hm : m ≤ (sr x).length) :
    OwnS base (W.setCell ⟨B x, 4, none⟩ (.slice (some ⟨g, 0, none⟩) m cap)) fin D B sw (upF sr x ((sr x).take m)) wv (upF rv x (.slice (some ⟨g, 0, none⟩) m cap)) wb ∧ UpO base W (W.setCell ⟨B x, 4, none⟩ (.slice (some ⟨g, 0, none⟩) m cap)) := by
  have u4 : Upd (fun k => k = B x) W (W.setCell ⟨B x, 4, none⟩ (.slice (some ⟨g, 0, none⟩) m cap)) := Upd.setCell (S := fun k => k = B x) (Upd.refl _ _) (p := ⟨B x, 4, none⟩) (fun _ => rfl) _
  have hob : ∀ y, (upF rv x (.slice (some ⟨g, 0, none⟩) m cap) y).ownBlock = (rv y).ownBlock := fun y => by
    by_cases e : y = x
    · subst e; rw [upF_same, hv]; rfl
    · rw [upF_ne _ _ e]
  refine ⟨⟨fun y hy => ?_, h.low, h.inj, fun y hy => ?_, fun y hy => ?_, fun y hy z hz hyz k e1 => ?_, fun y hy z hz hz' => ?_, by have := h.lb; have := u4.size; omega⟩, UpO.ofSpot u4 (h.blk x hx) (h.low x hx)⟩
  · by_cases e : y = x
    · subst e
      rw [upF_same]
      have := (h.blk y hy).set 4 (.slice (some ⟨g, 0, none⟩) m cap)
      rwa [spL_set4] at this
    · rw [upF_ne _ _ e]
      exact (h.blk y hy).other _ _ (fun e' => e (h.inj y hy x hx e'))
  · rcases h.wait y hy with hw | hw
    · by_cases hL : sw y = []
      · right
        refine ⟨hL, ?_⟩
        rcases hw with ⟨e, _⟩ | ⟨off, cap, c, fr, e, _⟩
        · exact ⟨_, _, e⟩
        · exact ⟨_, _, by rw [e, hL]; rfl⟩
      · left
        rcases hw.upd u4 (fun _ e => (h.noRow hx hy).2 hL e) with h' | h'
        · exact h'
        · exact absurd (List.map_eq_nil_iff.1 h') hL
    · exact Or.inr hw
  · by_cases e : y = x
    · subst e
      rw [upF_same, upF_same]
      have hr := ownsRow_upd (h.run y hy) u4 (fun k hk e' => by subst e'; exact (h.noRow hy hy).1 hk)
      rcases hr.2 with ⟨e1, _⟩ | ⟨g', cap', cur, e1, hb, hh, hc, hcm, hcs, ht⟩
      · rw [hv] at e1; simp at e1
      · rw [hv] at e1
        simp at e1
        obtain ⟨rfl, hn', rfl⟩ := e1
        have hlen : ((sr y).take m).length = m := by simp; omega
        refine ⟨by simp, Or.inr ⟨g, cap, cur, by rw [hlen], hb, hh, by rw [hlen]; omega, hcm, hcs, ?_⟩⟩
        rw [hlen, Nat.mul_one, List.map_take, ← ht, List.take_take, Nat.mul_one, Nat.min_eq_left hm]
    · rw [upF_ne _ _ e, upF_ne _ _ e]
      refine ownsRow_upd (h.run y hy) u4 (fun k hk e' => ?_)
      subst e'
      exact (h.noRow hx hy).1 hk
  · rw [hob] at e1 ⊢
    exact h.ap1 y hy z hz hyz k e1
  · rw [hob]
    exact h.ap2 y hy z hz hz'
/-- Who waits no more goes among those who run. -/
def moveM (fin : Nat → Nod) (at_ : Int) : List Nat → List Nat → List Nat × List Nat
  | [], r => ([], r)
  | c :: w, r => if (fin c).fr ≤ at_ then moveM fin at_ w (r ++ [c]) else (c :: w, r)
/-- Who has ended is let go, from the last one on. -/
def popR (fin : Nat → Nod) (at_ : Int) : List Nat → List Nat
  | [] => []
  | c :: r => if at_ < (fin c).til then c :: r else popR fin at_ r
def popM (fin : Nat → Nod) (at_ : Int) (r : List Nat) : List Nat := (popR fin at_ r.reverse).reverse
/-- One step down: to whom; who waits, who runs behind it. -/
def nextM (fin : Nat → Nod) (at_ : Int) (w r : List Nat) : Option Nat × List Nat × List Nat :=
  ((popM fin at_ (moveM fin at_ w r).2).getLast?, (moveM fin at_ w r).1, popM fin at_ (moveM fin at_ w r).2)
theorem popM_keep (fin : Nat → Nod) (at_ : Int) (r : List Nat) (c : Nat) (h : at_ < (fin c).til) : popM fin at_ (r ++ [c]) = r ++ [c] := by
  simp [popM, popR, h]
theorem popM_drop (fin : Nat → Nod) (at_ : Int) (r : List Nat) (c : Nat) (h : ¬ at_ < (fin c).til) : popM fin at_ (r ++ [c]) = popM fin at_ r := by
  simp [popM, popR, h]
end Go.Proofs.YtkdgnhohecifoaaGreatDoor
