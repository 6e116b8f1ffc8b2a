/-
  Merged: GA, GC.
-/
import Derived.Test.YtkpkdikogoalkaaGreatDoorFZ
namespace Go.Proofs.YtkpkdikogoalkaaGreatDoor
open Go Go.RowKit
set_option maxRecDepth 100000

/-- Spots of spans, wherever their lists lie. -/
def zs (Y : List Sp) : List Spot := Y.map (fun a => ⟨a, ⟨none, 0, none, 0, none, 0⟩, ndOf a, none, 0, 0⟩)
theorem zs_len (Y : List Sp) : (zs Y).length = Y.length := by simp [zs]
/-- Spots that say the same of their spans. -/
def Like (X Z : List Spot) : Prop := X.map (fun x => (x.a, x.nd)) = Z.map (fun x => (x.a, x.nd))
theorem Like.len {X Z : List Spot} (h : Like X Z) : X.length = Z.length := by
  have := congrArg List.length h
  simpa using this
theorem Like.get {X Z : List Spot} (h : Like X Z) (i : Nat) (h1 : i < X.length) (h2 : i < Z.length) : X[i].a = Z[i].a ∧ X[i].nd = Z[i].nd := by
  have e : (X.map (fun x => (x.a, x.nd)))[i]'(by simpa using h1) = (Z.map (fun x => (x.a, x.nd)))[i]'(by simpa using h2) := by
    have h' := h
    unfold Like at h'
    simp only [h']
  simp only [List.getElem_map, Prod.mk.injEq] at e
  exact e
theorem Like.symm {X Z : List Spot} (h : Like X Z) : Like Z X := Eq.symm h
theorem findIdx_map {α β : Type} (g : α → β) (p : β → Bool) : ∀ l : List α, (l.map g).findIdx? p = l.findIdx? (fun x => p (g x))
  | [] => rfl
  | x :: r => by simp [List.findIdx?_cons, findIdx_map g p r]
theorem Like.idx {X Z : List Spot} (h : Like X Z) (id : Int) : idxI X id = idxI Z id := by
  have e : X.findIdx? (fun x => x.nd.id == id) = Z.findIdx? (fun x => x.nd.id == id) := by
    have h1 := findIdx_map (fun x : Spot => (x.a, x.nd)) (fun q => q.2.id == id) X
    have h2 := findIdx_map (fun x : Spot => (x.a, x.nd)) (fun q => q.2.id == id) Z
    rw [← h1, ← h2, h]
  unfold idxI
  rw [e]
theorem Like.nm {X Z : List Spot} (h : Like X Z) : nmOf X = nmOf Z := by
  apply List.ext_getElem
  · simp [nmOf, h.len]
  · intro i h1 h2
    have h1' : i < X.length := by simpa [nmOf] using h1
    have h2' : i < Z.length := by simpa [nmOf] using h2
    simp only [nmOf, List.getElem_map]
    rw [(h.get i h1' h2').1, h.idx]
theorem Like.shape {X Z : List Spot} {nm : List Int} {dp : Nat → Nat} {fin : Nat → Nod} (h : Like X Z) (sh : Shape Z nm dp fin) : Shape X nm dp fin := by
  have hl := h.len
  have hroot : ∀ i (h1 : i < X.length) (h2 : i < Z.length), rootN X[i] = rootN Z[i] := fun i h1 h2 => by
    obtain ⟨e1, e2⟩ := h.get i h1 h2
    unfold rootN
    rw [e1, e2]
  have hhang : ∀ i (h1 : i < X.length) (h2 : i < Z.length) d, hangN X[i] d = hangN Z[i] d := fun i h1 h2 d => by
    obtain ⟨e1, e2⟩ := h.get i h1 h2
    unfold hangN
    rw [e1, e2]
  refine ⟨fun i hi hn => ?_, fun i j hi hj hn => ?_, fun i hi => sh.bd i (by omega)⟩
  · rw [hroot i hi (by omega)]; exact sh.rt i (by omega) hn
  · rw [hhang i hi (by omega)]; exact sh.kd i j (by omega) (by omega) hn
theorem nm_range (X : List Spot) : ∀ i, i < X.length → (nmOf X).getD i (-1) ≠ -1 → 0 ≤ (nmOf X).getD i (-1) ∧ (nmOf X).getD i (-1) < X.length := fun i hi hn => by
  have e : (nmOf X).getD i (-1) = idxI X X[i].a.par := by simp [nmOf, hi]
  rw [e] at hn ⊢
  have := idx_range X X[i].a.par
  omega
theorem Shape.id {X : List Spot} {dp : Nat → Nat} {fin : Nat → Nod} (sh : Shape X (nmOf X) dp fin) (i : Nat) (hi : i < X.length) : (fin i).id = X[i].nd.id := by
  by_cases hn : (nmOf X).getD i (-1) = -1
  · rw [(sh.rt i hi hn).2]; rfl
  · obtain ⟨h1, h2⟩ := nm_range X i hi hn
    rw [(sh.kd i ((nmOf X).getD i (-1)).toNat hi (by omega) (by omega)).2]; rfl
/-- What a forest is, of spans by rising IDs. -/
structure FoR (Y : List Sp) (fin : Nat → Nod) (X : List Spot) (K : Nat → List Int) (R : List Int) : Prop where
  len : X.length = Y.length
  each : ∀ i (h : i < Y.length) (h' : i < X.length), X[i].a = Y[i] ∧ X[i].nd = fin i
  kids : ∀ i, i < Y.length → (kidsF (nmOf (zs Y)) Y.length i).Perm (K i) ∧ (K i).Pairwise (fun a b => ¬ ltK (fin b.toNat) (fin a.toNat))
  roots : (kidsF (nmOf (zs Y)) Y.length (-1)).Perm R ∧ R.Pairwise (fun a b => ¬ ltK (fin b.toNat) (fin a.toNat))
theorem owns_holds {w : World} {base : Nat} {v : Value} {L : List Int} (h : w.ownsRow base 3 1 v L.length (L.map (Value.int .i64))) : ∃ ad cap, v = .slice ad L.length cap ∧ HoldsV w ad L.length (intsV .i64 L) := by
  rcases h.2 with ⟨rfl, h0⟩ | ⟨g, cap, cur, rfl, hbg, hh, hnc, hcm, hcs, ht⟩
  · rw [h0]
    have hL : L = [] := List.eq_nil_of_length_eq_zero h0
    subst hL
    exact ⟨none, 0, rfl, HoldsV.nil w⟩
  · refine ⟨_, cap, rfl, by simp [intsV], fun j u hu => ⟨_, rfl, ?_⟩⟩
    have := h.cells (g := g) rfl j u hu
    exact this
set_option maxHeartbeats 1000000 in
theorem rest_ok (X Y : List Sp) (w : World) (h1 : OneT X) (hp : X.Perm Y) (hr : Y.Pairwise (fun a b => a.id < b.id)) (hno : NoRing (nmOf (zs Y)) Y.length) (dp : Nat → Nat) (fin : Nat → Nod) (sh : Shape (zs Y) (nmOf (zs Y)) dp fin) :
    Rest w X fun e w' => ∃ f sb X' K rv R, e = .returned (.tuple #[.pointer (some ⟨f, 0, none⟩), .int .i64 0]) ∧ ForestAt w' f sb X' K rv R ∧ FoR Y fin X' K R ∧ Below w.heap.size w w' := by
  intro wr f sb Z hB
  have hZl := hB.len
  have hXY := hp.length_eq
  have hX1 := h1.len
  have hlo := hB.lo
  have hbs := hB.below.size
  have S1 := sortSp_any sb Z wr hB.row (by omega)
  rw [hZl] at S1
  refine S1.mono ?_
  rintro e w2 ⟨rfl, Z', hpZ, hsZ, hB2, u2⟩
  refine ⟨rfl, ?_⟩
  have hZ'l : Z'.length = X.length := by rw [← hpZ.length_eq]; exact hZl
  -- what each spot of the sorted list is
  have hZa : Z.map (fun z => z.a) = X := by
    apply List.ext_getElem
    · simpa using hZl
    · intro i a b
      simp only [List.getElem_map]
      exact (hB.done i (by simpa using a) b (by omega)).a_
  have hLd : ∀ z ∈ Z, Laid wr f z.a z := fun z hz => by
    obtain ⟨i, hi, rfl⟩ := List.mem_iff_getElem.1 hz
    have L := hB.done i hi (by omega) (by omega)
    exact ⟨rfl, by rw [L.a_]; exact L.nd, L.kv, by rw [L.a_]; exact L.at_⟩
  have hLd' : ∀ z ∈ Z', Laid wr f z.a z := fun z hz => hLd z (hpZ.mem_iff.2 hz)
  have hYZ : Y = Z'.map (fun z => z.a) := by
    refine rise_unique Y _ ?_ hr ?_
    · refine hp.symm.trans ?_
      rw [← hZa]
      exact hpZ.map _
    · have hnd : (Z'.map (fun z => z.a.id)).Nodup := by
        have e : Z'.map (fun z => z.a.id) = (Z'.map (fun z => z.a)).map (fun a => a.id) := by simp
        rw [e]
        have hperm : (X.map (fun a => a.id)).Perm ((Z'.map (fun z => z.a)).map (fun a => a.id)) := by
          rw [← hZa]
          exact (hpZ.map _).map _
        exact hperm.nodup_iff.1 h1.ids
      rw [List.pairwise_map]
      have hnd2 := List.pairwise_map.1 hnd
      refine List.Pairwise.imp_of_mem ?_ (hsZ.and hnd2)
      intro a b ha hb hab
      have e1 : a.nd.id = a.a.id := by rw [(hLd' a ha).nd]; rfl
      have e2 : b.nd.id = b.a.id := by rw [(hLd' b hb).nd]; rfl
      obtain ⟨c1, c2⟩ := hab
      rw [e1, e2] at c1
      omega
  have hlike : Like Z' (zs Y) := by
    unfold Like zs
    rw [hYZ, List.map_map, List.map_map]
    refine List.map_congr_left fun z hz => ?_
    simp only [Function.comp]
    rw [(hLd' z hz).nd]
  have hYl : Y.length = Z'.length := by rw [hYZ]; simp
  have sh' := hlike.shape sh
  rw [← hlike.nm] at sh' hno
  have hid := fun i (hi : i < Z'.length) => Shape.id sh' i hi
  have hZnd : ∀ i (hi : i < Z'.length), Z'[i].nd = ndOf Z'[i].a := fun i hi => (hLd' _ (List.getElem_mem hi)).nd
  have hrise : RiseS Z' := fun i j hi hj hij => by
    rw [hZnd i hi, hZnd j hj]
    rw [hYZ, List.pairwise_map] at hr
    exact List.pairwise_iff_getElem.1 hr i j hi hj hij
  have hhead : Blk w2 f #[.slice (some ⟨sb, 0, none⟩) Z'.length Z'.length, .slice none 0 0] 81 := by
    rw [hZ'l]; exact hB.head.upd u2 (fun e => by omega)
  refine (plant_any f sb Z' w2 hhead hB2 (by omega) (fun i hi => (hLd' _ (List.getElem_mem hi)).kv) hrise (by omega) (by rw [← hYl]; exact hno)).mono ?_
  rintro e w3 ⟨rfl, base, X1, rv, hbase, hP, hF, u3⟩
  refine ⟨rfl, ?_⟩
  refine (grow_any base f sb Z'.length Z' X1 (nmOf Z') dp fin rv w3 hP hF sh' (nm_range Z') rfl (by omega)).mono ?_
  rintro e w4 ⟨rfl, X4, K, rv4, R, hP4, hl4, hE, hRp, hRs, u4⟩
  refine ⟨rfl, ?_⟩
  have s2 := u2.size
  have s3 := u3.size
  have s4 := u4.size
  have hkeep : ∀ j, f < j → j < wr.heap.size → w4.heap[j]? = wr.heap[j]? := fun j h1 h2 => by
    rw [u4.block j (by omega) (fun e => by rcases e with e | e <;> omega), u3.block j (by omega) (fun e => by rcases e with e | e <;> omega), u2.block j h2 (by omega)]
  have hX4Y : X4.length = Y.length := by omega
  have hEY : ∀ i (h : i < Y.length) (h' : i < X4.length), X4[i].a = Y[i] ∧ X4[i].nd = fin i := fun i h h' => by
    have hi : i < Z'.length := by omega
    refine ⟨?_, (hE i hi h').2.2.1⟩
    rw [(hE i hi h').1]
    subst hYZ
    simp
  refine ⟨f, sb, X4, K, rv4, R, rfl, ⟨hP4.head, hP4.row, ?_, by omega, fun i hi => ?_, fun i hi => ?_, ?_⟩, ⟨hX4Y, hEY, fun i hi => ?_, ?_⟩, ?_⟩
  · intro i j hi hj hij
    rw [(hE i (by omega) hi).2.2.1, (hE j (by omega) hj).2.2.1, hid i (by omega), hid j (by omega)]
    exact hrise i j (by omega) (by omega) hij
  · have hi' : i < Z'.length := by omega
    have L := hLd' _ (List.getElem_mem hi')
    obtain ⟨lo, hi2, hlo1, hhi, hS⟩ := L.at_
    rw [(hE i hi' hi).1, (hE i hi' hi).2.1]
    refine ⟨hS w4 (fun j a b => hkeep j (by omega) (by omega)), ?_⟩
    have hmem : Z'[i].a ∈ X := by
      rw [← hZa]
      exact List.mem_map.2 ⟨_, hpZ.mem_iff.2 (List.getElem_mem hi'), rfl⟩
    have hG := chk_good (h1.chk _ hmem)
    exact ⟨Nat.le_trans hG.links (by omega), Nat.le_trans hG.attrs (by omega), Nat.le_trans hG.events (by omega)⟩
  · obtain ⟨ad, cap, e1, e2⟩ := owns_holds (hP4.kids i hi)
    have hpm := (hE i (by omega) hi).2.2.2.1
    refine ⟨ad, cap, e1, e2, ?_, fun x hx => ?_⟩
    · have := hpm.length_eq; have := kidsF_len (nmOf Z') Z'.length i; omega
    · have := kidsF_mem (hpm.mem_iff.2 hx); omega
  · obtain ⟨ad, cap, e1, e2⟩ := owns_holds hP4.roots
    refine ⟨ad, cap, e1, e2, ?_, fun x hx => ?_⟩
    · have := hRp.length_eq; have := kidsF_len (nmOf Z') Z'.length (-1); omega
    · have := kidsF_mem (hRp.mem_iff.2 hx); omega
  · rw [← hlike.nm, hYl]
    exact (hE i (by omega) (by omega)).2.2.2
  · rw [← hlike.nm, hYl]
    exact ⟨hRp, hRs⟩
  · have b1 : Below w.heap.size w w2 := hB.below.trans (u2.below hbs (fun k hk e => by omega))
    have b2 : Below w.heap.size w w3 := b1.trans (u3.below b1.size (fun k hk e => by rcases e with e | e <;> omega))
    exact b2.trans (u4.below b2.size (fun k hk e => by rcases e with e | e <;> omega))
theorem build_any (ad : Option Addr) (n cap : Nat) (X Y : List Sp) (P : Nat → Pl) (w : World) (hX : SpsAt w ad n X P) (h1 : OneT X) (hT : Tabs w) (hp : X.Perm Y) (hr : Y.Pairwise (fun a b => a.id < b.id)) (hno : NoRing (nmOf (zs Y)) Y.length) (dp : Nat → Nat) (fin : Nat → Nod) (sh : Shape (zs Y) (nmOf (zs Y)) dp fin) :
    Calls Tryz.prog 24 #[.slice ad n cap] w fun e w' => ∃ f sb X' K rv R, e = .returned (.tuple #[.pointer (some ⟨f, 0, none⟩), .int .i64 0]) ∧ ForestAt w' f sb X' K rv R ∧ FoR Y fin X' K R ∧ Below w.heap.size w w' :=
  build_ok ad n cap X P w hX h1 hT _ (rest_ok X Y w h1 hp hr hno dp fin sh)
end Go.Proofs.YtkpkdikogoalkaaGreatDoor

namespace Go.Proofs.YtkpkdikogoalkaaGreatDoor
open Go Go.RowKit
set_option maxRecDepth 100000

set_option maxHeartbeats 4000000 in
theorem ids_any (f sb : Nat) (X : List Spot) (K : Nat → List Int) (rv : Value) (R : List Int) (w : World) (h : ForestAt w f sb X K rv R) :
    Calls Tryz.prog 52 #[.pointer (some ⟨f, 0, none⟩)] w fun e w' => ∃ r, e = .returned (.slice (some ⟨r, 0, none⟩) X.length X.length) ∧ Blk w' r (fillC .u64 (X.map (fun x => x.nd.id)) 0) 58 ∧ w.heap.size ≤ r ∧ Below w.heap.size w w' := by
  have hl := h.small
  have hf : w.cell? ⟨f, 0, none⟩ = some (.slice (some ⟨sb, 0, none⟩) X.length X.length) := h.head.cell 0 rfl
  have HF : Hid (w.cell? ⟨f, 0, none⟩ = some (.slice (some ⟨sb, 0, none⟩) X.length X.length)) := hf
  have HB : Hid (Blk w sb (rowS X) 89) := h.row
  have hflt : Hid (f < w.heap.size) := World.block_lt_of_cell? w _ hf
  obtain ⟨n, hn⟩ : ∃ n, X.length = n := ⟨_, rfl⟩
  have HN : Hid (X.length = n) := hn
  rw [hn] at hl hf ⊢
  clear h hn
  go_enter Tryz.func52, Tryz.ntmps52
  go_wp2_with (at_make; refine wpList_mk rfl _ _ 59 rfl 58 (.int .u64 0) 1 8 Tryz.underlying59 infoID n rfl rfl (by omega) (by unfold maxLen; omega) ?_; intro w1 b1 hb1; have f1 : w1.cell? ⟨f, 0, none⟩ = some (.slice (some ⟨sb, 0, none⟩) n n) := (hb1.cell (p := ⟨f, 0, none⟩) hflt.out).trans hf)
  have B0 : Hid (Blk w1 w.heap.size (fillC .u64 [] n) 58) := by
    rw [fill_start, ← made_one]; exact b1
  have HB1 : Hid (Below w.heap.size w w1) := hb1
  obtain ⟨r, hrr⟩ : ∃ r, w.heap.size = r := ⟨_, rfl⟩
  have HRR : Hid (w.heap.size = r) := hrr
  rw [hrr] at B0 ⊢
  clear b1 hb1 hrr f1 hf
  go_loopw [17] (fun x wr => ∃ k : Nat, x = .int .i64 k ∧ k ≤ n ∧ Blk wr r (fillC .u64 ((X.take k).map (fun x => x.nd.id)) (n - k)) 58 ∧ Below w.heap.size w wr) (fun x _ => n - (intOf x).toNat)
  case atStart => exact ⟨0, rfl, by omega, by simpa using B0.out, HB1.out⟩
  case round =>
    obtain ⟨k, rfl, hkn, hblk, hb⟩ := hrel
    have HBB : Hid (Below w.heap.size w wr) := hb
    have HBK : Hid (Blk wr r (fillC .u64 ((X.take k).map (fun x => x.nd.id)) (n - k)) 58) := hblk
    clear hb hblk
    by_cases hlt : k < n
    · have hkX : k < X.length := by rw [HN.out]; exact hlt
      have f1 : wr.cell? ⟨f, 0, none⟩ = some (.slice (some ⟨sb, 0, none⟩) n n) := (HBB.out.cell (p := ⟨f, 0, none⟩) hflt.out).trans (by rw [← HN.out]; exact HF.out)
      have LD : Hid (wr.rangeAt sb (k * 21) (enS X[k])) := Blk.range (Blk.below HB.out HBB.out (Blk.lt HB.out)) k hkX
      have hT : Hid ((X.take (k + 1)).map (fun x => x.nd.id) = (X.take k).map (fun x => x.nd.id) ++ [X[k].nd.id]) := by rw [List.take_succ_eq_append_getElem hkX, List.map_append]; rfl
      obtain ⟨x, hx⟩ : ∃ x, X[k]'hkX = x := ⟨_, rfl⟩
      rw [hx] at LD hT
      have hkr : Hid (∀ W, Upd (fun j => j = wr.heap.size) (wr.alloc (.cells zSpotL.toArray 89)) W → Below w.heap.size w W ∧ Blk W r (fillC .u64 ((X.take k).map (fun x => x.nd.id)) (n - k)) 58) := fun W hu => by
        have hs := HBB.out.size
        have hb : Below w.heap.size w W := (HBB.out.alloc hs _).trans (hu.below (by simp; omega) (fun j hj e => by omega))
        refine ⟨hb, ?_⟩
        have h0 : Blk (wr.alloc (.cells zSpotL.toArray 89)) r (fillC .u64 ((X.take k).map (fun x => x.nd.id)) (n - k)) 58 := Blk.alloc HBK.out _
        exact Blk.upd h0 hu (fun e => by have := Blk.lt HBK.out; omega)
      have hlen : ((X.take k).map (fun x => x.nd.id)).length = k := by simp; omega
      have hnk : n - k = (n - (k + 1)) + 1 := by omega
      have GET0 : Hid (∀ W, Blk W r (fillC .u64 ((X.take k).map (fun x => x.nd.id)) (n - k)) 58 → W.cell? ⟨r, k, none⟩ = some (.int .u64 0) ∧ Blk (W.setCell ⟨r, k, none⟩ (.int .u64 x.nd.id)) r (fillC .u64 ((X.take (k + 1)).map (fun x => x.nd.id)) (n - (k + 1))) 58) := fun W hW => by
        refine ⟨Blk.cell hW k (by rw [hnk]; have := fill_get .u64 ((X.take k).map (fun x => x.nd.id)) (n - (k + 1)); rwa [hlen] at this), ?_⟩
        have := Blk.set hW k (.int .u64 x.nd.id)
        rw [hnk] at this
        have e := fill_set .u64 ((X.take k).map (fun x => x.nd.id)) (n - (k + 1)) x.nd.id
        rw [hlen] at e
        rw [e, ← hT.out] at this
        exact this
      clear hx hlen hnk
      go_wp2_with (first
        | (refine wpList_spot rfl _ rfl sb _ x LD.out rfl ?_)
        | (refine wpList_stW rfl 89 _ _ rfl wr.heap.size zSpotL (enS x) 89 (Blk.new _ _ _) rfl rfl rfl (by kernel_rfl) (enS_one _) ?_; intro w2 n2 u2; obtain ⟨hb2, hr2⟩ := hkr.out w2 u2; have e3 : w2.cell? ⟨wr.heap.size, 13, none⟩ = some (.int .u64 x.nd.id) := Blk.cell n2 13 rfl; obtain ⟨d1, hr3⟩ := GET0.out w2 hr2; have d2 := Blk.frozen hr2 k; have HR3 : Hid (Blk (w2.setCell ⟨r, k, none⟩ (.int .u64 x.nd.id)) r (fillC .u64 ((X.take (k + 1)).map (fun x => x.nd.id)) (n - (k + 1))) 58) := hr3; have HB3 : Hid (Below w.heap.size w (w2.setCell ⟨r, k, none⟩ (.int .u64 x.nd.id))) := Below.setCell hb2 (by have := HRR.out; simp; omega) _; clear n2 u2 hb2 hr2 hr3))
      go_roundw
      case rel => exact ⟨k + 1, by simp, by omega, HR3.out, HB3.out⟩
      case measure => simp [intOf]; omega
    · obtain rfl : k = n := by omega
      go_wp2
      go_ret
      refine ⟨r, rfl, ?_, by have := HRR.out; omega, HBB.out⟩
      have := HBK.out
      rw [List.take_of_length_le (by rw [HN.out]; exact Nat.le_refl _), Nat.sub_self] at this
      exact this
end Go.Proofs.YtkpkdikogoalkaaGreatDoor
