/-
  Merged: QA, HH, GC, HJ.
-/
import Derived.Test.YtnffedmcblbkoaaGreatDoorOXq
import Derived.RangeFuncNested
import Derived.RangeFuncBound
import Derived.RangeFuncCalls
import Derived.RangeFuncLeaves
import Derived.RangeFuncBox
import Derived.Shelf.Abstract
import Derived.Shelf.RegionOpen
import Derived.WalkKit
import Derived.OwnWalkIn
import Derived.TacticsInMore
import Derived.LoopNIn
import Derived.LoopIn
import Derived.Test.YtnffedmcblbkoaaGreatDoorZmq
import Derived.Stop.RegionWithIn
import Derived.Test.YtnffedmcblbkoaaGreatDoorGAq
import Derived.Test.YtnffedmcblbkoaaGreatDoorFKq
import Derived.Test.YtnffedmcblbkoaaGreatDoorSOq
import Derived.Test.YtnffedmcblbkoaaGreatDoorOZ
import Derived.Test.YtnffedmcblbkoaaGreatDoorFSq
import Derived.Test.YtnffedmcblbkoaaGreatDoorUCq
namespace Go.Proofs.YtnffedmcblbkoaaGreatDoor
open Go Go.RowKit
set_option maxRecDepth 100000
theorem cutX_org (C : List Int) : ∀ (X : List Spot) (i : Nat) (h : i < X.length) (h' : i < (cutX C X).length), (cutX C X)[i].nd.par = X[i].nd.par ∧ ((∃ c ∈ C, c.toNat = i) → (cutX C X)[i].nd.org = 3) ∧ ((¬ ∃ c ∈ C, c.toNat = i) → (cutX C X)[i].nd.org = X[i].nd.org) := by
 induction C with
 | nil =>
  intro X i h h'
  refine ⟨rfl, fun hh => ?_, fun _ => rfl⟩
  obtain ⟨c, hc, _⟩ := hh
  cases hc
 | cons c r ih =>
  intro X i h h'
  obtain ⟨i1, i2, i3⟩ := ih (X.modify c.toNat loopS) i (by simpa using h) h'
  rw [List.getElem_modify] at i1 i3
  refine ⟨?_, fun hh => ?_, fun hh => ?_⟩
  ·show (cutX r (X.modify c.toNat loopS))[i].nd.par = _
   rw [i1]
   split <;> rfl
  ·show (cutX r (X.modify c.toNat loopS))[i].nd.org = 3
   by_cases hr : ∃ c ∈ r, c.toNat = i
   ·exact i2 hr
   ·obtain ⟨d, hd, e⟩ := hh
    rcases List.mem_cons.1 hd with rfl | hd
    ·rw [i3 hr, if_pos e]
     rfl
    ·exact absurd ⟨d, hd, e⟩ hr
  ·show (cutX r (X.modify c.toNat loopS))[i].nd.org = _
   rw [i3 (fun ⟨d, hd, e⟩ => hh ⟨d, by simp [hd], e⟩), if_neg (fun e => hh ⟨c, by simp, e⟩)]
theorem cutX_depX (C : List Int) : ∀ (X : List Spot) (i : Nat) (h : i < X.length) (h' : i < (cutX C X).length), (cutX C X)[i].nd.dep = X[i].nd.dep := by
 induction C with
 | nil => exact fun _ _ _ _ => rfl
 | cons c r ih =>
  intro X i h h'
  have := ih (X.modify c.toNat loopS) i (by simpa using h) h'
  rw [List.getElem_modify] at this
  show (cutX r (X.modify c.toNat loopS))[i].nd.dep = _
  rw [this]
  split <;> rfl
section
variable {Y : List Sp} {C : List Int} {dp : Nat → Nat} {fin : Nat → Nod} {X : List Spot} {K : Nat → List Int} {R : List Int}
theorem FoB.two (h : FoB Y C dp fin X K R) (i : Nat) (hi : i < Y.length) : ((cutN C (nmOf (zs Y))).getD i (-1) = -1 ∧ dp i = 0 ∧ (fin i).dep = 0 ∧ (fin i).fr = Y[i].start ∧ (fin i).til = Y[i].fin ∧ (fin i).tree = (fin i).id ∧ (fin i).par = 0) ∨ ∃ j, j < Y.length ∧ (cutN C (nmOf (zs Y))).getD i (-1) = (j : Int) ∧ dp i = dp j + 1 ∧ (fin i).dep = (fin j).dep + 1 ∧ ((fin i).fr, (fin i).til) = clipI (Y[i].start, Y[i].fin) ((fin j).fr, (fin j).til) ∧ (fin i).tree = (fin j).tree ∧ (fin i).par = (fin j).id := by
 have hcl : (cutX C (zs Y)).length = Y.length := by rw [cutX_len, zs_len]
 have hi' : i < (cutX C (zs Y)).length := by omega
 obtain ⟨hz, z1, z2⟩ := zs_get Y i hi
 obtain ⟨s1, _, s3⟩ := cutX_same C (zs Y) i hz hi'
 have o1 := (cutX_org C (zs Y) i hz hi').1
 have d1 := cutX_depX C (zs Y) i hz hi'
 have zd : (zs Y)[i].nd.dep = 0 := by simp [zs, ndOf]
 have zp : (zs Y)[i].nd.par = 0 := by simp [zs, ndOf]
 rcases nmC_range Y C i hi with hn | ⟨j, hj, hn⟩
 ·obtain ⟨e0, e⟩ := h.sh.rt i hi' hn
  refine Or.inl ⟨hn, e0, ?_⟩
  rw [e]
  unfold rootN
  simp only
  rw [s1, z1, d1, zd, o1, zp]
  refine ⟨?_, ?_, ?_, ?_, ?_⟩ <;> first | rfl | trivial
 ·obtain ⟨e0, e⟩ := h.sh.kd i j hi' (by omega) hn
  refine Or.inr ⟨j, hj, hn, e0, ?_⟩
  rw [e]
  unfold hangN
  simp only
  rw [s1, z1]
  refine ⟨?_, ?_, ?_, ?_⟩ <;> first | rfl | trivial
abbrev rtN (R : List Int) : List Nat := R.map Int.toNat
theorem FoB.rts (h : FoB Y C dp fin X K R) : (∀ z ∈ R, 0 ≤ z ∧ z < Y.length) ∧ (∀ x, x ∈ rtN R ↔ x < Y.length ∧ (cutN C (nmOf (zs Y))).getD x (-1) = -1) ∧ (rtN R).Nodup := by
 have hm : ∀ z ∈ R, ∃ q : Nat, z = (q : Int) ∧ q < Y.length ∧ (cutN C (nmOf (zs Y))).getD q (-1) = -1 := fun z hz => by
  obtain ⟨q, e, h1, h2⟩ := kidsF_iff.1 (h.fo.roots.1.mem_iff.2 hz)
  exact ⟨q, e, h1, h2⟩
 refine ⟨fun z hz => ?_, fun x => ⟨fun hx => ?_, fun hx => ?_⟩, ?_⟩
 ·obtain ⟨q, rfl, h1, _⟩ := hm z hz
  omega
 ·obtain ⟨z, hz, rfl⟩ := List.mem_map.1 hx
  obtain ⟨q, rfl, h1, h2⟩ := hm z hz
  exact ⟨by simpa using h1, by simpa using h2⟩
 ·exact List.mem_map.2 ⟨(x : Int), h.fo.roots.1.mem_iff.1 (kidsF_iff.2 ⟨x, rfl, hx.1, hx.2⟩), by simp⟩
 ·have h1 : R.Nodup := h.fo.roots.1.nodup_iff.1 (kidsF_nodup _ _ _)
  refine List.pairwise_map.2 (List.Pairwise.imp_of_mem ?_ h1)
  intro a b ha hb hab e
  obtain ⟨q, rfl, _⟩ := hm a ha
  obtain ⟨q', rfl, _⟩ := hm b hb
  omega
abbrev allN (K : Nat → List Int) (R : List Int) : List Nat := preN (knK K) 1001 (rtN R)
theorem FoB.all (h : FoB Y C dp fin X K R) : DeepN (knK K) 1001 (rtN R) ∧ (allN K R).Nodup ∧ (∀ x, x ∈ allN K R ↔ x < Y.length) ∧ (allN K R).length = Y.length := by
 have T := h.tree
 obtain ⟨_, r2, r3⟩ := h.rts
 have rd : ∀ x ∈ rtN R, x < Y.length ∧ dp x = 0 := fun x hx => by
  obtain ⟨h1, h2⟩ := (r2 x).1 hx
  rcases h.two x h1 with ⟨_, e, _⟩ | ⟨j, hj, e, _⟩
  ·exact ⟨h1, e⟩
  ·omega
 have hD := T.deep 1001 (rtN R) (fun x hx => ⟨(rd x hx).1, by omega⟩)
 have hN := T.nodup 1001 0 (rtN R) rd r3
 have hm : ∀ (d x : Nat), dp x = d → x < Y.length → x ∈ allN K R := by
  intro d
  induction d using Nat.strongRecOn with
  | ind d ih =>
   intro x hd hx
   rcases h.two x hx with ⟨e, _⟩ | ⟨j, hj, e, e1, _⟩
   ·exact preN_mem _ _ _ hD x ((r2 x).2 ⟨hx, e⟩)
   ·exact preN_down _ _ _ hD j (ih (dp j) (by omega) j rfl hj) x ((h.mem j hj x).2 ⟨hx, e⟩)
 have hi : ∀ x, x ∈ allN K R ↔ x < Y.length := fun x => ⟨fun hx => (T.above 1001 (rtN R) (fun y hy => (rd y hy).1) x hx).1, fun hx => hm (dp x) x rfl hx⟩
 refine ⟨hD, hN, hi, ?_⟩
 have l1 : (allN K R).length ≤ (List.range Y.length).length := sub_len _ (List.range Y.length) hN (fun x hx => List.mem_range.2 ((hi x).1 hx))
 have l2 : (List.range Y.length).length ≤ (allN K R).length := sub_len (List.range Y.length) (allN K R) List.nodup_range (fun x hx => (hi x).2 (List.mem_range.1 hx))
 simp only [List.length_range] at l1 l2
 omega
end
set_option maxHeartbeats 4000000 in
theorem ids_any (f sb : Nat) (X : List Spot) (K : Nat → List Int) (rv : Value) (R : List Int) (w : World) (h : ForestAt w f sb X K rv R) :
  Calls Tryz.prog 14 #[.pointer (some ⟨f, 0, none⟩)] w fun e w' => ∃ r, e = .returned (.slice (some ⟨r, 0, none⟩) X.length X.length) ∧ Blk w' r (fillC .u64 (X.map (fun x => x.nd.id)) 0) 33 ∧ w.heap.size ≤ r ∧ Below w.heap.size w w' := by
 have hl := h.small
 have hf : w.cell? ⟨f, 0, none⟩ = some (.slice (some ⟨sb, 0, none⟩) X.length X.length) := h.head.cell 0 rfl
 have HF : Hid (w.cell? ⟨f, 0, none⟩ = some (.slice (some ⟨sb, 0, none⟩) X.length X.length)) := hf
 have HB : Hid (Blk w sb (rowS X) 104) := h.row
 have hflt : Hid (f < w.heap.size) := World.block_lt_of_cell? w _ hf
 obtain ⟨n, hn⟩ : ∃ n, X.length = n := ⟨_, rfl⟩
 have HN : Hid (X.length = n) := hn
 rw [hn] at hl hf ⊢
 clear h hn
 go_enter Tryz.func14, Tryz.ntmps14
 go_wp2_with (at_make; refine wpList_mk rfl _ _ 30 rfl 33 (.int .u64 0) 1 8 Tryz.underlying30 infoID n rfl rfl (by omega) (by unfold maxLen; omega) ?_; intro w1 b1 hb1; have f1 : w1.cell? ⟨f, 0, none⟩ = some (.slice (some ⟨sb, 0, none⟩) n n) := (hb1.cell (p := ⟨f, 0, none⟩) hflt.out).trans hf)
 have B0 : Hid (Blk w1 w.heap.size (fillC .u64 [] n) 33) := by
  rw [fill_start, ← made_one]; exact b1
 have HB1 : Hid (Below w.heap.size w w1) := hb1
 obtain ⟨r, hrr⟩ : ∃ r, w.heap.size = r := ⟨_, rfl⟩
 have HRR : Hid (w.heap.size = r) := hrr
 rw [hrr] at B0 ⊢
 clear b1 hb1 hrr f1 hf
 go_loopw [17] (fun x wr => ∃ k : Nat, x = .int .i64 k ∧ k ≤ n ∧ Blk wr r (fillC .u64 ((X.take k).map (fun x => x.nd.id)) (n - k)) 33 ∧ Below w.heap.size w wr) (fun x _ => n - (intOf x).toNat)
 case atStart => exact ⟨0, rfl, by omega, by simpa using B0.out, HB1.out⟩
 case round =>
  obtain ⟨k, rfl, hkn, hblk, hb⟩ := hrel
  have HBB : Hid (Below w.heap.size w wr) := hb
  have HBK : Hid (Blk wr r (fillC .u64 ((X.take k).map (fun x => x.nd.id)) (n - k)) 33) := hblk
  clear hb hblk
  by_cases hlt : k < n
  ·have hkX : k < X.length := by rw [HN.out]; exact hlt
   have f1 : wr.cell? ⟨f, 0, none⟩ = some (.slice (some ⟨sb, 0, none⟩) n n) := (HBB.out.cell (p := ⟨f, 0, none⟩) hflt.out).trans (by rw [← HN.out]; exact HF.out)
   have LD : Hid (wr.rangeAt sb (k * 21) (enS X[k])) := Blk.range (Blk.below HB.out HBB.out (Blk.lt HB.out)) k hkX
   have hT : Hid ((X.take (k + 1)).map (fun x => x.nd.id) = (X.take k).map (fun x => x.nd.id) ++ [X[k].nd.id]) := by rw [List.take_succ_eq_append_getElem hkX, List.map_append]; rfl
   obtain ⟨x, hx⟩ : ∃ x, X[k]'hkX = x := ⟨_, rfl⟩
   rw [hx] at LD hT
   have hkr : Hid (∀ W, Upd (fun j => j = wr.heap.size) (wr.alloc (.cells zSpotL.toArray 104)) W → Below w.heap.size w W ∧ Blk W r (fillC .u64 ((X.take k).map (fun x => x.nd.id)) (n - k)) 33) := fun W hu => by
    have hs := HBB.out.size
    have hb : Below w.heap.size w W := (HBB.out.alloc hs _).trans (hu.below (by simp; omega) (fun j hj e => by omega))
    refine ⟨hb, ?_⟩
    have h0 : Blk (wr.alloc (.cells zSpotL.toArray 104)) r (fillC .u64 ((X.take k).map (fun x => x.nd.id)) (n - k)) 33 := Blk.alloc HBK.out _
    exact Blk.upd h0 hu (fun e => by have := Blk.lt HBK.out; omega)
   have hlen : ((X.take k).map (fun x => x.nd.id)).length = k := by simp; omega
   have hnk : n - k = (n - (k + 1)) + 1 := by omega
   have GET0 : Hid (∀ W, Blk W r (fillC .u64 ((X.take k).map (fun x => x.nd.id)) (n - k)) 33 → W.cell? ⟨r, k, none⟩ = some (.int .u64 0) ∧ Blk (W.setCell ⟨r, k, none⟩ (.int .u64 x.nd.id)) r (fillC .u64 ((X.take (k + 1)).map (fun x => x.nd.id)) (n - (k + 1))) 33) := fun W hW => by
    refine ⟨Blk.cell hW k (by rw [hnk]; have := fill_get .u64 ((X.take k).map (fun x => x.nd.id)) (n - (k + 1)); rwa [hlen] at this), ?_⟩
    have := Blk.set hW k (.int .u64 x.nd.id)
    rw [hnk] at this
    have e := fill_set .u64 ((X.take k).map (fun x => x.nd.id)) (n - (k + 1)) x.nd.id
    rw [hlen] at e
    rw [e, ← hT.out] at this
    exact this
   clear hx hlen hnk
   go_wp2_with (first
    | (refine wpList_spot rfl _ rfl sb _ x LD.out rfl ?_)
    | (refine wpList_stW rfl 104 _ _ rfl wr.heap.size zSpotL (enS x) 104 (Blk.new _ _ _) rfl rfl rfl (by kernel_rfl) (enS_one _) ?_; intro w2 n2 u2; obtain ⟨hb2, hr2⟩ := hkr.out w2 u2; have e3 : w2.cell? ⟨wr.heap.size, 13, none⟩ = some (.int .u64 x.nd.id) := Blk.cell n2 13 rfl; obtain ⟨d1, hr3⟩ := GET0.out w2 hr2; have d2 := Blk.frozen hr2 k; have HR3 : Hid (Blk (w2.setCell ⟨r, k, none⟩ (.int .u64 x.nd.id)) r (fillC .u64 ((X.take (k + 1)).map (fun x => x.nd.id)) (n - (k + 1))) 33) := hr3; have HB3 : Hid (Below w.heap.size w (w2.setCell ⟨r, k, none⟩ (.int .u64 x.nd.id))) := Below.setCell hb2 (by have := HRR.out; simp; omega) _; clear n2 u2 hb2 hr2 hr3))
   go_roundw
   case rel => exact ⟨k + 1, by simp, by omega, HR3.out, HB3.out⟩
   case measure => simp [intOf]; omega
  ·obtain rfl : k = n := by omega
   go_wp2
   go_ret
   refine ⟨r, rfl, ?_, by have := HRR.out; omega, HBB.out⟩
   have := HBK.out
   rw [List.take_of_length_le (by rw [HN.out]; exact Nat.le_refl _), Nat.sub_self] at this
   exact this
section
variable {Y : List Sp} {C : List Int} {dp : Nat → Nat} {fin : Nat → Nod} {X : List Spot} {K : Nat → List Int} {R : List Int}
theorem FoB.rlen (h : FoB Y C dp fin X K R) : (rtN R).length ≤ 1000 := by
 have h1 := sub_len _ (List.range Y.length) h.rts.2.2 (fun c hc => List.mem_range.2 ((h.rts.2.1 c).1 hc).1)
 have h2 := h.one.len
 simp only [List.length_range] at h1
 omega
end
end Go.Proofs.YtnffedmcblbkoaaGreatDoor
