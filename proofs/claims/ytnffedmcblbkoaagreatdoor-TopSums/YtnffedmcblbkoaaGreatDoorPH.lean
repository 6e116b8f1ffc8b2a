/-
  PH.
-/
import Derived.Test.YtnffedmcblbkoaaGreatDoorPCq
import Derived.Deep.Cut
namespace Go.Proofs.YtnffedmcblbkoaaGreatDoor
open Go Go.RowKit
set_option maxRecDepth 100000
theorem span_at13 {W : World} {f sb : Nat} {X : List Spot} {K : Nat → List Int} {rv : Value} {R : List Int} (h : ForestAt W f sb X K rv R) (k : Nat) (hk : k < X.length) (id : Int) (hid : X[k].nd.id = id) :
  Calls Tryz.prog 40 #[.pointer (some ⟨f, 0, none⟩), .int .u64 id] W fun e w' => ∃ q0 q1 q2 q3 q4 q5 q6 q7 q8 q9 q10 q11 q12, e = .returned (.tuple #[.agg #[q0, q1, q2, q3, q4, q5, q6, q7, q8, q9, q10, q11, q12], .bool true]) ∧ (∃ px, (∀ d cv h, #[q0, q1, q2, q3, q4, q5, q6, q7, q8, q9, q10, q11, q12, .int .i64 d.fr, .int .i64 d.til, cv, .int .u64 h] = swL X[k].a px d cv h) ∧ RobS W w' X[k].a px) ∧ (∀ v ∈ [q0, q1, q2, q3, q4, q5, q6, q7, q8, q9, q10, q11, q12], v.oneCell' = true) ∧ Below W.heap.size W w' := by
 refine (span_at h k hk id hid).mono ?_
 rintro e w' ⟨p', rfl, hr, hb⟩
 exact ⟨_, _, _, _, _, _, _, _, _, _, _, _, _, rfl, ⟨p', fun _ _ _ => rfl, hr⟩, spC_one _ p', hb⟩
theorem range_blk {w : World} {b : Nat} {cs : List Value} {T : TypeId} (h : Blk w b cs.toArray T) : w.rangeAt b 0 cs := fun j v hv => by
 rw [Nat.zero_add]
 exact h.cell j (by rw [List.getElem?_toArray]; exact hv)
def RootK (W : World) (A : Nat → Sp) (x : Nat) (E : List Nat) (tb : Nat) (sv : Value) (p' : Nat → Pl) (B' : Nat → Nat) (sv' : Value) (W' : World) : Prop := ∃ w1, Below W.heap.size W w1 ∧ RobS W w1 (A x) (p' x) ∧ Upd (GrwV tb sv) w1 W' ∧ (∀ y ∈ E, w1.heap.size ≤ B' y) ∧ ∀ g, sv'.ownBlock = some g → sv.ownBlock = some g ∨ w1.heap.size ≤ g
set_option maxHeartbeats 8000000 in
theorem growS_any (base f sb : Nat) (W0 : World) (X : List Spot) (K : Nat → List Int) (rvv : Value) (R : List Int) (A : Nat → Sp) (fin : Nat → Nod) (KN C : Nat → List Nat) (G : SEnv base f sb W0 X K rvv R A fin KN C) (tb : Nat) (htl : base ≤ tb) : ∀ (fuel : Nat) (W : World) (D : List Nat) (p : Nat → Pl) (B : Nat → Nat) (cv : Nat → Value) (cb : Nat → Nat) (sv : Value) (vs : List Value) (x : Nat), DeepN KN fuel [x] → x < X.length → SwS base W A fin C tb D p B cv cb (.pointer none) sv vs nilV [] → Upd (fun k => base ≤ k) W0 W → (∀ y ∈ preN KN fuel [x], y ∉ D) → (preN KN fuel [x]).Nodup → vs.length + (preN KN fuel [x]).length ≤ 2000 →
  Calls Tryz.prog 75 #[.pointer (some ⟨tb, 0, none⟩), .pointer (some ⟨f, 0, none⟩), .int .u64 (fin x).id] W fun e W' => ∃ p' B' cv' cb' sv', e = .returned (pB B' x) ∧ (∀ y ∈ D, B' y = B y ∧ (C y ≠ [] → cb' y = cb y)) ∧ (∀ y ∈ preN KN fuel [x], W.heap.size ≤ B' y ∧ (C y ≠ [] → W.heap.size ≤ cb' y)) ∧ SwS base W' A fin C tb (D ++ preN KN fuel [x]) p' B' cv' cb' (.pointer none) sv' (vs ++ (preN KN fuel [x]).map (pB B')) nilV [] ∧ Upd (GrwV tb sv) W W' ∧ (∀ g, sv'.ownBlock = some g → sv.ownBlock = some g ∨ W.heap.size ≤ g) ∧ RootK W A x (preN KN fuel [x]) tb sv p' B' sv' W' := by
 obtain ⟨j0, hj0, hy0, hy1, hy2⟩ := infoPW_parts
 intro fuel
 induction fuel with
 | zero =>
  intro W D p B cv cb sv vs x hD
  exact absurd (show [x] = [] from hD) (by simp)
 | succ fu ih =>
  intro W D p B cv cb sv vs x hD hxX hO hU0 hnD hnd hlE
  have hDk : DeepN KN fu (KN x) := hD x (by simp)
  rw [preN_one] at hnD hnd hlE ⊢
  have hWb : ∀ V, Upd (GrwV tb sv) W V → Upd (fun k => base ≤ k) W0 V := fun V hu => hU0.trans (hu.mono (S' := fun k => base ≤ k) (fun k _ hk => by
   rcases hk with hk | hk
   ·rw [hk]; exact htl
   ·exact (owns_lt hO.row hk).1)) (fun _ _ h => h)
  have S0 := span_at13 (G.fr W hU0) x hxX (fin x).id (by rw [G.nd x hxX])
  rw [G.sp x hxX] at S0
  have HN0 : Hid (∀ w1, Below W.heap.size W w1 → Calls Tryz.prog 10 #[.pointer (some ⟨f, 0, none⟩), .int .u64 (fin x).id] w1 fun e w' => e = .returned (.tuple #[ndV (fin x), .bool true]) ∧ Below w1.heap.size w1 w') := fun w1 hb => by
   have := node_at (G.fr w1 (hWb w1 (Upd.ofBelow hb (fun k h1 h2 => by omega)))) x hxX (fin x).id (by rw [G.nd x hxX])
   rwa [G.nd x hxX] at this
  unfold ndV at HN0
  obtain ⟨id, hid⟩ : ∃ id, (fin x).id = id := ⟨_, rfl⟩
  rw [hid] at S0 HN0 ⊢
  have HID : Hid ((fin x).id = id) := hid
  clear hid
  go_enter Tryz.func75, Tryz.ntmps75
  go_upto_region 4 with (first
   | (go_at_call 40; refine S0.mono ?_; clear S0; rintro e w1 ⟨q0, q1, q2, q3, q4, q5, q6, q7, q8, q9, q10, q11, q12, rfl, hsw, hone, hb1⟩; have HB1 : Hid (Below W.heap.size W w1) := hb1; have HSW : Hid (∃ px, (∀ d cv h, #[q0, q1, q2, q3, q4, q5, q6, q7, q8, q9, q10, q11, q12, .int .i64 d.fr, .int .i64 d.til, cv, .int .u64 h] = swL (A x) px d cv h) ∧ RobS W w1 (A x) px) := hsw; have HONE : Hid (∀ v ∈ [q0, q1, q2, q3, q4, q5, q6, q7, q8, q9, q10, q11, q12], v.oneCell' = true) := hone; clear hsw hone)
   | (refine wpList_stW rfl 102 _ _ rfl w1.heap.size zSpL [q0, q1, q2, q3, q4, q5, q6, q7, q8, q9, q10, q11, q12] 102 (Blk.new _ _ _) rfl rfl rfl (by kernel_rfl) HONE.out ?_; intro w3 n3 u3; have H3 : Hid (Below w1.heap.size w1 w3 ∧ w1.heap.size < w3.heap.size ∧ Blk w3 w1.heap.size #[q0, q1, q2, q3, q4, q5, q6, q7, q8, q9, q10, q11, q12] 102) := ⟨((Below.refl _ _).alloc (Nat.le_refl _) _).trans (u3.below (by rw [World.size_alloc]; omega) (fun k hk e => by omega)), n3.lt, n3⟩; clear hb1 n3 u3)
   | (go_at_call 10; refine (HN0.out _ (HB1.out.trans (H3.out.1.mono HB1.out.size))).mono ?_; clear HN0; rintro e w2 ⟨rfl, hb2⟩; have HX : Hid (∀ o, (w2.alloc o).rangeAt w1.heap.size 0 [q0, q1, q2, q3, q4, q5, q6, q7, q8, q9, q10, q11, q12]) := (fun o => range_blk (Blk.alloc (Blk.below H3.out.2.2 hb2 H3.out.2.1) o)); have H2 : Hid (Below w1.heap.size w1 w2) := H3.out.1.trans (hb2.mono H3.out.1.size); clear hb2 H3)
   | (refine wpList_load_mid rfl 102 _ rfl w1.heap.size 0 rfl [q0, q1, q2, q3, q4, q5, q6, q7, q8, q9, q10, q11, q12] _ (HX.out _) Tryz.underlying102 rfl (by kernel_rfl) ?_; clear HX))
  obtain ⟨V2, hV2⟩ : ∃ V2, (w2.alloc (.cells #[.int .u64 id, .int .u64 (fin x).par, .int .i64 (fin x).org, .int .u64 (fin x).tree, .int .i64 (fin x).dep, .int .i64 (fin x).fr, .int .i64 (fin x).til] 38)).alloc (.cells #[q0, q1, q2, q3, q4, q5, q6, q7, q8, q9, q10, q11, q12, .int .i64 (fin x).fr, .int .i64 (fin x).til, .slice none 0 0, .int .u64 0] 128) = V2 := ⟨_, rfl⟩
  have hbV : Below w1.heap.size w1 V2 := by rw [← hV2]; exact (H2.out.alloc H2.out.size _).alloc (by have := H2.out.size; simp; omega) _
  have szV : V2.heap.size = w2.heap.size + 1 + 1 := by rw [← hV2]; simp
  obtain ⟨px, hpx, hrob⟩ := HSW.out
  have HROB : Hid (RobS W w1 (A x) px) := hrob
  have hO1 := hO.below HB1.out
  have bxV : Blk V2 (w2.heap.size + 1) (swL (A x) px (fin x) nilV 0) 128 := by
   rw [← hV2, ← hpx]
   exact alloc_atS (by simp)
  have hs1 := H2.out.size
  have OV := hO1.below hbV
  have c1 : V2.cell? ⟨tb, 1, none⟩ = some sv := OV.tree.cell 1 rfl
  have y1 := fun (o : Obj) => (World.cell?_alloc_lt V2 o ⟨tb, 1, none⟩ (World.block_lt_of_cell? V2 _ c1)).trans c1
  have hlb : base ≤ V2.heap.size := OV.lb
  have HOK : Hid (∀ W', Below V2.heap.size V2 W' → W'.ownsRow base 119 1 sv vs.length vs) := fun W' hb => (OV.below hb).row
  have HAD : Hid (∀ (u2 u3 : World) (v' : Value), Below V2.heap.size V2 u2 → u2.grownBy u3 sv.ownBlock → Moved u2 sv v' → u3.ownsRow base 119 1 v' (vs.length + 1) (vs ++ [.pointer (some ⟨w2.heap.size + 1, 0, none⟩)]) → (SwS base (u3.setCell ⟨tb, 1, none⟩ v') A fin C tb D p B cv cb (.pointer none) v' (vs ++ [.pointer (some ⟨w2.heap.size + 1, 0, none⟩)]) nilV [] ∧ Upd (GrwV tb sv) w1 (u3.setCell ⟨tb, 1, none⟩ v') ∧ Blk (u3.setCell ⟨tb, 1, none⟩ v') (w2.heap.size + 1) (swL (A x) px (fin x) nilV 0) 128 ∧ (∀ g, v'.ownBlock = some g → sv.ownBlock = some g ∨ V2.heap.size ≤ g)) ∧ u3.cell? ⟨tb, 1, none⟩ = some sv ∧ u3.frozen? ⟨tb, 1, none⟩ = false) := fun u2 u3 v' hb hg hm ho => by
   obtain ⟨q1, q2, q3, q4, q5⟩ := OV.more hb hg hm _ ho
   exact ⟨⟨q1, (Upd.ofBelow (S := GrwV tb sv) hbV (fun k h1 h2 => by omega)).trans q2 (fun _ _ h => h), bxV.upd q2 (OV.noV bxV (by decide) (by decide)), q5⟩, q3, q4⟩
  rw [hV2]
  have HLV : Hid (vs.length ≤ 2000) := by
   have h : vs.length ≤ 2000 := by simp only [List.length_cons] at hlE; omega
   exact h
  have HO : Hid (SwS base w1 A fin C tb D p B cv cb (.pointer none) sv vs nilV []) := hO1
  have HWb : Hid (∀ V, Upd (GrwV tb sv) w1 V → Upd (fun k => base ≤ k) W0 V) := fun V hu => hWb V ((Upd.ofBelow (S := GrwV tb sv) HB1.out (fun k h1 h2 => by omega)).trans hu (fun _ _ h => h))
  have HIH : Hid (∀ (W : World) (D : List Nat) (p : Nat → Pl) (B : Nat → Nat) (cv : Nat → Value) (cb : Nat → Nat) (sv : Value) (vs : List Value) (x : Nat), DeepN KN fu [x] → x < X.length → SwS base W A fin C tb D p B cv cb (.pointer none) sv vs nilV [] → Upd (fun k => base ≤ k) W0 W → (∀ y ∈ preN KN fu [x], y ∉ D) → (preN KN fu [x]).Nodup → vs.length + (preN KN fu [x]).length ≤ 2000 →
   Calls Tryz.prog 75 #[.pointer (some ⟨tb, 0, none⟩), .pointer (some ⟨f, 0, none⟩), .int .u64 (fin x).id] W fun e W' => ∃ p' B' cv' cb' sv', e = .returned (pB B' x) ∧ (∀ y ∈ D, B' y = B y ∧ (C y ≠ [] → cb' y = cb y)) ∧ (∀ y ∈ preN KN fu [x], W.heap.size ≤ B' y ∧ (C y ≠ [] → W.heap.size ≤ cb' y)) ∧ SwS base W' A fin C tb (D ++ preN KN fu [x]) p' B' cv' cb' (.pointer none) sv' (vs ++ (preN KN fu [x]).map (pB B')) nilV [] ∧ Upd (GrwV tb sv) W W' ∧ (∀ g, sv'.ownBlock = some g → sv.ownBlock = some g ∨ W.heap.size ≤ g) ∧ RootK W A x (preN KN fu [x]) tb sv p' B' sv' W') := ih
  have HG : Hid (SEnv base f sb W0 X K rvv R A fin KN C) := G
  have HMISC : Hid (x < X.length ∧ (∀ y ∈ x :: preN KN fu (KN x), y ∉ D) ∧ (x :: preN KN fu (KN x)).Nodup ∧ vs.length + (x :: preN KN fu (KN x)).length ≤ 2000 ∧ DeepN KN fu (KN x)) := ⟨hxX, hnD, hnd, hlE, hDk⟩
  obtain ⟨sz, hsz⟩ : ∃ sz, w2.heap.size = sz := ⟨_, rfl⟩
  have HSZ : Hid (V2.heap.size = w2.heap.size + 1 + 1 ∧ w1.heap.size ≤ w2.heap.size) := ⟨szV, hs1⟩
  rw [hsz] at HSZ HAD ⊢
  clear hO1 hrob ih hD hxX hO hU0 hnD hnd hlE hDk hWb hV2 OV bxV hbV szV hs1 H2 HSW hpx HONE hsz
  go_cut [11] from 5 (fun s11 wx => s11 = .pointer (some ⟨sz + 1, 0, none⟩) ∧ ∃ sv3, SwS base wx A fin C tb D p B cv cb (.pointer none) sv3 (vs ++ [.pointer (some ⟨sz + 1, 0, none⟩)]) nilV [] ∧ Upd (GrwV tb sv) w1 wx ∧ Blk wx (sz + 1) (swL (A x) px (fin x) nilV 0) 128 ∧ (∀ g, sv3.ownBlock = some g → sv.ownBlock = some g ∨ V2.heap.size ≤ g))
  case first =>
   go_wp2_with (at_builtin; refine wpList_appW _ rfl _ _ 120 120 rfl base 119 j0 (.pointer none) 1 8 Tryz.underlying120 hj0 hy0 hy1 hy2 rfl sv vs.length vs rfl (HOK.out _ (by repeat' first | exact Below.refl _ _ | refine Below.alloc ?_ (by first | omega | (simp; omega) | (simp; done)) _ | refine Below.drew ?_)) (.slice (some ⟨V2.heap.size, 0, none⟩) 1 1) 1 [.pointer (some ⟨sz + 1, 0, none⟩)] rfl (src_at Tryz.underlying120 (heap_alloc_new _ _) rfl) (by have := HLV.out; unfold maxLen; omega) (by have := HLV.out; omega) (by rw [World.size_alloc]; omega) ?_; intro v8 w8 o8 g8 m8; obtain ⟨ad8, cap8, rfl⟩ := owns_sliceS o8; obtain ⟨A8, e8, f8⟩ := HAD.out _ w8 _ (by repeat' first | exact Below.refl _ _ | refine Below.alloc ?_ (by first | omega | (simp; omega) | (simp; done)) _ | refine Below.drew ?_) g8 m8 o8; have HA8 : Hid (SwS base (w8.setCell ⟨tb, 1, none⟩ (.slice ad8 (vs.length + 1) cap8)) A fin C tb D p B cv cb (.pointer none) (.slice ad8 (vs.length + 1) cap8) (vs ++ [.pointer (some ⟨sz + 1, 0, none⟩)]) nilV [] ∧ Upd (GrwV tb sv) w1 (w8.setCell ⟨tb, 1, none⟩ (.slice ad8 (vs.length + 1) cap8)) ∧ Blk (w8.setCell ⟨tb, 1, none⟩ (.slice ad8 (vs.length + 1) cap8)) (sz + 1) (swL (A x) px (fin x) nilV 0) 128 ∧ (∀ g, (Value.slice ad8 (vs.length + 1) cap8).ownBlock = some g → sv.ownBlock = some g ∨ V2.heap.size ≤ g)) := A8; clear A8 o8 g8 m8)
   go_meet
   case rel => exact ⟨rfl, _, HA8.out⟩
  case rest =>
   obtain ⟨rfl, sv3, hO3, hU3, hB3, hev3⟩ := hcut
   have HO3 : Hid (SwS base wc A fin C tb D p B cv cb (.pointer none) sv3 (vs ++ [.pointer (some ⟨sz + 1, 0, none⟩)]) nilV []) := hO3
   have HU3 : Hid (Upd (GrwV tb sv) w1 wc) := hU3
   have HEV3 : Hid (∀ g, sv3.ownBlock = some g → sv.ownBlock = some g ∨ V2.heap.size ≤ g) := hev3
   have HB3 : Hid (Blk wc (sz + 1) (swL (A x) px (fin x) nilV 0) 128) := hB3
   have CH := children_at f sb X K rvv R fin KN wc (HG.out.fr wc (HWb.out wc hU3)) HG.out.nd x HMISC.out.1 (HG.out.kn x HMISC.out.1).1 (HG.out.kn x HMISC.out.1).2.1
   rw [HID.out] at CH
   obtain ⟨n, hn⟩ : ∃ n, (KN x).length = n := ⟨_, rfl⟩
   have HN : Hid ((KN x).length = n) := hn
   rw [hn] at CH
   have hn1 : (n : Int) ≤ 1000 := by have := (HG.out.kn x HMISC.out.1).2.2; omega
   have ST : Hid (∀ wd, Below wc.heap.size wc wd → GLoopS base w1 A fin KN C fu tb D B cb sv vs x (sz + 1) px 0 wd) := fun wd hb => by
    refine ⟨p, B, cv, cb, sv3, nilV, ?_, fun y hy => ⟨rfl, fun _ => rfl⟩, fun y hy => ?_, HB3.out.below hb HB3.out.lt, ?_, fun y hy => ⟨?_, fun _ => by simp [Value.ownBlock]⟩, fun g e => by simp [Value.ownBlock] at e, HU3.out.trans (Upd.ofBelow (S := GrwV tb sv) hb (fun k h1 h2 => by omega)) (fun _ _ h => h), by have := HSZ.out.2; omega, fun g e => by simp [Value.ownBlock] at e, fun g e => by rcases HEV3.out g e with h | h; exact Or.inl h; exact Or.inr (by have := HSZ.out; omega)⟩
    ·have := HO3.out.below hb
     cases fu <;> simpa [preN] using this
    ·cases fu <;> simp [preN] at hy
    ·simpa [someF] using World.ownsRow_nil wd base 119 1
    ·have hyD : y ∈ D := by cases fu <;> simpa [preN] using hy
     have := (HO.out.blk y hyD).lt
     have := HSZ.out.2
     omega
   clear hn hO3 hU3 hB3 hev3 HAD HOK
   go_wp2_with (go_at_call 15; refine CH.mono ?_; clear CH; rintro e wd ⟨rc, rfl, hrc, hrl, hbd⟩; have HS : Hid (GLoopS base w1 A fin KN C fu tb D B cb sv vs x (sz + 1) px 0 wd) := ST.out wd hbd; have HRC : Hid (Blk wd rc (fillC .u64 ((KN x).map (fun c => (fin c).id)) 0) 33) := hrc; clear hrc hrl hbd ST)
   have NEXT : Hid (∀ (i : Nat) (hi : i < (KN x).length) (wr : World), GLoopS base w1 A fin KN C fu tb D B cb sv vs x (sz + 1) px i wr → Calls Tryz.prog 75 #[.pointer (some ⟨tb, 0, none⟩), .pointer (some ⟨f, 0, none⟩), .int .u64 (fin (KN x)[i]).id] wr fun e w5 => ∃ b5 wvx, e = .returned (.pointer (some ⟨b5, 0, none⟩)) ∧ w5.cell? ⟨sz + 1, 13 + 2, none⟩ = some wvx ∧ w5.cell? ⟨b5, 13, none⟩ = some (.int .i64 (fin (KN x)[i]).fr) ∧ w5.cell? ⟨b5, 13 + 1, none⟩ = some (.int .i64 (fin (KN x)[i]).til) ∧ base ≤ w5.heap.size ∧ (¬ (fin (KN x)[i]).fr < (fin (KN x)[i]).til → GLoopS base w1 A fin KN C fu tb D B cb sv vs x (sz + 1) px (i + 1) w5 ∧ ∀ b c, Blk wr b c 33 → Blk w5 b c 33) ∧ ((fin (KN x)[i]).fr < (fin (KN x)[i]).til → ∃ n5 xs5, n5 ≤ 1000 ∧ (∀ W', Below w5.heap.size w5 W' → W'.ownsRow base 119 1 wvx n5 xs5) ∧ ∀ u2 u3 v', Below w5.heap.size w5 u2 → u2.grownBy u3 wvx.ownBlock → Moved u2 wvx v' → u3.ownsRow base 119 1 v' (n5 + 1) (xs5 ++ [.pointer (some ⟨b5, 0, none⟩)]) → (GLoopS base w1 A fin KN C fu tb D B cb sv vs x (sz + 1) px (i + 1) (u3.setCell ⟨sz + 1, 15, none⟩ v') ∧ (∀ b c, Blk wr b c 33 → Blk (u3.setCell ⟨sz + 1, 15, none⟩ v') b c 33)) ∧ u3.cell? ⟨sz + 1, 13 + 2, none⟩ = some wvx ∧ u3.frozen? ⟨sz + 1, 13 + 2, none⟩ = false)) := fun i hi wr hL => by
    obtain ⟨p1, B1, cv1, cb1, sv1, wvx, g1, g2, g3, g4, g5, g6, gap, g7, g8, g9, g10⟩ := hL
    obtain ⟨hxX, hnD, hnd, hlE, hDk⟩ := HMISC.out
    obtain ⟨M, hM⟩ := preN_part KN fu (KN x) i hi
    rw [List.nodup_cons] at hnd
    have hnd2 := hnd.2
    rw [hM, List.append_assoc, List.nodup_append] at hnd2
    have hnd3 := hnd2.2.1
    rw [List.nodup_append] at hnd3
    have hlM := congrArg List.length hM
    simp only [List.length_append] at hlM
    have htk := preN_take KN fu (KN x) i hi
    refine (HIH.out wr _ p1 B1 cv1 cb1 sv1 _ (KN x)[i] (hDk.one (List.getElem_mem hi)) ((HG.out.kn x hxX).2.1 _ (List.getElem_mem hi)) g1 (HWb.out _ g7) (fun y hy hc => ?_) hnd3.1 ?_).mono ?_
    ·rcases List.mem_append.1 hc with hc | hc
     ·exact hnD y (List.mem_cons_of_mem _ (by rw [hM]; simp [hy])) hc
     ·exact hnd2.2.2 y hc y (List.mem_append_left _ hy) rfl
    ·simp only [List.length_append, List.length_map, List.length_cons, List.length_nil] at hlE ⊢
     omega
    ·rintro e w5 ⟨p5, B5, cv5, cb5, sv5, rfl, k1, k2, k3, k4, k5, _⟩
     have hsub : ∀ y ∈ someF fin ((KN x).take i), y ∈ D ++ preN KN fu ((KN x).take i) := fun y hy => List.mem_append_right _ (preN_mem KN fu _ (Deep_take hDk i) y (someF_sub hy))
     have hag : (someF fin ((KN x).take i)).map (pB B5) = (someF fin ((KN x).take i)).map (pB B1) := map_agree (fun y hy => (k1 y (hsub y hy)).1)
     have hag2 : (preN KN fu ((KN x).take i)).map (pB B5) = (preN KN fu ((KN x).take i)).map (pB B1) := map_agree (fun y hy => (k1 y (List.mem_append_right _ hy)).1)
     have b5 : Blk w5 (sz + 1) (swL (A x) px (fin x) wvx 0) 128 := g4.upd k4 (g1.noV g4 (by decide) (by decide))
     have hwvs : ∀ k, wvx.ownBlock = some k → ¬ GrwV tb sv1 k := fun k e hor => by
      rcases hor with e' | e'
      ·rw [e'] at e; exact row_type g5 g1.tree (by decide) e
      ·exact gap k e e'
     have r5 : w5.ownsRow base 119 1 wvx (someF fin ((KN x).take i)).length ((someF fin ((KN x).take i)).map (pB B5)) := by
      rw [hag]
      exact ownsRow_upd g5 k4 hwvs
     have s5 := k4.size
     have sr := g7.size
     have hD5 : D ++ preN KN fu ((KN x).take (i + 1)) = (D ++ preN KN fu ((KN x).take i)) ++ preN KN fu [(KN x)[i]] := by rw [htk, List.append_assoc]
     have hU5 : Upd (GrwV tb sv) w1 w5 := by
      refine g7.trans k4 (fun k hk h => ?_)
      rcases h with h | h
      ·exact Or.inl h
      ·rcases g10 k h with h' | h'
       ·exact Or.inr h'
       ·omega
     have hee : ∀ g, sv5.ownBlock = some g → sv.ownBlock = some g ∨ w1.heap.size ≤ g := fun g e => by
      rcases k5 g e with h' | h'
      ·exact g10 g h'
      ·exact Or.inr (by omega)
     have a1 : SwS base w5 A fin C tb (D ++ preN KN fu ((KN x).take (i + 1))) p5 B5 cv5 cb5 (.pointer none) sv5 (vs ++ [.pointer (some ⟨sz + 1, 0, none⟩)] ++ (preN KN fu ((KN x).take (i + 1))).map (pB B5)) nilV [] := by
      rw [hD5]
      refine k3.cast (fun y => Iff.rfl) ?_
      rw [htk, List.map_append, hag2]
      simp only [List.append_assoc]
     have a2 : ∀ y ∈ D, B5 y = B y ∧ (C y ≠ [] → cb5 y = cb y) := fun y hy => by
      have := k1 y (List.mem_append_left _ hy)
      have h2 := g2 y hy
      exact ⟨this.1.trans h2.1, fun hn => (this.2 hn).trans (h2.2 hn)⟩
     have a3 : ∀ y ∈ preN KN fu ((KN x).take (i + 1)), w1.heap.size ≤ B5 y ∧ (C y ≠ [] → w1.heap.size ≤ cb5 y) := fun y hy => by
      rw [htk] at hy
      rcases List.mem_append.1 hy with hy | hy
      ·have h1 := k1 y (List.mem_append_right _ hy)
       have h2 := g3 y hy
       exact ⟨by rw [h1.1]; exact h2.1, fun hn => by rw [h1.2 hn]; exact h2.2 hn⟩
      ·have h1 := k2 y hy
       exact ⟨by omega, fun hn => by have := h1.2 hn; omega⟩
     have a4 : ∀ y ∈ D ++ preN KN fu ((KN x).take (i + 1)), B5 y ≠ sz + 1 ∧ (C y ≠ [] → wvx.ownBlock ≠ some (cb5 y)) := fun y hy => by
      rw [hD5] at hy
      rcases List.mem_append.1 hy with hy | hy
      ·have h1 := k1 y hy
       have h2 := g6 y hy
       exact ⟨by rw [h1.1]; exact h2.1, fun hn => by rw [h1.2 hn]; exact h2.2 hn⟩
      ·have h1 := k2 y hy
       have hbl := g4.lt
       refine ⟨by omega, fun hn e' => ?_⟩
       have := (owns_lt g5 e').2
       have := h1.2 hn
       omega
     have a5 : ∀ g, wvx.ownBlock = some g → sv5.ownBlock ≠ some g := fun g e e' => by
      rcases k5 g e' with h' | h'
      ·exact gap g e h'
      ·have := (owns_lt g5 e).2
       omega
     have hcD : (KN x)[i] ∈ (D ++ preN KN fu ((KN x).take i)) ++ preN KN fu [(KN x)[i]] := List.mem_append_right _ (preN_mem KN fu _ (hDk.one (List.getElem_mem hi)) _ (by simp))
     have bc := k3.blk _ hcD
     have keepB : ∀ b c, Blk wr b c 33 → Blk w5 b c 33 := fun b c hbc => hbc.upd k4 (g1.noV hbc (by decide) (by decide))
     refine ⟨B5 (KN x)[i], wvx, rfl, b5.cell 15 rfl, bc.cell 13 rfl, bc.cell 14 rfl, k3.lb, fun hno => ⟨GLoopS.skip hi hno a1 a2 a3 b5 r5 a4 a5 hU5 g8 g9 hee, keepB⟩, fun hyes => ⟨_, _, ?_, fun W' hb => ownsRow_upd r5 (Upd.ofBelow (S := fun _ => False) hb (fun k h1 h2 => by omega)) (fun _ _ h => h), fun u2 u3 v' hb hg hm ho => ?_⟩⟩
     ·have h1 : (someF fin ((KN x).take i)).length ≤ ((KN x).take i).length := List.length_filter_le _ _
      have h2 : ((KN x).take i).length ≤ (KN x).length := by rw [List.length_take]; omega
      have := (HG.out.kn x hxX).2.2
      omega
     ·have st := GLoopS.step (B0 := B) (cb0 := cb) (sv := sv) (W := w1) hi hyes a1 a2 a3 b5 r5 a4 a5 hU5 g8 g9 hee hb hg hm ho
      exact ⟨⟨st.1, fun b c hbc => st.2.2.2 b c _ (keepB b c hbc) (by decide) (by decide)⟩, st.2.1, st.2.2.1⟩
   have FIN : Hid (∀ w9, GLoopS base w1 A fin KN C fu tb D B cb sv vs x (sz + 1) px n w9 → ∃ p' B' cv' cb' sv', Value.pointer (some ⟨sz + 1, 0, none⟩) = pB B' x ∧ (∀ y ∈ D, B' y = B y ∧ (C y ≠ [] → cb' y = cb y)) ∧ (∀ y ∈ x :: preN KN fu (KN x), W.heap.size ≤ B' y ∧ (C y ≠ [] → W.heap.size ≤ cb' y)) ∧ SwS base w9 A fin C tb (D ++ x :: preN KN fu (KN x)) p' B' cv' cb' (.pointer none) sv' (vs ++ (x :: preN KN fu (KN x)).map (pB B')) nilV [] ∧ Upd (GrwV tb sv) W w9 ∧ (∀ g, sv'.ownBlock = some g → sv.ownBlock = some g ∨ W.heap.size ≤ g) ∧ RootK W A x (x :: preN KN fu (KN x)) tb sv p' B' sv' w9) := fun w9 hL => by
    obtain ⟨p1, B1, cv1, cb1, sv1, wvx, g1, g2, g3, g4, g5, g6, gap, g7, g8, g9, g10⟩ := hL
    obtain ⟨hxX, hnD, hnd, hlE, hDk⟩ := HMISC.out
    have htk : (KN x).take n = KN x := List.take_of_length_le (by rw [HN.out]; exact Nat.le_refl _)
    rw [htk] at g1 g3 g5 g6
    have hC : someF fin (KN x) = C x := (HG.out.cn x).symm
    rw [hC] at g5
    rw [List.nodup_cons] at hnd
    have hxD : x ∉ D ++ preN KN fu (KN x) := fun hc => by
     rcases List.mem_append.1 hc with hc | hc
     ·exact hnD x (by simp) hc
     ·exact hnd.1 hc
    have hsx : ∀ c ∈ C x, c ∈ D ++ preN KN fu (KN x) := fun c hc => List.mem_append_right _ (preN_mem KN fu _ hDk c (someF_sub (by rw [hC]; exact hc)))
    have hne : ∀ y ∈ D ++ preN KN fu (KN x), y ≠ x := fun y hy e => by subst e; exact hxD hy
    have ad := g1.add hxD hsx g4 (by have := HO.out.lb; have := HSZ.out.2; omega) (fun y hy => (g6 y hy).1) g5 gap
    have low : ∀ y ∈ x :: preN KN fu (KN x), w1.heap.size ≤ upF B1 x (sz + 1) y ∧ (C y ≠ [] → w1.heap.size ≤ upF cb1 x (blkOf wvx) y) := fun y hy => by
     rcases List.mem_cons.1 hy with e | hy
     ·subst e
      rw [upF_same, upF_same]
      refine ⟨g8, fun hn => ?_⟩
      rcases g5.2 with ⟨_, e2⟩ | ⟨g, cap, cur, e1, _⟩
      ·exact absurd (List.eq_nil_of_length_eq_zero e2) hn
      ·have e3 : wvx.ownBlock = some g := by rw [e1]; rfl
       have := g9 g e3
       unfold blkOf
       rw [e3]
       exact this
     ·have hyx := hne y (List.mem_append_right _ hy)
      rw [upF_ne _ _ hyx, upF_ne _ _ hyx]
      exact g3 y hy
    refine ⟨upF p1 x px, upF B1 x (sz + 1), upF cv1 x wvx, upF cb1 x (blkOf wvx), sv1, by unfold pB; rw [upF_same], fun y hy => ?_, fun y hy => ⟨Nat.le_trans HB1.out.size (low y hy).1, fun hn => Nat.le_trans HB1.out.size ((low y hy).2 hn)⟩, ad.cast (fun y => ?_) ?_, (Upd.ofBelow (S := GrwV tb sv) HB1.out (fun k h1 h2 => by omega)).trans g7 (fun _ _ h => h), fun g e => (g10 g e).imp (fun h => h) (fun h => Nat.le_trans HB1.out.size h), w1, HB1.out, by rw [upF_same]; exact HROB.out, g7, fun y hy => (low y hy).1, g10⟩
    ·have hyx := hne y (List.mem_append_left _ hy)
     rw [upF_ne _ _ hyx, upF_ne _ _ hyx]
     exact g2 y hy
    ·simp only [List.mem_append, List.mem_cons]
     constructor
     ·rintro (h | h | h)
      ·exact Or.inr (Or.inl h)
      ·exact Or.inl h
      ·exact Or.inr (Or.inr h)
     ·rintro (h | h | h)
      ·exact Or.inr (Or.inl h)
      ·exact Or.inl h
      ·exact Or.inr (Or.inr h)
    ·rw [List.map_cons, map_up (show x ∉ preN KN fu (KN x) from hnd.1)]
     unfold pB
     rw [upF_same]
     simp
   clear HO HO3 HU3 HB3 HEV3
   go_loopw [47] (fun y wr => ∃ i : Nat, y = .int .i64 i ∧ i ≤ n ∧ GLoopS base w1 A fin KN C fu tb D B cb sv vs x (sz + 1) px i wr ∧ Blk wr rc (fillC .u64 ((KN x).map (fun c => (fin c).id)) 0) 33) (fun y _ => n - (intOf y).toNat)
   case atStart => exact ⟨0, rfl, by omega, HS.out, HRC.out⟩
   case round =>
    obtain ⟨i, rfl, hin, hL, hR⟩ := hrel
    have HRR : Hid (Blk wr rc (fillC .u64 ((KN x).map (fun c => (fin c).id)) 0) 33) := hR
    by_cases hlt : i < n
    ·have hiK : i < (KN x).length := by rw [HN.out]; exact hlt
     have IC := NEXT.out i hiK wr hL
     have cr : wr.cell? ⟨rc, i, none⟩ = some (.int .u64 (fin (KN x)[i]).id) := hR.cell i (by simp [fillC, hiK])
     obtain ⟨cx, hcx⟩ : ∃ c, (KN x)[i] = c := ⟨_, rfl⟩
     rw [hcx] at IC cr
     clear hL hR NEXT hcx
     by_cases hyes : (fin cx).fr < (fin cx).til
     ·have dy : decide ((fin cx).fr < (fin cx).til) = true := decide_eq_true hyes
      go_wp2_with (go_at_call 75; refine IC.mono ?_; clear IC; rintro e w5 ⟨b5, wvx, rfl, d15, d13, d14, hlb5, _, hy⟩; obtain ⟨n5, xs5, hn5, hown, hstep⟩ := hy hyes; have HOWN5 : Hid (n5 ≤ 1000 ∧ ∀ W', Below w5.heap.size w5 W' → W'.ownsRow base 119 1 wvx n5 xs5) := ⟨hn5, hown⟩; have HSTEP5 : Hid (∀ u2 u3 v', Below w5.heap.size w5 u2 → u2.grownBy u3 wvx.ownBlock → Moved u2 wvx v' → u3.ownsRow base 119 1 v' (n5 + 1) (xs5 ++ [.pointer (some ⟨b5, 0, none⟩)]) → (GLoopS base w1 A fin KN C fu tb D B cb sv vs x (sz + 1) px (i + 1) (u3.setCell ⟨sz + 1, 15, none⟩ v') ∧ (∀ b c, Blk wr b c 33 → Blk (u3.setCell ⟨sz + 1, 15, none⟩ v') b c 33)) ∧ u3.cell? ⟨sz + 1, 13 + 2, none⟩ = some wvx ∧ u3.frozen? ⟨sz + 1, 13 + 2, none⟩ = false) := hstep; clear hown hstep hy hn5)
      go_quiet (fail)
      obtain ⟨w6, hw6⟩ : ∃ W, w5.drewN nq = W := ⟨_, rfl⟩
      have b6 : Below w5.heap.size w5 w6 := by rw [← hw6]; exact below_drewN (Below.refl _ _) nq
      have z6 : w6.heap.size = w5.heap.size := by rw [← hw6]; rfl
      have hlb6 : base ≤ w6.heap.size := by omega
      have e15 : w6.cell? ⟨sz + 1, 13 + 2, none⟩ = some wvx := by rw [← hw6]; exact d15
      have d15' := fun (o : Obj) => (World.cell?_alloc_lt w6 o ⟨sz + 1, 13 + 2, none⟩ (World.block_lt_of_cell? w6 _ e15)).trans e15
      have HOWN : Hid (n5 ≤ 1000 ∧ ∀ W', Below w6.heap.size w6 W' → W'.ownsRow base 119 1 wvx n5 xs5) := ⟨HOWN5.out.1, fun W' hb => HOWN5.out.2 W' (b6.trans (hb.mono (by omega)))⟩
      have HSTEP : Hid (∀ u2 u3 v', Below w6.heap.size w6 u2 → u2.grownBy u3 wvx.ownBlock → Moved u2 wvx v' → u3.ownsRow base 119 1 v' (n5 + 1) (xs5 ++ [.pointer (some ⟨b5, 0, none⟩)]) → (GLoopS base w1 A fin KN C fu tb D B cb sv vs x (sz + 1) px (i + 1) (u3.setCell ⟨sz + 1, 15, none⟩ v') ∧ (∀ b c, Blk wr b c 33 → Blk (u3.setCell ⟨sz + 1, 15, none⟩ v') b c 33)) ∧ u3.cell? ⟨sz + 1, 13 + 2, none⟩ = some wvx ∧ u3.frozen? ⟨sz + 1, 13 + 2, none⟩ = false) := fun u2 u3 v' hb => HSTEP5.out u2 u3 v' (b6.trans (hb.mono (by omega)))
      rw [hw6]
      clear hw6 b6 z6 HOWN5 HSTEP5 d13 d14 d15 hlb5
      go_wp2_with (at_builtin; refine wpList_appW _ rfl _ _ 120 120 rfl base 119 j0 (.pointer none) 1 8 Tryz.underlying120 hj0 hy0 hy1 hy2 rfl wvx n5 xs5 rfl (HOWN.out.2 _ (by repeat' first | exact Below.refl _ _ | refine Below.alloc ?_ (by first | omega | (simp; omega) | (simp; done)) _ | refine Below.drew ?_)) (.slice (some ⟨w6.heap.size, 0, none⟩) 1 1) 1 [.pointer (some ⟨b5, 0, none⟩)] rfl (src_at Tryz.underlying120 (heap_alloc_new _ _) rfl) (by have := HOWN.out.1; unfold maxLen; omega) (by have := HOWN.out.1; omega) (by rw [World.size_alloc]; omega) ?_; intro v8 w8 o8 g8 m8; obtain ⟨ad8, cap8, rfl⟩ := owns_sliceS o8; obtain ⟨A8, e8, f8⟩ := HSTEP.out _ w8 _ (by repeat' first | exact Below.refl _ _ | refine Below.alloc ?_ (by first | omega | (simp; omega) | (simp; done)) _ | refine Below.drew ?_) g8 m8 o8; have HA8 : Hid (GLoopS base w1 A fin KN C fu tb D B cb sv vs x (sz + 1) px (i + 1) (w8.setCell ⟨sz + 1, 15, none⟩ (.slice ad8 (n5 + 1) cap8)) ∧ Blk (w8.setCell ⟨sz + 1, 15, none⟩ (.slice ad8 (n5 + 1) cap8)) rc (fillC .u64 ((KN x).map (fun c => (fin c).id)) 0) 33) := ⟨A8.1, A8.2 _ _ HRR.out⟩; clear A8 o8 g8 m8 HOWN HSTEP)
      go_roundw
      case rel => exact ⟨i + 1, by simp, by omega, HA8.out.1, HA8.out.2⟩
      case measure => (simp [intOf]; try omega)
     ·have dy : decide ((fin cx).fr < (fin cx).til) = false := decide_eq_false hyes
      go_wp2_with (go_at_call 75; refine IC.mono ?_; clear IC; rintro e w5 ⟨b5, wvx, rfl, d15, d13, d14, hlb5, hno, _⟩; have HA8 : Hid (GLoopS base w1 A fin KN C fu tb D B cb sv vs x (sz + 1) px (i + 1) w5 ∧ Blk w5 rc (fillC .u64 ((KN x).map (fun c => (fin c).id)) 0) 33) := ⟨(hno hyes).1, (hno hyes).2 _ _ HRR.out⟩; clear hno)
      go_quiet (fail)
      have HA9 : Hid (GLoopS base w1 A fin KN C fu tb D B cb sv vs x (sz + 1) px (i + 1) (w5.drewN nq) ∧ Blk (w5.drewN nq) rc (fillC .u64 ((KN x).map (fun c => (fin c).id)) 0) 33) := ⟨HA8.out.1.below (below_drewN (Below.refl _ _) nq), HA8.out.2⟩
      go_wp2
      go_roundw
      case rel => exact ⟨i + 1, by simp, by omega, HA9.out.1, HA9.out.2⟩
      case measure => (simp [intOf]; try omega)
    ·have hni : ¬ (i : Int) < (n : Int) := by omega
     have e : i = n := by omega
     have HFIN := FIN.out wr (by rw [← e]; exact hL)
     have HF : Hid (∃ p' B' cv' cb' sv', Value.pointer (some ⟨sz + 1, 0, none⟩) = pB B' x ∧ (∀ y ∈ D, B' y = B y ∧ (C y ≠ [] → cb' y = cb y)) ∧ (∀ y ∈ x :: preN KN fu (KN x), W.heap.size ≤ B' y ∧ (C y ≠ [] → W.heap.size ≤ cb' y)) ∧ SwS base wr A fin C tb (D ++ x :: preN KN fu (KN x)) p' B' cv' cb' (.pointer none) sv' (vs ++ (x :: preN KN fu (KN x)).map (pB B')) nilV [] ∧ Upd (GrwV tb sv) W wr ∧ (∀ g, sv'.ownBlock = some g → sv.ownBlock = some g ∨ W.heap.size ≤ g) ∧ RootK W A x (x :: preN KN fu (KN x)) tb sv p' B' sv' wr) := HFIN
     clear hL hR NEXT e hin hlt FIN HFIN
     go_wp2
     go_ret
     obtain ⟨p', B', cv', cb', sv', e1, e2, e3, e4, e5, e6⟩ := HF.out
     exact ⟨p', B', by rw [← e1]; rfl, cv', cb', e2, ⟨e3 x (by simp), fun y hy => e3 y (List.mem_cons_of_mem _ hy)⟩, sv', e4, e5, e6⟩
end Go.Proofs.YtnffedmcblbkoaaGreatDoor
