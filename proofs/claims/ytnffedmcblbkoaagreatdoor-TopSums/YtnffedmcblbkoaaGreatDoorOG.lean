/-
  OG.
-/
import Derived.Test.YtnffedmcblbkoaaGreatDoorOCq
import Derived.Deep.Cut
namespace Go.Proofs.YtnffedmcblbkoaaGreatDoor
open Go Go.RowKit
set_option maxRecDepth 100000
set_option maxHeartbeats 8000000 in
theorem growO_any (base f sb : Nat) (W0 : World) (X : List Spot) (K : Nat → List Int) (rvv : Value) (R : List Int) (fin : Nat → Nod) (KN sw : Nat → List Nat) (G : GEnv base f sb W0 X K rvv R fin KN sw) (tb : Nat) (c0 c1 : Int) (lk : Value) : ∀ (fuel : Nat) (W : World) (D : List Nat) (B : Nat → Nat) (wv : Nat → Value) (wb : Nat → Nat) (ev : Value) (E : List Int) (x : Nat), DeepN KN fuel [x] → x < X.length → GrwO base W fin sw tb c0 c1 lk D B wv wb ev E → Upd (fun k => base ≤ k) W0 W → (∀ y ∈ preN KN fuel [x], y ∉ D) → (preN KN fuel [x]).Nodup → E.length + 2 * (preN KN fuel [x]).length ≤ 4000 →
  Calls Tryz.prog 66 #[.pointer (some ⟨tb, 0, none⟩), .pointer (some ⟨f, 0, none⟩), .int .u64 (fin x).id] W fun e W' => ∃ B' wv' wb' ev', e = .returned (pB B' x) ∧ (∀ y ∈ D, B' y = B y ∧ (sw y ≠ [] → wb' y = wb y)) ∧ (∀ y ∈ preN KN fuel [x], W.heap.size ≤ B' y ∧ (sw y ≠ [] → W.heap.size ≤ wb' y)) ∧ GrwO base W' fin sw tb c0 c1 lk (D ++ preN KN fuel [x]) B' wv' wb' ev' (E ++ endsN fin (preN KN fuel [x])) ∧ Upd (GrwW tb ev) W W' ∧ ∀ g, ev'.ownBlock = some g → ev.ownBlock = some g ∨ W.heap.size ≤ g := by
 obtain ⟨i0, hi0, hz0, hz1, hz2⟩ := infoI64_parts
 obtain ⟨j0, hj0, hy0, hy1, hy2⟩ := infoPS_parts
 intro fuel
 induction fuel with
 | zero =>
  intro W D B wv wb ev E x hD
  exact absurd (show [x] = [] from hD) (by simp)
 | succ fu ih =>
  intro W D B wv wb ev E x hD hxX hO hU0 hnD hnd hlE
  have hDk : DeepN KN fu (KN x) := hD x (by simp)
  rw [preN_one] at hnD hnd hlE ⊢
  have hWb : ∀ V, Upd (GrwW tb ev) W V → Upd (fun k => base ≤ k) W0 V := fun V hu => hU0.trans (hu.mono (S' := fun k => base ≤ k) (fun k _ hk => by
   rcases hk with hk | hk
   ·rw [hk]; exact hO.tl
   ·exact (owns_lt hO.ends hk).1)) (fun _ _ h => h)
  have N0 := node_at (G.fr W hU0) x hxX (fin x).id (by rw [G.nd x hxX])
  rw [G.nd x hxX] at N0
  have HO : Hid (GrwO base W fin sw tb c0 c1 lk D B wv wb ev E) := hO
  have HWb : Hid (∀ V, Upd (GrwW tb ev) W V → Upd (fun k => base ≤ k) W0 V) := hWb
  obtain ⟨id, hid⟩ : ∃ id, (fin x).id = id := ⟨_, rfl⟩
  obtain ⟨fr, hfr⟩ : ∃ fr, (fin x).fr = fr := ⟨_, rfl⟩
  obtain ⟨til, htil⟩ : ∃ til, (fin x).til = til := ⟨_, rfl⟩
  have HND : Hid ((fin x).id = id ∧ (fin x).fr = fr ∧ (fin x).til = til) := ⟨hid, hfr, htil⟩
  unfold ndV at N0
  rw [hid, hfr, htil] at N0
  rw [hid]
  have HIH : Hid (∀ (W : World) (D : List Nat) (B : Nat → Nat) (wv : Nat → Value) (wb : Nat → Nat) (ev : Value) (E : List Int) (x : Nat), DeepN KN fu [x] → x < X.length → GrwO base W fin sw tb c0 c1 lk D B wv wb ev E → Upd (fun k => base ≤ k) W0 W → (∀ y ∈ preN KN fu [x], y ∉ D) → (preN KN fu [x]).Nodup → E.length + 2 * (preN KN fu [x]).length ≤ 4000 →
   Calls Tryz.prog 66 #[.pointer (some ⟨tb, 0, none⟩), .pointer (some ⟨f, 0, none⟩), .int .u64 (fin x).id] W fun e W' => ∃ B' wv' wb' ev', e = .returned (pB B' x) ∧ (∀ y ∈ D, B' y = B y ∧ (sw y ≠ [] → wb' y = wb y)) ∧ (∀ y ∈ preN KN fu [x], W.heap.size ≤ B' y ∧ (sw y ≠ [] → W.heap.size ≤ wb' y)) ∧ GrwO base W' fin sw tb c0 c1 lk (D ++ preN KN fu [x]) B' wv' wb' ev' (E ++ endsN fin (preN KN fu [x])) ∧ Upd (GrwW tb ev) W W' ∧ ∀ g, ev'.ownBlock = some g → ev.ownBlock = some g ∨ W.heap.size ≤ g) := ih
  have HG : Hid (GEnv base f sb W0 X K rvv R fin KN sw) := G
  have HMISC : Hid (x < X.length ∧ (∀ y ∈ x :: preN KN fu (KN x), y ∉ D) ∧ (x :: preN KN fu (KN x)).Nodup ∧ E.length + 2 * (x :: preN KN fu (KN x)).length ≤ 4000 ∧ DeepN KN fu (KN x)) := ⟨hxX, hnD, hnd, hlE, hDk⟩
  clear ih hD hxX hO hU0 hnD hnd hlE hDk hWb hid hfr htil
  go_enter Tryz.func66, Tryz.ntmps66
  go_wp2_with (go_at_call 10; refine N0.mono ?_; clear N0; rintro e w1 ⟨rfl, hb1⟩)
  obtain ⟨V2, hV2⟩ : ∃ V2, (w1.alloc (.cells #[.int .u64 id, .int .u64 (fin x).par, .int .i64 (fin x).org, .int .u64 (fin x).tree, .int .i64 (fin x).dep, .int .i64 fr, .int .i64 til] 38)).alloc (.cells #[.int .u64 id, .int .i64 fr, .int .i64 til, .slice none 0 0, .slice none 0 0] 157) = V2 := ⟨_, rfl⟩
  have hbV : Below W.heap.size W V2 := by rw [← hV2]; exact (hb1.alloc hb1.size _).alloc (by have := hb1.size; simp; omega) _
  have szV : V2.heap.size = w1.heap.size + 1 + 1 := by rw [← hV2]; simp
  have bnV : Blk V2 w1.heap.size #[.int .u64 id, .int .u64 (fin x).par, .int .i64 (fin x).org, .int .u64 (fin x).tree, .int .i64 (fin x).dep, .int .i64 fr, .int .i64 til] 38 := by rw [← hV2]; exact (Blk.new _ _ _).alloc _
  have bxV : Blk V2 (w1.heap.size + 1) (spL (fin x) nilV nilV) 157 := by
   rw [← hV2]
   unfold spL nilV
   rw [HND.out.1, HND.out.2.1, HND.out.2.2]
   exact alloc_atS (by simp)
  have hs1 := hb1.size
  have OV := HO.out.below hbV
  have HOV : Hid (GrwO base V2 fin sw tb c0 c1 lk D B wv wb ev E) := OV
  have c2 : V2.cell? ⟨tb, 2, none⟩ = some ev := OV.tree.cell 2 rfl
  have c5 : V2.cell? ⟨w1.heap.size, 5, none⟩ = some (.int .i64 fr) := bnV.cell 5 rfl
  have c6 : V2.cell? ⟨w1.heap.size, 5 + 1, none⟩ = some (.int .i64 til) := bnV.cell 6 rfl
  have y2 := fun (o : Obj) => (World.cell?_alloc_lt V2 o ⟨tb, 2, none⟩ (World.block_lt_of_cell? V2 _ c2)).trans c2
  have HBX : Hid (Blk V2 (w1.heap.size + 1) (spL (fin x) nilV nilV) 157) := bxV
  have HBV : Hid (Below W.heap.size W V2) := hbV
  have hlb : base ≤ V2.heap.size := OV.own.lb
  have hEl : Hid (E.length ≤ 4000) := by have h := HMISC.out.2.2.2.1; have h2 : E.length ≤ 4000 := (by omega); exact h2
  have HOK : Hid (∀ W', Below V2.heap.size V2 W' → W'.ownsRow base 2 1 ev E.length (E.map (Value.int .i64))) := fun W' hb => (HOV.out.below hb).ends
  have HAD : Hid (∀ (u2 u3 : World) (v' : Value), Below V2.heap.size V2 u2 → u2.grownBy u3 ev.ownBlock → Moved u2 ev v' → u3.ownsRow base 2 1 v' (E.length + 2) (E.map (Value.int .i64) ++ [.int .i64 fr, .int .i64 til]) → (GrwO base (u3.setCell ⟨tb, 2, none⟩ v') fin sw tb c0 c1 lk D B wv wb v' (E ++ [fr, til]) ∧ Upd (GrwW tb ev) W (u3.setCell ⟨tb, 2, none⟩ v') ∧ Blk (u3.setCell ⟨tb, 2, none⟩ v') (w1.heap.size + 1) (spL (fin x) nilV nilV) 157 ∧ (∀ g, v'.ownBlock = some g → ev.ownBlock = some g ∨ V2.heap.size ≤ g)) ∧ u3.cell? ⟨tb, 2, none⟩ = some ev ∧ u3.frozen? ⟨tb, 2, none⟩ = false) := fun u2 u3 v' hb hg hm ho => by
   obtain ⟨q1, q2, q3, q4, q5⟩ := HOV.out.more hb hg hm [fr, til] (by simpa using ho)
   exact ⟨⟨q1, (Upd.ofBelow (S := GrwW tb ev) HBV.out (fun k h1 h2 => by omega)).trans q2 (fun _ _ h => h), HBX.out.upd q2 (HOV.out.noW HBX.out (by decide) (by decide)), q5⟩, q3, q4⟩
  rw [hV2]
  clear hV2 OV bnV bxV hbV hb1
  obtain ⟨sz, hsz⟩ : ∃ sz, w1.heap.size = sz := ⟨_, rfl⟩
  have HSZ : Hid (V2.heap.size = w1.heap.size + 1 + 1 ∧ W.heap.size ≤ w1.heap.size) := ⟨szV, hs1⟩
  rw [hsz] at c5 c6 HSZ HBX HAD ⊢
  clear hsz szV hs1
  go_cut [8] from 23 (fun s8 wx => s8 = .bool true ∧ ∃ ev3, GrwO base wx fin sw tb c0 c1 lk D B wv wb ev3 (E ++ [fr, til]) ∧ Upd (GrwW tb ev) W wx ∧ Blk wx (sz + 1) (spL (fin x) nilV nilV) 157 ∧ (∀ g, ev3.ownBlock = some g → ev.ownBlock = some g ∨ V2.heap.size ≤ g))
  case first =>
   go_region_law (refine step_app _ (by rfl) _ _ 133 133 (by rfl) base 2 i0 (.int .i64 0) 8 Tryz.underlying133 hi0 hz0 hz1 hz2 rfl ev E.length (E.map (Value.int .i64)) (by rfl) (HOK.out _ (by repeat' first | exact Below.refl _ _ | refine Below.alloc ?_ (by first | omega | (simp; omega) | (simp; done)) _ | refine Below.drew ?_)) (.slice (some ⟨V2.heap.size, 0, none⟩) 2 2) 2 [.int .i64 fr, .int .i64 til] (by rfl) (src_at2 Tryz.underlying133 (by first | exact heap_alloc_new _ _ | exact heap_alloc_new V2.drew _) rfl rfl) (by have := hEl.out; unfold maxLen; omega) (by have := hEl.out; omega) (by first | (simp; omega) | omega) ?_; intro v8 w8 o8 g8 m8; obtain ⟨ad8, cap8, rfl⟩ := owns_slice o8; obtain ⟨A8, e8, f8⟩ := HAD.out _ w8 _ (by repeat' first | exact Below.refl _ _ | refine Below.alloc ?_ (by first | omega | (simp; omega) | (simp; done)) _ | refine Below.drew ?_) g8 m8 o8; have HA8 : Hid (GrwO base (w8.setCell ⟨tb, 2, none⟩ (.slice ad8 (E.length + 2) cap8)) fin sw tb c0 c1 lk D B wv wb (.slice ad8 (E.length + 2) cap8) (E ++ [fr, til]) ∧ Upd (GrwW tb ev) W (w8.setCell ⟨tb, 2, none⟩ (.slice ad8 (E.length + 2) cap8)) ∧ Blk (w8.setCell ⟨tb, 2, none⟩ (.slice ad8 (E.length + 2) cap8)) (sz + 1) (spL (fin x) nilV nilV) 157 ∧ (∀ g, (Value.slice ad8 (E.length + 2) cap8).ownBlock = some g → ev.ownBlock = some g ∨ V2.heap.size ≤ g)) := A8; clear A8 o8 g8 m8)
   all_goals
    go_wp2
    go_meet
    case rel => exact ⟨rfl, _, HA8.out⟩
  case rest =>
   obtain ⟨rfl, ev3, hO3, hU3, hB3, hev3⟩ := hcut
   have HO3 : Hid (GrwO base wc fin sw tb c0 c1 lk D B wv wb ev3 (E ++ [fr, til])) := hO3
   have HU3 : Hid (Upd (GrwW tb ev) W wc) := hU3
   have HEV3 : Hid (∀ g, ev3.ownBlock = some g → ev.ownBlock = some g ∨ V2.heap.size ≤ g) := hev3
   have HB3 : Hid (Blk wc (sz + 1) (spL (fin x) nilV nilV) 157) := hB3
   have CH := children_at f sb X K rvv R fin KN wc (HG.out.fr wc (HWb.out wc hU3)) HG.out.nd x HMISC.out.1 (HG.out.kn x HMISC.out.1).1 (HG.out.kn x HMISC.out.1).2.1
   rw [HND.out.1] at CH
   obtain ⟨n, hn⟩ : ∃ n, (KN x).length = n := ⟨_, rfl⟩
   have HN : Hid ((KN x).length = n) := hn
   rw [hn] at CH
   have hn1 : (n : Int) ≤ 1000 := by have := (HG.out.kn x HMISC.out.1).2.2; omega
   have ST : Hid (∀ wd, Below wc.heap.size wc wd → GLoop base W fin KN sw fu tb c0 c1 lk D B wb E ev x (sz + 1) 0 wd) := fun wd hb => by
    refine ⟨B, wv, wb, ev3, nilV, ?_, fun y hy => ⟨rfl, fun _ => rfl⟩, fun y hy => ?_, HB3.out.below hb HB3.out.lt, ?_, fun y hy => ⟨?_, fun _ => by simp [Value.ownBlock]⟩, HU3.out.trans (Upd.ofBelow (S := GrwW tb ev) hb (fun k h1 h2 => by omega)) (fun _ _ h => h), by have := HSZ.out.2; omega, fun g e => by simp [Value.ownBlock] at e, fun g e => by rcases HEV3.out g e with h | h; exact Or.inl h; exact Or.inr (by have := HBV.out.size; omega)⟩
    ·have := HO3.out.below hb
     rw [HND.out.2.1, HND.out.2.2]
     cases fu <;> simpa [preN, endsN] using this
    ·cases fu <;> simp [preN] at hy
    ·simpa using World.ownsRow_nil wd base 153 1
    ·have hyD : y ∈ D := by cases fu <;> simpa [preN] using hy
     have := (HO.out.own.blk y hyD).lt
     have := HSZ.out.2
     omega
   clear hn hO3 hU3 hB3 hev3 HAD HOK HBX
   go_wp2_with (go_at_call 15; refine CH.mono ?_; clear CH; rintro e wd ⟨rc, rfl, hrc, hrl, hbd⟩; have HS : Hid (GLoop base W fin KN sw fu tb c0 c1 lk D B wb E ev x (sz + 1) 0 wd) := ST.out wd hbd; have HRC : Hid (Blk wd rc (fillC .u64 ((KN x).map (fun c => (fin c).id)) 0) 33) := hrc; clear hrc hrl hbd ST)
   have NEXT : Hid (∀ (i : Nat) (hi : i < (KN x).length) (wr : World), GLoop base W fin KN sw fu tb c0 c1 lk D B wb E ev x (sz + 1) i wr → ∃ wvx, wr.cell? ⟨sz + 1, 3, none⟩ = some wvx ∧ Calls Tryz.prog 66 #[.pointer (some ⟨tb, 0, none⟩), .pointer (some ⟨f, 0, none⟩), .int .u64 (fin (KN x)[i]).id] wr.drew fun e w5 => ∃ b5 xs5, e = .returned (.pointer (some ⟨b5, 0, none⟩)) ∧ w5.cell? ⟨sz + 1, 3, none⟩ = some wvx ∧ base ≤ w5.heap.size ∧ (∀ W', Below w5.heap.size w5 W' → W'.ownsRow base 153 1 wvx i xs5) ∧ (∀ u2 u3 v', Below w5.heap.size w5 u2 → u2.grownBy u3 wvx.ownBlock → Moved u2 wvx v' → u3.ownsRow base 153 1 v' (i + 1) (xs5 ++ [.pointer (some ⟨b5, 0, none⟩)]) → GLoop base W fin KN sw fu tb c0 c1 lk D B wb E ev x (sz + 1) (i + 1) (u3.setCell ⟨sz + 1, 3, none⟩ v') ∧ u3.cell? ⟨sz + 1, 3, none⟩ = some wvx ∧ u3.frozen? ⟨sz + 1, 3, none⟩ = false ∧ (∀ b c, Blk wr b c 33 → Blk (u3.setCell ⟨sz + 1, 3, none⟩ v') b c 33))) := fun i hi wr hL => by
    obtain ⟨B1, wv1, wb1, ev1, wvx, g1, g2, g3, g4, g5, g6, g7, g8, g9, g10⟩ := hL
    obtain ⟨hxX, hnD, hnd, hlE, hDk⟩ := HMISC.out
    obtain ⟨M, hM⟩ := preN_part KN fu (KN x) i hi
    rw [List.nodup_cons] at hnd
    have hnd2 := hnd.2
    rw [hM, List.append_assoc, List.nodup_append] at hnd2
    have hnd3 := hnd2.2.1
    rw [List.nodup_append] at hnd3
    have hbd : Below wr.heap.size wr wr.drew := (Below.refl _ _).drew
    have hlM := congrArg List.length hM
    simp only [List.length_append] at hlM
    have htk := preN_take KN fu (KN x) i hi
    refine ⟨wvx, g4.cell 3 rfl, ?_⟩
    refine (HIH.out wr.drew _ B1 wv1 wb1 ev1 _ (KN x)[i] (hDk.one (List.getElem_mem hi)) ((HG.out.kn x hxX).2.1 _ (List.getElem_mem hi)) (g1.below hbd) (HWb.out _ (g7.trans (Upd.ofBelow (S := GrwW tb ev) hbd (fun k h1 h2 => by omega)) (fun _ _ h => h))) (fun y hy hc => ?_) hnd3.1 ?_).mono ?_
    ·rcases List.mem_append.1 hc with hc | hc
     ·exact hnD y (List.mem_cons_of_mem _ (by rw [hM]; simp [hy])) hc
     ·exact hnd2.2.2 y hc y (List.mem_append_left _ hy) rfl
    ·simp only [List.length_append, endsN_len, List.length_cons, List.length_nil] at hlE ⊢
     omega
    ·rintro e w5 ⟨B5, wv5, wb5, ev5, rfl, k1, k2, k3, k4, k5⟩
     have hlen : ((KN x).take i).length = i := by simp; omega
     have hsub : ∀ y ∈ (KN x).take i, y ∈ D ++ preN KN fu ((KN x).take i) := fun y hy => List.mem_append_right _ (preN_mem KN fu _ (Deep_take hDk i) y hy)
     have hag : ((KN x).take i).map (pB B5) = ((KN x).take i).map (pB B1) := map_agree (fun y hy => (k1 y (hsub y hy)).1)
     have hd1 := g1.below hbd
     have b5 : Blk w5 (sz + 1) (spL (fin x) wvx nilV) 157 := Blk.upd (w := wr.drew) g4 k4 (hd1.noW g4 (by decide) (by decide))
     have r5 : w5.ownsRow base 153 1 wvx i (((KN x).take i).map (pB B5)) := by
      rw [hag]
      rw [hlen] at g5
      refine ownsRow_upd (w := wr.drew) (ownsRow_upd g5 (Upd.ofBelow (S := fun _ => False) hbd (fun k h1 h2 => by omega)) (fun _ _ h => h)) k4 (fun k e => ?_)
      obtain ⟨cur, hh⟩ := owns_type g5 e
      exact hd1.noW (show wr.drew.heap[k]? = _ from hh) (by decide) (by decide)
     have s5 := k4.size
     have sr := g7.size
     have hD5 : D ++ preN KN fu ((KN x).take (i + 1)) = (D ++ preN KN fu ((KN x).take i)) ++ preN KN fu [(KN x)[i]] := by rw [htk, List.append_assoc]
     refine ⟨B5 (KN x)[i], _, rfl, b5.cell 3 rfl, k3.own.lb, fun W' hb => ownsRow_upd r5 (Upd.ofBelow (S := fun _ => False) hb (fun k h1 h2 => by omega)) (fun _ _ h => h), fun u2 u3 v' hb hg hm ho => ?_⟩
     have hU5 : Upd (GrwW tb ev) W w5 := by
      refine (g7.trans (Upd.drew (Upd.refl (GrwW tb ev) wr)) (fun _ _ h => h)).trans k4 (fun k hk h => ?_)
      rcases h with h | h
      ·exact Or.inl h
      ·rcases g10 k h with h' | h'
       ·exact Or.inr h'
       ·omega
     have hee : ∀ g, ev5.ownBlock = some g → ev.ownBlock = some g ∨ W.heap.size ≤ g := fun g e => by
      rcases k5 g e with h' | h'
      ·exact g10 g h'
      ·have e' : wr.drew.heap.size = wr.heap.size := rfl
       rw [e'] at h'
       exact Or.inr (by omega)
     have st := GLoop.step (B0 := B) (wb0 := wb) (ev := ev) (W := W) hi (by rw [hD5, htk, endsN_app, ← List.append_assoc]; exact k3) (fun y hy => ?_) (fun y hy => ?_) b5 r5 (fun y hy => ?_) hU5 g8 g9 hee hb hg hm ho
     ·refine ⟨st.1, st.2.1, st.2.2.1, fun b c hbc => st.2.2.2 b c _ (Blk.upd (w := wr.drew) hbc k4 (hd1.noW (show wr.drew.heap[b]? = _ from hbc) (by decide) (by decide))) (by decide) (by decide)⟩
     ·have := k1 y (List.mem_append_left _ hy)
      have h2 := g2 y hy
      exact ⟨this.1.trans h2.1, fun hn => (this.2 hn).trans (h2.2 hn)⟩
     ·rw [htk] at hy
      rcases List.mem_append.1 hy with hy | hy
      ·have h1 := k1 y (List.mem_append_right _ hy)
       have h2 := g3 y hy
       exact ⟨by rw [h1.1]; exact h2.1, fun hn => by rw [h1.2 hn]; exact h2.2 hn⟩
      ·have h1 := k2 y hy
       have e : wr.drew.heap.size = wr.heap.size := rfl
       rw [e] at h1
       exact ⟨by omega, fun hn => by have := h1.2 hn; omega⟩
     ·rw [hD5] at hy
      rcases List.mem_append.1 hy with hy | hy
      ·have h1 := k1 y hy
       have h2 := g6 y hy
       exact ⟨by rw [h1.1]; exact h2.1, fun hn => by rw [h1.2 hn]; exact h2.2 hn⟩
      ·have h1 := k2 y hy
       have e : wr.drew.heap.size = wr.heap.size := rfl
       rw [e] at h1
       have hbl := g4.lt
       refine ⟨by omega, fun hn e' => ?_⟩
       have := (owns_lt g5 e').2
       have := h1.2 hn
       omega
   have HLB : Hid (base ≤ W.heap.size ∧ W.heap.size ≤ sz) := ⟨HO.out.own.lb, HSZ.out.2⟩
   clear HO HO3 HU3 HB3 HEV3
   go_loopw [42] (fun y wr => ∃ i : Nat, y = .int .i64 i ∧ i ≤ n ∧ GLoop base W fin KN sw fu tb c0 c1 lk D B wb E ev x (sz + 1) i wr ∧ Blk wr rc (fillC .u64 ((KN x).map (fun c => (fin c).id)) 0) 33) (fun y _ => n - (intOf y).toNat)
   case atStart => exact ⟨0, rfl, by omega, HS.out, HRC.out⟩
   case round =>
    obtain ⟨i, rfl, hin, hL, hR⟩ := hrel
    have HL : Hid (GLoop base W fin KN sw fu tb c0 c1 lk D B wb E ev x (sz + 1) i wr) := hL
    have HRR : Hid (Blk wr rc (fillC .u64 ((KN x).map (fun c => (fin c).id)) 0) 33) := hR
    by_cases hlt : i < n
    ·have hiK : i < (KN x).length := by rw [HN.out]; exact hlt
     obtain ⟨wvx, c3, IC⟩ := NEXT.out i hiK wr hL
     have cr : wr.cell? ⟨rc, i, none⟩ = some (.int .u64 (fin (KN x)[i]).id) := hR.cell i (by simp [fillC, hiK])
     have HWV : Hid (∃ ad cap, wvx = .slice ad i cap) := by
      obtain ⟨B1, wv1, wb1, ev1, wvx', g1, g2, g3, g4, g5, g6⟩ := hL
      have e : wvx = wvx' := by
       have := g4.cell 3 rfl
       rw [c3] at this
       exact Option.some.inj this
      have := owns_slice g5
      rw [show ((KN x).take i).length = i by simp; omega] at this
      rw [e]
      exact this
     clear hL hR NEXT
     have hi1 : Hid (i < 1000) := by have h1 : i < 1000 := (by omega); exact h1
     go_wp2
     go_region_law (first
      | (refine step_app _ (by rfl) _ _ 155 155 (by rfl) base 153 j0 (.pointer none) 8 Tryz.underlying155 hj0 hy0 hy1 hy2 rfl wvx i xs5 (by rfl) (HOWN.out _ (by repeat' first | exact Below.refl _ _ | refine Below.alloc ?_ (by first | omega | (simp; omega) | (simp; done)) _ | refine Below.drew ?_)) (.slice (some ⟨w5.heap.size, 0, none⟩) 1 1) 1 [.pointer (some ⟨b5, 0, none⟩)] (by rfl) (src_at Tryz.underlying155 (by first | exact heap_alloc_new _ _ | exact heap_alloc_new w5.drew _) rfl) (by have := hi1.out; unfold maxLen; omega) (by have := hi1.out; omega) (by first | (simp; omega) | omega) ?_; intro v8 w8 o8 g8 m8; obtain ⟨ad8, cap8, rfl⟩ := owns_slice o8; obtain ⟨A8, e8, f8, z8⟩ := HSTEP.out _ w8 _ (by repeat' first | exact Below.refl _ _ | refine Below.alloc ?_ (by first | omega | (simp; omega) | (simp; done)) _ | refine Below.drew ?_) g8 m8 o8; have HA8 : Hid (GLoop base W fin KN sw fu tb c0 c1 lk D B wb E ev x (sz + 1) (i + 1) (w8.setCell ⟨sz + 1, 3, none⟩ (.slice ad8 (i + 1) cap8)) ∧ Blk (w8.setCell ⟨sz + 1, 3, none⟩ (.slice ad8 (i + 1) cap8)) rc (fillC .u64 ((KN x).map (fun c => (fin c).id)) 0) 33) := ⟨A8, z8 _ _ HRR.out⟩; clear A8 o8 g8 m8 z8 HOWN HSTEP)
      | (go_simp; go_at_call 66; (with_reducible refine IC.mono ?_); clear IC; rintro e w5 ⟨b5, xs5, rfl, d3, hlb5, hown, hstep⟩; have HOWN : Hid (∀ W', Below w5.heap.size w5 W' → W'.ownsRow base 153 1 wvx i xs5) := hown; have HSTEP : Hid (∀ u2 u3 v', Below w5.heap.size w5 u2 → u2.grownBy u3 wvx.ownBlock → Moved u2 wvx v' → u3.ownsRow base 153 1 v' (i + 1) (xs5 ++ [.pointer (some ⟨b5, 0, none⟩)]) → GLoop base W fin KN sw fu tb c0 c1 lk D B wb E ev x (sz + 1) (i + 1) (u3.setCell ⟨sz + 1, 3, none⟩ v') ∧ u3.cell? ⟨sz + 1, 3, none⟩ = some wvx ∧ u3.frozen? ⟨sz + 1, 3, none⟩ = false ∧ (∀ b c, Blk wr b c 33 → Blk (u3.setCell ⟨sz + 1, 3, none⟩ v') b c 33)) := hstep; have d3' := fun (o : Obj) => (World.cell?_alloc_lt w5 o ⟨sz + 1, 3, none⟩ (World.block_lt_of_cell? w5 _ d3)).trans d3; clear hown hstep))
     all_goals
      go_wp2
      go_roundw
      case rel => exact ⟨i + 1, by simp, by omega, HA8.out.1, HA8.out.2⟩
      case measure => (simp [intOf]; try omega)
    ·obtain rfl : i = n := by omega
     obtain ⟨B1, wv1, wb1, ev1, wvx, g1, g2, g3, g4, g5, g6, g7, g8, g9, g10⟩ := hL
     have htk : (KN x).take i = KN x := List.take_of_length_le (by rw [HN.out]; exact Nat.le_refl _)
     rw [htk] at g1 g3 g5 g6
     have c3 : wr.cell? ⟨sz + 1, 3, none⟩ = some wvx := g4.cell 3 rfl
     obtain ⟨hxX, hnD, hnd, hlE, hDk⟩ := HMISC.out
     have hsubK : ∀ y ∈ KN x, y ∈ D ++ preN KN fu (KN x) := fun y hy => List.mem_append_right _ (preN_mem KN fu _ hDk y hy)
     have SO := sortG_any base fin B1 wvx (KN x) wr g5 (fun y hy => ⟨_, _, g1.own.blk y (hsubK y hy)⟩) (HG.out.kn x hxX).2.2
     have FIN : Hid (∀ w9 L', (KN x).Perm L' → L'.Pairwise (fun a b => ¬ ltG (fin b) (fin a)) → w9.ownsRow base 153 1 wvx (KN x).length (L'.map (pB B1)) → Upd (fun k => wvx.ownBlock = some k) wr w9 → ∃ B' wv' wb' ev', Value.pointer (some ⟨sz + 1, 0, none⟩) = pB B' x ∧ (∀ y ∈ D, B' y = B y ∧ (sw y ≠ [] → wb' y = wb y)) ∧ (∀ y ∈ x :: preN KN fu (KN x), W.heap.size ≤ B' y ∧ (sw y ≠ [] → W.heap.size ≤ wb' y)) ∧ GrwO base w9 fin sw tb c0 c1 lk (D ++ x :: preN KN fu (KN x)) B' wv' wb' ev' (E ++ endsN fin (x :: preN KN fu (KN x))) ∧ Upd (GrwW tb ev) W w9 ∧ ∀ g, ev'.ownBlock = some g → ev.ownBlock = some g ∨ W.heap.size ≤ g) := fun w9 L' hp hs ho hu => by
      obtain ⟨hp2, hs2⟩ := HG.out.sw x hxX
      have hLe : L' = sw x := sorted_unique fin L' (sw x) (hp.symm.trans hp2) hs hs2
      subst hLe
      rw [hp2.length_eq] at ho
      have hty : ∀ k c T fr, wr.heap[k]? = some (.cells c T fr) → T ≠ 153 → wvx.ownBlock ≠ some k := fun k c T fr hk hT e => by
       obtain ⟨cur, hh⟩ := owns_type g5 e
       rw [hk] at hh
       simp at hh
       exact hT hh.2.1
      have g1' := g1.other hu (fun k hk => ⟨fun y hy e => hty _ _ _ _ (g1.own.blk y hy) (by decide) (by rw [e]; exact hk), fun y hy hn e => (g6 y hy).2 hn (by rw [e]; exact hk), fun e => hty _ _ _ _ g1.tree (by decide) (by rw [← e]; exact hk), fun e => by
       obtain ⟨cur, hh⟩ := owns_type g1.ends e
       exact hty _ _ _ _ hh (by decide) hk⟩)
      have hb9 : Blk w9 (sz + 1) (spL (fin x) wvx nilV) 157 := g4.upd hu (fun e => hty _ _ _ _ g4 (by decide) e)
      rw [List.nodup_cons] at hnd
      have hxD : x ∉ D ++ preN KN fu (KN x) := fun hc => by
       rcases List.mem_append.1 hc with hc | hc
       ·exact hnD x (by simp) hc
       ·exact hnd.1 hc
      have hsx : ∀ c ∈ sw x, c ∈ D ++ preN KN fu (KN x) := fun c hc => hsubK c (hp2.mem_iff.2 hc)
      have hne : ∀ y ∈ D ++ preN KN fu (KN x), y ≠ x := fun y hy e => by subst e; exact hxD hy
      have ad := g1'.own.add g1'.cl hxD hsx hb9 (by have := HLB.out; omega) (fun y hy => (g6 y hy).1) ho
      refine ⟨upF B1 x (sz + 1), upF wv1 x wvx, upF wb1 x (blkOf wvx), ev1, by unfold pB; rw [upF_same], fun y hy => ?_, fun y hy => ?_, ⟨ad.cast (fun y hy => ?_), g1'.tree, ?_, g1'.tl, fun y hy c hc => ?_⟩, g7.trans hu (fun k hk e => by have := g9 k e; omega), g10⟩
      ·have hyx := hne y (List.mem_append_left _ hy)
       rw [upF_ne _ _ hyx, upF_ne _ _ hyx]
       exact g2 y hy
      ·rcases List.mem_cons.1 hy with e | hy
       ·subst e
        rw [upF_same, upF_same]
        refine ⟨g8, fun hn => ?_⟩
        rcases ho.2 with ⟨_, e2⟩ | ⟨g, cap, cur, e1, _⟩
        ·exact absurd (List.eq_nil_of_length_eq_zero e2) hn
        ·have e3 : wvx.ownBlock = some g := by rw [e1]; rfl
         have := g9 g e3
         unfold blkOf
         rw [e3]
         exact this
       ·have hyx := hne y (List.mem_append_right _ hy)
        rw [upF_ne _ _ hyx, upF_ne _ _ hyx]
        exact g3 y hy
      ·rcases List.mem_append.1 hy with hy | hy
       ·exact List.mem_cons_of_mem _ (List.mem_append_left _ hy)
       ·rcases List.mem_cons.1 hy with e | hy
        ·rw [e]; exact List.mem_cons_self
        ·exact List.mem_cons_of_mem _ (List.mem_append_right _ hy)
      ·have := g1'.ends
       have e : E ++ [(fin x).fr, (fin x).til] ++ endsN fin (preN KN fu (KN x)) = E ++ endsN fin (x :: preN KN fu (KN x)) := by simp [endsN]
       rw [e] at this
       exact this
      ·have hcD : c ∈ D ++ preN KN fu (KN x) := by
        rcases List.mem_append.1 hy with hy | hy
        ·exact g1'.cl y (List.mem_append_left _ hy) c hc
        ·rcases List.mem_cons.1 hy with e | hy
         ·rw [e] at hc; exact hsx c hc
         ·exact g1'.cl y (List.mem_append_right _ hy) c hc
       rcases List.mem_append.1 hcD with h | h
       ·exact List.mem_append_left _ h
       ·exact List.mem_append_right _ (List.mem_cons_of_mem _ h)
     clear g1 g2 g3 g4 g5 g6 g7 g8 g9 g10 hxX hnD hnd hlE hDk hsubK htk hR NEXT
     go_wp2_with (go_at_call 99; refine SO.mono ?_; clear SO; rintro e w9 ⟨rfl, L', q1, q2, q3, q4⟩; have HFIN := FIN.out w9 L' q1 q2 q3 q4; clear q1 q2 q3 q4 FIN)
     obtain ⟨B', wv', wb', ev', e1, e2, e3, e4, e5, e6⟩ := HFIN
     go_ret
     exact ⟨B', wv', wb', ev', by rw [← e1]; rfl, e2, e3, e4, e5, e6⟩
end Go.Proofs.YtnffedmcblbkoaaGreatDoor
