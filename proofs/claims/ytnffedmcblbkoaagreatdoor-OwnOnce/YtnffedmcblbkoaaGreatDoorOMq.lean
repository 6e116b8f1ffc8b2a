/-
  Merged: OM, ON, OO.
-/
import Derived.Test.YtnffedmcblbkoaaGreatDoorOL
import Derived.Test.YtnffedmcblbkoaaGreatDoorGAq
import Derived.Test.YtnffedmcblbkoaaGreatDoorOXq
namespace Go.Proofs.YtnffedmcblbkoaaGreatDoor
open Go Go.RowKit
set_option maxRecDepth 100000
set_option maxHeartbeats 2000000 in
theorem legsAt_any (f sb : Nat) (X : List Spot) (K : Nat → List Int) (rvv : Value) (R : List Int) (fin : Nat → Nod) (KN sw : Nat → List Nat) (fuel x : Nat) (mu : Nat → Nat) (W : World) (hF : ForestAt W f sb X K rvv R) (T : TEnv X K fin KN sw fuel x) (ho : (fin x).org ≠ 0) (hG : OwnG (preN KN fuel [x]) sw nils mu) (E M : List Int) (hEE : endsN fin (preN KN fuel [x]) = E) (hMM : cptE (srtE E) = M) (hE : 2 ≤ E.length) (hE2 : E.length ≤ 4000) (hM : 1 ≤ M.length) (hM2 : M.length ≤ E.length) :
  Calls Tryz.prog 11 #[.pointer (some ⟨f, 0, none⟩), .int .u64 (fin x).id] W fun e W' => ∃ v L b, e = .returned (.tuple #[v, .int .i64 0]) ∧ L = legsM fin (mu x + 1) x M sw nils [] ∧ W.heap.size ≤ b ∧ W'.ownsRow b 50 3 v L.length (L.flatMap legC) ∧ Below W.heap.size W W' := by
 have LA := lacks_any f sb X K rvv R W hF x T.xX (fin x) (T.nd x T.xX) ho
 have GR : Hid (∀ w1, Below W.heap.size W w1 → Calls Tryz.prog 38 #[.pointer (some ⟨f, 0, none⟩), .int .u64 (fin x).id] w1 fun e W' => e = .returned (.pointer (some ⟨w1.heap.size, 0, none⟩)) ∧ (∃ B wv wb ev, TreeO w1.heap.size W' fin w1.heap.size x (preN KN fuel [x]) B sw nils wv (fun _ => nilV) wb ev E) ∧ Below w1.heap.size w1 W') := fun w1 hb => by
  have := grown_any f sb X K rvv R fin KN sw fuel x w1 (hF.below hb) T
  rw [hEE] at this
  exact this
 have LG : Hid (∀ base W1 tb B wv wb ev, TreeO base W1 fin tb x (preN KN fuel [x]) B sw nils wv (fun _ => nilV) wb ev E → Calls Tryz.prog 39 #[.pointer (some ⟨tb, 0, none⟩)] W1 fun e W' => ∃ v L, e = .returned v ∧ L = legsM fin (mu x + 1) x M sw nils [] ∧ W'.ownsRow base 50 3 v L.length (L.flatMap legC) ∧ Upd (fun k => base ≤ k) W1 W') := fun base W1 tb B wv wb ev hT => by
  have := legs_any base fin tb x (preN KN fuel [x]) B sw mu wv wb ev E W1 hT hG hE hE2 (by rw [hMM]; exact hM) (by rw [hMM]; exact hM2)
  rw [hMM] at this
  exact this
 obtain ⟨id, hid⟩ : ∃ id, (fin x).id = id := ⟨_, rfl⟩
 rw [hid] at LA GR ⊢
 generalize legsM fin (mu x + 1) x M sw nils [] = res at LG ⊢
 clear hF T ho hG hid hE hE2 hM hM2 hEE hMM
 go_enter Tryz.func11, Tryz.ntmps11
 go_wp2_with (first
  | (go_at_call 37; refine LA.mono ?_; clear LA; rintro e w1 ⟨rfl, hb1⟩; have G1 := GR.out w1 hb1; have HB1 : Hid (Below W.heap.size W w1) := hb1; clear hb1)
  | (go_at_call 38; refine G1.mono ?_; clear G1; rintro e w2 ⟨rfl, ⟨B, wv, wb, ev, hT⟩, hb2⟩; have L1 := LG.out _ _ _ _ _ _ _ hT; have HB2 : Hid (Below w1.heap.size w1 w2) := hb2; clear hT hb2)
  | (go_at_call 39; refine L1.mono ?_; clear L1; rintro e w4 ⟨v, L, rfl, hL, hrow, hu4⟩; have H4 : Hid (L = res ∧ w4.ownsRow w1.heap.size 50 3 v L.length (L.flatMap legC) ∧ Upd (fun k => w1.heap.size ≤ k) w2 w4) := ⟨hL, hrow, hu4⟩; clear hL hrow hu4))
 go_ret2
 obtain ⟨hL, hrow, hu4⟩ := H4.out
 subst hL
 refine ⟨v, L, w1.heap.size, rfl, rfl, HB1.out.size, hrow, ?_⟩
 have b2 := HB1.out.trans (HB2.out.mono HB1.out.size)
 exact b2.trans (hu4.below b2.size (fun k hk h => by have := HB1.out.size; omega))
set_option maxHeartbeats 2000000 in
theorem sameLegs_any (g h n c d : Nat) (L : List (Int × Int × Int)) (w : World) (hn : L.length = n) (hl : n ≤ 4000) (k1 : LegsIn w g L) (k2 : LegsIn w h L) :
  Calls Tryz.prog 29 #[.slice (some ⟨g, 0, none⟩) n c, .slice (some ⟨h, 0, none⟩) n d] w fun e w' => e = .returned (.bool true) ∧ Below w.heap.size w w' := by
 have KK : Hid (∀ (i : Nat) (hi : i < n), ∃ o a t : Int, (∀ m, (w.drewN m).cell? ⟨g, i * 3, none⟩ = some (.int .u64 o) ∧ (w.drewN m).cell? ⟨g, i * 3 + 1, none⟩ = some (.int .i64 a) ∧ (w.drewN m).cell? ⟨g, i * 3 + 2, none⟩ = some (.int .i64 t)) ∧ (∀ m, (w.drewN m).cell? ⟨h, i * 3, none⟩ = some (.int .u64 o) ∧ (w.drewN m).cell? ⟨h, i * 3 + 1, none⟩ = some (.int .i64 a) ∧ (w.drewN m).cell? ⟨h, i * 3 + 2, none⟩ = some (.int .i64 t))) := fun i hi => by
  have hi' : i < L.length := by omega
  exact ⟨L[i].1, L[i].2.1, L[i].2.2, fun m => k1 i hi', fun m => k2 i hi'⟩
 clear k1 k2 hn
 go_enter Tryz.func29, Tryz.ntmps29
 go_wp2
 go_loopw [5] (fun y wr => ∃ i m : Nat, y = .int .i64 i ∧ i ≤ n ∧ wr = w.drewN m) (fun y _ => n - (intOf y).toNat)
 case atStart => exact ⟨0, 0, rfl, by omega, rfl⟩
 case round =>
  obtain ⟨i, m, rfl, hi, rfl⟩ := hrel
  by_cases hlt : i < n
  ·obtain ⟨o, a, t, q1, q2⟩ := KK.out i hlt
   have hin : (i : Int) < (n : Int) := by omega
   obtain ⟨a1, a2, a3⟩ := q1 m
   obtain ⟨b1, b2, b3⟩ := q2 m
   obtain ⟨c1, c2, c3⟩ := q1 0
   obtain ⟨d1, d2, d3⟩ := q2 0
   rw [World.drewN_zero] at c1 c2 c3 d1 d2 d3
   clear q1 q2
   go_wp2
   go_region
   go_wp2
   go_roundw
   case rel => exact ⟨i + 1, m + 1, by go_num, by omega, by simp⟩
   case measure => (simp [intOf]; try omega)
  ·obtain rfl : i = n := by omega
   go_wp2
   go_ret
   exact ⟨rfl, (Upd.drewN (Upd.refl (fun _ => False) w) _).below (Nat.le_refl _) (fun _ _ h => h)⟩
def svCn : ByteArray := ⟨#[99]⟩
def oY : List Sp := [spE svA 1 0 0 10, spE svCn 2 1 2 6, spE svCn 3 1 4 9, spE svA 4 2 5 7]
theorem oRise : oY.Pairwise (fun a b => a.id < b.id) := by
 simp [oY, spE]
theorem oOne : OneT oY := by
 refine oneE (fun a ha => ?_) (by simp [oY]) (by simp [oY, spE])
 simp only [oY, List.mem_cons, List.not_mem_nil, or_false] at ha
 rcases ha with rfl | rfl | rfl | rfl
 all_goals exact ⟨_, _, _, _, _, rfl, by decide, by omega, by omega, by decide +kernel⟩
theorem oNm : nmOf (zs oY) = [-1, 0, 0, 1] := by decide +kernel
def oDp : Nat → Nat
 | 1 => 1
 | 2 => 1
 | 3 => 2
 | _ => 0
def oFin : Nat → Nod
 | 0 => ⟨1, 0, 1, 1, 0, 0, 10⟩
 | 1 => ⟨2, 1, 0, 1, 1, 2, 6⟩
 | 2 => ⟨3, 1, 0, 1, 1, 4, 9⟩
 | _ => ⟨4, 2, 0, 1, 2, 5, 6⟩
theorem oNo : NoRing (nmOf (zs oY)) oY.length := by
 rw [oNm]
 intro i hi
 rcases four (show i < 4 from hi) with rfl | rfl | rfl | rfl
 ·exact Or.inl (by decide +kernel)
 ·exact Or.inr (by decide +kernel)
 ·exact Or.inr (by decide +kernel)
 ·exact Or.inr (by decide +kernel)
theorem oShape : Shape (zs oY) (nmOf (zs oY)) oDp oFin := by
 rw [oNm]
 refine ⟨fun i hi hn => ?_, fun i j hi hj hn => ?_, fun i hi => ?_⟩
 ·rcases four (show i < 4 from hi) with rfl | rfl | rfl | rfl
  ·exact ⟨rfl, rfl⟩
  ·exact absurd hn (by decide)
  ·exact absurd hn (by decide)
  ·exact absurd hn (by decide)
 ·rcases four (show i < 4 from hi) with rfl | rfl | rfl | rfl
  ·exact absurd hn (by simp)
  ·have : j = 0 := by simp at hn; omega
   subst this
   exact ⟨rfl, rfl⟩
  ·have : j = 0 := by simp at hn; omega
   subst this
   exact ⟨rfl, rfl⟩
  ·have : j = 1 := by simp at hn; omega
   subst this
   exact ⟨rfl, rfl⟩
 ·rcases four (show i < 4 from hi) with rfl | rfl | rfl | rfl <;> exact ⟨by decide, by decide, by decide⟩
def oK : Nat → List Nat
 | 0 => [1, 2]
 | 1 => [3]
 | _ => []
def oMu : Nat → Nat
 | 0 => 2
 | 1 => 1
 | _ => 0
theorem oPre : preN oK 4 [0] = [0, 1, 3, 2] := by decide +kernel
theorem oEnds : endsN oFin (preN oK 4 [0]) = [0, 10, 2, 6, 5, 6, 4, 9] := by rw [oPre]; decide +kernel
theorem oSrt0 : srtE [0, 10, 2, 6, 5, 6, 4, 9] = [0, 2, 4, 5, 6, 6, 9, 10] := by
 refine List.Perm.eq_of_pairwise (le := fun a b : Int => a ≤ b) (fun a b _ _ h1 h2 => by omega) ?_ (by decide) ((List.mergeSort_perm _ _).trans (by decide))
 have := List.pairwise_mergeSort (le := fun x y : Int => decide (x ≤ y)) (fun a b c h1 h2 => by simp at *; omega) (fun a b => by simp; omega) [0, 10, 2, 6, 5, 6, 4, 9]
 exact this.imp (fun h => by simpa using h)
theorem oSrt : cptE (srtE [0, 10, 2, 6, 5, 6, 4, 9]) = [0, 2, 4, 5, 6, 9, 10] := by rw [oSrt0]; decide +kernel
theorem oLegs : legsM oFin (oMu 0 + 1) 0 [0, 2, 4, 5, 6, 9, 10] oK nils [] = [(1, 0, 2), (2, 2, 4), (3, 4, 9), (1, 9, 10)] := by decide +kernel
theorem oWho : (oFin (ownerM oFin 5 (oMu 0 + 1) oK nils 0).1).id = 3 := by decide +kernel
theorem oEnv {X : List Spot} {K : Nat → List Int} {R : List Int} (h : FoR oY oFin X K R) : TEnv X K oFin oK oK 4 0 := by
 have hl : X.length = 4 := h.len
 have k := fun i hi => (h.kids i hi)
 rw [oNm] at k
 have hk0 : kidsF [-1, 0, 0, 1] oY.length ((0 : Nat) : Int) = [1, 2] := by decide +kernel
 have hk1 : kidsF [-1, 0, 0, 1] oY.length ((1 : Nat) : Int) = [3] := by decide +kernel
 have hk2 : kidsF [-1, 0, 0, 1] oY.length ((2 : Nat) : Int) = [] := by decide +kernel
 have hk3 : kidsF [-1, 0, 0, 1] oY.length ((3 : Nat) : Int) = [] := by decide +kernel
 obtain ⟨c0, s0⟩ := k 0 (by decide)
 have c1 := (k 1 (by decide)).1
 have c2 := (k 2 (by decide)).1
 have c3 := (k 3 (by decide)).1
 rw [hk0] at c0
 rw [hk1] at c1
 rw [hk2] at c2
 rw [hk3] at c3
 have K0 : K 0 = [1, 2] := by
  refine pair_of c0 (by decide) fun x y hR hxy => ?_
  obtain ⟨rfl, rfl⟩ := hxy
  rw [hR, List.pairwise_cons] at s0
  refine s0.1 1 (by simp) ?_
  left
  decide
 refine ⟨fun i hi => (h.each i (by rw [← h.len]; exact hi) hi).2, fun i hi => ?_, fun i hi => ?_, ?_, by omega, by rw [oPre]; decide, by rw [oPre]; decide⟩
 ·rcases four (show i < 4 by omega) with rfl | rfl | rfl | rfl
  ·exact ⟨K0, by rw [hl]; decide, by decide⟩
  ·exact ⟨(List.singleton_perm.1 c1).symm, by rw [hl]; decide, by decide⟩
  ·exact ⟨List.nil_perm.1 c2, by rw [hl]; decide, by decide⟩
  ·exact ⟨List.nil_perm.1 c3, by rw [hl]; decide, by decide⟩
 ·refine ⟨List.Perm.refl _, ?_⟩
  rcases four (show i < 4 by omega) with rfl | rfl | rfl | rfl
  ·simp [oK, oFin, ltG]
  ·simp [oK]
  ·simp [oK]
  ·simp [oK]
 ·simp [DeepN, oK]
theorem oGr : OwnG (preN oK 4 [0]) oK nils oMu := by
 rw [oPre]
 refine ⟨fun x hx c hc => ?_, fun x hx c hc => (by simp [nils] at hc), fun x hx => ?_⟩
 ·simp only [List.mem_cons, List.not_mem_nil, or_false] at hx
  rcases hx with rfl | rfl | rfl | rfl <;> simp [oK] at hc <;> (try rcases hc with rfl | rfl) <;> simp [oMu]
 ·simp only [List.mem_cons, List.not_mem_nil, or_false] at hx
  rcases hx with rfl | rfl | rfl | rfl <;> simp [oK, nils]
theorem example_any (w : World) : Calls Tryz.prog 28 #[] w fun e w' => e = .returned (.slice (some ⟨w.heap.size + 1, 0, none⟩) 4 4) ∧ Blk w' (w.heap.size + 1) (oY.flatMap enP).toArray 102 ∧ Below w.heap.size w w' := by
 go_enter Tryz.func28, Tryz.ntmps28
 go_wp2
 go_ret
 refine ⟨rfl, ?_, ?_⟩
 ·exact alloc_atS (by simp)
 ·repeat' first | exact Below.refl _ _ | refine Below.alloc ?_ (by first | exact Nat.le_refl _ | (simp; done) | (simp; omega)) _ | refine Below.setCell ?_ (by first | exact Nat.le_refl _ | (simp; done) | (simp; omega)) _
theorem buildO (w w1 : World) (hT : Tabs w) (g : Nat) (hb : Below w.heap.size w w1) (hB : Blk w1 g (oY.flatMap enP).toArray 102) : Calls Tryz.prog 27 #[.slice (some ⟨g, 0, none⟩) 4 4] w1 fun e w' => ∃ f sb X K rv R, e = .returned (.tuple #[.pointer (some ⟨f, 0, none⟩), .int .i64 0]) ∧ ForestAt w' f sb X K rv R ∧ FoR oY oFin X K R ∧ Below w.heap.size w w' := by
 refine (build_any (some ⟨g, 0, none⟩) 4 4 oY oY (fun _ => pl0) w1 (spsFlat hB (fun a ha => ?_)) oOne (hT.below hb) (List.Perm.refl _) oRise oNo oDp oFin oShape).mono ?_
 ·simp only [oY, List.mem_cons, List.not_mem_nil, or_false] at ha
  rcases ha with rfl | rfl | rfl | rfl <;> exact atE _ _ _ _ _ _
 ·rintro e w' ⟨f, sb, X, K, rv, R, rfl, hF, hO, hb'⟩
  exact ⟨f, sb, X, K, rv, R, rfl, hF, hO, hb.trans (hb'.mono hb.size)⟩
def oL : List (Int × Int × Int) := [(1, 0, 2), (2, 2, 4), (3, 4, 9), (1, 9, 10)]
theorem ownerO {W : World} {f sb : Nat} {X : List Spot} {K : Nat → List Int} {rv : Value} {R : List Int} (hF : ForestAt W f sb X K rv R) (hO : FoR oY oFin X K R) : Calls Tryz.prog 26 #[.pointer (some ⟨f, 0, none⟩), .int .u64 1, .int .i64 5] W fun e W' => e = .returned (.tuple #[.int .u64 3, .int .i64 0]) ∧ Below W.heap.size W W' := by
 have := ownerAt_any f sb X K rv R oFin oK oK 4 0 oMu 5 W hF (oEnv hO) (by decide) oGr (by decide) (by decide)
 rw [oWho] at this
 exact this
theorem legsO {W : World} {f sb : Nat} {X : List Spot} {K : Nat → List Int} {rv : Value} {R : List Int} (hF : ForestAt W f sb X K rv R) (hO : FoR oY oFin X K R) : Calls Tryz.prog 11 #[.pointer (some ⟨f, 0, none⟩), .int .u64 1] W fun e W' => ∃ g c, e = .returned (.tuple #[.slice (some ⟨g, 0, none⟩) 4 c, .int .i64 0]) ∧ LegsIn W' g oL ∧ g < W'.heap.size ∧ Below W.heap.size W W' := by
 have := legsAt_any f sb X K rv R oFin oK oK 4 0 oMu W hF (oEnv hO) (by decide) oGr _ _ oEnds oSrt (by decide) (by decide) (by decide) (by decide)
 rw [oLegs] at this
 refine this.mono ?_
 rintro e W' ⟨v, L, b, rfl, rfl, hb, hrow, hbel⟩
 obtain ⟨ad, c, rfl⟩ := owns_sliceS hrow
 obtain ⟨g, rfl⟩ := owns_some hrow
 exact ⟨g, c, rfl, legsIn_row hrow, (owns_lt hrow rfl).2, hbel⟩
set_option maxHeartbeats 4000000 in
theorem shown_any (w : World) (hT : Tabs w) : Calls Tryz.prog 6 #[] w fun e w' => e = .returned (.bool true) ∧ Below w.heap.size w w' := by
 have EX := example_any w
 have BD : Hid (∀ w1 g, Below w.heap.size w w1 → Blk w1 g (oY.flatMap enP).toArray 102 → Calls Tryz.prog 27 #[.slice (some ⟨g, 0, none⟩) 4 4] w1 fun e w' => ∃ f sb X K rv R, e = .returned (.tuple #[.pointer (some ⟨f, 0, none⟩), .int .i64 0]) ∧ ForestAt w' f sb X K rv R ∧ FoR oY oFin X K R ∧ Below w.heap.size w w') := fun w1 g hb hB => buildO w w1 hT g hb hB
 clear hT
 go_enter Tryz.func6, Tryz.ntmps6
 go_wp2_with (first
  | (go_at_call 28; refine EX.mono ?_; clear EX; rintro e w1 ⟨rfl, hB, hb⟩; have B1 := BD.out _ _ hb hB; clear hB hb)
  | (go_at_call 27; refine B1.mono ?_; clear B1; rintro e w2 ⟨f, sb, X, K, rv, R, rfl, hF, hO, hb⟩; have OW := ownerO hF hO; have HF : Hid (ForestAt w2 f sb X K rv R ∧ FoR oY oFin X K R ∧ Below w.heap.size w w2) := ⟨hF, hO, hb⟩; clear hF hO hb)
  | (go_at_call 26; refine OW.mono ?_; clear OW; rintro e w3 ⟨rfl, hb⟩; have LG := legsO (ForestAt.below HF.out.1 hb) HF.out.2.1; have B3 : Hid (Below w.heap.size w w3) := HF.out.2.2.trans (hb.mono HF.out.2.2.size); clear hb)
  | (go_at_call 11; refine LG.mono ?_; clear LG; rintro e w4 ⟨g, c, rfl, hL, hg, hb⟩; have H4 : Hid (LegsIn w4 g oL ∧ g < w4.heap.size ∧ Below w.heap.size w w4) := ⟨hL, hg, B3.out.trans (hb.mono B3.out.size)⟩; clear hL hg hb)
  | (go_at_call 29; refine (sameLegs_any _ _ 4 _ _ oL _ rfl (by omega) (legsIn_alloc H4.out.1 H4.out.2.1) (legsIn_blk (alloc_atS (by simp)))).mono ?_; rintro e w5 ⟨rfl, hb⟩; have B5 : Hid (Below w.heap.size w w5) := (H4.out.2.2.alloc H4.out.2.2.size _).trans (hb.mono (by have := H4.out.2.2.size; rw [World.size_alloc]; omega)); clear hb))
 go_ret
 exact ⟨rfl, B5.out⟩
end Go.Proofs.YtnffedmcblbkoaaGreatDoor
