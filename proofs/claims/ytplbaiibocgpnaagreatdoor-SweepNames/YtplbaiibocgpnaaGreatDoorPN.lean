/-
  PN.
-/
import Derived.Test.YtplbaiibocgpnaaGreatDoorPL
import Derived.Test.YtplbaiibocgpnaaGreatDoorPK
namespace Go.Proofs.YtplbaiibocgpnaaGreatDoor
open Go Go.RowKit
set_option maxRecDepth 100000

theorem wFlat : (wY.flatMap enP).toArray = #[.int .u64 0, .int .u64 1, .int .u64 1, .int .u64 0, .slice none 0 0, .string svS, .string svO, .int .i64 0, .int .i64 0, .int .i64 0, .int .i64 10, .slice none 0 0, .slice none 0 0, .int .u64 0, .int .u64 1, .int .u64 2, .int .u64 1, .slice none 0 0, .string svS, .string svO, .int .i64 0, .int .i64 0, .int .i64 1, .int .i64 4, .slice none 0 0, .slice none 0 0, .int .u64 0, .int .u64 1, .int .u64 3, .int .u64 1, .slice none 0 0, .string svS, .string svO, .int .i64 0, .int .i64 0, .int .i64 2, .int .i64 7, .slice none 0 0, .slice none 0 0, .int .u64 0, .int .u64 1, .int .u64 4, .int .u64 1, .slice none 0 0, .string svS, .string svO, .int .i64 0, .int .i64 0, .int .i64 7, .int .i64 9, .slice none 0 0, .slice none 0 0, .int .u64 0, .int .u64 1, .int .u64 5, .int .u64 4, .slice none 0 0, .string svS, .string svO, .int .i64 0, .int .i64 0, .int .i64 8, .int .i64 9, .slice none 0 0, .slice none 0 0] := rfl
set_option maxHeartbeats 4000000 in
theorem exampleW_any (w : World) : Calls Tryz.prog 11 #[] w fun e w' => e = .returned (.slice (some ⟨w.heap.size + 5, 0, none⟩) 5 5) ∧ Blk w' (w.heap.size + 5) (wY.flatMap enP).toArray 59 ∧ Below w.heap.size w w' := by
  rw [wFlat]
  go_enter Tryz.func11, Tryz.ntmps11
  go_wp2
  go_ret
  refine ⟨rfl, ?_, ?_⟩
  · exact alloc_atS (by simp)
  · repeat' first | exact Below.refl _ _ | refine Below.alloc ?_ (by first | exact Nat.le_refl _ | (simp; done) | (simp; omega)) _ | refine Below.setCell ?_ (by first | exact Nat.le_refl _ | (simp; done) | (simp; omega)) _
theorem buildW (w w1 : World) (hT : Tabs w) (g : Nat) (hb : Below w.heap.size w w1) (hB : Blk w1 g (wY.flatMap enP).toArray 59) : Calls Tryz.prog 6 #[.slice (some ⟨g, 0, none⟩) 5 5] w1 fun e w' => ∃ f sb X K rv R, e = .returned (.tuple #[.pointer (some ⟨f, 0, none⟩), .int .i64 0]) ∧ ForestAt w' f sb X K rv R ∧ FoR wY wFin X K R ∧ Below w.heap.size w w' := by
  refine (build_any (some ⟨g, 0, none⟩) 5 5 wY wY (fun _ => pl0) w1 (spsFlat hB (fun a ha => ?_)) wOne (hT.below hb) (List.Perm.refl _) wRise wNo wDp wFin wShape).mono ?_
  · simp only [wY, List.mem_cons, List.not_mem_nil, or_false] at ha
    rcases ha with rfl | rfl | rfl | rfl | rfl <;> exact atW _ _ _ _ _
  · rintro e w' ⟨f, sb, X, K, rv, R, rfl, hF, hO, hb'⟩
    exact ⟨f, sb, X, K, rv, R, rfl, hF, hO, hb.trans (hb'.mono hb.size)⟩
def wL : List (Int × Int × Int) := [(1, 0, 1), (2, 1, 2), (3, 2, 7), (4, 7, 8), (5, 8, 9), (1, 9, 10)]
theorem pathW1 {W : World} {f sb : Nat} {X : List Spot} {K : Nat → List Int} {rv : Value} {R : List Int} (hF : ForestAt W f sb X K rv R) (hO : FoR wY wFin X K R) : Calls Tryz.prog 9 #[.pointer (some ⟨f, 0, none⟩), .int .u64 1] W fun e W' => ∃ g c, e = .returned (.tuple #[.slice (some ⟨g, 0, none⟩) 6 c, .int .i64 0]) ∧ LegsIn W' g wL ∧ g < W'.heap.size ∧ Below W.heap.size W W' := by
  have hB := wFoB hO hF.rise
  refine (path_any f sb X K rv R (spAt wY) wFin (knK K) (cnK wFin K) 1001 0 W hF (hB.senv 0 (by decide)) (by decide)).mono ?_
  rintro e W' ⟨ad, cap, L, rfl, h1, h2, h3, h4⟩
  have e : L = wP := (wPath hB).one L h1
  subst e
  obtain ⟨g, rfl, hg, hL⟩ := h3 (by decide)
  exact ⟨g, cap, rfl, hL, hg, h4⟩
theorem pathW2 {W : World} {f sb : Nat} {X : List Spot} {K : Nat → List Int} {rv : Value} {R : List Int} (hF : ForestAt W f sb X K rv R) (hO : FoR wY wFin X K R) : Calls Tryz.prog 9 #[.pointer (some ⟨f, 0, none⟩), .int .u64 2] W fun e W' => e = .returned (.tuple #[.slice none 0 0, .int .i64 111]) ∧ Below W.heap.size W W' := by
  have hl : X.length = 5 := hO.len
  exact pathGone f 2 W (lacksW_inner f sb X K rv R W hF 1 (by omega) (wFin 1) (hO.each 1 (by decide) (by omega)).2 rfl)
set_option maxHeartbeats 4000000 in
theorem aliveW_any (w : World) (hT : Tabs w) : Calls Tryz.prog 5 #[] w fun e w' => e = .returned (.bool true) ∧ Below w.heap.size w w' := by
  have EX := exampleW_any w
  have BD : Hid (∀ w1 g, Below w.heap.size w w1 → Blk w1 g (wY.flatMap enP).toArray 59 → Calls Tryz.prog 6 #[.slice (some ⟨g, 0, none⟩) 5 5] w1 fun e w' => ∃ f sb X K rv R, e = .returned (.tuple #[.pointer (some ⟨f, 0, none⟩), .int .i64 0]) ∧ ForestAt w' f sb X K rv R ∧ FoR wY wFin X K R ∧ Below w.heap.size w w') := fun w1 g hb hB => buildW w w1 hT g hb hB
  clear hT
  go_enter Tryz.func5, Tryz.ntmps5
  go_wp2_with (first
    | (go_at_call 11; refine EX.mono ?_; clear EX; rintro e w1 ⟨rfl, hB, hb⟩; have B1 := BD.out _ _ hb hB; clear hB hb)
    | (go_at_call 6; refine B1.mono ?_; clear B1; rintro e w2 ⟨f, sb, X, K, rv, R, rfl, hF, hO, hb⟩; have P1 := pathW1 hF hO; have HF : Hid (ForestAt w2 f sb X K rv R ∧ FoR wY wFin X K R ∧ Below w.heap.size w w2) := ⟨hF, hO, hb⟩; clear hF hO hb)
    | (go_at_call 9; (with_reducible refine P1.mono ?_); clear P1; rintro e w3 ⟨g, c, rfl, hL, hg, hb⟩; have P2 := pathW2 (ForestAt.below HF.out.1 hb) HF.out.2.1; have H3 : Hid (LegsIn w3 g wL ∧ g < w3.heap.size ∧ Below w.heap.size w w3) := ⟨hL, hg, HF.out.2.2.trans (hb.mono HF.out.2.2.size)⟩; clear hL hg hb)
    | (go_at_call 9; (with_reducible refine P2.mono ?_); clear P2; rintro e w4 ⟨rfl, hb⟩; have H4 : Hid (LegsIn w4 g wL ∧ g < w4.heap.size ∧ Below w.heap.size w w4) := ⟨legsIn_below H3.out.1 hb H3.out.2.1, Nat.lt_of_lt_of_le H3.out.2.1 hb.size, H3.out.2.2.trans (hb.mono H3.out.2.2.size)⟩; clear hb H3)
    | (go_at_call 12; refine (sameLegsW_any _ _ 6 _ _ wL _ rfl (by omega) (legsIn_alloc H4.out.1 H4.out.2.1) (legsIn_blk (alloc_atS (by simp)))).mono ?_; rintro e w5 ⟨rfl, hb⟩; have B5 : Hid (Below w.heap.size w w5) := (H4.out.2.2.alloc H4.out.2.2.size _).trans (hb.mono (by have := H4.out.2.2.size; rw [World.size_alloc]; omega)); clear hb))
  go_ret
  exact ⟨rfl, B5.out⟩
set_option maxHeartbeats 1000000 in
theorem sweepNames_any (w : World) (hT : Tabs w) : Calls Tryz.prog 3 #[] w fun e w' => e = .returned (.bool true) ∧ Below w.heap.size w w' := by
  have SH := aliveW_any w hT
  clear hT
  go_enter Tryz.func3, Tryz.ntmps3
  go_wp2_with (go_at_call 5; refine SH.mono ?_; clear SH; rintro e w1 ⟨rfl, hb⟩)
  go_ret
  exact ⟨rfl, hb⟩
end Go.Proofs.YtplbaiibocgpnaaGreatDoor
