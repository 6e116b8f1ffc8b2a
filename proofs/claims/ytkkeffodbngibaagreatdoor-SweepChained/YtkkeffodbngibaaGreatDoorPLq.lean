/-
  Merged: PL, PN.
-/
import Derived.Test.YtkkeffodbngibaaGreatDoorPMq
import Derived.Test.YtkkeffodbngibaaGreatDoorOXq
import Derived.Test.YtkkeffodbngibaaGreatDoorPIq
namespace Go.Proofs.YtkkeffodbngibaaGreatDoor
open Go Go.RowKit
set_option maxRecDepth 100000

def svS : ByteArray := ⟨#[115]⟩
def svO : ByteArray := ⟨#[111]⟩
/-- A span of the trace 0/1. -/
def spW (id par s e : Int) : Sp := ⟨0, 1, id, par, [], svS, svO, 0, 0, s, e, [], []⟩
theorem atW (w : World) (id par s e : Int) : SpAt w (spW id par s e) pl0 :=
  ⟨⟨rfl, fun j u hj => by simp [spW, intsV] at hj⟩, ⟨rfl, fun h => by cases h⟩, ⟨rfl, fun h => by cases h⟩, by simp [spW], by simp [spW], by simp [spW]⟩
def wY : List Sp := [spW 1 0 0 10, spW 2 1 1 4, spW 3 1 2 7, spW 4 1 7 9, spW 5 4 8 9]
theorem wRise : wY.Pairwise (fun a b => a.id < b.id) := by
  simp [wY, spW]
theorem wOne : OneT wY := by
  refine ⟨by simp [wY], fun a ha => ?_, fun a ha => ?_, fun a ha => ?_, fun a ha b hb => ?_, by simp [wY, spW]⟩
  · simp only [wY, List.mem_cons, List.not_mem_nil, or_false] at ha
    rcases ha with rfl | rfl | rfl | rfl | rfl <;> decide +kernel
  · simp only [wY, List.mem_cons, List.not_mem_nil, or_false] at ha
    rcases ha with rfl | rfl | rfl | rfl | rfl <;> exact ⟨by simp [spW], by simp [spW], by simp [spW], by simp [spW], (fun _ h => by cases h), (fun _ h => by cases h)⟩
  · simp only [wY, List.mem_cons, List.not_mem_nil, or_false] at ha
    rcases ha with rfl | rfl | rfl | rfl | rfl <;> exact ⟨by simp only [spW]; decide, by simp only [spW]; decide, (fun _ h => by cases h), (fun _ h => by cases h)⟩
  · simp only [wY, List.mem_cons, List.not_mem_nil, or_false] at ha hb
    rcases ha with rfl | rfl | rfl | rfl | rfl <;> rcases hb with rfl | rfl | rfl | rfl | rfl <;> exact ⟨rfl, rfl⟩
theorem wNm : nmOf (zs wY) = [-1, 0, 0, 0, 3] := by decide +kernel
def wDp : Nat → Nat
  | 1 => 1
  | 2 => 1
  | 3 => 1
  | 4 => 2
  | _ => 0
def wFin : Nat → Nod
  | 0 => ⟨1, 0, 1, 1, 0, 0, 10⟩
  | 1 => ⟨2, 1, 0, 1, 1, 1, 4⟩
  | 2 => ⟨3, 1, 0, 1, 1, 2, 7⟩
  | 3 => ⟨4, 1, 0, 1, 1, 7, 9⟩
  | _ => ⟨5, 4, 0, 1, 2, 8, 9⟩
theorem five {i : Nat} (h : i < 5) : i = 0 ∨ i = 1 ∨ i = 2 ∨ i = 3 ∨ i = 4 := by omega
theorem wNo : NoRing (nmOf (zs wY)) wY.length := by
  rw [wNm]
  intro i hi
  rcases five (show i < 5 from hi) with rfl | rfl | rfl | rfl | rfl
  · exact Or.inl (by decide +kernel)
  · exact Or.inr (by decide +kernel)
  · exact Or.inr (by decide +kernel)
  · exact Or.inr (by decide +kernel)
  · exact Or.inr (by decide +kernel)
theorem wShape : Shape (zs wY) (nmOf (zs wY)) wDp wFin := by
  rw [wNm]
  refine ⟨fun i hi hn => ?_, fun i j hi hj hn => ?_, fun i hi => ?_⟩
  · rcases five (show i < 5 from hi) with rfl | rfl | rfl | rfl | rfl
    · exact ⟨rfl, rfl⟩
    · exact absurd hn (by decide)
    · exact absurd hn (by decide)
    · exact absurd hn (by decide)
    · exact absurd hn (by decide)
  · rcases five (show i < 5 from hi) with rfl | rfl | rfl | rfl | rfl
    · exact absurd hn (by simp)
    · have : j = 0 := by simp at hn; omega
      subst this
      exact ⟨rfl, rfl⟩
    · have : j = 0 := by simp at hn; omega
      subst this
      exact ⟨rfl, rfl⟩
    · have : j = 0 := by simp at hn; omega
      subst this
      exact ⟨rfl, rfl⟩
    · have : j = 3 := by simp at hn; omega
      subst this
      exact ⟨rfl, rfl⟩
  · rcases five (show i < 5 from hi) with rfl | rfl | rfl | rfl | rfl <;> exact ⟨by decide, by decide, by decide⟩
theorem wFoB {X : List Spot} {K : Nat → List Int} {R : List Int} (h : FoR wY wFin X K R) (hr : RiseS X) : FoB wY [] wDp wFin X K R :=
  ⟨⟨h.len, h.each, h.kids, h.roots⟩, wShape, hr, wOne⟩
theorem awaitM_is {fin : Nat → Nod} {tm : Int} {C : List Nat} {c : Nat} (hc : c ∈ C) (hf : (fin c).fr < tm) (hx : ∀ x ∈ C, (fin x).fr < tm → x = c ∨ untM (fin x) tm < untM (fin c) tm) : awaitM fin tm C = some c := by
  cases ha : awaitM fin tm C with
  | none => have := awaitM_none ha c hc; omega
  | some d =>
    obtain ⟨h1, h2, h3⟩ := awaitM_some ha
    rcases hx d h1 h2 with e | e
    · rw [e]
    · have := (h3 c hc hf).1
      omega
theorem awaitM_no {fin : Nat → Nod} {tm : Int} {C : List Nat} (hx : ∀ x ∈ C, tm ≤ (fin x).fr) : awaitM fin tm C = none := by
  cases ha : awaitM fin tm C with
  | none => rfl
  | some d =>
    obtain ⟨h1, h2, _⟩ := awaitM_some ha
    have := hx d h1
    omega
def wP : List (Nat × Int × Int) := [(0, 9, 10), (4, 8, 9), (3, 7, 8), (2, 2, 7), (1, 1, 2), (0, 0, 1)]
theorem wPath {X : List Spot} {K : Nat → List Int} {R : List Int} (h : FoB wY [] wDp wFin X K R) : PathR wFin (cnK wFin K) 0 10 wP := by
  have mem : ∀ i, i < 5 → ∀ c, c ∈ cnK wFin K i ↔ c < 5 ∧ ([-1, 0, 0, 0, 3] : List Int).getD c (-1) = (i : Int) := fun i hi c => by
    have e := h.mem i hi c
    have e2 : cutN [] (nmOf (zs wY)) = [-1, 0, 0, 0, 3] := wNm
    rw [e2] at e
    constructor
    · intro hc
      exact e.1 (List.mem_filter.1 hc).1
    · intro hc
      refine List.mem_filter.2 ⟨e.2 hc, ?_⟩
      rcases five hc.1 with rfl | rfl | rfl | rfl | rfl <;> decide
  have m0 : ∀ c, c ∈ cnK wFin K 0 → c = 1 ∨ c = 2 ∨ c = 3 := fun c hc => by
    obtain ⟨h1, h2⟩ := (mem 0 (by omega) c).1 hc
    rcases five h1 with rfl | rfl | rfl | rfl | rfl
    · exact absurd h2 (by decide)
    · exact Or.inl rfl
    · exact Or.inr (Or.inl rfl)
    · exact Or.inr (Or.inr rfl)
    · exact absurd h2 (by decide)
  have m3 : ∀ c, c ∈ cnK wFin K 3 → c = 4 := fun c hc => by
    obtain ⟨h1, h2⟩ := (mem 3 (by omega) c).1 hc
    rcases five h1 with rfl | rfl | rfl | rfl | rfl
    · exact absurd h2 (by decide)
    · exact absurd h2 (by decide)
    · exact absurd h2 (by decide)
    · exact absurd h2 (by decide)
    · rfl
  have mN : ∀ i, i = 1 ∨ i = 2 ∨ i = 4 → ∀ c, c ∉ cnK wFin K i := fun i hi c hc => by
    obtain ⟨h1, h2⟩ := (mem i (by omega) c).1 hc
    rcases hi with rfl | rfl | rfl <;> rcases five h1 with rfl | rfl | rfl | rfl | rfl <;> exact absurd h2 (by decide)
  have p4 : PathR wFin (cnK wFin K) 4 9 [(4, 8, 9)] := PathR.own (s := 4) (tt := 9) (by decide) (awaitM_no (fun x hx => absurd hx (mN 4 (by omega) x)))
  have p3b : PathR wFin (cnK wFin K) 3 8 [(3, 7, 8)] := PathR.own (s := 3) (tt := 8) (by decide) (awaitM_no (fun x hx => by rw [m3 x hx]; decide))
  have p3 : PathR wFin (cnK wFin K) 3 9 [(4, 8, 9), (3, 7, 8)] := PathR.via (s := 3) (tt := 9) (c := 4) (L := [(4, 8, 9)]) (M := [(3, 7, 8)]) (by decide) (awaitM_is ((mem 3 (by omega) 4).2 (by decide)) (by decide) (fun x hx _ => Or.inl (m3 x hx))) p4 p3b
  have p2 : PathR wFin (cnK wFin K) 2 7 [(2, 2, 7)] := PathR.own (s := 2) (tt := 7) (by decide) (awaitM_no (fun x hx => absurd hx (mN 2 (by omega) x)))
  have p1 : PathR wFin (cnK wFin K) 1 2 [(1, 1, 2)] := PathR.own (s := 1) (tt := 2) (by decide) (awaitM_no (fun x hx => absurd hx (mN 1 (by omega) x)))
  have p0a : PathR wFin (cnK wFin K) 0 1 [(0, 0, 1)] := PathR.own (s := 0) (tt := 1) (by decide) (awaitM_no (fun x hx => by rcases m0 x hx with e | e | e <;> rw [e] <;> decide))
  have p0b : PathR wFin (cnK wFin K) 0 2 [(1, 1, 2), (0, 0, 1)] := PathR.via (s := 0) (tt := 2) (c := 1) (L := [(1, 1, 2)]) (M := [(0, 0, 1)]) (by decide) (awaitM_is ((mem 0 (by omega) 1).2 (by decide)) (by decide) (fun x hx hf => by rcases m0 x hx with e | e | e <;> rw [e] at hf ⊢ <;> first | exact Or.inl rfl | exact absurd hf (by decide))) p1 p0a
  have p0c : PathR wFin (cnK wFin K) 0 7 [(2, 2, 7), (1, 1, 2), (0, 0, 1)] := PathR.via (s := 0) (tt := 7) (c := 2) (L := [(2, 2, 7)]) (M := [(1, 1, 2), (0, 0, 1)]) (by decide) (awaitM_is ((mem 0 (by omega) 2).2 (by decide)) (by decide) (fun x hx hf => by rcases m0 x hx with e | e | e <;> rw [e] at hf ⊢ <;> first | exact Or.inl rfl | exact Or.inr (by decide) | exact absurd hf (by decide))) p2 p0b
  exact PathR.via (s := 0) (tt := 10) (c := 3) (L := [(4, 8, 9), (3, 7, 8)]) (M := [(2, 2, 7), (1, 1, 2), (0, 0, 1)]) (by decide) (awaitM_is ((mem 0 (by omega) 3).2 (by decide)) (by decide) (fun x hx hf => by rcases m0 x hx with e | e | e <;> rw [e] at hf ⊢ <;> first | exact Or.inl rfl | exact Or.inr (by decide))) p3 p0c
end Go.Proofs.YtkkeffodbngibaaGreatDoor

namespace Go.Proofs.YtkkeffodbngibaaGreatDoor
open Go Go.RowKit
set_option maxRecDepth 100000

theorem wFlat : (wY.flatMap enP).toArray = #[.int .u64 0, .int .u64 1, .int .u64 1, .int .u64 0, .slice none 0 0, .string svS, .string svO, .int .i64 0, .int .i64 0, .int .i64 0, .int .i64 10, .slice none 0 0, .slice none 0 0, .int .u64 0, .int .u64 1, .int .u64 2, .int .u64 1, .slice none 0 0, .string svS, .string svO, .int .i64 0, .int .i64 0, .int .i64 1, .int .i64 4, .slice none 0 0, .slice none 0 0, .int .u64 0, .int .u64 1, .int .u64 3, .int .u64 1, .slice none 0 0, .string svS, .string svO, .int .i64 0, .int .i64 0, .int .i64 2, .int .i64 7, .slice none 0 0, .slice none 0 0, .int .u64 0, .int .u64 1, .int .u64 4, .int .u64 1, .slice none 0 0, .string svS, .string svO, .int .i64 0, .int .i64 0, .int .i64 7, .int .i64 9, .slice none 0 0, .slice none 0 0, .int .u64 0, .int .u64 1, .int .u64 5, .int .u64 4, .slice none 0 0, .string svS, .string svO, .int .i64 0, .int .i64 0, .int .i64 8, .int .i64 9, .slice none 0 0, .slice none 0 0] := rfl
set_option maxHeartbeats 4000000 in
theorem exampleW_any (w : World) : Calls Tryz.prog 13 #[] w fun e w' => e = .returned (.slice (some ⟨w.heap.size + 5, 0, none⟩) 5 5) ∧ Blk w' (w.heap.size + 5) (wY.flatMap enP).toArray 55 ∧ Below w.heap.size w w' := by
  rw [wFlat]
  go_enter Tryz.func13, Tryz.ntmps13
  go_wp2
  go_ret
  refine ⟨rfl, ?_, ?_⟩
  · exact alloc_atS (by simp)
  · repeat' first | exact Below.refl _ _ | refine Below.alloc ?_ (by first | exact Nat.le_refl _ | (simp; done) | (simp; omega)) _ | refine Below.setCell ?_ (by first | exact Nat.le_refl _ | (simp; done) | (simp; omega)) _
theorem buildW (w w1 : World) (hT : Tabs w) (g : Nat) (hb : Below w.heap.size w w1) (hB : Blk w1 g (wY.flatMap enP).toArray 55) : Calls Tryz.prog 5 #[.slice (some ⟨g, 0, none⟩) 5 5] w1 fun e w' => ∃ f sb X K rv R, e = .returned (.tuple #[.pointer (some ⟨f, 0, none⟩), .int .i64 0]) ∧ ForestAt w' f sb X K rv R ∧ FoR wY wFin X K R ∧ Below w.heap.size w w' := by
  refine (build_any (some ⟨g, 0, none⟩) 5 5 wY wY (fun _ => pl0) w1 (spsFlat hB (fun a ha => ?_)) wOne (hT.below hb) (List.Perm.refl _) wRise wNo wDp wFin wShape).mono ?_
  · simp only [wY, List.mem_cons, List.not_mem_nil, or_false] at ha
    rcases ha with rfl | rfl | rfl | rfl | rfl <;> exact atW _ _ _ _ _
  · rintro e w' ⟨f, sb, X, K, rv, R, rfl, hF, hO, hb'⟩
    exact ⟨f, sb, X, K, rv, R, rfl, hF, hO, hb.trans (hb'.mono hb.size)⟩
def wL : List (Int × Int × Int) := [(1, 0, 1), (2, 1, 2), (3, 2, 7), (4, 7, 8), (5, 8, 9), (1, 9, 10)]
theorem pathW1 {W : World} {f sb : Nat} {X : List Spot} {K : Nat → List Int} {rv : Value} {R : List Int} (hF : ForestAt W f sb X K rv R) (hO : FoR wY wFin X K R) : Calls Tryz.prog 9 #[.pointer (some ⟨f, 0, none⟩), .int .u64 1] W fun e W' => ∃ g c, e = .returned (.tuple #[.slice (some ⟨g, 0, none⟩) 6 c, .int .i64 0]) ∧ LegsIn W' g wL ∧ g < W'.heap.size ∧ Below W.heap.size W W' := by
  have hB := wFoB hO hF.rise
  refine (path_any f sb X K rv R (spAt wY) wFin (knK K) (cnK wFin K) 1001 0 W hF (hB.senv 0 (by decide)) (by decide)).mono ?_
  rintro e W' ⟨ad, cap, L, rfl, h1, h2, h3, h4⟩
  have e : L = wP := (wPath hB).one L h1
  subst e
  obtain ⟨g, rfl, hg, hL⟩ := h3 (by decide)
  exact ⟨g, cap, rfl, hL, hg, h4⟩
theorem pathW2 {W : World} {f sb : Nat} {X : List Spot} {K : Nat → List Int} {rv : Value} {R : List Int} (hF : ForestAt W f sb X K rv R) (hO : FoR wY wFin X K R) : Calls Tryz.prog 9 #[.pointer (some ⟨f, 0, none⟩), .int .u64 2] W fun e W' => e = .returned (.tuple #[.slice none 0 0, .int .i64 111]) ∧ Below W.heap.size W W' := by
  have hl : X.length = 5 := hO.len
  exact pathGone f 2 W (lacksW_inner f sb X K rv R W hF 1 (by omega) (wFin 1) (hO.each 1 (by decide) (by omega)).2 rfl)
set_option maxHeartbeats 4000000 in
theorem aliveW_any (w : World) (hT : Tabs w) : Calls Tryz.prog 4 #[] w fun e w' => e = .returned (.bool true) ∧ Below w.heap.size w w' := by
  have EX := exampleW_any w
  have BD : Hid (∀ w1 g, Below w.heap.size w w1 → Blk w1 g (wY.flatMap enP).toArray 55 → Calls Tryz.prog 5 #[.slice (some ⟨g, 0, none⟩) 5 5] w1 fun e w' => ∃ f sb X K rv R, e = .returned (.tuple #[.pointer (some ⟨f, 0, none⟩), .int .i64 0]) ∧ ForestAt w' f sb X K rv R ∧ FoR wY wFin X K R ∧ Below w.heap.size w w') := fun w1 g hb hB => buildW w w1 hT g hb hB
  clear hT
  go_enter Tryz.func4, Tryz.ntmps4
  go_wp2_with (first
    | (go_at_call 13; refine EX.mono ?_; clear EX; rintro e w1 ⟨rfl, hB, hb⟩; have B1 := BD.out _ _ hb hB; clear hB hb)
    | (go_at_call 5; refine B1.mono ?_; clear B1; rintro e w2 ⟨f, sb, X, K, rv, R, rfl, hF, hO, hb⟩; have P1 := pathW1 hF hO; have HF : Hid (ForestAt w2 f sb X K rv R ∧ FoR wY wFin X K R ∧ Below w.heap.size w w2) := ⟨hF, hO, hb⟩; clear hF hO hb)
    | (go_at_call 9; (with_reducible refine P1.mono ?_); clear P1; rintro e w3 ⟨g, c, rfl, hL, hg, hb⟩; have P2 := pathW2 (ForestAt.below HF.out.1 hb) HF.out.2.1; have H3 : Hid (LegsIn w3 g wL ∧ g < w3.heap.size ∧ Below w.heap.size w w3) := ⟨hL, hg, HF.out.2.2.trans (hb.mono HF.out.2.2.size)⟩; clear hL hg hb)
    | (go_at_call 9; (with_reducible refine P2.mono ?_); clear P2; rintro e w4 ⟨rfl, hb⟩; have H4 : Hid (LegsIn w4 g wL ∧ g < w4.heap.size ∧ Below w.heap.size w w4) := ⟨legsIn_below H3.out.1 hb H3.out.2.1, Nat.lt_of_lt_of_le H3.out.2.1 hb.size, H3.out.2.2.trans (hb.mono H3.out.2.2.size)⟩; clear hb H3)
    | (go_at_call 10; refine (sameLegsW_any _ _ 6 _ _ wL _ rfl (by omega) (legsIn_alloc H4.out.1 H4.out.2.1) (legsIn_blk (alloc_atS (by simp)))).mono ?_; rintro e w5 ⟨rfl, hb⟩; have B5 : Hid (Below w.heap.size w w5) := (H4.out.2.2.alloc H4.out.2.2.size _).trans (hb.mono (by have := H4.out.2.2.size; rw [World.size_alloc]; omega)); clear hb))
  go_ret
  exact ⟨rfl, B5.out⟩
end Go.Proofs.YtkkeffodbngibaaGreatDoor
