/-
  GH.
-/
import Derived.Test.YtipkolmkpfpjjaaGreatDoorGBq
import Derived.Test.YtipkolmkpfpjjaaGreatDoorGFq
namespace Go.Proofs.YtipkolmkpfpjjaaGreatDoor
open Go Go.RowKit Go.Shelf
set_option maxRecDepth 100000

attribute [local go_sem] Oper.semAt_some

theorem spanL_any (id par s e : Int) (w : World) : Calls Tryz.prog 14 #[.int .u64 id, .int .u64 par, .int .i64 s, .int .i64 e] w fun r w' => r = .returned (.agg #[.int .u64 0, .int .u64 7, .int .u64 id, .int .u64 par, .slice none 0 0, .string ⟨#[97]⟩, .string ⟨#[98]⟩, .int .i64 0, .int .i64 0, .int .i64 s, .int .i64 e, .slice none 0 0, .slice none 0 0]) ∧ w' = w.alloc (.cells #[.int .u64 0, .int .u64 7, .int .u64 id, .int .u64 par, .slice none 0 0, .string ⟨#[97]⟩, .string ⟨#[98]⟩, .int .i64 0, .int .i64 0, .int .i64 s, .int .i64 e, .slice none 0 0, .slice none 0 0] 42) := by
  go_enter Tryz.func14, Tryz.ntmps14
  go_wp2
  go_returns
  exact ⟨rfl, rfl⟩
theorem build_ex (w : World) (hT : Tabs w) : Calls Tryz.prog 5 #[.slice (some ⟨w.heap.size + 1 + 1 + 1 + 1, 0, none⟩) 4 4] ((((((((((w).alloc (.cells #[.int .u64 0, .int .u64 7, .int .u64 3, .int .u64 2, .slice none 0 0, .string ⟨#[97]⟩, .string ⟨#[98]⟩, .int .i64 0, .int .i64 0, .int .i64 0, .int .i64 5, .slice none 0 0, .slice none 0 0] 42))).alloc (.cells #[.int .u64 0, .int .u64 7, .int .u64 4, .int .u64 9, .slice none 0 0, .string ⟨#[97]⟩, .string ⟨#[98]⟩, .int .i64 0, .int .i64 0, .int .i64 2, .int .i64 4, .slice none 0 0, .slice none 0 0] 42))).alloc (.cells #[.int .u64 0, .int .u64 7, .int .u64 1, .int .u64 0, .slice none 0 0, .string ⟨#[97]⟩, .string ⟨#[98]⟩, .int .i64 0, .int .i64 0, .int .i64 0, .int .i64 10, .slice none 0 0, .slice none 0 0] 42))).alloc (.cells #[.int .u64 0, .int .u64 7, .int .u64 2, .int .u64 1, .slice none 0 0, .string ⟨#[97]⟩, .string ⟨#[98]⟩, .int .i64 0, .int .i64 0, .int .i64 3, .int .i64 12, .slice none 0 0, .slice none 0 0] 42))).alloc (.cells #[.int .u64 0, .int .u64 7, .int .u64 3, .int .u64 2, .slice none 0 0, .string ⟨#[97]⟩, .string ⟨#[98]⟩, .int .i64 0, .int .i64 0, .int .i64 0, .int .i64 5, .slice none 0 0, .slice none 0 0, .int .u64 0, .int .u64 7, .int .u64 4, .int .u64 9, .slice none 0 0, .string ⟨#[97]⟩, .string ⟨#[98]⟩, .int .i64 0, .int .i64 0, .int .i64 2, .int .i64 4, .slice none 0 0, .slice none 0 0, .int .u64 0, .int .u64 7, .int .u64 1, .int .u64 0, .slice none 0 0, .string ⟨#[97]⟩, .string ⟨#[98]⟩, .int .i64 0, .int .i64 0, .int .i64 0, .int .i64 10, .slice none 0 0, .slice none 0 0, .int .u64 0, .int .u64 7, .int .u64 2, .int .u64 1, .slice none 0 0, .string ⟨#[97]⟩, .string ⟨#[98]⟩, .int .i64 0, .int .i64 0, .int .i64 3, .int .i64 12, .slice none 0 0, .slice none 0 0] 42)) fun e w' => ∃ f sb X K rv R, e = .returned (.tuple #[.pointer (some ⟨f, 0, none⟩), .int .i64 0]) ∧ ForestAt w' f sb X K rv R ∧ ExF X K R ∧ Below w.heap.size w w' := by
  obtain ⟨W, hW⟩ : ∃ W, ((((((((((w).alloc (.cells #[.int .u64 0, .int .u64 7, .int .u64 3, .int .u64 2, .slice none 0 0, .string ⟨#[97]⟩, .string ⟨#[98]⟩, .int .i64 0, .int .i64 0, .int .i64 0, .int .i64 5, .slice none 0 0, .slice none 0 0] 42))).alloc (.cells #[.int .u64 0, .int .u64 7, .int .u64 4, .int .u64 9, .slice none 0 0, .string ⟨#[97]⟩, .string ⟨#[98]⟩, .int .i64 0, .int .i64 0, .int .i64 2, .int .i64 4, .slice none 0 0, .slice none 0 0] 42))).alloc (.cells #[.int .u64 0, .int .u64 7, .int .u64 1, .int .u64 0, .slice none 0 0, .string ⟨#[97]⟩, .string ⟨#[98]⟩, .int .i64 0, .int .i64 0, .int .i64 0, .int .i64 10, .slice none 0 0, .slice none 0 0] 42))).alloc (.cells #[.int .u64 0, .int .u64 7, .int .u64 2, .int .u64 1, .slice none 0 0, .string ⟨#[97]⟩, .string ⟨#[98]⟩, .int .i64 0, .int .i64 0, .int .i64 3, .int .i64 12, .slice none 0 0, .slice none 0 0] 42))).alloc (.cells #[.int .u64 0, .int .u64 7, .int .u64 3, .int .u64 2, .slice none 0 0, .string ⟨#[97]⟩, .string ⟨#[98]⟩, .int .i64 0, .int .i64 0, .int .i64 0, .int .i64 5, .slice none 0 0, .slice none 0 0, .int .u64 0, .int .u64 7, .int .u64 4, .int .u64 9, .slice none 0 0, .string ⟨#[97]⟩, .string ⟨#[98]⟩, .int .i64 0, .int .i64 0, .int .i64 2, .int .i64 4, .slice none 0 0, .slice none 0 0, .int .u64 0, .int .u64 7, .int .u64 1, .int .u64 0, .slice none 0 0, .string ⟨#[97]⟩, .string ⟨#[98]⟩, .int .i64 0, .int .i64 0, .int .i64 0, .int .i64 10, .slice none 0 0, .slice none 0 0, .int .u64 0, .int .u64 7, .int .u64 2, .int .u64 1, .slice none 0 0, .string ⟨#[97]⟩, .string ⟨#[98]⟩, .int .i64 0, .int .i64 0, .int .i64 3, .int .i64 12, .slice none 0 0, .slice none 0 0] 42)) = W := ⟨_, rfl⟩
  have hb : Below w.heap.size w W := by
    rw [← hW]
    exact (((((Below.refl _ w).alloc (Nat.le_refl _) _).alloc (by simp) _).alloc (by simp; omega) _).alloc (by simp; omega) _).alloc (by simp; omega) _
  have hB : Blk W (w.heap.size + 1 + 1 + 1 + 1) (eX.flatMap enP).toArray 42 := by
    rw [← hW]
    exact alloc_atS (by simp)
  rw [hW]
  refine (build_any (some ⟨w.heap.size + 1 + 1 + 1 + 1, 0, none⟩) 4 4 eX eY (fun _ => pl0) W (spsFlat hB (fun a ha => ?_)) eOne (hT.below hb) eXY eRise eNo eDp eFin eShape).mono ?_
  · simp only [eX, List.mem_cons, List.not_mem_nil, or_false] at ha
    rcases ha with rfl | rfl | rfl | rfl <;> exact atE _ _ _ _ _ _
  · rintro e w' ⟨f, sb, X, K, rv, R, rfl, hF, hO, hb'⟩
    exact ⟨f, sb, X, K, rv, R, rfl, hF, exF hO, hb.trans (hb'.mono hb.size)⟩
/-- All that is asked of the example's forest. -/
structure Asked (W : World) (f : Nat) : Prop where
  n3 : Calls Tryz.prog 15 #[.pointer (some ⟨f, 0, none⟩), .int .u64 3] W fun e w' => e = .returned (.tuple #[.agg #[.int .u64 3, .int .u64 2, .int .i64 0, .int .u64 1, .int .i64 2, .int .i64 3, .int .i64 5], .bool true]) ∧ Below W.heap.size W w'
  n4 : Calls Tryz.prog 15 #[.pointer (some ⟨f, 0, none⟩), .int .u64 4] W fun e w' => e = .returned (.tuple #[.agg #[.int .u64 4, .int .u64 0, .int .i64 2, .int .u64 4, .int .i64 0, .int .i64 2, .int .i64 4], .bool true]) ∧ Below W.heap.size W w'
  n5 : Calls Tryz.prog 15 #[.pointer (some ⟨f, 0, none⟩), .int .u64 5] W fun e w' => e = .returned (.tuple #[.agg #[.int .u64 0, .int .u64 0, .int .i64 0, .int .u64 0, .int .i64 0, .int .i64 0, .int .i64 0], .bool false]) ∧ Below W.heap.size W w'
  s2 : Calls Tryz.prog 8 #[.pointer (some ⟨f, 0, none⟩), .int .u64 2] W fun e w' => ∃ p' : Pl, e = .returned (.tuple #[.agg #[.int .u64 0, .int .u64 7, .int .u64 2, .int .u64 1, .slice p'.la 0 p'.lc, .string ⟨#[97]⟩, .string ⟨#[98]⟩, .int .i64 0, .int .i64 0, .int .i64 3, .int .i64 12, .slice p'.aa 0 p'.ac, .slice p'.ea 0 p'.ec], .bool true]) ∧ Below W.heap.size W w'
  ct : Calls Tryz.prog 18 #[.pointer (some ⟨f, 0, none⟩)] W fun e w' => e = .returned (.int .i64 4) ∧ w' = W
  rt : Calls Tryz.prog 13 #[.pointer (some ⟨f, 0, none⟩)] W fun e w' => (∃ r, e = .returned (.slice (some ⟨r, 0, none⟩) 2 2)) ∧ Below W.heap.size W w'
  id : Calls Tryz.prog 12 #[.pointer (some ⟨f, 0, none⟩)] W fun e w' => (∃ r, e = .returned (.slice (some ⟨r, 0, none⟩) 4 4)) ∧ Below W.heap.size W w'
  ch : Calls Tryz.prog 11 #[.pointer (some ⟨f, 0, none⟩), .int .u64 1] W fun e w' => (∃ r, e = .returned (.slice (some ⟨r, 0, none⟩) 1 1)) ∧ Below W.heap.size W w'
theorem asked_ex {W : World} {f sb : Nat} {X : List Spot} {K : Nat → List Int} {rv : Value} {R : List Int} (h : ForestAt W f sb X K rv R) (ex : ExF X K R) : Asked W f := by
  have hl := ex.len
  refine ⟨?_, ?_, ?_, ?_, ?_, ?_, ?_, ?_⟩
  · have := node_at h 2 (by omega) 3 (by rw [(ex.at_ 2 (by omega)).1]; rfl)
    rw [(ex.at_ 2 (by omega)).1] at this
    exact this
  · have := node_at h 3 (by omega) 4 (by rw [(ex.at_ 3 (by omega)).1]; rfl)
    rw [(ex.at_ 3 (by omega)).1] at this
    exact this
  · refine node_no h 5 (fun k hk => ?_)
    rw [(ex.at_ k hk).1]
    rcases four (show k < 4 by omega) with rfl | rfl | rfl | rfl <;> decide
  · refine (span_any f sb X K rv R 2 W h).mono ?_
    rintro e w' ⟨⟨k, hk, h1, p', rfl, _⟩ | ⟨h1, _⟩, hb⟩
    · have hk1 : k = 1 := by
        rw [(ex.at_ k hk).1] at h1
        rcases four (show k < 4 by omega) with rfl | rfl | rfl | rfl
        · exact absurd h1 (by decide)
        · rfl
        · exact absurd h1 (by decide)
        · exact absurd h1 (by decide)
      subst hk1
      refine ⟨p', ?_, hb⟩
      rw [(ex.at_ 1 hk).2]
      rfl
    · exact absurd (by rw [(ex.at_ 1 (by omega)).1]; rfl) (h1 1 (by omega))
  · have := count_any f sb X K rv R W h
    rw [hl] at this
    exact this
  · refine (roots_any f sb X K rv R W h).mono ?_
    rintro e w' ⟨r, rfl, _, _, hb⟩
    rw [ex.r]
    exact ⟨⟨r, rfl⟩, hb⟩
  · refine (ids_any f sb X K rv R W h).mono ?_
    rintro e w' ⟨r, rfl, _, _, hb⟩
    rw [hl]
    exact ⟨⟨r, rfl⟩, hb⟩
  · refine (children_any f sb X K rv R 1 W h).mono ?_
    rintro e w' ⟨⟨k, hk, h1, r, rfl, _⟩ | ⟨h1, _⟩, hb⟩
    · have hk1 : k = 0 := by
        rw [(ex.at_ k hk).1] at h1
        rcases four (show k < 4 by omega) with rfl | rfl | rfl | rfl
        · rfl
        · exact absurd h1 (by decide)
        · exact absurd h1 (by decide)
        · exact absurd h1 (by decide)
      subst hk1
      rw [ex.k0]
      exact ⟨⟨r, rfl⟩, hb⟩
    · exact absurd (by rw [(ex.at_ 0 (by omega)).1]; rfl) (h1 0 (by omega))
theorem StepsA.congr {F : Fence} {n : Nat} {P : Program} {g : Nat} {lb : Array Value} {N : Nat} {args args' : Nat → Array Value} {Kp : World → World → Prop} {w : World} (h : StepsA F n P g lb N args Kp w) (he : ∀ k, k < N → args k = args' k) : StepsA F n P g lb N args' Kp w :=
  fun l J W hW hJ hY h0 => h l J W hW hJ (fun k W1 hk hj => by rw [he k hk]; exact hY k W1 hk hj) h0
/-- What Down tells of the example. -/
def eArg (k : Nat) : Array Value := #[.agg #[.int .u64 ((k : Int) + 1), .int .u64 (eFin k).par, .int .i64 (eFin k).org, .int .u64 (eFin k).tree, .int .i64 (eFin k).dep, .int .i64 (eFin k).fr, .int .i64 (eFin k).til]]
theorem ExF.arg {X : List Spot} {K : Nat → List Int} {R : List Int} (h : ExF X K R) (k : Nat) (hk : k < 4) : #[ndV (nthN X (([0, 1, 2, 3] : List Int)[k]?.getD 0))] = eArg k := by
  have hl := h.len
  have e : ∀ j : Nat, j < 4 → nthN X (j : Int) = eFin j := fun j hj => by rw [nthN_get (by omega), (h.at_ j (by omega)).1]
  rcases four hk with rfl | rfl | rfl | rfl
  · have := e 0 (by omega); simp only [eArg]; rw [show (([0, 1, 2, 3] : List Int)[0]?.getD 0) = ((0 : Nat) : Int) from rfl, this]; rfl
  · have := e 1 (by omega); simp only [eArg]; rw [show (([0, 1, 2, 3] : List Int)[1]?.getD 0) = ((1 : Nat) : Int) from rfl, this]; rfl
  · have := e 2 (by omega); simp only [eArg]; rw [show (([0, 1, 2, 3] : List Int)[2]?.getD 0) = ((2 : Nat) : Int) from rfl, this]; rfl
  · have := e 3 (by omega); simp only [eArg]; rw [show (([0, 1, 2, 3] : List Int)[3]?.getD 0) = ((3 : Nat) : Int) from rfl, this]; rfl
set_option maxHeartbeats 8000000 in
theorem awake_any (w : World) (hT : Tabs w) :
    Calls Tryz.prog 4 #[] w fun e w' => e = .returned (.bool true) ∧ Below w.heap.size w w' := by
  have BD := build_ex w hT
  clear hT
  refine (callsIn_wide (n := 9)).1 ?_
  refine callsIn_of_wp_marks Tryz.func4 rfl trivial ?_
  simp only [Tryz.ntmps4, List.size_toArray, List.length_nil, Nat.reduceSub, Array.replicate_succ, Array.replicate_zero, List.push_toArray, List.append_toArray, List.nil_append, List.cons_append]
  gi_wp2_with (first
    | (gi_at_call 14; (with_reducible refine (callsIn_wide.2 (spanL_any _ _ _ _ _)).mono ?_); rintro e w' ⟨rfl, rfl⟩)
    | (refine ⟨trivial, ?_⟩; gi_at_call 14; (with_reducible refine (callsIn_wide.2 (spanL_any _ _ _ _ _)).mono ?_); rintro e w' ⟨rfl, rfl⟩)
    | (gi_at_call 5; (with_reducible refine (callsIn_wide.2 BD).mono ?_); clear BD; rintro e w6 ⟨f, sb, X, K, rv, R, rfl, hF, hE, hb⟩; have HF : Hid (ForestAt w6 f sb X K rv R) := hF; have HE : Hid (ExF X K R) := hE; have B6 : Hid (Below w.heap.size w w6) := hb; have HQ : Hid (∀ W, Below w6.heap.size w6 W → Asked W f) := (fun W h => asked_ex (ForestAt.below HF.out h) HE.out); have N3 := (HQ.out w6 (Below.refl _ _)).n3; clear hF hE hb)
    | (refine ⟨trivial, ?_⟩; gi_at_call 5; (with_reducible refine (callsIn_wide.2 BD).mono ?_); clear BD; rintro e w6 ⟨f, sb, X, K, rv, R, rfl, hF, hE, hb⟩; have HF : Hid (ForestAt w6 f sb X K rv R) := hF; have HE : Hid (ExF X K R) := hE; have B6 : Hid (Below w.heap.size w w6) := hb; have HQ : Hid (∀ W, Below w6.heap.size w6 W → Asked W f) := (fun W h => asked_ex (ForestAt.below HF.out h) HE.out); have N3 := (HQ.out w6 (Below.refl _ _)).n3; clear hF hE hb)
    | (gi_at_call 15; (with_reducible refine (callsIn_wide.2 N3).mono ?_); clear N3; rintro e w7 ⟨rfl, hb⟩; have B7 : Hid (Below w6.heap.size w6 (w7.alloc (.cells #[.int .u64 3, .int .u64 2, .int .i64 0, .int .u64 1, .int .i64 2, .int .i64 3, .int .i64 5] 49))) := hb.alloc hb.size _; have N4 := (HQ.out _ B7.out).n4; have K7 : Hid (Blk (w7.alloc (.cells #[.int .u64 3, .int .u64 2, .int .i64 0, .int .u64 1, .int .i64 2, .int .i64 3, .int .i64 5] 49)) w7.heap.size #[.int .u64 3, .int .u64 2, .int .i64 0, .int .u64 1, .int .i64 2, .int .i64 3, .int .i64 5] 49) := Blk.new _ _ _; clear hb)
    | (refine ⟨trivial, ?_⟩; gi_at_call 15; (with_reducible refine (callsIn_wide.2 N3).mono ?_); clear N3; rintro e w7 ⟨rfl, hb⟩; have B7 : Hid (Below w6.heap.size w6 (w7.alloc (.cells #[.int .u64 3, .int .u64 2, .int .i64 0, .int .u64 1, .int .i64 2, .int .i64 3, .int .i64 5] 49))) := hb.alloc hb.size _; have N4 := (HQ.out _ B7.out).n4; have K7 : Hid (Blk (w7.alloc (.cells #[.int .u64 3, .int .u64 2, .int .i64 0, .int .u64 1, .int .i64 2, .int .i64 3, .int .i64 5] 49)) w7.heap.size #[.int .u64 3, .int .u64 2, .int .i64 0, .int .u64 1, .int .i64 2, .int .i64 3, .int .i64 5] 49) := Blk.new _ _ _; clear hb)
    | (gi_at_call 15; (with_reducible refine (callsIn_wide.2 N4).mono ?_); clear N4; rintro e w8 ⟨rfl, hb⟩; have B8 : Hid (Below w6.heap.size w6 (w8.alloc (.cells #[.int .u64 4, .int .u64 0, .int .i64 2, .int .u64 4, .int .i64 0, .int .i64 2, .int .i64 4] 49))) := ((B7.out).trans (hb.mono B7.out.size)).alloc (Nat.le_trans B7.out.size hb.size) _; have N5 := (HQ.out _ B8.out).n5; have K7b : Hid (Blk (w8.alloc (.cells #[.int .u64 4, .int .u64 0, .int .i64 2, .int .u64 4, .int .i64 0, .int .i64 2, .int .i64 4] 49)) w7.heap.size #[.int .u64 3, .int .u64 2, .int .i64 0, .int .u64 1, .int .i64 2, .int .i64 3, .int .i64 5] 49) := Blk.alloc (Blk.below K7.out hb (Blk.lt K7.out)) _; have K8 : Hid (Blk (w8.alloc (.cells #[.int .u64 4, .int .u64 0, .int .i64 2, .int .u64 4, .int .i64 0, .int .i64 2, .int .i64 4] 49)) w8.heap.size #[.int .u64 4, .int .u64 0, .int .i64 2, .int .u64 4, .int .i64 0, .int .i64 2, .int .i64 4] 49) := Blk.new _ _ _; clear hb)
    | (refine ⟨trivial, ?_⟩; gi_at_call 15; (with_reducible refine (callsIn_wide.2 N4).mono ?_); clear N4; rintro e w8 ⟨rfl, hb⟩; have B8 : Hid (Below w6.heap.size w6 (w8.alloc (.cells #[.int .u64 4, .int .u64 0, .int .i64 2, .int .u64 4, .int .i64 0, .int .i64 2, .int .i64 4] 49))) := ((B7.out).trans (hb.mono B7.out.size)).alloc (Nat.le_trans B7.out.size hb.size) _; have N5 := (HQ.out _ B8.out).n5; have K7b : Hid (Blk (w8.alloc (.cells #[.int .u64 4, .int .u64 0, .int .i64 2, .int .u64 4, .int .i64 0, .int .i64 2, .int .i64 4] 49)) w7.heap.size #[.int .u64 3, .int .u64 2, .int .i64 0, .int .u64 1, .int .i64 2, .int .i64 3, .int .i64 5] 49) := Blk.alloc (Blk.below K7.out hb (Blk.lt K7.out)) _; have K8 : Hid (Blk (w8.alloc (.cells #[.int .u64 4, .int .u64 0, .int .i64 2, .int .u64 4, .int .i64 0, .int .i64 2, .int .i64 4] 49)) w8.heap.size #[.int .u64 4, .int .u64 0, .int .i64 2, .int .u64 4, .int .i64 0, .int .i64 2, .int .i64 4] 49) := Blk.new _ _ _; clear hb)
    | (gi_at_call 15; (with_reducible refine (callsIn_wide.2 N5).mono ?_); clear N5; rintro e w9 ⟨rfl, hb⟩; have B9 : Hid (Below w6.heap.size w6 (w9.alloc (.cells #[.int .u64 0, .int .u64 0, .int .i64 0, .int .u64 0, .int .i64 0, .int .i64 0, .int .i64 0] 49))) := ((B8.out).trans (hb.mono B8.out.size)).alloc (Nat.le_trans B8.out.size hb.size) _; have S2 := (HQ.out _ B9.out).s2; have K7c : Hid (Blk (w9.alloc (.cells #[.int .u64 0, .int .u64 0, .int .i64 0, .int .u64 0, .int .i64 0, .int .i64 0, .int .i64 0] 49)) w7.heap.size #[.int .u64 3, .int .u64 2, .int .i64 0, .int .u64 1, .int .i64 2, .int .i64 3, .int .i64 5] 49) := Blk.alloc (Blk.below K7b.out hb (Blk.lt K7b.out)) _; have K8c : Hid (Blk (w9.alloc (.cells #[.int .u64 0, .int .u64 0, .int .i64 0, .int .u64 0, .int .i64 0, .int .i64 0, .int .i64 0] 49)) w8.heap.size #[.int .u64 4, .int .u64 0, .int .i64 2, .int .u64 4, .int .i64 0, .int .i64 2, .int .i64 4] 49) := Blk.alloc (Blk.below K8.out hb (Blk.lt K8.out)) _; clear hb)
    | (refine ⟨trivial, ?_⟩; gi_at_call 15; (with_reducible refine (callsIn_wide.2 N5).mono ?_); clear N5; rintro e w9 ⟨rfl, hb⟩; have B9 : Hid (Below w6.heap.size w6 (w9.alloc (.cells #[.int .u64 0, .int .u64 0, .int .i64 0, .int .u64 0, .int .i64 0, .int .i64 0, .int .i64 0] 49))) := ((B8.out).trans (hb.mono B8.out.size)).alloc (Nat.le_trans B8.out.size hb.size) _; have S2 := (HQ.out _ B9.out).s2; have K7c : Hid (Blk (w9.alloc (.cells #[.int .u64 0, .int .u64 0, .int .i64 0, .int .u64 0, .int .i64 0, .int .i64 0, .int .i64 0] 49)) w7.heap.size #[.int .u64 3, .int .u64 2, .int .i64 0, .int .u64 1, .int .i64 2, .int .i64 3, .int .i64 5] 49) := Blk.alloc (Blk.below K7b.out hb (Blk.lt K7b.out)) _; have K8c : Hid (Blk (w9.alloc (.cells #[.int .u64 0, .int .u64 0, .int .i64 0, .int .u64 0, .int .i64 0, .int .i64 0, .int .i64 0] 49)) w8.heap.size #[.int .u64 4, .int .u64 0, .int .i64 2, .int .u64 4, .int .i64 0, .int .i64 2, .int .i64 4] 49) := Blk.alloc (Blk.below K8.out hb (Blk.lt K8.out)) _; clear hb)
    | (gi_at_call 8; (with_reducible refine (callsIn_wide.2 S2).mono ?_); clear S2; rintro e w10 ⟨p', rfl, hb⟩; have B10 : Hid (Below w6.heap.size w6 (w10.alloc (.cells #[.int .u64 0, .int .u64 7, .int .u64 2, .int .u64 1, .slice p'.la 0 p'.lc, .string ⟨#[97]⟩, .string ⟨#[98]⟩, .int .i64 0, .int .i64 0, .int .i64 3, .int .i64 12, .slice p'.aa 0 p'.ac, .slice p'.ea 0 p'.ec] 42))) := ((B9.out).trans (hb.mono B9.out.size)).alloc (Nat.le_trans B9.out.size hb.size) _; have K7d : Hid (Blk (w10.alloc (.cells #[.int .u64 0, .int .u64 7, .int .u64 2, .int .u64 1, .slice p'.la 0 p'.lc, .string ⟨#[97]⟩, .string ⟨#[98]⟩, .int .i64 0, .int .i64 0, .int .i64 3, .int .i64 12, .slice p'.aa 0 p'.ac, .slice p'.ea 0 p'.ec] 42)) w7.heap.size #[.int .u64 3, .int .u64 2, .int .i64 0, .int .u64 1, .int .i64 2, .int .i64 3, .int .i64 5] 49) := Blk.alloc (Blk.below K7c.out hb (Blk.lt K7c.out)) _; have K8d : Hid (Blk (w10.alloc (.cells #[.int .u64 0, .int .u64 7, .int .u64 2, .int .u64 1, .slice p'.la 0 p'.lc, .string ⟨#[97]⟩, .string ⟨#[98]⟩, .int .i64 0, .int .i64 0, .int .i64 3, .int .i64 12, .slice p'.aa 0 p'.ac, .slice p'.ea 0 p'.ec] 42)) w8.heap.size #[.int .u64 4, .int .u64 0, .int .i64 2, .int .u64 4, .int .i64 0, .int .i64 2, .int .i64 4] 49) := Blk.alloc (Blk.below K8c.out hb (Blk.lt K8c.out)) _; have K10 : Hid (Blk (w10.alloc (.cells #[.int .u64 0, .int .u64 7, .int .u64 2, .int .u64 1, .slice p'.la 0 p'.lc, .string ⟨#[97]⟩, .string ⟨#[98]⟩, .int .i64 0, .int .i64 0, .int .i64 3, .int .i64 12, .slice p'.aa 0 p'.ac, .slice p'.ea 0 p'.ec] 42)) w10.heap.size #[.int .u64 0, .int .u64 7, .int .u64 2, .int .u64 1, .slice p'.la 0 p'.lc, .string ⟨#[97]⟩, .string ⟨#[98]⟩, .int .i64 0, .int .i64 0, .int .i64 3, .int .i64 12, .slice p'.aa 0 p'.ac, .slice p'.ea 0 p'.ec] 42) := Blk.new _ _ _; clear hb)
    | (refine ⟨trivial, ?_⟩; gi_at_call 8; (with_reducible refine (callsIn_wide.2 S2).mono ?_); clear S2; rintro e w10 ⟨p', rfl, hb⟩; have B10 : Hid (Below w6.heap.size w6 (w10.alloc (.cells #[.int .u64 0, .int .u64 7, .int .u64 2, .int .u64 1, .slice p'.la 0 p'.lc, .string ⟨#[97]⟩, .string ⟨#[98]⟩, .int .i64 0, .int .i64 0, .int .i64 3, .int .i64 12, .slice p'.aa 0 p'.ac, .slice p'.ea 0 p'.ec] 42))) := ((B9.out).trans (hb.mono B9.out.size)).alloc (Nat.le_trans B9.out.size hb.size) _; have K7d : Hid (Blk (w10.alloc (.cells #[.int .u64 0, .int .u64 7, .int .u64 2, .int .u64 1, .slice p'.la 0 p'.lc, .string ⟨#[97]⟩, .string ⟨#[98]⟩, .int .i64 0, .int .i64 0, .int .i64 3, .int .i64 12, .slice p'.aa 0 p'.ac, .slice p'.ea 0 p'.ec] 42)) w7.heap.size #[.int .u64 3, .int .u64 2, .int .i64 0, .int .u64 1, .int .i64 2, .int .i64 3, .int .i64 5] 49) := Blk.alloc (Blk.below K7c.out hb (Blk.lt K7c.out)) _; have K8d : Hid (Blk (w10.alloc (.cells #[.int .u64 0, .int .u64 7, .int .u64 2, .int .u64 1, .slice p'.la 0 p'.lc, .string ⟨#[97]⟩, .string ⟨#[98]⟩, .int .i64 0, .int .i64 0, .int .i64 3, .int .i64 12, .slice p'.aa 0 p'.ac, .slice p'.ea 0 p'.ec] 42)) w8.heap.size #[.int .u64 4, .int .u64 0, .int .i64 2, .int .u64 4, .int .i64 0, .int .i64 2, .int .i64 4] 49) := Blk.alloc (Blk.below K8c.out hb (Blk.lt K8c.out)) _; have K10 : Hid (Blk (w10.alloc (.cells #[.int .u64 0, .int .u64 7, .int .u64 2, .int .u64 1, .slice p'.la 0 p'.lc, .string ⟨#[97]⟩, .string ⟨#[98]⟩, .int .i64 0, .int .i64 0, .int .i64 3, .int .i64 12, .slice p'.aa 0 p'.ac, .slice p'.ea 0 p'.ec] 42)) w10.heap.size #[.int .u64 0, .int .u64 7, .int .u64 2, .int .u64 1, .slice p'.la 0 p'.lc, .string ⟨#[97]⟩, .string ⟨#[98]⟩, .int .i64 0, .int .i64 0, .int .i64 3, .int .i64 12, .slice p'.aa 0 p'.ac, .slice p'.ea 0 p'.ec] 42) := Blk.new _ _ _; clear hb)
    | (gi_at_call 16; (with_reducible refine (callsIn_wide.2 (above_any _ _ _)).mono ?_); rintro e w' ⟨rfl, rfl⟩)
    | (refine ⟨trivial, ?_⟩; gi_at_call 16; (with_reducible refine (callsIn_wide.2 (above_any _ _ _)).mono ?_); rintro e w' ⟨rfl, rfl⟩))
  obtain ⟨X12, hX12⟩ : ∃ X12, ((((w10.alloc (.cells #[.int .u64 0, .int .u64 7, .int .u64 2, .int .u64 1, .slice p'.la 0 p'.lc, .string ⟨#[97]⟩, .string ⟨#[98]⟩, .int .i64 0, .int .i64 0, .int .i64 3, .int .i64 12, .slice p'.aa 0 p'.ac, .slice p'.ea 0 p'.ec] 42)).alloc (.cells #[.int .i64 0] 3)).alloc (.cells #[.pointer (some ⟨f, 0, none⟩)] 25)).alloc (.cells #[.int .u64 3] 35)) = X12 := ⟨_, rfl⟩
  have b12 : Below (w10.alloc (.cells #[.int .u64 0, .int .u64 7, .int .u64 2, .int .u64 1, .slice p'.la 0 p'.lc, .string ⟨#[97]⟩, .string ⟨#[98]⟩, .int .i64 0, .int .i64 0, .int .i64 3, .int .i64 12, .slice p'.aa 0 p'.ac, .slice p'.ea 0 p'.ec] 42)).heap.size (w10.alloc (.cells #[.int .u64 0, .int .u64 7, .int .u64 2, .int .u64 1, .slice p'.la 0 p'.lc, .string ⟨#[97]⟩, .string ⟨#[98]⟩, .int .i64 0, .int .i64 0, .int .i64 3, .int .i64 12, .slice p'.aa 0 p'.ac, .slice p'.ea 0 p'.ec] 42)) X12 := by rw [← hX12]; exact (((Below.refl _ _).alloc (Nat.le_refl _) _).alloc (by simp) _).alloc (by simp) _
  have s12 : X12.heap.size = w10.heap.size + 4 := by rw [← hX12]; simp
  have B12 : Below w6.heap.size w6 X12 := B10.out.trans (b12.mono B10.out.size)
  have s10 := B10.out.size
  rw [World.size_alloc] at s10
  have k7 : Hid (Blk X12 w7.heap.size #[.int .u64 3, .int .u64 2, .int .i64 0, .int .u64 1, .int .i64 2, .int .i64 3, .int .i64 5] 49) := Blk.below K7d.out b12 (Blk.lt K7d.out)
  have k8 : Hid (Blk X12 w8.heap.size #[.int .u64 4, .int .u64 0, .int .i64 2, .int .u64 4, .int .i64 0, .int .i64 2, .int .i64 4] 49) := Blk.below K8d.out b12 (Blk.lt K8d.out)
  have k10 : Hid (Blk X12 w10.heap.size #[.int .u64 0, .int .u64 7, .int .u64 2, .int .u64 1, .slice p'.la 0 p'.lc, .string ⟨#[97]⟩, .string ⟨#[98]⟩, .int .i64 0, .int .i64 0, .int .i64 3, .int .i64 12, .slice p'.aa 0 p'.ac, .slice p'.ea 0 p'.ec] 42) := Blk.below K10.out b12 (Blk.lt K10.out)
  have kU : Blk X12 (w10.heap.size + 1) #[.int .i64 0] 3 := by rw [← hX12]; exact ((alloc_atS (by simp)).alloc _).alloc _
  have kf : Blk X12 (w10.heap.size + 1 + 1) #[.pointer (some ⟨f, 0, none⟩)] 25 := by rw [← hX12]; exact (alloc_atS (by simp)).alloc _
  have ki : Blk X12 (w10.heap.size + 1 + 1 + 1) #[.int .u64 3] 35 := by rw [← hX12]; exact alloc_atS (by simp)
  have l7 : w7.heap.size < w10.heap.size + 1 := by have := Blk.lt K7d.out; rwa [World.size_alloc] at this
  have l8 : w8.heap.size < w10.heap.size + 1 := by have := Blk.lt K8d.out; rwa [World.size_alloc] at this
  rw [hX12]
  clear hX12 K7 K7b K7c K7d K8 K8c K8d K10 B7 B8 B9
  refine wpIn_stepsA (F := Fence.wide) rfl (by omega) (gf := 29) (lb := #[.pointer (some ⟨w10.heap.size + 1 + 1, 0, none⟩), .pointer (some ⟨w10.heap.size + 1 + 1 + 1, 0, none⟩)]) rfl trivial (enters_of Tryz.func29 (by kernel_rfl) rfl)
    (up_steps _ f sb (w10.heap.size + 1 + 1) (w10.heap.size + 1 + 1 + 1) w6.heap.size (w10.heap.size + 1) (by omega) X K rv R 3 [2, 1] w6 X12 HF.out (Nat.le_refl _) B12 ⟨by omega, by omega⟩ (by omega) (by omega) kf ki HE.out.up (by decide))
    KpN.trans (KpN.put (by omega)) (fun _ => rfl)
    (fun k W => KpN w6.heap.size (w10.heap.size + 1) X12 W ∧ Blk W (w10.heap.size + 1) #[.int .i64 (([0, 2, 21] : List Int).getD k 0)] 3) ?_ ?_ ?_ ?_ ?_
  · rintro k A C row ⟨a1, a2⟩ hg hr
    exact ⟨a1.own hg hr (by omega) (by omega), a2.own hg hr⟩
  · rintro k A C m hm hA ⟨a1, a2⟩ hu
    exact ⟨a1.mine hm (by omega) hu, a2.upd hu (by omega)⟩
  · exact ⟨KpN.refl _ _ _, kU⟩
  · rintro l k W hk ⟨a1, a2⟩
    have hk2 : k = 0 ∨ k = 1 := by simp at hk; omega
    rcases hk2 with rfl | rfl
    all_goals
      gi_wp2
      refine ⟨(KeepsOthers.refl _).from _, KpN.refl _ _ _, ⟨a1, a2⟩, ?_⟩
      rintro V ⟨v1, v2⟩ _ _
      have c0 := v2.cell 0 rfl
      have cz := v2.frozen 0
      have HV : Hid (KpN w6.heap.size (w10.heap.size + 1) X12 V) := v1
      have HU : Hid (Blk V (w10.heap.size + 1) #[.int .i64 _] 3) := v2
      clear v1 v2 a1 a2
      gi_wp2
      have hs : ∀ x : Value, KpN w6.heap.size (w10.heap.size + 1) V (V.setCell ⟨w10.heap.size + 1, 0, none⟩ x) := fun x => ⟨Below.setCell (Below.refl _ _) (by show w6.heap.size ≤ w10.heap.size + 1; omega) _, fun j c t fr hj hc => (Below.heap_setCell V ⟨w10.heap.size + 1, 0, none⟩ x j hj).trans hc⟩
      exact ⟨(KeepsOthers.setCell _ _ _).from _, hs _, HV.out.trans (hs _), Blk.set HU.out 0 _⟩
  · rintro D W hD ⟨a1, a2⟩ hDf
    have s14 := a1.below.size
    have HA1 : Hid (KpN w6.heap.size (w10.heap.size + 1) X12 W) := a1
    have HA2 : Hid (Blk W (w10.heap.size + 1) #[.int .i64 21] 3) := a2
    have HDf : Hid (W.heap[D]? = some (.deferred (some []))) := hDf
    have DL : D < W.heap.size := (Array.getElem?_eq_some_iff.1 hDf).1
    clear a1 a2 hDf
    gi_wp2_with (first
    | (gi_at_call 17; (with_reducible refine (callsIn_wide.2 (downF_any _ _)).mono ?_); rintro e w' ⟨rfl, rfl⟩)
    | (refine ⟨trivial, ?_⟩; gi_at_call 17; (with_reducible refine (callsIn_wide.2 (downF_any _ _)).mono ?_); rintro e w' ⟨rfl, rfl⟩))
    obtain ⟨X14, hX14⟩ : ∃ X14, (W.alloc (.cells #[.int .i64 0] 3)).alloc (.cells #[.pointer (some ⟨f, 0, none⟩)] 25) = X14 := ⟨_, rfl⟩
    have b14 : Below W.heap.size W X14 := by rw [← hX14]; exact ((Below.refl _ _).alloc (Nat.le_refl _) _).alloc (by simp) _
    have z14 : X14.heap.size = W.heap.size + 2 := by rw [← hX14]; simp
    have kU2 : Blk X14 W.heap.size #[.int .i64 0] 3 := by rw [← hX14]; exact (alloc_atS rfl).alloc _
    have kx : Blk X14 (W.heap.size + 1) #[.pointer (some ⟨f, 0, none⟩)] 25 := by rw [← hX14]; exact alloc_atS (by simp)
    have k7' : Hid (Blk X14 w7.heap.size #[.int .u64 3, .int .u64 2, .int .i64 0, .int .u64 1, .int .i64 2, .int .i64 3, .int .i64 5] 49) := Blk.below (HA1.out.blk k7.out (by omega)) b14 (by omega)
    have k8' : Hid (Blk X14 w8.heap.size #[.int .u64 4, .int .u64 0, .int .i64 2, .int .u64 4, .int .i64 0, .int .i64 2, .int .i64 4] 49) := Blk.below (HA1.out.blk k8.out (by omega)) b14 (by omega)
    have k10' : Hid (Blk X14 w10.heap.size #[.int .u64 0, .int .u64 7, .int .u64 2, .int .u64 1, .slice p'.la 0 p'.lc, .string ⟨#[97]⟩, .string ⟨#[98]⟩, .int .i64 0, .int .i64 0, .int .i64 3, .int .i64 12, .slice p'.aa 0 p'.ac, .slice p'.ea 0 p'.ec] 42) := Blk.below (HA1.out.blk k10.out (by omega)) b14 (by omega)
    have kU' : Hid (Blk X14 (w10.heap.size + 1) #[.int .i64 21] 3) := Blk.below HA2.out b14 (by omega)
    have d14 : X14.heap[D]? = some (.deferred (some [])) := (b14.block D DL).trans HDf.out
    have B14 : Below w6.heap.size w6 X14 := B12.trans (HA1.out.below.trans (b14.mono (by omega)))
    have DS := (down_steps 8 f sb (W.heap.size + 1) w6.heap.size W.heap.size 4 X K rv R w6 X14 HF.out (Nat.le_refl _) B14 (by omega) (by omega) kx HE.out.pre.2)
    rw [HE.out.pre.1] at DS
    have DT := DS.congr (args' := eArg) (fun k hk => HE.out.arg k (by simpa using hk))
    rw [hX14]
    clear hX14 DS k7 k8 k10
    refine wpIn_stepsA (F := Fence.wide) rfl (by omega) (gf := 30) (lb := #[.pointer (some ⟨W.heap.size + 1, 0, none⟩)]) rfl trivial (enters_of Tryz.func30 (by kernel_rfl) rfl)
      DT KpN.trans (KpN.put (by omega)) (fun _ => rfl)
      (fun k V => KpN w6.heap.size W.heap.size X14 V ∧ Blk V W.heap.size #[.int .i64 (([0, 1, 12, 123, 1234] : List Int).getD k 0)] 3 ∧ V.heap[D]? = some (.deferred (some []))) ?_ ?_ ?_ ?_ ?_
    · rintro k A C row ⟨v1, v2, v3⟩ hg hr
      refine ⟨v1.own hg hr (by omega) (by omega), v2.own hg hr, (hg.block D (Array.getElem?_eq_some_iff.1 v3).1 (fun e => ?_)).trans v3⟩
      have := (hr D e.symm).1
      omega
    · rintro k A C m hm hA ⟨v1, v2, v3⟩ hu
      exact ⟨v1.mine hm (by omega) hu, v2.upd hu (by omega), (hu.block D (Array.getElem?_eq_some_iff.1 v3).1 (by omega)).trans v3⟩
    · exact ⟨KpN.refl _ _ _, kU2, d14⟩
    · rintro l k V hk ⟨v1, v2, v3⟩
      unfold eArg
      generalize (eFin k).par = a1
      generalize (eFin k).org = a2
      generalize (eFin k).tree = a3
      generalize (eFin k).dep = a4
      generalize (eFin k).fr = a5
      generalize (eFin k).til = a6
      rcases four (show k < 4 by simpa using hk) with rfl | rfl | rfl | rfl
      all_goals
        gi_wp2
        have sV := v1.below.size
        have bV : ∀ o, Below V.heap.size V (V.alloc o) := fun o => (Below.refl _ _).alloc (Nat.le_refl _) _
        refine ⟨(KeepsOthers.alloc _ _).from _, KpN.ofBelow (bV _) (by omega), ⟨v1.trans (KpN.ofBelow (bV _) (by omega)), v2.alloc _, ((bV _).block D (Array.getElem?_eq_some_iff.1 v3).1).trans v3⟩, ?_⟩
        rintro V2 ⟨q1, q2, q3⟩ hc _
        have c0 := q2.cell 0 rfl
        have cz := q2.frozen 0
        have cn := Blk.cell (hc V.heap.size _ _ _ (Blk.new V _ _)) 0 rfl
        have HV : Hid (KpN w6.heap.size W.heap.size X14 V2) := q1
        have HU : Hid (Blk V2 W.heap.size #[.int .i64 _] 3) := q2
        have HD : Hid (V2.heap[D]? = some (.deferred (some []))) := q3
        clear q1 q2 q3 v1 v2 v3 hc
        gi_wp2
        have hs : ∀ x : Value, KpN w6.heap.size W.heap.size V2 (V2.setCell ⟨W.heap.size, 0, none⟩ x) := fun x => ⟨Below.setCell (Below.refl _ _) (by show w6.heap.size ≤ W.heap.size; omega) _, fun j c t fr hj hc => (Below.heap_setCell V2 ⟨W.heap.size, 0, none⟩ x j hj).trans hc⟩
        exact ⟨(KeepsOthers.setCell _ _ _).from _, hs _, HV.out.trans (hs _), Blk.set HU.out 0 _, (Below.heap_setCell V2 ⟨W.heap.size, 0, none⟩ _ D (by show D ≠ W.heap.size; omega)).trans HD.out⟩
    · rintro D2 W2 hD2 ⟨v1, v2, v3⟩ hDf2
      have b2 : Below w6.heap.size w6 W2 := B14.trans v1.below
      have s2 := v1.below.size
      have m7 := v1.blk k7'.out (by omega)
      have m8 := v1.blk k8'.out (by omega)
      have m10 := v1.blk k10'.out (by omega)
      have mU := v1.blk kU'.out (by omega)
      have mD : Blk W2 W.heap.size #[.int .i64 1234] 3 := v2
      have p0 := m7.cell 0 rfl
      have p1 := m7.cell 1 rfl
      have p2 := m7.cell 2 rfl
      have p3 := m7.cell 3 rfl
      have p4 := m7.cell 4 rfl
      have p5 := m7.cell 5 rfl
      have p6 := m7.cell 6 rfl
      have q0 := m8.cell 0 rfl
      have q1 := m8.cell 1 rfl
      have q2 := m8.cell 2 rfl
      have q3 := m8.cell 3 rfl
      have q4 := m8.cell 4 rfl
      have q5 := m8.cell 5 rfl
      have q6 := m8.cell 6 rfl
      have r10 := m10.cell 10 rfl
      have rU := mU.cell 0 rfl
      have rD := mD.cell 0 rfl
      have CT := (HQ.out W2 b2).ct
      have RT := (HQ.out W2 b2).rt
      have HB2 : Hid (Below w6.heap.size w6 W2) := b2
      have HD1 : Hid (W2.heap[D]? = some (.deferred (some []))) := v3
      have HD2 : Hid (W2.heap[D2]? = some (.deferred (some []))) := hDf2
      have hDne : Hid (D ≠ D2 ∧ w.heap.size ≤ D ∧ w.heap.size ≤ D2) := by have h6 := B6.out.size; exact ⟨by omega, by omega, by omega⟩
      clear m7 m8 m10 mU mD v1 v2 v3 hDf2 b2 k7' k8' k10' kU' d14 kU2 kx b14 B14 z14 b12 B12 DT HA1 HA2 kf ki kU
      gi_wp2_with (first
    | (gi_at_call 18; (with_reducible refine (callsIn_wide.2 CT).mono ?_); clear CT; rintro e w' ⟨rfl, hw⟩; obtain rfl := hw.symm)
    | (refine ⟨trivial, ?_⟩; gi_at_call 18; (with_reducible refine (callsIn_wide.2 CT).mono ?_); clear CT; rintro e w' ⟨rfl, hw⟩; obtain rfl := hw.symm)
    | (gi_at_call 13; (with_reducible refine (callsIn_wide.2 RT).mono ?_); clear RT; rintro e w20 ⟨⟨r1, rfl⟩, hb⟩; have B20 : Hid (Below w6.heap.size w6 w20 ∧ Below W2.heap.size W2 w20) := ⟨HB2.out.trans (hb.mono HB2.out.size), hb⟩; have ID := (HQ.out w20 B20.out.1).id; clear hb)
    | (refine ⟨trivial, ?_⟩; gi_at_call 13; (with_reducible refine (callsIn_wide.2 RT).mono ?_); clear RT; rintro e w20 ⟨⟨r1, rfl⟩, hb⟩; have B20 : Hid (Below w6.heap.size w6 w20 ∧ Below W2.heap.size W2 w20) := ⟨HB2.out.trans (hb.mono HB2.out.size), hb⟩; have ID := (HQ.out w20 B20.out.1).id; clear hb)
    | (gi_at_call 12; (with_reducible refine (callsIn_wide.2 ID).mono ?_); clear ID; rintro e w21 ⟨⟨r2, rfl⟩, hb⟩; have B21 : Hid (Below w6.heap.size w6 w21 ∧ Below W2.heap.size W2 w21) := ⟨B20.out.1.trans (hb.mono B20.out.1.size), B20.out.2.trans (hb.mono B20.out.2.size)⟩; have CH := (HQ.out w21 B21.out.1).ch; clear hb)
    | (refine ⟨trivial, ?_⟩; gi_at_call 12; (with_reducible refine (callsIn_wide.2 ID).mono ?_); clear ID; rintro e w21 ⟨⟨r2, rfl⟩, hb⟩; have B21 : Hid (Below w6.heap.size w6 w21 ∧ Below W2.heap.size W2 w21) := ⟨B20.out.1.trans (hb.mono B20.out.1.size), B20.out.2.trans (hb.mono B20.out.2.size)⟩; have CH := (HQ.out w21 B21.out.1).ch; clear hb)
    | (gi_at_call 11; (with_reducible refine (callsIn_wide.2 CH).mono ?_); clear CH; rintro e w22 ⟨⟨r3, rfl⟩, hb⟩; have B22 : Hid (Below w6.heap.size w6 w22 ∧ Below W2.heap.size W2 w22) := ⟨B21.out.1.trans (hb.mono B21.out.1.size), B21.out.2.trans (hb.mono B21.out.2.size)⟩; clear hb)
    | (refine ⟨trivial, ?_⟩; gi_at_call 11; (with_reducible refine (callsIn_wide.2 CH).mono ?_); clear CH; rintro e w22 ⟨⟨r3, rfl⟩, hb⟩; have B22 : Hid (Below w6.heap.size w6 w22 ∧ Below W2.heap.size W2 w22) := ⟨B21.out.1.trans (hb.mono B21.out.1.size), B21.out.2.trans (hb.mono B21.out.2.size)⟩; clear hb))
      have e2 : w22.heap[D2]? = some (.deferred (some [])) := (B22.out.2.block D2 (Array.getElem?_eq_some_iff.1 HD2.out).1).trans HD2.out
      have e1 : w22.heap[D]? = some (.deferred (some [])) := (B22.out.2.block D (Array.getElem?_eq_some_iff.1 HD1.out).1).trans HD1.out
      refine ⟨by simp, .inl ⟨_, _, rfl, run_takeDeferred e2, ?_⟩⟩
      refine ⟨by simp, .inl ⟨_, _, rfl, run_takeDeferred ((World.putObj_heap_other hDne.out.1).trans e1), ?_⟩⟩
      refine ⟨_, results_tmp rfl _ _ _, rfl, ?_⟩
      have b : Below w.heap.size w w22 := B6.out.trans (B22.out.1.mono B6.out.size)
      refine b.trans (Below.trans (b := w22.putObj D2 (.deferred none)) ?_ ?_)
      · exact ⟨rfl, rfl, rfl, by simp [World.putObj], fun k hk => World.putObj_heap_other (by have := hDne.out.2.2; omega)⟩
      · exact ⟨rfl, rfl, rfl, by simp [World.putObj], fun k hk => World.putObj_heap_other (by have := hDne.out.2.1; omega)⟩
end Go.Proofs.YtipkolmkpfpjjaaGreatDoor
