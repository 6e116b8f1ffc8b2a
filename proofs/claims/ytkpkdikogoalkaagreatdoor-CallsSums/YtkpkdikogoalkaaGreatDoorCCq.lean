/-
  Merged: CC, CD.
-/
import Derived.Test.YtkpkdikogoalkaaGreatDoorCB
import Derived.Test.YtkpkdikogoalkaaGreatDoorCMq
namespace Go.Proofs.YtkpkdikogoalkaaGreatDoor.sk
open Go.RowKit
set_option maxRecDepth 100000

set_option maxHeartbeats 1000000 in
theorem cholds_any (n m : Nat) (w : World) :
    Calls Tryz.prog 35 #[natV n, natV m] w fun e w' => e = .returned (.bool (holB n m)) ∧ Below w.heap.size w w' := by
  have E := holds_iff n m
  unfold natV
  obtain ⟨x, hx⟩ : ∃ x : Int, (lo64 n : Int) = x := ⟨_, rfl⟩
  obtain ⟨y, hy⟩ : ∃ y : Int, (hi64 n : Int) = y := ⟨_, rfl⟩
  obtain ⟨p, hp⟩ : ∃ p : Int, (lo64 m : Int) = p := ⟨_, rfl⟩
  obtain ⟨q, hq⟩ : ∃ q : Int, (hi64 m : Int) = q := ⟨_, rfl⟩
  rw [hx, hy, hp, hq] at E
  rw [hx, hy, hp, hq]
  have EQ : ∀ W, (binOp .eql 36 (.agg #[.int .u64 y, .int .u64 x]) (.agg #[.int .u64 q, .int .u64 p])).run Tryz.prog W = .ok (.bool (decide (y = q ∧ x = p))) W := fun W => run_eqlS (eqI_nat 9998 y x q p W)
  have HE : Hid (holB n m = _) := E
  clear E hx hy hp hq
  go_enter Tryz.func35, Tryz.ntmps35
  go_wp2
  all_goals go_ret
  all_goals refine ⟨congrArg (fun b => Ending.returned (.bool b)) ?_, ((Below.refl _ _).alloc (Nat.le_refl _) _).alloc (by simp) _⟩
  all_goals rw [HE.out, Bool.eq_iff_iff]
  all_goals simp only [decide_eq_true_eq, Bool.or_eq_true, Bool.and_eq_true, true_iff]
  all_goals omega
set_option maxHeartbeats 1000000 in
theorem cMinus_no (ad bd : Option Addr) (n m ca cb : Nat) (a b : List (Int × Int)) (c e k c' e' k' : Nat) (w : World) (hA : InAt w ad n a) (hB : InAt w bd m b) (hc : (chkF (-1) a && chkF (-1) b) = false) :
    Calls Tryz.prog 15 #[talV c e k ad n ca, talV c' e' k' bd m cb] w (TalN 131 w) := by
  have B3 : ∀ o1 o2 o3 : Obj, Below w.heap.size w (((w.alloc o1).alloc o2).alloc o3) := fun o1 o2 o3 => ((((Below.refl _ _).alloc (Nat.le_refl _) _).alloc (by simp) _).alloc (by simp; omega) _)
  have MG := fun W (h : Below w.heap.size w W) => less_no ad bd n m ca cb a b W (hA.below h) (hB.below h) hc
  have T3 : Hid _ := Tal3.new w (hi64 c) (lo64 c) (hi64 e) (lo64 e) (hi64 k) (lo64 k) ad n ca (hi64 c') (lo64 c') (hi64 e') (lo64 e') (hi64 k') (lo64 k') bd m cb
  unfold talV TalN
  rw [talV_zero]
  generalize (hi64 c : Int) = x0 at *
  generalize (lo64 c : Int) = x1 at *
  generalize (hi64 e : Int) = x2 at *
  generalize (lo64 e : Int) = x3 at *
  generalize (hi64 k : Int) = x4 at *
  generalize (lo64 k : Int) = x5 at *
  generalize (hi64 c' : Int) = y0 at *
  generalize (lo64 c' : Int) = y1 at *
  generalize (hi64 e' : Int) = y2 at *
  generalize (lo64 e' : Int) = y3 at *
  generalize (hi64 k' : Int) = y4 at *
  generalize (lo64 k' : Int) = y5 at *
  clear hA hB hc
  simp only [talL] at T3 ⊢
  go_enter Tryz.func15, Tryz.ntmps15
  go_wp2_with (first
    | (go_at_call 34; (with_reducible refine (MG _ (B3 _ _ _)).mono ?_); clear MG; rintro x w1 ⟨b1, rfl⟩; have HB1 : Hid _ := (B3 _ _ _).trans (b1.mono (B3 _ _ _).size); have T1 : Hid _ := Tal3.below T3.out b1; clear b1)
    | (refine wpList_stW rfl 39 _ _ rfl (w.heap.size + 1 + 1) (talL 0 0 0 0 0 0 none 0 0) (talL 0 0 0 0 0 0 none 0 0) 39 T1.out.res rfl rfl rfl (by kernel_rfl) talL_one ?_; intro w3 n3 u3))
  (try simp only [Exit.inBlock, Exit.then])
  refine bodyPost_ret (v := .tuple #[.agg (talL 0 0 0 0 0 0 none 0 0).toArray, .int .i64 131]) ?_ rfl ⟨rfl, HB1.out.trans (u3.below HB1.out.size (fun k hk e => by omega))⟩
  rw [results_cell_tmp rfl]
  have hld := blk_loadT n3
  simp [asAddr, Result.andThen, hld]
set_option maxHeartbeats 4000000 in
theorem cMinus_ok (ad bd : Option Addr) (n m ca cb : Nat) (f g : Nat → Nat) (c e k c' e' k' : Nat) (w : World) (hA : SkAt w ad n f) (hB : SkAt w bd m g) (b1 : c ≤ top128) (b2 : e ≤ top128) (b3 : k ≤ top128) (b4 : c' ≤ c) (b5 : e' ≤ e) (b6 : k' ≤ k) (hle : ∀ i, i < 1920 → g i ≤ f i) :
    Calls Tryz.prog 15 #[talV c e k ad n ca, talV c' e' k' bd m cb] w (TalP (c - c') (e - e') (k - k') (fun i => f i - g i) w) := by
  have B3 : ∀ o1 o2 o3 : Obj, Below w.heap.size w (((w.alloc o1).alloc o2).alloc o3) := fun o1 o2 o3 => ((((Below.refl _ _).alloc (Nat.le_refl _) _).alloc (by simp) _).alloc (by simp; omega) _)
  have MG := fun W (h : Below w.heap.size w W) => less_skQ ad bd n m ca cb f g W (hA.below h) (hB.below h) hle
  have T3 : Hid _ := Tal3.new w (hi64 c) (lo64 c) (hi64 e) (lo64 e) (hi64 k) (lo64 k) ad n ca (hi64 c') (lo64 c') (hi64 e') (lo64 e') (hi64 k') (lo64 k') bd m cb
  have P1 := fun W => cminus_any c c' b4 b1 W
  have H1 := fun W => cholds_any c c' W
  rw [show holB c c' = true from decide_eq_true b4] at H1
  have P2 := fun W => cminus_any e e' b5 b2 W
  have H2 := fun W => cholds_any e e' W
  rw [show holB e e' = true from decide_eq_true b5] at H2
  have P3 := fun W => cminus_any k k' b6 b3 W
  have H3 := fun W => cholds_any k k' W
  rw [show holB k k' = true from decide_eq_true b6] at H3
  unfold natV at P1 P2 P3 H1 H2 H3
  unfold TalP talV
  clear hA hB b1 b2 b3 b4 b5 b6 hle
  generalize (hi64 c : Int) = x0 at *
  generalize (lo64 c : Int) = x1 at *
  generalize (hi64 e : Int) = x2 at *
  generalize (lo64 e : Int) = x3 at *
  generalize (hi64 k : Int) = x4 at *
  generalize (lo64 k : Int) = x5 at *
  generalize (hi64 c' : Int) = y0 at *
  generalize (lo64 c' : Int) = y1 at *
  generalize (hi64 e' : Int) = y2 at *
  generalize (lo64 e' : Int) = y3 at *
  generalize (hi64 k' : Int) = y4 at *
  generalize (lo64 k' : Int) = y5 at *
  generalize (hi64 (c - c') : Int) = z0 at *
  generalize (lo64 (c - c') : Int) = z1 at *
  generalize (hi64 (e - e') : Int) = z2 at *
  generalize (lo64 (e - e') : Int) = z3 at *
  generalize (hi64 (k - k') : Int) = z4 at *
  generalize (lo64 (k - k') : Int) = z5 at *
  simp only [talL] at T3 ⊢
  go_enter Tryz.func15, Tryz.ntmps15
  go_wp2_with (first
    | (go_at_call 34; (with_reducible refine (MG _ (B3 _ _ _)).mono ?_); clear MG; rintro x w1 ⟨mo, N, cm, rfl, HM, b1, HO⟩; have HB1 : Hid _ := (B3 _ _ _).trans (b1.mono (B3 _ _ _).size); have T1 : Hid _ := Tal3.below T3.out b1; obtain ⟨q0, q1, q2, q3, q4, q5, q6, q7, q8, q9, q10, q11⟩ := T1.out.two.cells; clear b1)
    | (go_at_call 35; (with_reducible refine (H1 _).mono ?_); clear H1; rintro x w2 ⟨rfl, b2⟩; have HB2 : Hid _ := HB1.out.trans (b2.mono HB1.out.size); have T2 : Hid _ := Tal3.below T1.out b2; have HM2 : Hid _ := SkAt.below HM.out b2; have HO2 : Hid _ := OwnBar.below HO.out b2; clear q0 q1 q2 q3 q4 q5 q6 q7 q8 q9 q10 q11; obtain ⟨q0, q1, q2, q3, q4, q5, q6, q7, q8, q9, q10, q11⟩ := T2.out.two.cells; clear b2 T1)
    | (go_at_call 35; (with_reducible refine (H2 _).mono ?_); clear H2; rintro x w3 ⟨rfl, b3⟩; have HB3 : Hid _ := HB2.out.trans (b3.mono HB2.out.size); have T5 : Hid _ := Tal3.below T2.out b3; have HM3 : Hid _ := SkAt.below HM2.out b3; have HO3 : Hid _ := OwnBar.below HO2.out b3; clear b3 T2 T3; have T3 := T5; clear T5; clear q0 q1 q2 q3 q4 q5 q6 q7 q8 q9 q10 q11; obtain ⟨q0, q1, q2, q3, q4, q5, q6, q7, q8, q9, q10, q11⟩ := T3.out.two.cells)
    | (go_at_call 35; (with_reducible refine (H3 _).mono ?_); clear H3; rintro x w4 ⟨rfl, b4⟩; have HB4 : Hid _ := HB3.out.trans (b4.mono HB3.out.size); have T4 : Hid _ := Tal3.below T3.out b4; have HM4 : Hid _ := SkAt.below HM3.out b4; have HO4 : Hid _ := OwnBar.below HO3.out b4; clear q0 q1 q2 q3 q4 q5 q6 q7 q8 q9 q10 q11; clear b4 T3))
  refine wp_region_held (S := fun W => Tal2 W w.heap.size x0 x1 x2 x3 x4 x5 ad n ca y0 y1 y2 y3 y4 y5 bd m cb) (by kernel_rfl) ?_
  change wpAnyH _ _ _ _ _ _ _ _ (World.drew _)
  have hS0 : Tal2 w4.drew w.heap.size x0 x1 x2 x3 x4 x5 ad n ca y0 y1 y2 y3 y4 y5 bd m cb := ⟨T4.out.two.one, T4.out.two.two⟩
  refine takeC (i := 0) (v := .pointer (some ⟨w.heap.size, 0, none⟩)) rfl (by kernel_rfl) (by kernel_rfl) (by kernel_rfl) (fun _ _ _ h => h) (Or.inl ⟨by rfl, fun W hW => by go_simp⟩) hS0 ?_
  simp only [Act.put, List.setIfInBounds_toArray, List.set_cons_zero, List.set_cons_succ]
  refine takeC (i := 1) (v := .agg [.int .u64 x0, .int .u64 x1].toArray) rfl (by kernel_rfl) (by kernel_rfl) (by kernel_rfl) (fun _ _ _ h => h) (yieldsIf_load_mid (by rfl) 36 _ rfl (w.heap.size) 0 rfl [.int .u64 x0, .int .u64 x1] _ (fun W hW => range2 hW.one 0 rfl rfl) Tryz.underlying36 rfl (by kernel_rfl)) hS0 ?_
  simp only [Act.put, List.setIfInBounds_toArray, List.set_cons_zero, List.set_cons_succ]
  refine takeC (i := 2) (v := .pointer (some ⟨w.heap.size + 1, 0, none⟩)) rfl (by kernel_rfl) (by kernel_rfl) (by kernel_rfl) (fun _ _ _ h => h) (Or.inl ⟨by rfl, fun W hW => by go_simp⟩) hS0 ?_
  simp only [Act.put, List.setIfInBounds_toArray, List.set_cons_zero, List.set_cons_succ]
  refine takeC (i := 3) (v := .agg [.int .u64 y0, .int .u64 y1].toArray) rfl (by kernel_rfl) (by kernel_rfl) (by kernel_rfl) (fun _ _ _ h => h) (yieldsIf_load_mid (by rfl) 36 _ rfl (w.heap.size + 1) 0 rfl [.int .u64 y0, .int .u64 y1] _ (fun W hW => range2 hW.two 0 rfl rfl) Tryz.underlying36 rfl (by kernel_rfl)) hS0 ?_
  simp only [Act.put, List.setIfInBounds_toArray, List.set_cons_zero, List.set_cons_succ]
  refine takeC (i := 5) (v := .pointer (some ⟨w.heap.size, 2, none⟩)) rfl (by kernel_rfl) (by kernel_rfl) (by kernel_rfl) (fun _ _ _ h => h) (Or.inl ⟨by rfl, fun W hW => by go_simp⟩) hS0 ?_
  simp only [Act.put, List.setIfInBounds_toArray, List.set_cons_zero, List.set_cons_succ]
  refine takeC (i := 6) (v := .agg [.int .u64 x2, .int .u64 x3].toArray) rfl (by kernel_rfl) (by kernel_rfl) (by kernel_rfl) (fun _ _ _ h => h) (yieldsIf_load_mid (by rfl) 36 _ rfl (w.heap.size) 2 rfl [.int .u64 x2, .int .u64 x3] _ (fun W hW => range2 hW.one 2 rfl rfl) Tryz.underlying36 rfl (by kernel_rfl)) hS0 ?_
  simp only [Act.put, List.setIfInBounds_toArray, List.set_cons_zero, List.set_cons_succ]
  refine takeC (i := 7) (v := .pointer (some ⟨w.heap.size + 1, 2, none⟩)) rfl (by kernel_rfl) (by kernel_rfl) (by kernel_rfl) (fun _ _ _ h => h) (Or.inl ⟨by rfl, fun W hW => by go_simp⟩) hS0 ?_
  simp only [Act.put, List.setIfInBounds_toArray, List.set_cons_zero, List.set_cons_succ]
  refine takeC (i := 8) (v := .agg [.int .u64 y2, .int .u64 y3].toArray) rfl (by kernel_rfl) (by kernel_rfl) (by kernel_rfl) (fun _ _ _ h => h) (yieldsIf_load_mid (by rfl) 36 _ rfl (w.heap.size + 1) 2 rfl [.int .u64 y2, .int .u64 y3] _ (fun W hW => range2 hW.two 2 rfl rfl) Tryz.underlying36 rfl (by kernel_rfl)) hS0 ?_
  simp only [Act.put, List.setIfInBounds_toArray, List.set_cons_zero, List.set_cons_succ]
  refine takeC (i := 10) (v := .pointer (some ⟨w.heap.size, 4, none⟩)) rfl (by kernel_rfl) (by kernel_rfl) (by kernel_rfl) (fun _ _ _ h => h) (Or.inl ⟨by rfl, fun W hW => by go_simp⟩) hS0 ?_
  simp only [Act.put, List.setIfInBounds_toArray, List.set_cons_zero, List.set_cons_succ]
  refine takeC (i := 11) (v := .agg [.int .u64 x4, .int .u64 x5].toArray) rfl (by kernel_rfl) (by kernel_rfl) (by kernel_rfl) (fun _ _ _ h => h) (yieldsIf_load_mid (by rfl) 36 _ rfl (w.heap.size) 4 rfl [.int .u64 x4, .int .u64 x5] _ (fun W hW => range2 hW.one 4 rfl rfl) Tryz.underlying36 rfl (by kernel_rfl)) hS0 ?_
  simp only [Act.put, List.setIfInBounds_toArray, List.set_cons_zero, List.set_cons_succ]
  refine takeC (i := 12) (v := .pointer (some ⟨w.heap.size + 1, 4, none⟩)) rfl (by kernel_rfl) (by kernel_rfl) (by kernel_rfl) (fun _ _ _ h => h) (Or.inl ⟨by rfl, fun W hW => by go_simp⟩) hS0 ?_
  simp only [Act.put, List.setIfInBounds_toArray, List.set_cons_zero, List.set_cons_succ]
  refine takeC (i := 13) (v := .agg [.int .u64 y4, .int .u64 y5].toArray) rfl (by kernel_rfl) (by kernel_rfl) (by kernel_rfl) (fun _ _ _ h => h) (yieldsIf_load_mid (by rfl) 36 _ rfl (w.heap.size + 1) 4 rfl [.int .u64 y4, .int .u64 y5] _ (fun W hW => range2 hW.two 4 rfl rfl) Tryz.underlying36 rfl (by kernel_rfl)) hS0 ?_
  simp only [Act.put, List.setIfInBounds_toArray, List.set_cons_zero, List.set_cons_succ]
  refine takeC (i := 15) (v := .slice mo N cm) rfl (by kernel_rfl) (by kernel_rfl) (by kernel_rfl) (fun _ _ _ h => h) (Or.inl ⟨by rfl, fun W hW => by go_simp⟩) hS0 ?_
  simp only [Act.put, List.setIfInBounds_toArray, List.set_cons_zero, List.set_cons_succ]
  refine onlyC (i := 4) rfl (by kernel_rfl) (fun K hK => ?_)
  go_simp
  go_at_call 36
  (with_reducible refine (P1 _).mono ?_)
  clear P1
  rintro x v2 ⟨rfl, b2⟩
  have hS1 := Tal2.below hS0 b2
  refine hK _ _ ⟨hS1, ?_⟩
  clear hK K
  refine onlyC (i := 9) rfl (by kernel_rfl) (fun K hK => ?_)
  go_simp
  go_at_call 36
  (with_reducible refine (P2 _).mono ?_)
  clear P2
  rintro x v3 ⟨rfl, b3⟩
  have hS2 := Tal2.below hS1 b3
  refine hK _ _ ⟨hS2, ?_⟩
  clear hK K
  refine onlyC (i := 14) rfl (by kernel_rfl) (fun K hK => ?_)
  go_simp
  go_at_call 36
  (with_reducible refine (P3 _).mono ?_)
  clear P3
  rintro x v4 ⟨rfl, b4⟩
  have hS3 := Tal2.below hS2 b4
  refine hK _ _ ⟨hS3, ?_⟩
  clear hK K
  refine takeC (i := 16) (v := .agg (talL z0 z1 z2 z3 z4 z5 mo N cm).toArray) rfl (by kernel_rfl) (by kernel_rfl) (by kernel_rfl) (fun _ _ _ h => h) (Or.inl ⟨by rfl, fun W hW => by go_simp; rfl⟩) hS3 ?_
  simp only [Act.put, List.setIfInBounds_toArray, List.set_cons_zero, List.set_cons_succ]
  have bb : Below w4.heap.size w4 v4 := ((Below.refl w4.heap.size w4).drew.trans b2).trans ((b3.mono b2.size).trans (b4.mono (Nat.le_trans b2.size b3.size)))
  refine onlyC (i := 17) rfl (by kernel_rfl) (fun K hK => ?_)
  refine step_stW (by rfl) 39 _ _ (by rfl) (w.heap.size + 1 + 1) (talL 0 0 0 0 0 0 none 0 0) (talL z0 z1 z2 z3 z4 z5 mo N cm) 39 (T4.out.res.below bb T4.out.res.lt) (by rfl) (by rfl) (by rfl) (by kernel_rfl) talL_one ?_
  intro v5 n5 u5
  have hS5 : Tal2 v5 w.heap.size x0 x1 x2 x3 x4 x5 ad n ca y0 y1 y2 y3 y4 y5 bd m cb := hS3.upd u5 (by omega) (by omega)
  refine hK _ _ ⟨hS5, ?_⟩
  clear hK K
  refine takeC (i := 18) (v := .int .i64 0) rfl (by kernel_rfl) (by kernel_rfl) (by kernel_rfl) (fun _ _ _ h => h) (Or.inl ⟨by rfl, fun W hW => by go_simp⟩) hS5 ?_
  simp only [Act.put, List.setIfInBounds_toArray, List.set_cons_zero, List.set_cons_succ]
  have HM5 : SkAt v5 mo N (fun i => f i - g i) := (HM4.out.below bb).upd u5 (fun a ha e => by have h2 := own_fresh HO4.out a ha; rw [World.size_alloc, World.size_alloc, World.size_alloc] at h2; omega)
  have HO5 : OwnBar w.heap.size v5 (.slice mo N cm) (barsF (fun i => f i - g i)) := own_base ((OwnBar.below HO4.out bb).upd u5 (fun j hj e => by rw [World.size_alloc, World.size_alloc, World.size_alloc] at hj; omega)) (by rw [World.size_alloc, World.size_alloc, World.size_alloc]; omega)
  have HB5 : Below w.heap.size w v5 := (HB4.out.trans (bb.mono HB4.out.size)).trans (u5.below (by have := HB4.out.size; have := bb.size; omega) (fun k hk e => by omega))
  refine wpAnyH_done (by kernel_rfl) ?_ _
  go_wp2
  (try simp only [Exit.inBlock, Exit.then])
  refine bodyPost_ret (v := .tuple #[.agg (talL z0 z1 z2 z3 z4 z5 mo N cm).toArray, .int .i64 0]) ?_ rfl ⟨mo, N, cm, rfl, HM5, HB5, HO5⟩
  rw [results_cell_tmp rfl]
  have hld := blk_loadT n5
  simp [asAddr, Result.andThen, hld]
end Go.Proofs.YtkpkdikogoalkaaGreatDoor.sk

namespace Go.Proofs.YtkpkdikogoalkaaGreatDoor.sk
open Go.RowKit
set_option maxRecDepth 100000

set_option maxHeartbeats 4000000 in
theorem cMinus_bars (ad bd : Option Addr) (n m ca cb : Nat) (f g : Nat → Nat) (c e k c' e' k' : Nat) (w : World) (hA : SkAt w ad n f) (hB : SkAt w bd m g) (hx : ∃ i, i < 1920 ∧ f i < g i) :
    Calls Tryz.prog 15 #[talV c e k ad n ca, talV c' e' k' bd m cb] w (TalN 141 w) := by
  have B3 : ∀ o1 o2 o3 : Obj, Below w.heap.size w (((w.alloc o1).alloc o2).alloc o3) := fun o1 o2 o3 => ((((Below.refl _ _).alloc (Nat.le_refl _) _).alloc (by simp) _).alloc (by simp; omega) _)
  have MG := fun W (h : Below w.heap.size w W) => less_not ad bd n m ca cb f g W (hA.below h) (hB.below h) hx
  have T3 : Hid _ := Tal3.new w (hi64 c) (lo64 c) (hi64 e) (lo64 e) (hi64 k) (lo64 k) ad n ca (hi64 c') (lo64 c') (hi64 e') (lo64 e') (hi64 k') (lo64 k') bd m cb
  unfold TalN talV
  clear hA hB hx
  generalize (hi64 c : Int) = x0 at *
  generalize (lo64 c : Int) = x1 at *
  generalize (hi64 e : Int) = x2 at *
  generalize (lo64 e : Int) = x3 at *
  generalize (hi64 k : Int) = x4 at *
  generalize (lo64 k : Int) = x5 at *
  generalize (hi64 c' : Int) = y0 at *
  generalize (lo64 c' : Int) = y1 at *
  generalize (hi64 e' : Int) = y2 at *
  generalize (lo64 e' : Int) = y3 at *
  generalize (hi64 k' : Int) = y4 at *
  generalize (lo64 k' : Int) = y5 at *
  simp only [talL] at T3 ⊢
  go_enter Tryz.func15, Tryz.ntmps15
  go_wp2_with (first
    | (go_at_call 34; (with_reducible refine (MG _ (B3 _ _ _)).mono ?_); clear MG; rintro x w1 ⟨rfl, b1⟩; have HB1 : Hid _ := (B3 _ _ _).trans (b1.mono (B3 _ _ _).size); have T1 : Hid _ := Tal3.below T3.out b1; clear b1)
    | (refine wpList_stW rfl 39 _ _ rfl (w.heap.size + 1 + 1) (talL 0 0 0 0 0 0 none 0 0) (talL 0 0 0 0 0 0 none 0 0) 39 T1.out.res rfl rfl rfl (by kernel_rfl) talL_one ?_; intro v5 n5 u5))
  (try simp only [Exit.inBlock, Exit.then])
  refine bodyPost_ret (v := .tuple #[.agg (talL 0 0 0 0 0 0 none 0 0).toArray, .int .i64 141]) ?_ rfl ⟨rfl, HB1.out.trans (u5.below HB1.out.size (fun k hk e => by omega))⟩
  rw [results_cell_tmp rfl]
  have hld := blk_loadT n5
  simp [asAddr, Result.andThen, hld]
set_option maxHeartbeats 4000000 in
theorem cMinus_n1 (ad bd : Option Addr) (n m ca cb : Nat) (f g : Nat → Nat) (c e k c' e' k' : Nat) (w : World) (hA : SkAt w ad n f) (hB : SkAt w bd m g) (hle : ∀ i, i < 1920 → g i ≤ f i) (hx : c < c') :
    Calls Tryz.prog 15 #[talV c e k ad n ca, talV c' e' k' bd m cb] w (TalN 141 w) := by
  have B3 : ∀ o1 o2 o3 : Obj, Below w.heap.size w (((w.alloc o1).alloc o2).alloc o3) := fun o1 o2 o3 => ((((Below.refl _ _).alloc (Nat.le_refl _) _).alloc (by simp) _).alloc (by simp; omega) _)
  have MG := fun W (h : Below w.heap.size w W) => less_skQ ad bd n m ca cb f g W (hA.below h) (hB.below h) hle
  have T3 : Hid _ := Tal3.new w (hi64 c) (lo64 c) (hi64 e) (lo64 e) (hi64 k) (lo64 k) ad n ca (hi64 c') (lo64 c') (hi64 e') (lo64 e') (hi64 k') (lo64 k') bd m cb
  have H1 := fun W => cholds_any c c' W
  rw [show holB c c' = false from decide_eq_false (by omega)] at H1
  unfold natV at H1
  unfold TalN talV
  clear hA hB hx hle
  generalize (hi64 c : Int) = x0 at *
  generalize (lo64 c : Int) = x1 at *
  generalize (hi64 e : Int) = x2 at *
  generalize (lo64 e : Int) = x3 at *
  generalize (hi64 k : Int) = x4 at *
  generalize (lo64 k : Int) = x5 at *
  generalize (hi64 c' : Int) = y0 at *
  generalize (lo64 c' : Int) = y1 at *
  generalize (hi64 e' : Int) = y2 at *
  generalize (lo64 e' : Int) = y3 at *
  generalize (hi64 k' : Int) = y4 at *
  generalize (lo64 k' : Int) = y5 at *
  simp only [talL] at T3 ⊢
  go_enter Tryz.func15, Tryz.ntmps15
  go_wp2_with (first
    | (go_at_call 34; (with_reducible refine (MG _ (B3 _ _ _)).mono ?_); clear MG; rintro x w1 ⟨mo, N, cm, rfl, HM, b1, HO⟩; have HB1 : Hid _ := (B3 _ _ _).trans (b1.mono (B3 _ _ _).size); have T1 : Hid _ := Tal3.below T3.out b1; obtain ⟨q0, q1, q2, q3, q4, q5, q6, q7, q8, q9, q10, q11⟩ := T1.out.two.cells; clear b1)
    | (go_at_call 35; (with_reducible refine (H1 _).mono ?_); clear H1; rintro x w2 ⟨rfl, b2⟩; have HB2 : Hid _ := HB1.out.trans (b2.mono HB1.out.size); have T2 : Hid _ := Tal3.below T1.out b2; have HM2 : Hid _ := SkAt.below HM.out b2; have HO2 : Hid _ := OwnBar.below HO.out b2; clear q0 q1 q2 q3 q4 q5 q6 q7 q8 q9 q10 q11; obtain ⟨q0, q1, q2, q3, q4, q5, q6, q7, q8, q9, q10, q11⟩ := T2.out.two.cells; clear b2 T1)
    | (refine wpList_stW rfl 39 _ _ rfl (w.heap.size + 1 + 1) (talL 0 0 0 0 0 0 none 0 0) (talL 0 0 0 0 0 0 none 0 0) 39 T2.out.res rfl rfl rfl (by kernel_rfl) talL_one ?_; intro v5 n5 u5))
  (try simp only [Exit.inBlock, Exit.then])
  refine bodyPost_ret (v := .tuple #[.agg (talL 0 0 0 0 0 0 none 0 0).toArray, .int .i64 141]) ?_ rfl ⟨rfl, HB2.out.trans (u5.below HB2.out.size (fun k hk e => by omega))⟩
  rw [results_cell_tmp rfl]
  have hld := blk_loadT n5
  simp [asAddr, Result.andThen, hld]
set_option maxHeartbeats 4000000 in
theorem cMinus_n2 (ad bd : Option Addr) (n m ca cb : Nat) (f g : Nat → Nat) (c e k c' e' k' : Nat) (w : World) (hA : SkAt w ad n f) (hB : SkAt w bd m g) (hle : ∀ i, i < 1920 → g i ≤ f i) (l1 : c' ≤ c) (hx : e < e') :
    Calls Tryz.prog 15 #[talV c e k ad n ca, talV c' e' k' bd m cb] w (TalN 141 w) := by
  have B3 : ∀ o1 o2 o3 : Obj, Below w.heap.size w (((w.alloc o1).alloc o2).alloc o3) := fun o1 o2 o3 => ((((Below.refl _ _).alloc (Nat.le_refl _) _).alloc (by simp) _).alloc (by simp; omega) _)
  have MG := fun W (h : Below w.heap.size w W) => less_skQ ad bd n m ca cb f g W (hA.below h) (hB.below h) hle
  have T3 : Hid _ := Tal3.new w (hi64 c) (lo64 c) (hi64 e) (lo64 e) (hi64 k) (lo64 k) ad n ca (hi64 c') (lo64 c') (hi64 e') (lo64 e') (hi64 k') (lo64 k') bd m cb
  have H1 := fun W => cholds_any c c' W
  rw [show holB c c' = true from decide_eq_true l1] at H1
  have H2 := fun W => cholds_any e e' W
  rw [show holB e e' = false from decide_eq_false (by omega)] at H2
  unfold natV at H1 H2
  clear l1
  unfold TalN talV
  clear hA hB hx hle
  generalize (hi64 c : Int) = x0 at *
  generalize (lo64 c : Int) = x1 at *
  generalize (hi64 e : Int) = x2 at *
  generalize (lo64 e : Int) = x3 at *
  generalize (hi64 k : Int) = x4 at *
  generalize (lo64 k : Int) = x5 at *
  generalize (hi64 c' : Int) = y0 at *
  generalize (lo64 c' : Int) = y1 at *
  generalize (hi64 e' : Int) = y2 at *
  generalize (lo64 e' : Int) = y3 at *
  generalize (hi64 k' : Int) = y4 at *
  generalize (lo64 k' : Int) = y5 at *
  simp only [talL] at T3 ⊢
  go_enter Tryz.func15, Tryz.ntmps15
  go_wp2_with (first
    | (go_at_call 34; (with_reducible refine (MG _ (B3 _ _ _)).mono ?_); clear MG; rintro x w1 ⟨mo, N, cm, rfl, HM, b1, HO⟩; have HB1 : Hid _ := (B3 _ _ _).trans (b1.mono (B3 _ _ _).size); have T1 : Hid _ := Tal3.below T3.out b1; obtain ⟨q0, q1, q2, q3, q4, q5, q6, q7, q8, q9, q10, q11⟩ := T1.out.two.cells; clear b1)
    | (go_at_call 35; (with_reducible refine (H1 _).mono ?_); clear H1; rintro x w2 ⟨rfl, b2⟩; have HB2 : Hid _ := HB1.out.trans (b2.mono HB1.out.size); have T2 : Hid _ := Tal3.below T1.out b2; have HM2 : Hid _ := SkAt.below HM.out b2; have HO2 : Hid _ := OwnBar.below HO.out b2; clear q0 q1 q2 q3 q4 q5 q6 q7 q8 q9 q10 q11; obtain ⟨q0, q1, q2, q3, q4, q5, q6, q7, q8, q9, q10, q11⟩ := T2.out.two.cells; clear b2 T1)
    | (go_at_call 35; (with_reducible refine (H2 _).mono ?_); clear H2; rintro x w3 ⟨rfl, b3⟩; have HB3 : Hid _ := HB2.out.trans (b3.mono HB2.out.size); have T5 : Hid _ := Tal3.below T2.out b3; have HM3 : Hid _ := SkAt.below HM2.out b3; have HO3 : Hid _ := OwnBar.below HO2.out b3; clear b3 T2 T3; have T3 := T5; clear T5; clear q0 q1 q2 q3 q4 q5 q6 q7 q8 q9 q10 q11; obtain ⟨q0, q1, q2, q3, q4, q5, q6, q7, q8, q9, q10, q11⟩ := T3.out.two.cells)
    | (refine wpList_stW rfl 39 _ _ rfl (w.heap.size + 1 + 1) (talL 0 0 0 0 0 0 none 0 0) (talL 0 0 0 0 0 0 none 0 0) 39 T3.out.res rfl rfl rfl (by kernel_rfl) talL_one ?_; intro v5 n5 u5))
  (try simp only [Exit.inBlock, Exit.then])
  refine bodyPost_ret (v := .tuple #[.agg (talL 0 0 0 0 0 0 none 0 0).toArray, .int .i64 141]) ?_ rfl ⟨rfl, HB3.out.trans (u5.below HB3.out.size (fun k hk e => by omega))⟩
  rw [results_cell_tmp rfl]
  have hld := blk_loadT n5
  simp [asAddr, Result.andThen, hld]
set_option maxHeartbeats 4000000 in
theorem cMinus_n3 (ad bd : Option Addr) (n m ca cb : Nat) (f g : Nat → Nat) (c e k c' e' k' : Nat) (w : World) (hA : SkAt w ad n f) (hB : SkAt w bd m g) (hle : ∀ i, i < 1920 → g i ≤ f i) (l1 : c' ≤ c) (l2 : e' ≤ e) (hx : k < k') :
    Calls Tryz.prog 15 #[talV c e k ad n ca, talV c' e' k' bd m cb] w (TalN 141 w) := by
  have B3 : ∀ o1 o2 o3 : Obj, Below w.heap.size w (((w.alloc o1).alloc o2).alloc o3) := fun o1 o2 o3 => ((((Below.refl _ _).alloc (Nat.le_refl _) _).alloc (by simp) _).alloc (by simp; omega) _)
  have MG := fun W (h : Below w.heap.size w W) => less_skQ ad bd n m ca cb f g W (hA.below h) (hB.below h) hle
  have T3 : Hid _ := Tal3.new w (hi64 c) (lo64 c) (hi64 e) (lo64 e) (hi64 k) (lo64 k) ad n ca (hi64 c') (lo64 c') (hi64 e') (lo64 e') (hi64 k') (lo64 k') bd m cb
  have H1 := fun W => cholds_any c c' W
  rw [show holB c c' = true from decide_eq_true l1] at H1
  have H2 := fun W => cholds_any e e' W
  rw [show holB e e' = true from decide_eq_true l2] at H2
  have H3 := fun W => cholds_any k k' W
  rw [show holB k k' = false from decide_eq_false (by omega)] at H3
  unfold natV at H1 H2 H3
  clear l1 l2
  unfold TalN talV
  clear hA hB hx hle
  generalize (hi64 c : Int) = x0 at *
  generalize (lo64 c : Int) = x1 at *
  generalize (hi64 e : Int) = x2 at *
  generalize (lo64 e : Int) = x3 at *
  generalize (hi64 k : Int) = x4 at *
  generalize (lo64 k : Int) = x5 at *
  generalize (hi64 c' : Int) = y0 at *
  generalize (lo64 c' : Int) = y1 at *
  generalize (hi64 e' : Int) = y2 at *
  generalize (lo64 e' : Int) = y3 at *
  generalize (hi64 k' : Int) = y4 at *
  generalize (lo64 k' : Int) = y5 at *
  simp only [talL] at T3 ⊢
  go_enter Tryz.func15, Tryz.ntmps15
  go_wp2_with (first
    | (go_at_call 34; (with_reducible refine (MG _ (B3 _ _ _)).mono ?_); clear MG; rintro x w1 ⟨mo, N, cm, rfl, HM, b1, HO⟩; have HB1 : Hid _ := (B3 _ _ _).trans (b1.mono (B3 _ _ _).size); have T1 : Hid _ := Tal3.below T3.out b1; obtain ⟨q0, q1, q2, q3, q4, q5, q6, q7, q8, q9, q10, q11⟩ := T1.out.two.cells; clear b1)
    | (go_at_call 35; (with_reducible refine (H1 _).mono ?_); clear H1; rintro x w2 ⟨rfl, b2⟩; have HB2 : Hid _ := HB1.out.trans (b2.mono HB1.out.size); have T2 : Hid _ := Tal3.below T1.out b2; have HM2 : Hid _ := SkAt.below HM.out b2; have HO2 : Hid _ := OwnBar.below HO.out b2; clear q0 q1 q2 q3 q4 q5 q6 q7 q8 q9 q10 q11; obtain ⟨q0, q1, q2, q3, q4, q5, q6, q7, q8, q9, q10, q11⟩ := T2.out.two.cells; clear b2 T1)
    | (go_at_call 35; (with_reducible refine (H2 _).mono ?_); clear H2; rintro x w3 ⟨rfl, b3⟩; have HB3 : Hid _ := HB2.out.trans (b3.mono HB2.out.size); have T5 : Hid _ := Tal3.below T2.out b3; have HM3 : Hid _ := SkAt.below HM2.out b3; have HO3 : Hid _ := OwnBar.below HO2.out b3; clear b3 T2 T3; have T3 := T5; clear T5; clear q0 q1 q2 q3 q4 q5 q6 q7 q8 q9 q10 q11; obtain ⟨q0, q1, q2, q3, q4, q5, q6, q7, q8, q9, q10, q11⟩ := T3.out.two.cells)
    | (go_at_call 35; (with_reducible refine (H3 _).mono ?_); clear H3; rintro x w4 ⟨rfl, b4⟩; have HB4 : Hid _ := HB3.out.trans (b4.mono HB3.out.size); have T4 : Hid _ := Tal3.below T3.out b4; have HM4 : Hid _ := SkAt.below HM3.out b4; have HO4 : Hid _ := OwnBar.below HO3.out b4; clear q0 q1 q2 q3 q4 q5 q6 q7 q8 q9 q10 q11; clear b4 T3)
    | (refine wpList_stW rfl 39 _ _ rfl (w.heap.size + 1 + 1) (talL 0 0 0 0 0 0 none 0 0) (talL 0 0 0 0 0 0 none 0 0) 39 T4.out.res rfl rfl rfl (by kernel_rfl) talL_one ?_; intro v5 n5 u5))
  (try simp only [Exit.inBlock, Exit.then])
  refine bodyPost_ret (v := .tuple #[.agg (talL 0 0 0 0 0 0 none 0 0).toArray, .int .i64 141]) ?_ rfl ⟨rfl, HB4.out.trans (u5.below HB4.out.size (fun k hk e => by omega))⟩
  rw [results_cell_tmp rfl]
  have hld := blk_loadT n5
  simp [asAddr, Result.andThen, hld]
/-- Minus of what there is not: refused. -/
theorem cMinus_not (ad bd : Option Addr) (n m ca cb : Nat) (f g : Nat → Nat) (c e k c' e' k' : Nat) (w : World) (hA : SkAt w ad n f) (hB : SkAt w bd m g) (h : ¬ ((∀ i, i < 1920 → g i ≤ f i) ∧ c' ≤ c ∧ e' ≤ e ∧ k' ≤ k)) :
    Calls Tryz.prog 15 #[talV c e k ad n ca, talV c' e' k' bd m cb] w (TalN 141 w) := by
  by_cases h0 : ∀ i, i < 1920 → g i ≤ f i
  · by_cases h1 : c' ≤ c
    · by_cases h2 : e' ≤ e
      · by_cases h3 : k' ≤ k
        · exact absurd ⟨h0, h1, h2, h3⟩ h
        · exact cMinus_n3 ad bd n m ca cb f g c e k c' e' k' w hA hB h0 h1 h2 (by omega)
      · exact cMinus_n2 ad bd n m ca cb f g c e k c' e' k' w hA hB h0 h1 (by omega)
    · exact cMinus_n1 ad bd n m ca cb f g c e k c' e' k' w hA hB h0 (by omega)
  · have : ∃ i, i < 1920 ∧ f i < g i := by
      refine Classical.byContradiction fun hn => h0 fun i hi => ?_
      rcases Nat.lt_or_ge (f i) (g i) with h1 | h1
      · exact absurd ⟨i, hi, h1⟩ hn
      · exact h1
    exact cMinus_bars ad bd n m ca cb f g c e k c' e' k' w hA hB this
end Go.Proofs.YtkpkdikogoalkaaGreatDoor.sk
