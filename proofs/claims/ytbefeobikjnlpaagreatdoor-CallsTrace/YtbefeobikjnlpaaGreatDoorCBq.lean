/-
  Merged: CB, CC.
-/
import Derived.Test.YtbefeobikjnlpaaGreatDoorCHq
import Derived.Test.YtbefeobikjnlpaaGreatDoorCMq
namespace Go.Proofs.YtbefeobikjnlpaaGreatDoor.sk
open Go.RowKit
set_option maxRecDepth 100000

set_option maxHeartbeats 4000000 in
theorem cPlus_ok (ad bd : Option Addr) (n m ca cb : Nat) (f g : Nat → Nat) (c e k c' e' k' : Nat) (w : World) (hA : SkAt w ad n f) (hB : SkAt w bd m g) (b1 : c ≤ top128) (b2 : e ≤ top128) (b3 : k ≤ top128) (b4 : c' ≤ top128) (b5 : e' ≤ top128) (b6 : k' ≤ top128) :
    Calls Tryz.prog 17 #[talV c e k ad n ca, talV c' e' k' bd m cb] w (TalP (addT c c') (addT e e') (addT k k') (minF f g) w) := by
  have B3 : ∀ o1 o2 o3 : Obj, Below w.heap.size w (((w.alloc o1).alloc o2).alloc o3) := fun o1 o2 o3 => ((((Below.refl _ _).alloc (Nat.le_refl _) _).alloc (by simp) _).alloc (by simp; omega) _)
  have MG := fun W (h : Below w.heap.size w W) => merge_skQ ad bd n m ca cb f g W (hA.below h) (hB.below h)
  have T3 : Hid _ := Tal3.new w (hi64 c) (lo64 c) (hi64 e) (lo64 e) (hi64 k) (lo64 k) ad n ca (hi64 c') (lo64 c') (hi64 e') (lo64 e') (hi64 k') (lo64 k') bd m cb
  have P1 := fun W => cplus_any c c' b1 b4 W
  have P2 := fun W => cplus_any e e' b2 b5 W
  have P3 := fun W => cplus_any k k' b3 b6 W
  unfold natV at P1 P2 P3
  unfold TalP talV
  clear hA hB b1 b2 b3 b4 b5 b6
  generalize (hi64 c : Int) = x0 at *
  generalize (lo64 c : Int) = x1 at *
  generalize (hi64 e : Int) = x2 at *
  generalize (lo64 e : Int) = x3 at *
  generalize (hi64 k : Int) = x4 at *
  generalize (lo64 k : Int) = x5 at *
  generalize (hi64 c' : Int) = y0 at *
  generalize (lo64 c' : Int) = y1 at *
  generalize (hi64 e' : Int) = y2 at *
  generalize (lo64 e' : Int) = y3 at *
  generalize (hi64 k' : Int) = y4 at *
  generalize (lo64 k' : Int) = y5 at *
  generalize (hi64 (addT c c') : Int) = z0 at *
  generalize (lo64 (addT c c') : Int) = z1 at *
  generalize (hi64 (addT e e') : Int) = z2 at *
  generalize (lo64 (addT e e') : Int) = z3 at *
  generalize (hi64 (addT k k') : Int) = z4 at *
  generalize (lo64 (addT k k') : Int) = z5 at *
  simp only [talL] at T3 ⊢
  go_enter Tryz.func17, Tryz.ntmps17
  go_wp2_with (first
    | (go_at_call 37; (with_reducible refine (MG _ (B3 _ _ _)).mono ?_); clear MG; rintro x w1 ⟨mo, N, cm, rfl, HM, b1, HO⟩; have HB1 : Hid _ := (B3 _ _ _).trans (b1.mono (B3 _ _ _).size); have T1 : Hid _ := Tal3.below T3.out b1; have HF : Hid _ := own_fresh HO.out; clear b1))
  refine wp_region_held (S := fun W => Tal2 W w.heap.size x0 x1 x2 x3 x4 x5 ad n ca y0 y1 y2 y3 y4 y5 bd m cb) (by kernel_rfl) ?_
  change wpAnyH _ _ _ _ _ _ _ _ (World.drew _)
  have hS0 : Tal2 w1.drew w.heap.size x0 x1 x2 x3 x4 x5 ad n ca y0 y1 y2 y3 y4 y5 bd m cb := ⟨T1.out.two.one, T1.out.two.two⟩
  refine takeC (i := 0) (v := .pointer (some ⟨w.heap.size, 0, none⟩)) rfl (by kernel_rfl) (by kernel_rfl) (by kernel_rfl) (fun _ _ _ h => h) (Or.inl ⟨by rfl, fun W hW => by go_simp⟩) hS0 ?_
  simp only [Act.put, List.setIfInBounds_toArray, List.set_cons_zero, List.set_cons_succ]
  refine takeC (i := 1) (v := .agg [.int .u64 x0, .int .u64 x1].toArray) rfl (by kernel_rfl) (by kernel_rfl) (by kernel_rfl) (fun _ _ _ h => h) (yieldsIf_load_mid (by rfl) 40 _ rfl (w.heap.size) 0 rfl [.int .u64 x0, .int .u64 x1] _ (fun W hW => range2 hW.one 0 rfl rfl) Tryz.underlying40 rfl (by kernel_rfl)) hS0 ?_
  simp only [Act.put, List.setIfInBounds_toArray, List.set_cons_zero, List.set_cons_succ]
  refine takeC (i := 2) (v := .pointer (some ⟨w.heap.size + 1, 0, none⟩)) rfl (by kernel_rfl) (by kernel_rfl) (by kernel_rfl) (fun _ _ _ h => h) (Or.inl ⟨by rfl, fun W hW => by go_simp⟩) hS0 ?_
  simp only [Act.put, List.setIfInBounds_toArray, List.set_cons_zero, List.set_cons_succ]
  refine takeC (i := 3) (v := .agg [.int .u64 y0, .int .u64 y1].toArray) rfl (by kernel_rfl) (by kernel_rfl) (by kernel_rfl) (fun _ _ _ h => h) (yieldsIf_load_mid (by rfl) 40 _ rfl (w.heap.size + 1) 0 rfl [.int .u64 y0, .int .u64 y1] _ (fun W hW => range2 hW.two 0 rfl rfl) Tryz.underlying40 rfl (by kernel_rfl)) hS0 ?_
  simp only [Act.put, List.setIfInBounds_toArray, List.set_cons_zero, List.set_cons_succ]
  refine takeC (i := 5) (v := .pointer (some ⟨w.heap.size, 2, none⟩)) rfl (by kernel_rfl) (by kernel_rfl) (by kernel_rfl) (fun _ _ _ h => h) (Or.inl ⟨by rfl, fun W hW => by go_simp⟩) hS0 ?_
  simp only [Act.put, List.setIfInBounds_toArray, List.set_cons_zero, List.set_cons_succ]
  refine takeC (i := 6) (v := .agg [.int .u64 x2, .int .u64 x3].toArray) rfl (by kernel_rfl) (by kernel_rfl) (by kernel_rfl) (fun _ _ _ h => h) (yieldsIf_load_mid (by rfl) 40 _ rfl (w.heap.size) 2 rfl [.int .u64 x2, .int .u64 x3] _ (fun W hW => range2 hW.one 2 rfl rfl) Tryz.underlying40 rfl (by kernel_rfl)) hS0 ?_
  simp only [Act.put, List.setIfInBounds_toArray, List.set_cons_zero, List.set_cons_succ]
  refine takeC (i := 7) (v := .pointer (some ⟨w.heap.size + 1, 2, none⟩)) rfl (by kernel_rfl) (by kernel_rfl) (by kernel_rfl) (fun _ _ _ h => h) (Or.inl ⟨by rfl, fun W hW => by go_simp⟩) hS0 ?_
  simp only [Act.put, List.setIfInBounds_toArray, List.set_cons_zero, List.set_cons_succ]
  refine takeC (i := 8) (v := .agg [.int .u64 y2, .int .u64 y3].toArray) rfl (by kernel_rfl) (by kernel_rfl) (by kernel_rfl) (fun _ _ _ h => h) (yieldsIf_load_mid (by rfl) 40 _ rfl (w.heap.size + 1) 2 rfl [.int .u64 y2, .int .u64 y3] _ (fun W hW => range2 hW.two 2 rfl rfl) Tryz.underlying40 rfl (by kernel_rfl)) hS0 ?_
  simp only [Act.put, List.setIfInBounds_toArray, List.set_cons_zero, List.set_cons_succ]
  refine takeC (i := 10) (v := .pointer (some ⟨w.heap.size, 4, none⟩)) rfl (by kernel_rfl) (by kernel_rfl) (by kernel_rfl) (fun _ _ _ h => h) (Or.inl ⟨by rfl, fun W hW => by go_simp⟩) hS0 ?_
  simp only [Act.put, List.setIfInBounds_toArray, List.set_cons_zero, List.set_cons_succ]
  refine takeC (i := 11) (v := .agg [.int .u64 x4, .int .u64 x5].toArray) rfl (by kernel_rfl) (by kernel_rfl) (by kernel_rfl) (fun _ _ _ h => h) (yieldsIf_load_mid (by rfl) 40 _ rfl (w.heap.size) 4 rfl [.int .u64 x4, .int .u64 x5] _ (fun W hW => range2 hW.one 4 rfl rfl) Tryz.underlying40 rfl (by kernel_rfl)) hS0 ?_
  simp only [Act.put, List.setIfInBounds_toArray, List.set_cons_zero, List.set_cons_succ]
  refine takeC (i := 12) (v := .pointer (some ⟨w.heap.size + 1, 4, none⟩)) rfl (by kernel_rfl) (by kernel_rfl) (by kernel_rfl) (fun _ _ _ h => h) (Or.inl ⟨by rfl, fun W hW => by go_simp⟩) hS0 ?_
  simp only [Act.put, List.setIfInBounds_toArray, List.set_cons_zero, List.set_cons_succ]
  refine takeC (i := 13) (v := .agg [.int .u64 y4, .int .u64 y5].toArray) rfl (by kernel_rfl) (by kernel_rfl) (by kernel_rfl) (fun _ _ _ h => h) (yieldsIf_load_mid (by rfl) 40 _ rfl (w.heap.size + 1) 4 rfl [.int .u64 y4, .int .u64 y5] _ (fun W hW => range2 hW.two 4 rfl rfl) Tryz.underlying40 rfl (by kernel_rfl)) hS0 ?_
  simp only [Act.put, List.setIfInBounds_toArray, List.set_cons_zero, List.set_cons_succ]
  refine takeC (i := 15) (v := .slice mo N cm) rfl (by kernel_rfl) (by kernel_rfl) (by kernel_rfl) (fun _ _ _ h => h) (Or.inl ⟨by rfl, fun W hW => by go_simp⟩) hS0 ?_
  simp only [Act.put, List.setIfInBounds_toArray, List.set_cons_zero, List.set_cons_succ]
  refine onlyC (i := 4) rfl (by kernel_rfl) (fun K hK => ?_)
  go_simp
  go_at_call 38
  (with_reducible refine (P1 _).mono ?_)
  clear P1
  rintro x v2 ⟨rfl, b2⟩
  have hS1 := Tal2.below hS0 b2
  refine hK _ _ ⟨hS1, ?_⟩
  clear hK K
  refine onlyC (i := 9) rfl (by kernel_rfl) (fun K hK => ?_)
  go_simp
  go_at_call 38
  (with_reducible refine (P2 _).mono ?_)
  clear P2
  rintro x v3 ⟨rfl, b3⟩
  have hS2 := Tal2.below hS1 b3
  refine hK _ _ ⟨hS2, ?_⟩
  clear hK K
  refine onlyC (i := 14) rfl (by kernel_rfl) (fun K hK => ?_)
  go_simp
  go_at_call 38
  (with_reducible refine (P3 _).mono ?_)
  clear P3
  rintro x v4 ⟨rfl, b4⟩
  have hS3 := Tal2.below hS2 b4
  refine hK _ _ ⟨hS3, ?_⟩
  clear hK K
  refine takeC (i := 16) (v := .agg (talL z0 z1 z2 z3 z4 z5 mo N cm).toArray) rfl (by kernel_rfl) (by kernel_rfl) (by kernel_rfl) (fun _ _ _ h => h) (Or.inl ⟨by rfl, fun W hW => by go_simp; rfl⟩) hS3 ?_
  simp only [Act.put, List.setIfInBounds_toArray, List.set_cons_zero, List.set_cons_succ]
  have bb : Below w1.heap.size w1 v4 := ((Below.refl w1.heap.size w1).drew.trans b2).trans ((b3.mono b2.size).trans (b4.mono (Nat.le_trans b2.size b3.size)))
  refine onlyC (i := 17) rfl (by kernel_rfl) (fun K hK => ?_)
  refine step_stW (by rfl) 43 _ _ (by rfl) (w.heap.size + 1 + 1) (talL 0 0 0 0 0 0 none 0 0) (talL z0 z1 z2 z3 z4 z5 mo N cm) 43 (T1.out.res.below bb T1.out.res.lt) (by rfl) (by rfl) (by rfl) (by kernel_rfl) talL_one ?_
  intro v5 n5 u5
  have hS5 : Tal2 v5 w.heap.size x0 x1 x2 x3 x4 x5 ad n ca y0 y1 y2 y3 y4 y5 bd m cb := hS3.upd u5 (by omega) (by omega)
  refine hK _ _ ⟨hS5, ?_⟩
  clear hK K
  refine takeC (i := 18) (v := .int .i64 0) rfl (by kernel_rfl) (by kernel_rfl) (by kernel_rfl) (fun _ _ _ h => h) (Or.inl ⟨by rfl, fun W hW => by go_simp⟩) hS5 ?_
  simp only [Act.put, List.setIfInBounds_toArray, List.set_cons_zero, List.set_cons_succ]
  have HM5 : SkAt v5 mo N (minF f g) := (HM.out.below bb).upd u5 (fun a ha e => by have h2 := own_fresh HO.out a ha; rw [World.size_alloc, World.size_alloc, World.size_alloc] at h2; omega)
  have HO5 : OwnBar w.heap.size v5 (.slice mo N cm) (barsF (minF f g)) := own_base ((OwnBar.below HO.out bb).upd u5 (fun j hj e => by rw [World.size_alloc, World.size_alloc, World.size_alloc] at hj; omega)) (by rw [World.size_alloc, World.size_alloc, World.size_alloc]; omega)
  have HB5 : Below w.heap.size w v5 := (HB1.out.trans (bb.mono HB1.out.size)).trans (u5.below (by have := HB1.out.size; have := bb.size; omega) (fun k hk e => by omega))
  refine wpAnyH_done (by kernel_rfl) ?_ _
  go_wp2
  (try simp only [Exit.inBlock, Exit.then])
  refine bodyPost_ret (v := .tuple #[.agg (talL z0 z1 z2 z3 z4 z5 mo N cm).toArray, .int .i64 0]) ?_ rfl ⟨mo, N, cm, rfl, HM5, HB5, HO5⟩
  rw [results_cell_tmp rfl]
  have hld := blk_loadT n5
  simp [asAddr, Result.andThen, hld]
end Go.Proofs.YtbefeobikjnlpaaGreatDoor.sk

namespace Go.Proofs.YtbefeobikjnlpaaGreatDoor.sk
open Go.RowKit
set_option maxRecDepth 100000

end Go.Proofs.YtbefeobikjnlpaaGreatDoor.sk
