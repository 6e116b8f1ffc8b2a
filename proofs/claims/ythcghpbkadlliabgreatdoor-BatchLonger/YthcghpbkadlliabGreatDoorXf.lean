/-
  Xf.
-/
import Derived.Test.YthcghpbkadlliabGreatDoorMa21
import Derived.Test.YthcghpbkadlliabGreatDoorMa19
import Derived.Test.YthcghpbkadlliabGreatDoorMa10
import Derived.Deep.RegionWith
namespace Go.Proofs.YthcghpbkadlliabGreatDoor
open Go.Shelf Go.RowKit
set_option maxRecDepth 100000

/-- A variable that holds the taker. -/
def VarT (w : World) (C T : Nat) : Prop := w.heap[C]? = some (.cells #[.pointer (some ⟨T, 0, none⟩)] 74 (0, 0))
theorem VarT.upd {S : Nat → Prop} {w w' : World} {C T : Nat} (h : VarT w C T) (hu : Upd S w w') (hS : ¬ S C) : VarT w' C T := (hu.block C (lt_of_block h) hS).trans h
/-- What cannot be, hidden from the walk. -/
def Abs : Prop := ∀ n : Nat, Hid (n < n)
theorem Abs.mk (h : False) : Abs := h.elim
theorem Abs.el {p : Prop} (h : Abs) : p := absurd (h 0).out (Nat.lt_irrefl 0)
theorem calls_abs {P : Program} {f : FuncId} {args : Array Value} {w : World} {R : Ending → World → Prop} (h : Abs) : Calls P f args w R := h.el
set_option maxHeartbeats 1000000 in
theorem tkText_b (C T R g : Nat) (K : List Int) (s : Dst) (w : World) (hC : VarT w C T) (hT : TkB w T R) (h : IsR w R g K s.pos) (ht : Tabs w) :
    Calls Tryz.prog 30 #[.pointer (some ⟨C, 0, none⟩)] w fun e w' => PostR R g K w (fun v => .string v) (textD K s) e w' := by
  have c0 : w.cell? ⟨C, 0, none⟩ = some (.pointer (some ⟨T, 0, none⟩)) := cell_of_one hC
  have d0 := hT.c0
  have N := getText_any R g K s.pos 200 w h ht (by omega)
  unfold textD
  generalize textR K s.pos 200 = r at N ⊢
  rcases r with ⟨a, no⟩ | ⟨f, v⟩
  · unfold TextPost at N
    unfold PostR
    simp only at N ⊢
    go_enter Tryz.func30, Tryz.ntmps30
    go_wp2_with (first
      | (go_at_call 32; refine N.mono ?_; clear N; rintro e w2 ⟨p2, rfl, F2, q2, b2⟩)
      | (go_at_call 31; refine (mustS_bad _ p2 _ _ _ F2).mono ?_; rintro e w3 ⟨⟨q3, p3, rfl, G3⟩, b3⟩))
    exact ⟨rfl, ⟨q3, p3, rfl, G3⟩, upd_bel (b2.trans (b3.mono b2.size))⟩
  · unfold TextPost at N
    unfold PostR
    simp only [Dst.to] at N ⊢
    generalize strI ((K.drop f).take v) = x at N ⊢
    go_enter Tryz.func30, Tryz.ntmps30
    go_wp2_with (first
      | (go_at_call 32; refine N.mono ?_; clear N; rintro e w2 ⟨rfl, h2, u2⟩)
      | (go_at_call 31; refine (mustS_ok _ _).mono ?_; rintro e w3 ⟨rfl, hw3⟩; obtain rfl := hw3.symm))
    go_ret
    exact ⟨rfl, h2, u2⟩
set_option maxHeartbeats 2000000 in
theorem tkTrace_b (C T R g : Nat) (K : List Int) (s : Dst) (w : World) (hC : VarT w C T) (hT : TkB w T R) (h : IsR w R g K s.pos) (hK : ∀ x ∈ K, 0 ≤ x ∧ x < 256) :
    Calls Tryz.prog 34 #[.pointer (some ⟨C, 0, none⟩)] w fun e w' => PostR R g K w trV (traceD K s) e w' := by
  have ba : Below w.heap.size w (w.alloc (.cells #[.int .u64 0, .int .u64 0] 33)) := (Below.refl _ _).alloc (Nat.le_refl _) _
  have ua : ∀ m, Upd (fun _ => False) w ((w.alloc (.cells #[.int .u64 0, .int .u64 0] 33)).drewN m) := fun m => ((Upd.refl _ w).alloc (.cells #[.int .u64 0, .int .u64 0] 33)).drewN m
  have uR : ∀ m, Upd (fun k => k = R) w ((w.alloc (.cells #[.int .u64 0, .int .u64 0] 33)).drewN m) := fun m => (ua m).mono (fun _ _ h => h.elim)
  have lC := lt_of_block hC
  have X0 : (w.alloc (.cells #[.int .u64 0, .int .u64 0] 33)).heap[w.heap.size]? = some (.cells #[.int .u64 0, .int .u64 0] 33 (0, 0)) := heap_alloc_new _ _
  have cC : ∀ m, ((w.alloc (.cells #[.int .u64 0, .int .u64 0] 33)).drewN m).cell? ⟨C, 0, none⟩ = some (.pointer (some ⟨T, 0, none⟩)) := fun m => cell_of_one (hC.upd (ua m) (fun h => h))
  have c0 : (w.alloc (.cells #[.int .u64 0, .int .u64 0] 33)).cell? ⟨C, 0, none⟩ = some (.pointer (some ⟨T, 0, none⟩)) := cC 0
  have nC : C ≠ R := ne_of_types hC h.block (by decide)
  have nT := hT.ne h
  have NG : g ≠ w.heap.size := by have := lt_of_block h.row; omega
  have nR : w.heap.size ≠ R := by have := lt_of_block h.block; omega
  have M1 := fun m => bRaw8_any T R g K s _ (hT.upd (ua m) (fun h => h)) (h.upd (ua m) (fun h => h) (fun h => h)) hK
  unfold traceD bindD
  generalize raw8D K s = r at M1 ⊢
  rcases r with ⟨a, no⟩ | ⟨x, s1⟩
  · unfold PostR at M1 ⊢
    simp only at M1 ⊢
    go_enter Tryz.func34, Tryz.ntmps34
    go_wp2
    go_region_with (first
      | (go_at_call 35; refine (M1 1).mono ?_; clear M1; rintro e w4 ⟨⟨q4, p4, e4, G4⟩, u4⟩; rcases e with v4 | ch | _; rotate_left; (focus (cases e4; exact ⟨rfl, ⟨q4, p4, rfl, G4⟩, (uR 1).trans u4 (fun _ _ h => h)⟩)); (focus (cases e4)); have habs : Abs := Abs.mk (by cases e4); obtain ⟨y4, rfl⟩ : ∃ y, v4 = .int .u64 y := habs.el; have X4 := (u4.block _ (by simp) nR).trans X0; have f0 := blk_free X4 0; have f1 := blk_free X4 1; have d0 := blk_cell X4 0 rfl; have d1 := blk_cell X4 1 rfl; have c4 := cell_of_one (hC.upd ((uR 1).trans u4 (fun _ _ h => h)) nC); clear e4 G4 u4 X4)
      | (go_at_call 35; refine (calls_abs (R := fun e w' => e = .returned (.int .u64 0) ∧ w' = w4) habs).mono ?_; rintro e w5 ⟨rfl, hw5⟩; obtain rfl := hw5.symm))
    all_goals exact habs.el
  · have M2 := fun w2 (u2 : Upd (fun k => k = R) w w2) (h2 : IsR w2 R g K s1.pos) => bRaw8_any T R g K s1 w2 (hT.upd u2 nT) h2 hK
    have CX : ∀ w2, Upd (fun k => k = R) w w2 → w2.cell? ⟨C, 0, none⟩ = some (.pointer (some ⟨T, 0, none⟩)) := fun w2 u2 => cell_of_one (hC.upd u2 nC)
    have XX : ∀ w2, Upd (fun k => k = R) ((w.alloc (.cells #[.int .u64 0, .int .u64 0] 33)).drewN 1) w2 → w2.heap[w.heap.size]? = some (.cells #[.int .u64 0, .int .u64 0] 33 (0, 0)) := fun w2 u2 => (u2.block _ (by simp) nR).trans X0
    clear h hT hC
    simp only
    unfold stepD
    generalize raw8D K s1 = r at M2 ⊢
    rcases r with ⟨a, no⟩ | ⟨y, s2⟩
    · unfold PostR at M1 M2 ⊢
      simp only at M1 M2 ⊢
      go_enter Tryz.func34, Tryz.ntmps34
      go_wp2
      go_region_with (first
        | (go_at_call 35; refine (M1 1).mono ?_; clear M1; rintro e w3 ⟨rfl, h3, v3⟩; have u3 := (uR 1).trans v3 (fun _ _ h => h); have c3 := CX w3 u3)
        | (go_at_call 35; refine (M2 w3 u3 h3).mono ?_; clear M2; rintro e w4 ⟨⟨q4, p4, e4, G4⟩, u4⟩; rcases e with v4 | ch | _; rotate_left; (focus (cases e4; exact ⟨rfl, ⟨q4, p4, rfl, G4⟩, u3.trans u4 (fun _ _ h => h)⟩)); (focus (cases e4)); have habs : Abs := Abs.mk (by cases e4); obtain ⟨y4, rfl⟩ : ∃ y, v4 = .int .u64 y := habs.el; have f0 := blk_free ((u4.block _ (lt_of_block (XX w3 v3)) nR).trans (XX w3 v3)) 0; have f1 := blk_free ((u4.block _ (lt_of_block (XX w3 v3)) nR).trans (XX w3 v3)) 1; have d0 := blk_cell ((u4.block _ (lt_of_block (XX w3 v3)) nR).trans (XX w3 v3)) 0 rfl; have d1 := blk_cell ((u4.block _ (lt_of_block (XX w3 v3)) nR).trans (XX w3 v3)) 1 rfl; clear e4 G4 u4))
      all_goals exact habs.el
    · unfold PostR at M1 M2 ⊢
      simp only at M1 M2 ⊢
      go_enter Tryz.func34, Tryz.ntmps34
      go_wp2
      go_region_with (first
        | (go_at_call 35; refine (M1 1).mono ?_; clear M1; rintro e w3 ⟨rfl, h3, v3⟩; have u3 := (uR 1).trans v3 (fun _ _ h => h); have c3 := CX w3 u3)
        | (go_at_call 35; refine (M2 w3 u3 h3).mono ?_; clear M2; rintro e w4 ⟨rfl, h4, u4⟩; have X4 := (u4.block _ (lt_of_block (XX w3 v3)) nR).trans (XX w3 v3); have f0 := blk_free X4 0; have f1 := blk_free X4 1; have d0 := blk_cell X4 0 rfl; have d1 := blk_cell X4 1 rfl))
      all_goals
        have u5 := (u3.trans u4 (fun _ _ h => h))
        have U6 : Upd (fun k => k = R) w ((w4.setCell ⟨w.heap.size, 0, none⟩ (.int .u64 x)).setCell ⟨w.heap.size, 1, none⟩ (.int .u64 y)) := upd_far (upd_far u5 (Nat.le_refl _)) (Nat.le_refl _)
        have R6 : IsR ((w4.setCell ⟨w.heap.size, 0, none⟩ (.int .u64 x)).setCell ⟨w.heap.size, 1, none⟩ (.int .u64 y)) R g K s2.pos := (h4.upd (upd_one w4 w.heap.size 0 (.int .u64 x)) nR.symm NG).upd (upd_one _ w.heap.size 1 (.int .u64 y)) nR.symm NG
        have X5 := set_block (set_block X4 0 (.int .u64 x)) 1 (.int .u64 y)
        have cx0 := blk_cell X5 0 rfl
        have cx1 := blk_cell X5 1 rfl
        go_wp2
        (try simp only [Exit.inBlock, Exit.then])
        refine bodyPost_ret (v := .agg #[.int .u64 x, .int .u64 y]) ?_ rfl ⟨rfl, R6, U6⟩
        rw [results_cell1 rfl]
        simp [asAddr, Result.andThen, go_sem, cx0, cx1]
end Go.Proofs.YthcghpbkadlliabGreatDoor
