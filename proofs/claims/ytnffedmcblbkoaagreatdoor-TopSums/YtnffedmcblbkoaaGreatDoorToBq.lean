/-
  Merged: ToB, ToC.
-/
import Derived.Test.YtnffedmcblbkoaaGreatDoorPAq
import Derived.Test.YtnffedmcblbkoaaGreatDoorPIq
import Derived.Test.YtnffedmcblbkoaaGreatDoorOXq
namespace Go.Proofs.YtnffedmcblbkoaaGreatDoor
open Go Go.RowKit
set_option maxRecDepth 100000
theorem ivSize : (Tryz.prog.info? 36).map (·.size) = some 2 := by kernel_rfl
theorem clipT_any (f sb : Nat) (X : List Spot) (K : Nat → List Int) (rv : Value) (R : List Int) (W : World) (hF : ForestAt W f sb X K rv R) (y : Nat) (hy : y < X.length) (d : Nod) (hd : X[y].nd = d) :
  Calls Tryz.prog 19 #[.pointer (some ⟨f, 0, none⟩), .int .u64 d.id] W fun e w' => e = .returned (.agg #[.int .i64 d.fr, .int .i64 d.til]) ∧ Below W.heap.size W w' := by
 have N := fun o => node_at (hF.below ((Below.refl _ _).alloc (Nat.le_refl _) o)) y hy d.id (by rw [hd])
 rw [hd] at N
 unfold ndV at N
 clear hF hd
 go_enter Tryz.func19, Tryz.ntmps19
 go_wp2_with (go_at_call 10; (with_reducible refine (N _).mono ?_); clear N; rintro e w1 ⟨rfl, hb⟩; have R1 : (w1.alloc (.cells #[.int .u64 d.id, .int .u64 d.par, .int .i64 d.org, .int .u64 d.tree, .int .i64 d.dep, .int .i64 d.fr, .int .i64 d.til] 38)).heap[W.heap.size]? = some (.cells #[.int .i64 0, .int .i64 0] 36 (0, 0)) := Blk.alloc (T := 36) ((hb.block W.heap.size (by simp)).trans (alloc_at rfl)) _; have o0 := blk_cell R1 0 rfl; have g0 := blk_free R1 0; have o1 := blk_cell R1 1 rfl; have g1 := blk_free R1 1)
 (try simp only [Exit.inBlock, Exit.then])
 have hrow := set_block (set_block R1 0 (.int .i64 d.fr)) 1 (.int .i64 d.til)
 have hld := run_loadVar_row (P := Tryz.prog) _ W.heap.size 36 36 #[.int .i64 d.fr, .int .i64 d.til] (0, 0) _ hrow Tryz.underlying36 rfl ivSize
 have hb0 := ((Below.refl W.heap.size W).alloc (Nat.le_refl _) (.cells #[.int .i64 0, .int .i64 0] 36)).trans (hb.mono (by simp))
 refine bodyPost_ret (v := .agg #[.int .i64 d.fr, .int .i64 d.til]) ?_ rfl ⟨rfl, ((hb0.alloc hb0.size _).setCell (p := ⟨W.heap.size, 0, none⟩) (Nat.le_refl _) _).setCell (p := ⟨W.heap.size, 1, none⟩) (Nat.le_refl _) _⟩
 rw [results_cell1 rfl]
 simp [asAddr, Result.andThen, hld]
theorem long_any (a b : Int) (h : 0 ≤ a ∧ a ≤ 4611686018427387904 ∧ 0 ≤ b ∧ b ≤ 4611686018427387904) (W : World) :
  Calls Tryz.prog 20 #[.agg #[.int .i64 a, .int .i64 b]] W fun e w' => e = .returned (.int .u64 (lenI (a, b))) ∧ Below W.heap.size W w' := by
 have hl : lenI (a, b) = if b ≤ a then 0 else b - a := rfl
 have HL : Hid (lenI (a, b) = if b ≤ a then 0 else b - a) := hl
 have u1 : IntKind.u64.wrap a = a := by rw [IntKind.wrap_u64]; omega
 have u2 : IntKind.u64.wrap b = b := by rw [IntKind.wrap_u64]; omega
 generalize lenI (a, b) = ll at HL ⊢
 clear hl
 by_cases hab : b ≤ a
 ·have e : ll = 0 := by rw [HL.out, if_pos hab]
  subst e
  clear HL
  go_enter Tryz.func20, Tryz.ntmps20
  go_wp2
  go_ret
  exact ⟨rfl, (Below.refl _ _).alloc (Nat.le_refl _) _⟩
 ·have e : b - a = ll := by rw [HL.out, if_neg hab]
  have u3 : IntKind.u64.wrap (b - a) = ll := by rw [IntKind.wrap_u64]; omega
  clear HL
  go_enter Tryz.func20, Tryz.ntmps20
  go_wp2
  go_ret
  exact ⟨by rw [← e]; rfl, (Below.refl _ _).alloc (Nat.le_refl _) _⟩
def bstI (fin : Nat → Nod) : Option Nat → Int
 | none => 0
 | some c => (fin c).id
theorem FoB.idPos {Y : List Sp} {C : List Int} {dp : Nat → Nat} {fin : Nat → Nod} {X : List Spot} {K : Nat → List Int} {R : List Int} (h : FoB Y C dp fin X K R) {c : Nat} (hc : c < Y.length) : (fin c).id ≠ 0 := fun e => by
 have h1 := h.one.chk Y[c] (List.getElem_mem hc)
 have h2 := h.ids c hc
 have e2 : spAt Y c = Y[c] := by simp [spAt, List.getD, hc]
 rw [e2, e] at h2
 unfold chkS at h1
 simp [h2] at h1
theorem lenI_zero {a b : Int} : (lenI (a, b) == 0) = decide (b ≤ a) := by
 unfold lenI
 by_cases h : b ≤ a
 ·simp [h]
 ·simp [h]; omega
end Go.Proofs.YtnffedmcblbkoaaGreatDoor
