/-
  The walks of IvalClips and IvalCut.
-/
import Derived.Test.YtmpjoenjnpafcaaVl
namespace Go.Proofs.Ytmpjoenjnpafcaa
open Go.Shelf Go.RowKit Go.Lib
set_option maxRecDepth 100000

theorem br_in {v f t : Int} (hv : in64 v) (hf : in64 f) (ht : in64 t) : in64 (brI v f t) := by
  unfold in64 brI at *
  omega
theorem clip_in {a b : Int × Int} (ha : In64 a) (hb : In64 b) : In64 (clipI a b) := by
  unfold clipI
  split
  · exact ⟨hb.1, hb.1⟩
  · split
    · exact ⟨br_in ha.1 hb.1 hb.2, br_in ha.1 hb.1 hb.2⟩
    · exact ⟨br_in ha.1 hb.1 hb.2, br_in ha.2 hb.1 hb.2⟩
set_option maxHeartbeats 2000000 in
theorem clips_any (a b : Int × Int) (w : World) (ha : In64 a) (hb : In64 b) :
    Calls Try.prog 3 #[.agg #[.int .i64 a.1, .int .i64 a.2], .agg #[.int .i64 b.1, .int .i64 b.2]] w fun e w' => e = .returned (.bool true) ∧ Below w.heap.size w w' := by
  have hc := clip_in ha hb
  have C := clip_any a b
  have C' := refClip_any a b
  have L := fun w => length_any a w ha
  have L' := fun w => refLength_any a w ha
  have M := fun w => length_any (clipI a b) w hc
  have M' := fun w => refLength_any (clipI a b) w hc
  have gd := guard_iv
  generalize clipI a b = c at *
  obtain ⟨a1, a2⟩ := a
  obtain ⟨b1, b2⟩ := b
  obtain ⟨c1, c2⟩ := c
  generalize lenI (a1, a2) = l at *
  generalize lenI (c1, c2) = k at *
  simp only at C C' L L' M M'
  have EQ : ∀ W : World, (binOp .eql 23 (.agg #[.int .i64 c1, .int .i64 c2]) (.agg #[.int .i64 c1, .int .i64 c2])).run Try.prog W = .ok (.bool true) W := fun W => by
    have := run_eql_of (eqI_iv 9998 c1 c2 c1 c2 W)
    rw [decide_eq_true ⟨rfl, rfl⟩] at this
    exact this
  clear ha hb hc
  obtain ⟨W0, hW0⟩ : ∃ W, (w.alloc (.cells #[.int .i64 a1, .int .i64 a2] 23)).alloc (.cells #[.int .i64 b1, .int .i64 b2] 23) = W := ⟨_, rfl⟩
  have z0 : W0.heap.size = w.heap.size + 2 := by rw [← hW0]; simp
  have B0 : Below w.heap.size w W0 := by rw [← hW0]; exact ((Below.refl _ _).alloc (Nat.le_refl _) _).alloc (by simp) _
  have XA : W0.heap[w.heap.size]? = some (.cells #[.int .i64 a1, .int .i64 a2] 23 (0, 0)) := by rw [← hW0, Below.heap_alloc _ _ _ (by simp)]; exact heap_alloc_new _ _
  have XB : W0.heap[w.heap.size + 1]? = some (.cells #[.int .i64 b1, .int .i64 b2] 23 (0, 0)) := by rw [← hW0]; exact heap_at (by simp)
  have KA : ∀ W, Below W0.heap.size W0 W → (W.cell? ⟨w.heap.size, 0, none⟩ = some (.int .i64 a1) ∧ W.cell? ⟨w.heap.size, 1, none⟩ = some (.int .i64 a2) ∧ W.cell? ⟨w.heap.size + 1, 0, none⟩ = some (.int .i64 b1) ∧ W.cell? ⟨w.heap.size + 1, 1, none⟩ = some (.int .i64 b2)) := fun W hW => by
    have p := (hW.block _ (lt_of_block XA)).trans XA
    have q := (hW.block _ (lt_of_block XB)).trans XB
    exact ⟨blk_cell p 0 rfl, blk_cell p 1 rfl, blk_cell q 0 rfl, blk_cell q 1 rfl⟩
  have HZ : Hid _ := z0
  clear z0
  go_enter Try.func3, Try.ntmps3
  go_wp2_with (first
    | (go_at_call 9; refine (alive_any _).mono ?_; rintro e w1 ⟨rfl, bw1⟩; obtain ⟨p0, p1, p2, p3⟩ := KA w1 bw1)
    | (go_at_call 10; refine (C _).mono ?_; clear C; rintro e w2 ⟨rfl, bw2⟩; have b02 := bw1.trans (bw2.mono bw1.size)))
  obtain ⟨w3, hw3⟩ : ∃ W, w2.alloc (.cells #[.int .i64 c1, .int .i64 c2] 23) = W := ⟨_, rfl⟩
  have XC : w3.heap[w2.heap.size]? = some (.cells #[.int .i64 c1, .int .i64 c2] 23 (0, 0)) := hw3 ▸ heap_alloc_new _ _
  have b03 : Below W0.heap.size W0 w3 := hw3 ▸ b02.alloc b02.size _
  have z3 := b03.size
  rw [hw3]
  clear hw3 p0 p1 p2 p3
  have KC : ∀ W, Below w3.heap.size w3 W → (W.cell? ⟨w.heap.size, 0, none⟩ = some (.int .i64 a1) ∧ W.cell? ⟨w.heap.size, 1, none⟩ = some (.int .i64 a2) ∧ W.cell? ⟨w.heap.size + 1, 0, none⟩ = some (.int .i64 b1) ∧ W.cell? ⟨w.heap.size + 1, 1, none⟩ = some (.int .i64 b2) ∧ W.cell? ⟨w2.heap.size, 0, none⟩ = some (.int .i64 c1) ∧ W.cell? ⟨w2.heap.size, 1, none⟩ = some (.int .i64 c2)) := fun W hW => by
    obtain ⟨p0, p1, p2, p3⟩ := KA W (b03.trans (hW.mono z3))
    have p := (hW.block _ (lt_of_block XC)).trans XC
    exact ⟨p0, p1, p2, p3, blk_cell p 0 rfl, blk_cell p 1 rfl⟩
  clear KA XA XB XC
  go_region_held3 (fun W => (W.cell? ⟨w.heap.size, 0, none⟩ = some (.int .i64 a1) ∧ W.cell? ⟨w.heap.size, 1, none⟩ = some (.int .i64 a2) ∧ W.cell? ⟨w.heap.size + 1, 0, none⟩ = some (.int .i64 b1) ∧ W.cell? ⟨w.heap.size + 1, 1, none⟩ = some (.int .i64 b2) ∧ W.cell? ⟨w2.heap.size, 0, none⟩ = some (.int .i64 c1) ∧ W.cell? ⟨w2.heap.size, 1, none⟩ = some (.int .i64 c2))) (exact KC _ (by repeat' first | exact Below.refl _ _ | assumption | refine Below.alloc ?_ (by first | omega | (simp; omega) | (simp; done)) _ | refine Below.drew ?_)) (first
    | (go_at_call 11; refine (C' _).mono ?_; clear C'; rintro e w4 ⟨rfl, b4⟩; have B4 : Below w3.heap.size w3 w4 := Below.trans (by repeat' first | exact Below.refl _ _ | assumption | refine Below.alloc ?_ (by first | omega | (simp; omega) | (simp; done)) _ | refine Below.drew ?_) (b4.mono (by first | omega | (simp; omega) | (simp; done))); have z4 := B4.size; clear b4)
    | (go_at_call 12; refine (L _).mono ?_; clear L; rintro e w5 ⟨rfl, b5⟩; have B5 : Below w3.heap.size w3 w5 := Below.trans (by repeat' first | exact Below.refl _ _ | assumption | refine Below.alloc ?_ (by first | omega | (simp; omega) | (simp; done)) _ | refine Below.drew ?_) (b5.mono (by first | omega | (simp; omega) | (simp; done))); have z5 := B5.size; clear b5)
    | (go_at_call 13; refine (L' _).mono ?_; clear L'; rintro e w6 ⟨rfl, b6⟩; have B6 : Below w3.heap.size w3 w6 := Below.trans (by repeat' first | exact Below.refl _ _ | assumption | refine Below.alloc ?_ (by first | omega | (simp; omega) | (simp; done)) _ | refine Below.drew ?_) (b6.mono (by first | omega | (simp; omega) | (simp; done))); have z6 := B6.size; clear b6)
    | (go_at_call 12; refine (M _).mono ?_; clear M; rintro e w7 ⟨rfl, b7⟩; have B7 : Below w3.heap.size w3 w7 := Below.trans (by repeat' first | exact Below.refl _ _ | assumption | refine Below.alloc ?_ (by first | omega | (simp; omega) | (simp; done)) _ | refine Below.drew ?_) (b7.mono (by first | omega | (simp; omega) | (simp; done))); have z7 := B7.size; clear b7)
    | (go_at_call 13; refine (M' _).mono ?_; clear M'; rintro e w8 ⟨rfl, b8⟩; have B8 : Below w3.heap.size w3 w8 := Below.trans (by repeat' first | exact Below.refl _ _ | assumption | refine Below.alloc ?_ (by first | omega | (simp; omega) | (simp; done)) _ | refine Below.drew ?_) (b8.mono (by first | omega | (simp; omega) | (simp; done))); have z8 := B8.size; clear b8))
  go_wp2
  go_ret
  have hz : W0.heap.size = w.heap.size + 2 := HZ.out
  refine ⟨rfl, B0.trans ((b03.mono (by omega)).trans (Below.mono (B := w3.heap.size) ?_ (by omega)))⟩
  repeat' first | assumption | refine Below.drew ?_
end Go.Proofs.Ytmpjoenjnpafcaa
