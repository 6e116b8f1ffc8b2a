/-
  SaI.
-/
import Derived.Test.YtdodempnkkkbmaaDoorSaH
namespace Go.Proofs.YtdodempnkkkbmaaDoor
open Go Go.RowKit
set_option maxRecDepth 100000

theorem veSize : (Tryd.prog.info? 45).map (·.size) = some 4 := by kernel_rfl
/-- What lies behind Decide's own two blocks. -/
def DeE (w W : World) (lp b : Nat) (pr : Array Value) : Prop :=
  Blk W lp pr 41 ∧ Blk W b exRow 55 ∧ Blk W w.heap.size #[.slice (some ⟨b, 0, none⟩) 2 2] 57 ∧ Blk W (w.heap.size + 1) #[.bool false, .int .i64 0, .int .u64 0, .int .u64 0] 45 ∧ Tabs W ∧ Below w.heap.size w W
theorem DeE.below {w W W' : World} {lp b : Nat} {pr : Array Value} (h : DeE w W lp b pr) (hb : Below W.heap.size W W') : DeE w W' lp b pr :=
  ⟨h.1.below hb h.1.lt, h.2.1.below hb h.2.1.lt, h.2.2.1.below hb h.2.2.1.lt, h.2.2.2.1.below hb h.2.2.2.1.lt, h.2.2.2.2.1.below hb, h.2.2.2.2.2.trans (hb.mono h.2.2.2.2.2.size)⟩
theorem DeE.new {w : World} {lp b : Nat} {pr : Array Value} (hP : Blk w lp pr 41) (hK : Blk w b exRow 55) (hT : Tabs w) : DeE w ((w.alloc (.cells #[.slice (some ⟨b, 0, none⟩) 2 2] 57)).alloc (.cells #[.bool false, .int .i64 0, .int .u64 0, .int .u64 0] 45)) lp b pr := by
  have b1 : Below w.heap.size w (w.alloc (.cells #[.slice (some ⟨b, 0, none⟩) 2 2] 57)) := (Below.refl _ _).alloc (Nat.le_refl _) _
  have b2 := b1.alloc b1.size (.cells #[.bool false, .int .i64 0, .int .u64 0, .int .u64 0] 45)
  refine ⟨(hP.alloc _).alloc _, (hK.alloc _).alloc _, (Blk.new _ _ _).alloc _, ?_, hT.below b2, b2⟩
  have := Blk.new (w.alloc (.cells #[.slice (some ⟨b, 0, none⟩) 2 2] 57)) #[.bool false, .int .i64 0, .int .u64 0, .int .u64 0] 45
  rwa [World.size_alloc] at this
set_option maxHeartbeats 4000000 in
theorem decide1_any (lp b : Nat) (w : World) (hP : Blk w lp exP1 41) (hK : Blk w b exRow 55) (hT : Tabs w) :
    Calls Tryd.prog 12 #[.slice (some ⟨lp, 0, none⟩) 2 2, .slice (some ⟨b, 0, none⟩) 2 2] w fun e w' => e = .returned (.tuple #[.agg #[.bool true, .int .i64 1, .int .u64 0, .int .u64 65536], .int .i64 0]) ∧ Below w.heap.size w w' := by
  have E0 := DeE.new hP hK hT
  have CH := checkP_any _ 2 2 _ _ (polAt1 E0.1) (fun p hp => by simp at hp; rcases hp with rfl | rfl <;> simp only <;> decide) (by omega) E0.2.2.2.2.1
  have e0 : chkP [⟨3, 0, ⟨#[97]⟩, 0⟩, ⟨1, 0, ⟨#[]⟩, 0⟩] = 0 := by decide +kernel
  rw [e0] at CH
  have HE0 : Hid (DeE w _ lp b exP1) := E0
  clear hP hK hT E0 e0
  go_enter Tryd.func12, Tryd.ntmps12
  go_wp2_with (first
    | (go_at_call 14; refine CH.mono ?_; clear CH; rintro e w1 ⟨rfl, hb1⟩; have E1 := HE0.out.below hb1; have k1 := E1.2.2.1.cell 0 rfl; have OT := oneTrace2_any b w1 E1.2.1 E1.2.2.2.2.1; have HE1 : Hid (DeE w w1 lp b exP1) := E1; clear hb1 E1 HE0)
    | (go_at_call 21; refine OT.mono ?_; clear OT; rintro e w2 ⟨rfl, hb2⟩; have E2 := HE1.out.below hb2; have k2 := E2.2.2.1.cell 0 rfl; have FI := first1_any lp b w.heap.size w2 E2.1 E2.2.1 E2.2.2.1; have HE2 : Hid (DeE w w2 lp b exP1) := E2; clear hb2 E2 HE1 k1)
    | (go_at_call 22; refine FI.mono ?_; clear FI; rintro e w3 ⟨rfl, hb3⟩; have E3 := HE2.out.below hb3; have k3 := E3.2.2.1.cell 0 rfl; have WE := weight1_any lp b w3 E3.1 E3.2.1; have HE3 : Hid (DeE w w3 lp b exP1) := E3; clear hb3 E3 HE2 k2)
    | (go_at_call 25; refine WE.mono ?_; clear WE; rintro e w4 ⟨rfl, hb4⟩; have E4 := HE3.out.below hb4; have o0 := E4.2.2.2.1.cell 0 rfl; have o1 := E4.2.2.2.1.cell 1 rfl; have o2 := E4.2.2.2.1.cell 2 rfl; have o3 := E4.2.2.2.1.cell 3 rfl; have g0 := E4.2.2.2.1.frozen 0; have g1 := E4.2.2.2.1.frozen 1; have g2 := E4.2.2.2.1.frozen 2; have g3 := E4.2.2.2.1.frozen 3; have HE4 : Hid (DeE w w4 lp b exP1) := E4; clear hb4 E4 HE3 k3))
  (try simp only [Exit.inBlock, Exit.then])
  have E4 := HE4.out
  have hb0 := E4.2.2.2.2.2
  have hrow := (((E4.2.2.2.1.set 0 (.bool true)).set 1 (.int .i64 1)).set 2 (.int .u64 0)).set 3 (.int .u64 65536)
  have hld := run_loadVar_row (P := Tryd.prog) _ (w.heap.size + 1) 45 45 #[.bool true, .int .i64 1, .int .u64 0, .int .u64 65536] (0, 0) _ hrow Tryd.underlying45 rfl veSize
  have hs : w.heap.size ≤ w.heap.size + 1 := by omega
  refine bodyPost_ret (v := .tuple #[.agg #[.bool true, .int .i64 1, .int .u64 0, .int .u64 65536], .int .i64 0]) ?_ rfl ⟨rfl, (((hb0.setCell (p := ⟨w.heap.size + 1, 0, none⟩) hs _).setCell (p := ⟨w.heap.size + 1, 1, none⟩) hs _).setCell (p := ⟨w.heap.size + 1, 2, none⟩) hs _).setCell (p := ⟨w.heap.size + 1, 3, none⟩) hs _⟩
  rw [results_cell_tmp rfl]
  simp [asAddr, Result.andThen, hld]
set_option maxHeartbeats 4000000 in
theorem decide2_any (lp b : Nat) (w : World) (hP : Blk w lp exP2 41) (hK : Blk w b exRow 55) (hT : Tabs w) :
    Calls Tryd.prog 12 #[.slice (some ⟨lp, 0, none⟩) 1 1, .slice (some ⟨b, 0, none⟩) 2 2] w fun e w' => e = .returned (.tuple #[.agg #[.bool false, .int .i64 (-1), .int .u64 0, .int .u64 0], .int .i64 0]) ∧ Below w.heap.size w w' := by
  have E0 := DeE.new hP hK hT
  have CH := checkP_any _ 1 1 _ _ (polAt2 E0.1) (fun p hp => by simp at hp; rcases hp with rfl; simp only; decide) (by omega) E0.2.2.2.2.1
  have e0 : chkP [⟨2, 6, ⟨#[]⟩, 0⟩] = 0 := by decide +kernel
  rw [e0] at CH
  have HE0 : Hid (DeE w _ lp b exP2) := E0
  clear hP hK hT E0 e0
  go_enter Tryd.func12, Tryd.ntmps12
  go_wp2_with (first
    | (go_at_call 14; refine CH.mono ?_; clear CH; rintro e w1 ⟨rfl, hb1⟩; have E1 := HE0.out.below hb1; have k1 := E1.2.2.1.cell 0 rfl; have OT := oneTrace2_any b w1 E1.2.1 E1.2.2.2.2.1; have HE1 : Hid (DeE w w1 lp b exP2) := E1; clear hb1 E1 HE0)
    | (go_at_call 21; refine OT.mono ?_; clear OT; rintro e w2 ⟨rfl, hb2⟩; have E2 := HE1.out.below hb2; have k2 := E2.2.2.1.cell 0 rfl; have FI := first2_any lp b w.heap.size w2 E2.1 E2.2.1 E2.2.2.1; have HE2 : Hid (DeE w w2 lp b exP2) := E2; clear hb2 E2 HE1 k1)
    | (go_at_call 22; refine FI.mono ?_; clear FI; rintro e w3 ⟨rfl, hb3⟩; have E3 := HE2.out.below hb3; have o0 := E3.2.2.2.1.cell 0 rfl; have g0 := E3.2.2.2.1.frozen 0; have o1 := E3.2.2.2.1.cell 1 rfl; have g1 := E3.2.2.2.1.frozen 1; have o2 := E3.2.2.2.1.cell 2 rfl; have g2 := E3.2.2.2.1.frozen 2; have o3 := E3.2.2.2.1.cell 3 rfl; have g3 := E3.2.2.2.1.frozen 3; have HE3 : Hid (DeE w w3 lp b exP2) := E3; clear hb3 E3 HE2 k2))
  (try simp only [Exit.inBlock, Exit.then])
  have E3 := HE3.out
  have hb0 := E3.2.2.2.2.2
  have hrow := (((E3.2.2.2.1.set 0 (.bool false)).set 1 (.int .i64 (-1))).set 2 (.int .u64 0)).set 3 (.int .u64 0)
  have hld := run_loadVar_row (P := Tryd.prog) _ (w.heap.size + 1) 45 45 #[.bool false, .int .i64 (-1), .int .u64 0, .int .u64 0] (0, 0) _ hrow Tryd.underlying45 rfl veSize
  have hs : w.heap.size ≤ w.heap.size + 1 := by omega
  refine bodyPost_ret (v := .tuple #[.agg #[.bool false, .int .i64 (-1), .int .u64 0, .int .u64 0], .int .i64 0]) ?_ rfl ⟨rfl, (((hb0.setCell (p := ⟨w.heap.size + 1, 0, none⟩) hs _).setCell (p := ⟨w.heap.size + 1, 1, none⟩) hs _).setCell (p := ⟨w.heap.size + 1, 2, none⟩) hs _).setCell (p := ⟨w.heap.size + 1, 3, none⟩) hs _⟩
  rw [results_cell_tmp rfl]
  simp [asAddr, Result.andThen, hld]
theorem check3_any (lp : Nat) (w : World) (hP : Blk w lp #[.int .i64 4, .int .u64 0, .string ⟨#[]⟩, .int .i64 65537] 41) (hT : Tabs w) :
    Calls Tryd.prog 14 #[.slice (some ⟨lp, 0, none⟩) 1 1] w fun e w' => e = .returned (.int .i64 211) ∧ Below w.heap.size w w' := by
  have CH := checkP_any _ 1 1 _ _ (polAt2 hP) (fun p hp => by simp at hp; rcases hp with rfl; simp only; decide) (by omega) hT
  have e0 : chkP [⟨4, 0, ⟨#[]⟩, 65537⟩] = 211 := by decide +kernel
  rwa [e0] at CH
end Go.Proofs.YtdodempnkkkbmaaDoor
