/-
  Merged: SaI, SaJ.
-/
import Derived.Test.YtfgmjgoegdiieaaDoorSaH
import Derived.Deep.RegionWith
namespace Go.Proofs.YtfgmjgoegdiieaaDoor
open Go Go.RowKit
set_option maxRecDepth 100000

theorem veSize : (Tryd.prog.info? 41).map (·.size) = some 4 := by kernel_rfl
/-- What lies behind Decide's own two blocks. -/
def DeE (w W : World) (lp b : Nat) (pr : Array Value) : Prop :=
  Blk W lp pr 32 ∧ Blk W b exRow 52 ∧ Blk W w.heap.size #[.slice (some ⟨b, 0, none⟩) 2 2] 23 ∧ Blk W (w.heap.size + 1) #[.bool false, .int .i64 0, .int .u64 0, .int .u64 0] 41 ∧ Tabs W ∧ Below w.heap.size w W
theorem DeE.below {w W W' : World} {lp b : Nat} {pr : Array Value} (h : DeE w W lp b pr) (hb : Below W.heap.size W W') : DeE w W' lp b pr :=
  ⟨h.1.below hb h.1.lt, h.2.1.below hb h.2.1.lt, h.2.2.1.below hb h.2.2.1.lt, h.2.2.2.1.below hb h.2.2.2.1.lt, h.2.2.2.2.1.below hb, h.2.2.2.2.2.trans (hb.mono h.2.2.2.2.2.size)⟩
theorem DeE.new {w : World} {lp b : Nat} {pr : Array Value} (hP : Blk w lp pr 32) (hK : Blk w b exRow 52) (hT : Tabs w) : DeE w ((w.alloc (.cells #[.slice (some ⟨b, 0, none⟩) 2 2] 23)).alloc (.cells #[.bool false, .int .i64 0, .int .u64 0, .int .u64 0] 41)) lp b pr := by
  have b1 : Below w.heap.size w (w.alloc (.cells #[.slice (some ⟨b, 0, none⟩) 2 2] 23)) := (Below.refl _ _).alloc (Nat.le_refl _) _
  have b2 := b1.alloc b1.size (.cells #[.bool false, .int .i64 0, .int .u64 0, .int .u64 0] 41)
  refine ⟨(hP.alloc _).alloc _, (hK.alloc _).alloc _, (Blk.new _ _ _).alloc _, ?_, hT.below b2, b2⟩
  have := Blk.new (w.alloc (.cells #[.slice (some ⟨b, 0, none⟩) 2 2] 23)) #[.bool false, .int .i64 0, .int .u64 0, .int .u64 0] 41
  rwa [World.size_alloc] at this
set_option maxHeartbeats 4000000 in
theorem decide1_any (lp b : Nat) (w : World) (hP : Blk w lp exP1 32) (hK : Blk w b exRow 52) (hT : Tabs w) :
    Calls Tryd.prog 9 #[.slice (some ⟨lp, 0, none⟩) 2 2, .slice (some ⟨b, 0, none⟩) 2 2] w fun e w' => e = .returned (.tuple #[.agg #[.bool true, .int .i64 1, .int .u64 0, .int .u64 65536], .int .i64 0]) ∧ Below w.heap.size w w' := by
  have E0 := DeE.new hP hK hT
  have CH := checkP_any _ 2 2 _ _ (polAt1 E0.1) (fun p hp => by simp at hp; rcases hp with rfl | rfl <;> simp only <;> decide) (by omega) E0.2.2.2.2.1
  have e0 : chkP [⟨3, 0, ⟨#[97]⟩, 0⟩, ⟨1, 0, ⟨#[]⟩, 0⟩] = 0 := by decide +kernel
  rw [e0] at CH
  have HE0 : Hid (DeE w _ lp b exP1) := E0
  clear hP hK hT E0 e0
  go_enter Tryd.func9, Tryd.ntmps9
  go_wp2_with (first
    | (go_at_call 5; refine CH.mono ?_; clear CH; rintro e w1 ⟨rfl, hb1⟩; have E1 := HE0.out.below hb1; have k1 := E1.2.2.1.cell 0 rfl; have OT := oneTrace2_any b w1 E1.2.1 E1.2.2.2.2.1; have HE1 : Hid (DeE w w1 lp b exP1) := E1; clear hb1 E1 HE0)
    | (go_at_call 18; refine OT.mono ?_; clear OT; rintro e w2 ⟨rfl, hb2⟩; have E2 := HE1.out.below hb2; have k2 := E2.2.2.1.cell 0 rfl; have FI := first1_any lp b w.heap.size w2 E2.1 E2.2.1 E2.2.2.1; have HE2 : Hid (DeE w w2 lp b exP1) := E2; clear hb2 E2 HE1 k1)
    | (go_at_call 19; refine FI.mono ?_; clear FI; rintro e w3 ⟨rfl, hb3⟩; have E3 := HE2.out.below hb3; have k3 := E3.2.2.1.cell 0 rfl; have WE := weight1_any lp b w3 E3.1 E3.2.1; have HE3 : Hid (DeE w w3 lp b exP1) := E3; clear hb3 E3 HE2 k2)
    | (go_at_call 22; refine WE.mono ?_; clear WE; rintro e w4 ⟨rfl, hb4⟩; have E4 := HE3.out.below hb4; have o0 := E4.2.2.2.1.cell 0 rfl; have o1 := E4.2.2.2.1.cell 1 rfl; have o2 := E4.2.2.2.1.cell 2 rfl; have o3 := E4.2.2.2.1.cell 3 rfl; have g0 := E4.2.2.2.1.frozen 0; have g1 := E4.2.2.2.1.frozen 1; have g2 := E4.2.2.2.1.frozen 2; have g3 := E4.2.2.2.1.frozen 3; have HE4 : Hid (DeE w w4 lp b exP1) := E4; clear hb4 E4 HE3 k3))
  (try simp only [Exit.inBlock, Exit.then])
  have E4 := HE4.out
  have hb0 := E4.2.2.2.2.2
  have hrow := (((E4.2.2.2.1.set 0 (.bool true)).set 1 (.int .i64 1)).set 2 (.int .u64 0)).set 3 (.int .u64 65536)
  have hld := run_loadVar_row (P := Tryd.prog) _ (w.heap.size + 1) 41 41 #[.bool true, .int .i64 1, .int .u64 0, .int .u64 65536] (0, 0) _ hrow Tryd.underlying41 rfl veSize
  have hs : w.heap.size ≤ w.heap.size + 1 := by omega
  refine bodyPost_ret (v := .tuple #[.agg #[.bool true, .int .i64 1, .int .u64 0, .int .u64 65536], .int .i64 0]) ?_ rfl ⟨rfl, (((hb0.setCell (p := ⟨w.heap.size + 1, 0, none⟩) hs _).setCell (p := ⟨w.heap.size + 1, 1, none⟩) hs _).setCell (p := ⟨w.heap.size + 1, 2, none⟩) hs _).setCell (p := ⟨w.heap.size + 1, 3, none⟩) hs _⟩
  rw [results_cell_tmp rfl]
  simp [asAddr, Result.andThen, hld]
set_option maxHeartbeats 4000000 in
theorem decide2_any (lp b : Nat) (w : World) (hP : Blk w lp exP2 32) (hK : Blk w b exRow 52) (hT : Tabs w) :
    Calls Tryd.prog 9 #[.slice (some ⟨lp, 0, none⟩) 1 1, .slice (some ⟨b, 0, none⟩) 2 2] w fun e w' => e = .returned (.tuple #[.agg #[.bool false, .int .i64 (-1), .int .u64 0, .int .u64 0], .int .i64 0]) ∧ Below w.heap.size w w' := by
  have E0 := DeE.new hP hK hT
  have CH := checkP_any _ 1 1 _ _ (polAt2 E0.1) (fun p hp => by simp at hp; rcases hp with rfl; simp only; decide) (by omega) E0.2.2.2.2.1
  have e0 : chkP [⟨2, 6, ⟨#[]⟩, 0⟩] = 0 := by decide +kernel
  rw [e0] at CH
  have HE0 : Hid (DeE w _ lp b exP2) := E0
  clear hP hK hT E0 e0
  go_enter Tryd.func9, Tryd.ntmps9
  go_wp2_with (first
    | (go_at_call 5; refine CH.mono ?_; clear CH; rintro e w1 ⟨rfl, hb1⟩; have E1 := HE0.out.below hb1; have k1 := E1.2.2.1.cell 0 rfl; have OT := oneTrace2_any b w1 E1.2.1 E1.2.2.2.2.1; have HE1 : Hid (DeE w w1 lp b exP2) := E1; clear hb1 E1 HE0)
    | (go_at_call 18; refine OT.mono ?_; clear OT; rintro e w2 ⟨rfl, hb2⟩; have E2 := HE1.out.below hb2; have k2 := E2.2.2.1.cell 0 rfl; have FI := first2_any lp b w.heap.size w2 E2.1 E2.2.1 E2.2.2.1; have HE2 : Hid (DeE w w2 lp b exP2) := E2; clear hb2 E2 HE1 k1)
    | (go_at_call 19; refine FI.mono ?_; clear FI; rintro e w3 ⟨rfl, hb3⟩; have E3 := HE2.out.below hb3; have o0 := E3.2.2.2.1.cell 0 rfl; have g0 := E3.2.2.2.1.frozen 0; have o1 := E3.2.2.2.1.cell 1 rfl; have g1 := E3.2.2.2.1.frozen 1; have o2 := E3.2.2.2.1.cell 2 rfl; have g2 := E3.2.2.2.1.frozen 2; have o3 := E3.2.2.2.1.cell 3 rfl; have g3 := E3.2.2.2.1.frozen 3; have HE3 : Hid (DeE w w3 lp b exP2) := E3; clear hb3 E3 HE2 k2))
  (try simp only [Exit.inBlock, Exit.then])
  have E3 := HE3.out
  have hb0 := E3.2.2.2.2.2
  have hrow := (((E3.2.2.2.1.set 0 (.bool false)).set 1 (.int .i64 (-1))).set 2 (.int .u64 0)).set 3 (.int .u64 0)
  have hld := run_loadVar_row (P := Tryd.prog) _ (w.heap.size + 1) 41 41 #[.bool false, .int .i64 (-1), .int .u64 0, .int .u64 0] (0, 0) _ hrow Tryd.underlying41 rfl veSize
  have hs : w.heap.size ≤ w.heap.size + 1 := by omega
  refine bodyPost_ret (v := .tuple #[.agg #[.bool false, .int .i64 (-1), .int .u64 0, .int .u64 0], .int .i64 0]) ?_ rfl ⟨rfl, (((hb0.setCell (p := ⟨w.heap.size + 1, 0, none⟩) hs _).setCell (p := ⟨w.heap.size + 1, 1, none⟩) hs _).setCell (p := ⟨w.heap.size + 1, 2, none⟩) hs _).setCell (p := ⟨w.heap.size + 1, 3, none⟩) hs _⟩
  rw [results_cell_tmp rfl]
  simp [asAddr, Result.andThen, hld]
theorem check3_any (lp : Nat) (w : World) (hP : Blk w lp #[.int .i64 4, .int .u64 0, .string ⟨#[]⟩, .int .i64 65537] 32) (hT : Tabs w) :
    Calls Tryd.prog 5 #[.slice (some ⟨lp, 0, none⟩) 1 1] w fun e w' => e = .returned (.int .i64 211) ∧ Below w.heap.size w w' := by
  have CH := checkP_any _ 1 1 _ _ (polAt2 hP) (fun p hp => by simp at hp; rcases hp with rfl; simp only; decide) (by omega) hT
  have e0 : chkP [⟨4, 0, ⟨#[]⟩, 65537⟩] = 211 := by decide +kernel
  rwa [e0] at CH
end Go.Proofs.YtfgmjgoegdiieaaDoor

namespace Go.Proofs.YtfgmjgoegdiieaaDoor
open Go Go.RowKit
set_option maxRecDepth 100000

theorem newFew2_any (w : World) :
    Calls Tryd.prog 11 #[.int .i64 2] w fun e w' => e = .returned (.tuple #[.pointer (some ⟨w.heap.size, 0, none⟩), .int .i64 0]) ∧ Blk w' w.heap.size #[.int .i64 2, .slice none 0 0] 68 ∧ Below w.heap.size w w' := by
  have BB : Hid (Below w.heap.size w (w.alloc (.cells #[.int .i64 2, .slice none 0 0] 68))) := (Below.refl _ _).alloc (Nat.le_refl _) _
  go_enter Tryd.func11, Tryd.ntmps11
  go_wp2
  go_ret2
  exact ⟨rfl, Blk.new _ _ _, BB.out⟩
theorem newFew1_any (w : World) :
    Calls Tryd.prog 11 #[.int .i64 1] w fun e w' => e = .returned (.tuple #[.pointer none, .int .i64 1]) ∧ Below w.heap.size w w' := by
  have BB : Hid (Below w.heap.size w w) := Below.refl _ _
  go_enter Tryd.func11, Tryd.ntmps11
  go_wp2
  go_ret2
  exact ⟨rfl, BB.out⟩
theorem search0_any (fv : Value) (w : World) :
    Calls Tryd.prog 37 #[.slice none 0 0, .agg #[.int .u64 0, .int .u64 5], fv] w fun e w' => e = .returned (.tuple #[.int .i64 0, .bool false]) ∧ Below w.heap.size w w' := by
  have BB : Hid (∀ o, Below w.heap.size w (w.alloc o)) := fun o => (Below.refl _ _).alloc (Nat.le_refl _) _
  go_enter Tryd.func37, Tryd.ntmps37
  go_wp2
  go_loopw [9, 10] (fun z y wr => z = .int .i64 0 ∧ y = .int .i64 0 ∧ Below w.heap.size w wr) (fun _ _ _ => 0)
  case atStart => exact ⟨rfl, rfl, by first | exact BB.out _ | exact Below.refl _ _⟩
  case round =>
    obtain ⟨rfl, rfl, hb⟩ := hrel
    have HB : Hid (∀ n, Below w.heap.size w (wr.drewN n)) := fun n => ⟨hb.os, hb.tape, hb.output, hb.size, hb.block⟩
    clear hb
    go_upto_region 8 with fail
    go_quiet (fail)
    all_goals go_wp2
    all_goals go_ret2
    all_goals exact ⟨rfl, HB.out _⟩
theorem insert0_any (b : Nat) (w : World) (hb : Blk w b #[.int .u64 0, .int .u64 5] 35) :
    Calls Tryd.prog 38 #[.slice none 0 0, .int .i64 0, .slice (some ⟨b, 0, none⟩) 1 1] w fun e w' => ∃ g c, e = .returned (.slice (some ⟨g, 0, none⟩) 1 c) ∧ Below w.heap.size w w' := by
  have c0 : w.drew.cell? ⟨b, 0, none⟩ = some (.int .u64 0) := hb.cell 0 rfl
  have c1 : w.drew.cell? ⟨b, 1, none⟩ = some (.int .u64 5) := hb.cell 1 rfl
  have BB : Hid (∀ o, Below w.heap.size w (w.alloc o).drew) := fun o => ((Below.refl _ _).alloc (Nat.le_refl _) _).drew
  clear hb
  go_enter Tryd.func38, Tryd.ntmps38
  go_wp2
  go_ret
  exact ⟨_, _, rfl, BB.out _⟩
set_option maxHeartbeats 4000000 in
theorem keep0_any (fv : Value) (w : World) :
    Calls Tryd.prog 23 #[.slice none 0 0, .agg #[.int .u64 0, .int .u64 5], .int .i64 2, fv] w fun e w' => ∃ g c, e = .returned (.tuple #[.slice (some ⟨g, 0, none⟩) 1 c, .bool true]) ∧ Below w.heap.size w w' := by
  have S1 := search0_any fv (w.alloc (.cells #[.int .u64 0, .int .u64 5] 35))
  have HN : Hid (Blk (w.alloc (.cells #[.int .u64 0, .int .u64 5] 35)) w.heap.size #[.int .u64 0, .int .u64 5] 35 ∧ Below w.heap.size w (w.alloc (.cells #[.int .u64 0, .int .u64 5] 35))) := ⟨Blk.new _ _ _, (Below.refl _ _).alloc (Nat.le_refl _) _⟩
  go_enter Tryd.func23, Tryd.ntmps23
  go_wp2_with (first
    | (go_at_call 37; refine S1.mono ?_; clear S1; rintro e w1 ⟨rfl, hb1⟩; have K1 := HN.out.1.below hb1 HN.out.1.lt; have c0 : w1.cell? ⟨w.heap.size, 0, none⟩ = some (.int .u64 0) := K1.cell 0 rfl; have c1 : w1.cell? ⟨w.heap.size, 1, none⟩ = some (.int .u64 5) := K1.cell 1 rfl; have HB1 : Hid (Below w.heap.size w w1) := HN.out.2.trans (hb1.mono HN.out.2.size); have I1 := insert0_any w1.heap.size (w1.alloc (.cells #[.int .u64 0, .int .u64 5] 35)) (Blk.new _ _ _); clear hb1 K1 HN)
    | (go_at_call 38; refine I1.mono ?_; clear I1; rintro e w2 ⟨g, c, rfl, hb2⟩; have HB2 : Hid (Below w.heap.size w w2) := (HB1.out.alloc HB1.out.size _).trans (hb2.mono (HB1.out.alloc HB1.out.size _).size)))
  go_ret2
  exact ⟨g, c, rfl, HB2.out⟩
theorem put0_any (f : Nat) (w : World) (hf : Blk w f #[.int .i64 2, .slice none 0 0] 68) :
    Calls Tryd.prog 12 #[.pointer (some ⟨f, 0, none⟩), .agg #[.int .u64 0, .int .u64 5]] w fun e w' => ∃ g c, e = .returned (.bool true) ∧ Blk w' f #[.int .i64 2, .slice (some ⟨g, 0, none⟩) 1 c] 68 ∧ Upd (fun k => k = f) w w' := by
  go_enter Tryd.func12, Tryd.ntmps12
  go_upto_region 1 with fail
  obtain ⟨w0, hw0⟩ : ∃ w0, w.alloc (.cells #[.int .u64 0, .int .u64 5] 35) = w0 := ⟨_, rfl⟩
  have H0 : Hid (Below w.heap.size w w0 ∧ Blk w0 f #[.int .i64 2, .slice none 0 0] 68 ∧ f < w.heap.size) := by subst hw0; exact ⟨(Below.refl _ _).alloc (Nat.le_refl _) _, hf.alloc _, hf.lt⟩
  have KB : ∀ W, Below w0.heap.size w0 W → W.cell? ⟨f, 0, none⟩ = some (.int .i64 2) ∧ W.cell? ⟨f, 1, none⟩ = some (.slice none 0 0) ∧ W.cell? ⟨w.heap.size, 0, none⟩ = some (.int .u64 0) ∧ W.cell? ⟨w.heap.size, 1, none⟩ = some (.int .u64 5) := fun W hW => by
    have k1 := H0.out.2.1.below hW H0.out.2.1.lt
    have k2 : Blk W w.heap.size #[.int .u64 0, .int .u64 5] 35 := by
      subst hw0
      exact (Blk.new w _ _).below hW (by rw [World.size_alloc]; omega)
    exact ⟨k1.cell 0 rfl, k1.cell 1 rfl, k2.cell 0 rfl, k2.cell 1 rfl⟩
  rw [hw0]
  have B0 : Below w0.heap.size w0 w0.drew := (Below.refl _ _).drew
  have KE : Hid (∀ fv, Calls Tryd.prog 23 #[.slice none 0 0, .agg #[.int .u64 0, .int .u64 5], .int .i64 2, fv] w0.drew fun e w' => ∃ g c, e = .returned (.tuple #[.slice (some ⟨g, 0, none⟩) 1 c, .bool true]) ∧ Below w0.drew.heap.size w0.drew w') := fun fv => keep0_any fv _
  clear hf hw0
  go_region_held3 (fun W => W.cell? ⟨f, 0, none⟩ = some (.int .i64 2) ∧ W.cell? ⟨f, 1, none⟩ = some (.slice none 0 0) ∧ W.cell? ⟨w.heap.size, 0, none⟩ = some (.int .u64 0) ∧ W.cell? ⟨w.heap.size, 1, none⟩ = some (.int .u64 5)) (first | exact KB _ B0 | exact KB _ B1) (first
    | (go_at_call 23; refine (KE.out _).mono ?_; clear KE; rintro e w1 ⟨g, c, rfl, hb1⟩; have B1 : Below w0.heap.size w0 w1 := B0.trans (hb1.mono B0.size))
    | fail)
  all_goals
    have k1 := H0.out.2.1.below B1 H0.out.2.1.lt
    have o1 := k1.cell 1 rfl
    have g1 := k1.frozen 1
    have HE : Hid (Upd (fun k => k = f) w w1 ∧ Blk w1 f #[.int .i64 2, .slice none 0 0] 68) := ⟨Upd.ofBelow (H0.out.1.trans (B1.mono H0.out.1.size)) (fun k h1 h2 => absurd h1 (by omega)), k1⟩
    clear k1 KB B0 B1 hb1 H0
    go_wp2
    go_ret
    exact ⟨g, c, rfl, HE.out.2.set 1 _, HE.out.1.setCell (p := ⟨f, 1, none⟩) (fun _ => rfl) _⟩
theorem guess1_any (f g c : Nat) (w : World) (hf : Blk w f #[.int .i64 2, .slice (some ⟨g, 0, none⟩) 1 c] 68) :
    Calls Tryd.prog 13 #[.pointer (some ⟨f, 0, none⟩)] w fun e w' => e = .returned (.int .u64 1) ∧ Below w.heap.size w w' := by
  have c0 : w.cell? ⟨f, 0, none⟩ = some (.int .i64 2) := hf.cell 0 rfl
  have c1 : w.cell? ⟨f, 1, none⟩ = some (.slice (some ⟨g, 0, none⟩) 1 c) := hf.cell 1 rfl
  have BB : Hid (Below w.heap.size w w) := Below.refl _ _
  clear hf
  go_enter Tryd.func13, Tryd.ntmps13
  go_upto_region 1 with fail
  go_quiet (fail)
  go_wp2
  go_ret
  exact ⟨rfl, ⟨BB.out.os, BB.out.tape, BB.out.output, BB.out.size, BB.out.block⟩⟩
end Go.Proofs.YtfgmjgoegdiieaaDoor
