/-
  SaJ.
-/
import Derived.Test.YtpcfchbiohbcoaaDoorSaHq
import Derived.Deep.RegionWith
namespace Go.Proofs.YtpcfchbiohbcoaaDoor
open Go Go.RowKit
set_option maxRecDepth 100000

theorem newFew2_any (w : World) :
    Calls Tryd.prog 5 #[.int .i64 2] w fun e w' => e = .returned (.tuple #[.pointer (some ⟨w.heap.size, 0, none⟩), .int .i64 0]) ∧ Blk w' w.heap.size #[.int .i64 2, .slice none 0 0] 64 ∧ Below w.heap.size w w' := by
  have BB : Hid (Below w.heap.size w (w.alloc (.cells #[.int .i64 2, .slice none 0 0] 64))) := (Below.refl _ _).alloc (Nat.le_refl _) _
  go_enter Tryd.func5, Tryd.ntmps5
  go_wp2
  go_ret2
  exact ⟨rfl, Blk.new _ _ _, BB.out⟩
theorem newFew1_any (w : World) :
    Calls Tryd.prog 5 #[.int .i64 1] w fun e w' => e = .returned (.tuple #[.pointer none, .int .i64 1]) ∧ Below w.heap.size w w' := by
  have BB : Hid (Below w.heap.size w w) := Below.refl _ _
  go_enter Tryd.func5, Tryd.ntmps5
  go_wp2
  go_ret2
  exact ⟨rfl, BB.out⟩
theorem search0_any (fv : Value) (w : World) :
    Calls Tryd.prog 47 #[.slice none 0 0, .agg #[.int .u64 0, .int .u64 5], fv] w fun e w' => e = .returned (.tuple #[.int .i64 0, .bool false]) ∧ Below w.heap.size w w' := by
  have BB : Hid (∀ o, Below w.heap.size w (w.alloc o)) := fun o => (Below.refl _ _).alloc (Nat.le_refl _) _
  go_enter Tryd.func47, Tryd.ntmps47
  go_wp2
  go_loopw [9, 10] (fun z y wr => z = .int .i64 0 ∧ y = .int .i64 0 ∧ Below w.heap.size w wr) (fun _ _ _ => 0)
  case atStart => exact ⟨rfl, rfl, by first | exact BB.out _ | exact Below.refl _ _⟩
  case round =>
    obtain ⟨rfl, rfl, hb⟩ := hrel
    have HB : Hid (∀ n, Below w.heap.size w (wr.drewN n)) := fun n => ⟨hb.os, hb.tape, hb.output, hb.size, hb.block⟩
    clear hb
    go_upto_region 8 with fail
    go_quiet (fail)
    all_goals go_wp2
    all_goals go_ret2
    all_goals exact ⟨rfl, HB.out _⟩
theorem insert0_any (b : Nat) (w : World) (hb : Blk w b #[.int .u64 0, .int .u64 5] 33) :
    Calls Tryd.prog 48 #[.slice none 0 0, .int .i64 0, .slice (some ⟨b, 0, none⟩) 1 1] w fun e w' => ∃ g c, e = .returned (.slice (some ⟨g, 0, none⟩) 1 c) ∧ Below w.heap.size w w' := by
  have c0 : w.drew.cell? ⟨b, 0, none⟩ = some (.int .u64 0) := hb.cell 0 rfl
  have c1 : w.drew.cell? ⟨b, 1, none⟩ = some (.int .u64 5) := hb.cell 1 rfl
  have BB : Hid (∀ o, Below w.heap.size w (w.alloc o).drew) := fun o => ((Below.refl _ _).alloc (Nat.le_refl _) _).drew
  clear hb
  go_enter Tryd.func48, Tryd.ntmps48
  go_wp2
  go_ret
  exact ⟨_, _, rfl, BB.out _⟩
set_option maxHeartbeats 4000000 in
theorem keep0_any (fv : Value) (w : World) :
    Calls Tryd.prog 31 #[.slice none 0 0, .agg #[.int .u64 0, .int .u64 5], .int .i64 2, fv] w fun e w' => ∃ g c, e = .returned (.tuple #[.slice (some ⟨g, 0, none⟩) 1 c, .bool true]) ∧ Below w.heap.size w w' := by
  have S1 := search0_any fv (w.alloc (.cells #[.int .u64 0, .int .u64 5] 33))
  have HN : Hid (Blk (w.alloc (.cells #[.int .u64 0, .int .u64 5] 33)) w.heap.size #[.int .u64 0, .int .u64 5] 33 ∧ Below w.heap.size w (w.alloc (.cells #[.int .u64 0, .int .u64 5] 33))) := ⟨Blk.new _ _ _, (Below.refl _ _).alloc (Nat.le_refl _) _⟩
  go_enter Tryd.func31, Tryd.ntmps31
  go_wp2_with (first
    | (go_at_call 47; refine S1.mono ?_; clear S1; rintro e w1 ⟨rfl, hb1⟩; have K1 := HN.out.1.below hb1 HN.out.1.lt; have c0 : w1.cell? ⟨w.heap.size, 0, none⟩ = some (.int .u64 0) := K1.cell 0 rfl; have c1 : w1.cell? ⟨w.heap.size, 1, none⟩ = some (.int .u64 5) := K1.cell 1 rfl; have HB1 : Hid (Below w.heap.size w w1) := HN.out.2.trans (hb1.mono HN.out.2.size); have I1 := insert0_any w1.heap.size (w1.alloc (.cells #[.int .u64 0, .int .u64 5] 33)) (Blk.new _ _ _); clear hb1 K1 HN)
    | (go_at_call 48; refine I1.mono ?_; clear I1; rintro e w2 ⟨g, c, rfl, hb2⟩; have HB2 : Hid (Below w.heap.size w w2) := (HB1.out.alloc HB1.out.size _).trans (hb2.mono (HB1.out.alloc HB1.out.size _).size)))
  go_ret2
  exact ⟨g, c, rfl, HB2.out⟩
theorem put0_any (f : Nat) (w : World) (hf : Blk w f #[.int .i64 2, .slice none 0 0] 64) :
    Calls Tryd.prog 15 #[.pointer (some ⟨f, 0, none⟩), .agg #[.int .u64 0, .int .u64 5]] w fun e w' => ∃ g c, e = .returned (.bool true) ∧ Blk w' f #[.int .i64 2, .slice (some ⟨g, 0, none⟩) 1 c] 64 ∧ Upd (fun k => k = f) w w' := by
  go_enter Tryd.func15, Tryd.ntmps15
  go_upto_region 1 with fail
  obtain ⟨w0, hw0⟩ : ∃ w0, w.alloc (.cells #[.int .u64 0, .int .u64 5] 33) = w0 := ⟨_, rfl⟩
  have H0 : Hid (Below w.heap.size w w0 ∧ Blk w0 f #[.int .i64 2, .slice none 0 0] 64 ∧ f < w.heap.size) := by subst hw0; exact ⟨(Below.refl _ _).alloc (Nat.le_refl _) _, hf.alloc _, hf.lt⟩
  have KB : ∀ W, Below w0.heap.size w0 W → W.cell? ⟨f, 0, none⟩ = some (.int .i64 2) ∧ W.cell? ⟨f, 1, none⟩ = some (.slice none 0 0) ∧ W.cell? ⟨w.heap.size, 0, none⟩ = some (.int .u64 0) ∧ W.cell? ⟨w.heap.size, 1, none⟩ = some (.int .u64 5) := fun W hW => by
    have k1 := H0.out.2.1.below hW H0.out.2.1.lt
    have k2 : Blk W w.heap.size #[.int .u64 0, .int .u64 5] 33 := by
      subst hw0
      exact (Blk.new w _ _).below hW (by rw [World.size_alloc]; omega)
    exact ⟨k1.cell 0 rfl, k1.cell 1 rfl, k2.cell 0 rfl, k2.cell 1 rfl⟩
  rw [hw0]
  have B0 : Below w0.heap.size w0 w0.drew := (Below.refl _ _).drew
  have KE : Hid (∀ fv, Calls Tryd.prog 31 #[.slice none 0 0, .agg #[.int .u64 0, .int .u64 5], .int .i64 2, fv] w0.drew fun e w' => ∃ g c, e = .returned (.tuple #[.slice (some ⟨g, 0, none⟩) 1 c, .bool true]) ∧ Below w0.drew.heap.size w0.drew w') := fun fv => keep0_any fv _
  clear hf hw0
  go_region_held3 (fun W => W.cell? ⟨f, 0, none⟩ = some (.int .i64 2) ∧ W.cell? ⟨f, 1, none⟩ = some (.slice none 0 0) ∧ W.cell? ⟨w.heap.size, 0, none⟩ = some (.int .u64 0) ∧ W.cell? ⟨w.heap.size, 1, none⟩ = some (.int .u64 5)) (first | exact KB _ B0 | exact KB _ B1) (first
    | (go_at_call 31; refine (KE.out _).mono ?_; clear KE; rintro e w1 ⟨g, c, rfl, hb1⟩; have B1 : Below w0.heap.size w0 w1 := B0.trans (hb1.mono B0.size))
    | fail)
  all_goals
    have k1 := H0.out.2.1.below B1 H0.out.2.1.lt
    have o1 := k1.cell 1 rfl
    have g1 := k1.frozen 1
    have HE : Hid (Upd (fun k => k = f) w w1 ∧ Blk w1 f #[.int .i64 2, .slice none 0 0] 64) := ⟨Upd.ofBelow (H0.out.1.trans (B1.mono H0.out.1.size)) (fun k h1 h2 => absurd h1 (by omega)), k1⟩
    clear k1 KB B0 B1 hb1 H0
    go_wp2
    go_ret
    exact ⟨g, c, rfl, HE.out.2.set 1 _, HE.out.1.setCell (p := ⟨f, 1, none⟩) (fun _ => rfl) _⟩
theorem guess1_any (f g c : Nat) (w : World) (hf : Blk w f #[.int .i64 2, .slice (some ⟨g, 0, none⟩) 1 c] 64) :
    Calls Tryd.prog 10 #[.pointer (some ⟨f, 0, none⟩)] w fun e w' => e = .returned (.int .u64 1) ∧ Below w.heap.size w w' := by
  have c0 : w.cell? ⟨f, 0, none⟩ = some (.int .i64 2) := hf.cell 0 rfl
  have c1 : w.cell? ⟨f, 1, none⟩ = some (.slice (some ⟨g, 0, none⟩) 1 c) := hf.cell 1 rfl
  have BB : Hid (Below w.heap.size w w) := Below.refl _ _
  clear hf
  go_enter Tryd.func10, Tryd.ntmps10
  go_upto_region 1 with fail
  go_quiet (fail)
  go_wp2
  go_ret
  exact ⟨rfl, ⟨BB.out.os, BB.out.tape, BB.out.output, BB.out.size, BB.out.block⟩⟩
end Go.Proofs.YtpcfchbiohbcoaaDoor
