/-
  SaD.
-/
import Derived.Test.YtpcfchbiohbcoaaDoorSaBq
namespace Go.Proofs.YtpcfchbiohbcoaaDoor
open Go Go.RowKit
set_option maxRecDepth 100000

theorem less21_any (w : World) :
    Calls Tryd.prog 80 #[.int .u64 2, .int .u64 1] w fun e w' => e = .returned (.bool false) ∧ Below w.heap.size w w' := by
  have B0 : Hid (Below w.heap.size w w) := Below.refl _ _
  go_enter Tryd.func80, Tryd.ntmps80
  go_wp2
  go_ret
  exact ⟨rfl, B0.out⟩
set_option maxHeartbeats 4000000 in
theorem insertion2_any (g : Nat) (w : World) (hK : Blk w g #[.int .u64 1, .int .u64 2] 51) :
    Calls Tryd.prog 74 #[.slice (some ⟨g, 0, none⟩) 2 2, .int .i64 0, .int .i64 2] w fun e w' => e = .returned (.tuple #[]) ∧ Below w.heap.size w w' := by
  have c0 : w.cell? ⟨g, 0, none⟩ = some (.int .u64 1) := hK.cell 0 rfl
  have c1 : w.cell? ⟨g, 1, none⟩ = some (.int .u64 2) := hK.cell 1 rfl
  have KP : ∀ W, Below w.heap.size w W → W.cell? ⟨g, 0, none⟩ = some (.int .u64 1) ∧ W.cell? ⟨g, 1, none⟩ = some (.int .u64 2) := fun W hW => ⟨(hW.cell (p := ⟨g, 0, none⟩) hK.lt).trans c0, (hW.cell (p := ⟨g, 1, none⟩) hK.lt).trans c1⟩
  clear hK
  have LS := less21_any w.drew
  have B0 : Below w.heap.size w w.drew := (Below.refl _ _).drew
  go_enter Tryd.func74, Tryd.ntmps74
  go_wp2
  go_loopw [6] (fun z wr => (z = .int .i64 1 ∧ wr = w) ∨ (z = .int .i64 2 ∧ Below w.heap.size w wr)) (fun z _ => 2 - (intOf z).toNat)
  case atStart => exact Or.inl ⟨rfl, rfl⟩
  case round =>
    rcases hrel with ⟨rfl, rfl⟩ | ⟨rfl, hb⟩
    · go_wp2
      go_loopw [7] (fun z wq => z = .int .i64 1 ∧ wq = wr) (fun _ _ => 0)
      case atStart => exact ⟨rfl, rfl⟩
      case round =>
        obtain ⟨rfl, rfl⟩ := hrel
        have hwz : IntKind.i64.wrap 0 = 0 := by decide
        go_upto_region 4 with fail
        go_region_held3 (fun W => W.cell? ⟨g, 0, none⟩ = some (.int .u64 1) ∧ W.cell? ⟨g, 1, none⟩ = some (.int .u64 2)) (first | exact KP _ B0 | exact KP _ B1) (first | (go_at_call 80; refine LS.mono ?_; clear LS; rintro e w1 ⟨rfl, hb1⟩; have B1 : Below wr.heap.size wr w1 := B0.trans (hb1.mono B0.size)) | fail)
        go_wp2
        exact ⟨Or.inr ⟨rfl, B1⟩, by decide⟩
    · go_wp2
      go_end0
      exact ⟨rfl, hb⟩
theorem len2_any (w : World) :
    Calls Tryd.prog 60 #[.int .u64 2] w fun e w' => e = .returned (.int .i64 2) ∧ Below w.heap.size w w' := by
  have B0 : Hid (Below w.heap.size w w) := Below.refl _ _
  go_enter Tryd.func60, Tryd.ntmps60
  go_wp2
  go_ret
  exact ⟨by kernel_rfl, B0.out⟩
theorem pdq2_any (g : Nat) (w : World) (hK : Blk w g #[.int .u64 1, .int .u64 2] 51) :
    Calls Tryd.prog 59 #[.slice (some ⟨g, 0, none⟩) 2 2, .int .i64 0, .int .i64 2, .int .i64 2] w fun e w' => e = .returned (.tuple #[]) ∧ Below w.heap.size w w' := by
  have IS := insertion2_any g w hK
  go_enter Tryd.func59, Tryd.ntmps59
  go_wp2
  go_loopw [1, 2] (fun z1 z2 wr => z1 = .int .i64 0 ∧ z2 = .int .i64 2 ∧ wr = w) (fun _ _ _ => 0)
  case atStart => exact ⟨rfl, rfl, rfl⟩
  case round =>
    obtain ⟨rfl, rfl, rfl⟩ := hrel
    go_wp2_with (go_at_call 74; refine IS.mono ?_; clear IS; rintro e w1 ⟨rfl, hb1⟩)
    (try simp only [Exit.inBlock, Exit.then])
    refine bodyPost_ret (results_none rfl _ _ _) rfl ?_
    exact ⟨rfl, hb1⟩
theorem sort2_any (g : Nat) (w : World) (hK : Blk w g #[.int .u64 1, .int .u64 2] 51) :
    Calls Tryd.prog 40 #[.slice (some ⟨g, 0, none⟩) 2 2] w fun e w' => e = .returned (.tuple #[]) ∧ Below w.heap.size w w' := by
  have LN := len2_any w
  have PD : Hid (∀ w1, Below w.heap.size w w1 → Calls Tryd.prog 59 #[.slice (some ⟨g, 0, none⟩) 2 2, .int .i64 0, .int .i64 2, .int .i64 2] w1 fun e w' => e = .returned (.tuple #[]) ∧ Below w1.heap.size w1 w') := fun w1 hb => pdq2_any g w1 (hK.below hb hK.lt)
  clear hK
  go_enter Tryd.func40, Tryd.ntmps40
  go_wp2_with (first
    | (go_at_call 60; refine LN.mono ?_; clear LN; rintro e w1 ⟨rfl, hb1⟩; have P1 := PD.out w1 hb1; clear PD)
    | (go_at_call 59; refine P1.mono ?_; clear P1; rintro e w2 ⟨rfl, hb2⟩))
  go_end0
  exact ⟨rfl, hb1.trans (hb2.mono hb1.size)⟩
set_option maxHeartbeats 4000000 in
theorem compact2_any (g : Nat) (w : World) (hK : Blk w g #[.int .u64 1, .int .u64 2] 51) :
    Calls Tryd.prog 41 #[.slice (some ⟨g, 0, none⟩) 2 2] w fun e w' => e = .returned (.slice (some ⟨g, 0, none⟩) 2 2) ∧ Below w.heap.size w w' := by
  have c0 : w.cell? ⟨g, 0, none⟩ = some (.int .u64 1) := hK.cell 0 rfl
  have c1 : w.cell? ⟨g, 1, none⟩ = some (.int .u64 2) := hK.cell 1 rfl
  have KP : ∀ W, Below w.heap.size w W → W.cell? ⟨g, 0, none⟩ = some (.int .u64 1) ∧ W.cell? ⟨g, 1, none⟩ = some (.int .u64 2) := fun W hW => ⟨(hW.cell (p := ⟨g, 0, none⟩) hK.lt).trans c0, (hW.cell (p := ⟨g, 1, none⟩) hK.lt).trans c1⟩
  clear hK
  go_enter Tryd.func41, Tryd.ntmps41
  go_wp2
  go_loopw [3] (fun z wr => (z = .int .i64 1 ∧ wr = w) ∨ (z = .int .i64 2 ∧ Below w.heap.size w wr)) (fun z _ => 2 - (intOf z).toNat)
  case atStart => exact Or.inl ⟨rfl, rfl⟩
  case round =>
    rcases hrel with ⟨rfl, rfl⟩ | ⟨rfl, hb⟩
    · have B0 : Below wr.heap.size wr wr.drew := (Below.refl _ _).drew
      have hwz : IntKind.i64.wrap 0 = 0 := by decide
      go_upto_region 6 with fail
      go_region_held3 (fun W => W.cell? ⟨g, 0, none⟩ = some (.int .u64 1) ∧ W.cell? ⟨g, 1, none⟩ = some (.int .u64 2)) (first | exact KP _ B0 | fail) (first | fail | fail)
      go_wp2
      go_roundw
      case rel => exact Or.inr ⟨rfl, B0⟩
      case measure => decide
    · go_wp2
      go_ret
      exact ⟨rfl, hb⟩
end Go.Proofs.YtpcfchbiohbcoaaDoor
