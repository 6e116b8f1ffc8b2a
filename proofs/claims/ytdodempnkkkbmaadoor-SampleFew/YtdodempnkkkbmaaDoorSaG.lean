/-
  SaG.
-/
import Derived.Test.YtdodempnkkkbmaaDoorSaF
namespace Go.Proofs.YtdodempnkkkbmaaDoor
open Go Go.RowKit
set_option maxRecDepth 100000

abbrev failA : Array Value := #[.int .i64 1, .int .u64 0, .string ⟨#[]⟩, .int .i64 0]
abbrev slowA : Array Value := #[.int .i64 2, .int .u64 6, .string ⟨#[]⟩, .int .i64 0]
theorem hasFailed_any (b : Nat) (w : World) (hK : Blk w b exRow 55) :
    Calls Tryd.prog 37 #[.slice (some ⟨b, 0, none⟩) 2 2, .func (.func 38) #[] #[]] w fun e w' => e = .returned (.bool true) ∧ Below w.heap.size w w' := by
  have FX := idxFailed_any b w hK
  clear hK
  go_enter Tryd.func37, Tryd.ntmps37
  go_wp2_with (go_at_call 54; refine FX.mono ?_; clear FX; rintro e w1 ⟨rfl, hb1⟩)
  go_ret
  exact ⟨rfl, hb1⟩
theorem hasNamed_any (b q : Nat) (w : World) (hK : Blk w b exRow 55) (hq : Blk w q nameA 41) :
    Calls Tryd.prog 37 #[.slice (some ⟨b, 0, none⟩) 2 2, .func (.func 40) #[] #[.pointer (some ⟨q, 0, none⟩)]] w fun e w' => e = .returned (.bool false) ∧ Below w.heap.size w w' := by
  have FX := idxNamed_any b q w hK hq
  clear hK hq
  go_enter Tryd.func37, Tryd.ntmps37
  go_wp2_with (go_at_call 54; refine FX.mono ?_; clear FX; rintro e w1 ⟨rfl, hb1⟩)
  go_ret
  exact ⟨rfl, hb1⟩
theorem holdsFailed_any (b : Nat) (w : World) (hK : Blk w b exRow 55) :
    Calls Tryd.prog 24 #[.agg failA, .slice (some ⟨b, 0, none⟩) 2 2] w fun e w' => e = .returned (.bool true) ∧ Below w.heap.size w w' := by
  have BB : Hid (∀ o, Below w.heap.size w (w.alloc o)) := fun o => (Below.refl _ _).alloc (Nat.le_refl _) _
  have FX : Hid (∀ o, Calls Tryd.prog 37 #[.slice (some ⟨b, 0, none⟩) 2 2, .func (.func 38) #[] #[]] (w.alloc o) fun e w' => e = .returned (.bool true) ∧ Below (w.alloc o).heap.size (w.alloc o) w') := fun o => hasFailed_any b _ (hK.alloc o)
  clear hK
  go_enter Tryd.func24, Tryd.ntmps24
  go_wp2_with (go_at_call 37; refine (FX.out _).mono ?_; clear FX; rintro e w1 ⟨rfl, hb1⟩)
  go_ret
  exact ⟨rfl, (BB.out _).trans (hb1.mono (BB.out _).size)⟩
theorem holdsNamed_any (b : Nat) (w : World) (hK : Blk w b exRow 55) :
    Calls Tryd.prog 24 #[.agg nameA, .slice (some ⟨b, 0, none⟩) 2 2] w fun e w' => e = .returned (.bool false) ∧ Below w.heap.size w w' := by
  have BB : Hid (∀ o, Below w.heap.size w (w.alloc o)) := fun o => (Below.refl _ _).alloc (Nat.le_refl _) _
  have FX := hasNamed_any b w.heap.size (w.alloc (.cells nameA 41)) (hK.alloc _) (Blk.new _ _ _)
  clear hK
  go_enter Tryd.func24, Tryd.ntmps24
  go_wp2_with (go_at_call 37; refine FX.mono ?_; clear FX; rintro e w1 ⟨rfl, hb1⟩)
  go_ret
  exact ⟨rfl, (BB.out _).trans (hb1.mono (BB.out _).size)⟩
theorem holdsSlow_any (b : Nat) (w : World) (hK : Blk w b exRow 55) :
    Calls Tryd.prog 24 #[.agg slowA, .slice (some ⟨b, 0, none⟩) 2 2] w fun e w' => e = .returned (.bool false) ∧ Below w.heap.size w w' := by
  have TD : ∀ w7, w.alloc (.cells slowA 41) = w7 → Calls Tryd.prog 39 #[.slice (some ⟨b, 0, none⟩) 2 2] w7.drew fun e w' => e = .returned (.int .u64 5) ∧ Below w7.drew.heap.size w7.drew w' := fun w7 h => by subst h; exact took_any b _ (show Blk _ b exRow 55 from hK.alloc _)
  have KP : ∀ W, Below (w.alloc (.cells slowA 41)).heap.size (w.alloc (.cells slowA 41)) W → W.cell? ⟨w.heap.size, 1, none⟩ = some (.int .u64 6) := fun W hW => ((Blk.new w slowA 41).below hW (by rw [World.size_alloc]; omega)).cell 1 rfl
  clear hK
  go_enter Tryd.func24, Tryd.ntmps24
  go_upto_region 5 with fail
  obtain ⟨w7, hw7⟩ : ∃ w7, w.alloc (.cells slowA 41) = w7 := ⟨_, rfl⟩
  have H7 : Hid (Below w.heap.size w w7) := by rw [← hw7]; exact (Below.refl _ _).alloc (Nat.le_refl _) _
  rw [hw7] at KP ⊢
  have TK : Calls Tryd.prog 39 #[.slice (some ⟨b, 0, none⟩) 2 2] w7.drew fun e w' => e = .returned (.int .u64 5) ∧ Below w7.drew.heap.size w7.drew w' := TD w7 hw7
  have B0 : Below w7.heap.size w7 w7.drew := (Below.refl _ _).drew
  clear hw7 TD
  go_region_held3 (fun W => W.cell? ⟨w.heap.size, 1, none⟩ = some (.int .u64 6)) (first | exact KP _ B0 | exact KP _ B1) (first
    | (go_at_call 39; refine TK.mono ?_; clear TK; rintro e w1 ⟨rfl, hb1⟩; have B1 : Below w7.heap.size w7 w1 := B0.trans (hb1.mono B0.size))
    | fail)
  go_wp2
  go_ret
  exact ⟨rfl, H7.out.trans (B1.mono H7.out.size)⟩
end Go.Proofs.YtdodempnkkkbmaaDoor
