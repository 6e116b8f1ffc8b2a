/-
  Contracts: the Reader's Raw of nothing, at the end.
-/
import Derived.Test.YtpbpkhbmopjdjaaDoorRt
import Derived.Deep.RegionHeld3
import Derived.Deep.RegionWith
namespace Go.Proofs.YtpbpkhbmopjdjaaDoor
open Go.Shelf Go.RowKit
set_option maxRecDepth 100000

set_option maxHeartbeats 2000000 in
theorem raw_zero (R g : Nat) (K : List Int) (w : World) (h : IsR w R g K K.length) :
    Calls Tryd.prog 31 #[.pointer (some ⟨R, 0, none⟩), .int .i64 0] w fun e w' => ∃ q, e = .returned (.tuple #[.slice (some ⟨q, 0, none⟩) 0 0, .nilIface]) ∧ RowAt w' q [] ∧ w.heap.size ≤ q ∧ IsR w' R g K K.length ∧ Upd (fun k => k = R) w w' := by
  have L := left_any R g K K.length w h
  have hc0 := h.c0
  have hc1 := h.c1
  have hsm := h.small
  have hle := h.le
  rw [Nat.sub_self] at L
  go_enter Tryd.func31, Tryd.ntmps31
  go_wp2_with (go_at_call 24; refine L.mono ?_; rintro e w' ⟨rfl, nn, rfl⟩)
  have hI3 : (0 : Int) ≤ (K.length : Int) := by omega
  have hwr : IntKind.i64.wrap (K.length : Int) = (K.length : Int) := by rw [wrap_i64]; omega
  have hT2 : ∀ m, Holds (w.drewN m) (some ⟨g, 0, none⟩) 0 [] := fun m => ⟨rfl, fun j u hj => by simp at hj⟩
  go_region_with (go_at_call 50; refine (copied_any (some ⟨g, 0, none⟩) 0 0 [] _ (hT2 _) (by omega)).mono ?_; rintro e w' ⟨rfl, hr, hb⟩)
  all_goals
    have hr2 : RowAt w' w.heap.size [] := hr
    have hb2 : Below w.heap.size w w' := ⟨hb.os, hb.tape, hb.output, hb.size, hb.block⟩
    have h2 := h.below hb2
    have hc12 := h2.c1
    have hf12 := h2.f1
    have fin : ∃ q, (Ending.returned (.tuple #[.slice (some ⟨w.heap.size, 0, none⟩) 0 0, .nilIface])) = .returned (.tuple #[.slice (some ⟨q, 0, none⟩) 0 0, .nilIface]) ∧ RowAt (w'.setCell ⟨R, 1, none⟩ (.int .i64 (K.length : Int))) q [] ∧ w.heap.size ≤ q ∧ IsR (w'.setCell ⟨R, 1, none⟩ (.int .i64 (K.length : Int))) R g K K.length ∧ Upd (fun k => k = R) w (w'.setCell ⟨R, 1, none⟩ (.int .i64 (K.length : Int))) := by
      have T := h2.take (u := K.length) (Nat.le_refl _)
      refine ⟨w.heap.size, rfl, ?_, Nat.le_refl _, T, Upd.setCell (S := fun k => k = R) (p := ⟨R, 1, none⟩) (Upd.ofBelow hb2 (fun k hk hk' => by omega)) (fun _ => rfl) _⟩
      exact (Below.heap_setCell w' ⟨R, 1, none⟩ _ w.heap.size (by have := lt_of_block h.block; simp; omega)).trans hr2
    clear hr hb hr2 hb2 h2 hc0 hc1 L hT2
    go_wp2
    go_ret2
    exact fin
end Go.Proofs.YtpbpkhbmopjdjaaDoor
