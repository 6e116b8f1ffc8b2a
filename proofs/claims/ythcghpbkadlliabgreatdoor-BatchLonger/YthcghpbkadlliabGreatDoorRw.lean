/-
  Rw.
-/
import Derived.Test.YthcghpbkadlliabGreatDoorMa03
import Derived.Deep.RegionHeld3
import Derived.Deep.RegionWith
namespace Go.Proofs.YthcghpbkadlliabGreatDoor
open Go.Shelf Go.RowKit
set_option maxRecDepth 100000

theorem Holds.cut {w : World} {g : Nat} {K : List Int} (h : RowAt w g K) (t n : Nat) (hn : t + n ≤ K.length) (m : Nat) : Holds (w.drewN m) (some ⟨g, t, none⟩) n ((K.drop t).take n) := by
  refine ⟨by simp; omega, fun j u hj => ⟨_, rfl, ?_⟩⟩
  have hj' : j < n := by
    by_cases hjn : j < n
    · exact hjn
    · rw [List.getElem?_eq_none (by simp; omega)] at hj; simp at hj
  rw [Addr.add_lit]
  show w.cell? ⟨g, t + j, none⟩ = some u
  rw [h.cell (t + j) (by omega)]
  simp [List.getElem?_take_of_lt hj'] at hj
  obtain ⟨a, ha, rfl⟩ := hj
  simp [List.getD, ha]

set_option maxHeartbeats 2000000 in
theorem raw_ok (R g : Nat) (K : List Int) (t n : Nat) (w : World) (h : IsR w R g K t) (hn : t + n ≤ K.length) (ht : t < K.length) :
    Calls Tryz.prog 28 #[.pointer (some ⟨R, 0, none⟩), .int .i64 n] w fun e w' => ∃ q, e = .returned (.tuple #[.slice (some ⟨q, 0, none⟩) n n, .nilIface]) ∧ RowAt w' q ((K.drop t).take n) ∧ w.heap.size ≤ q ∧ IsR w' R g K (t + n) ∧ Upd (fun k => k = R) w w' := by
  have L := left_any R g K t w h
  have hc0 := h.c0
  have hc1 := h.c1
  have hsm := h.small
  have hle := h.le
  have hne : ((n : Int) ≤ ((K.length - t : Nat) : Int)) := by omega
  go_enter Tryz.func28, Tryz.ntmps28
  go_wp2_with (go_at_call 61; refine L.mono ?_; rintro e w' ⟨rfl, nn, rfl⟩)
  have hd : t + n ≤ K.length := hn
  have hkt : ¬ (K.length = t) := by omega
  have hI : (t : Int) + (n : Int) ≤ (K.length : Int) := by omega
  have hwr : IntKind.i64.wrap ((t : Int) + (n : Int)) = (t : Int) + (n : Int) := by rw [wrap_i64]; omega
  have hI3 : (0 : Int) ≤ (t : Int) := by omega
  have hI4 : (t : Int) ≤ (t : Int) + (n : Int) := by omega
  have hI2 : ((t : Int) + (n : Int)).toNat = t + n := by omega
  have hn0 : decide ((n : Int) < 0) = false := by simp
  have hn1 : decide (K.length - t < n) = false := by simp; omega
  have hT2 : ∀ m, Holds (w.drewN m) (some ⟨g, t, none⟩) n ((K.drop t).take n) := fun m => Holds.cut h.row t n hn m
  go_region_with (go_at_call 59; refine (copied_any (some ⟨g, t, none⟩) n (K.length - t) ((K.drop t).take n) _ (hT2 _) (by omega)).mono ?_; rintro e w' ⟨rfl, hr, hb⟩)
  all_goals
    have hr2 : RowAt w' w.heap.size ((K.drop t).take n) := hr
    have hb2 : Below w.heap.size w w' := ⟨hb.os, hb.tape, hb.output, hb.size, hb.block⟩
    have h2 := h.below hb2
    have hc12 := h2.c1
    have hf12 := h2.f1
    have fin : ∃ q, (Ending.returned (.tuple #[.slice (some ⟨w.heap.size, 0, none⟩) n n, .nilIface])) = .returned (.tuple #[.slice (some ⟨q, 0, none⟩) n n, .nilIface]) ∧ RowAt (w'.setCell ⟨R, 1, none⟩ (.int .i64 ((t : Int) + (n : Int)))) q ((K.drop t).take n) ∧ w.heap.size ≤ q ∧ IsR (w'.setCell ⟨R, 1, none⟩ (.int .i64 ((t : Int) + (n : Int)))) R g K (t + n) ∧ Upd (fun k => k = R) w (w'.setCell ⟨R, 1, none⟩ (.int .i64 ((t : Int) + (n : Int)))) := by
      have T := h2.take (u := t + n) hn
      rw [Int.natCast_add] at T
      refine ⟨w.heap.size, rfl, ?_, Nat.le_refl _, T, Upd.setCell (S := fun k => k = R) (p := ⟨R, 1, none⟩) (Upd.ofBelow hb2 (fun k hk hk' => by omega)) (fun _ => rfl) _⟩
      exact (Below.heap_setCell w' ⟨R, 1, none⟩ _ w.heap.size (by have := lt_of_block h.block; simp; omega)).trans hr2
    clear hr hb hr2 hb2 h2 hc0 hc1 L hT2
    go_wp2
    go_ret2
    exact fin
end Go.Proofs.YthcghpbkadlliabGreatDoor
