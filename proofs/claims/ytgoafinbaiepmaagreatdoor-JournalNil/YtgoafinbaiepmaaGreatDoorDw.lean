/-
  Layer 7 (disk): Append of no bytes.
-/
import Derived.Test.YtgoafinbaiepmaaGreatDoorDr
namespace Go.Proofs.YtgoafinbaiepmaaGreatDoor
open Go.RowKit Go.Shelf Go.Maps Go.WideMaps
set_option maxRecDepth 100000

set_option maxHeartbeats 1000000 in
theorem appendN_none (base d N : Nat) (K : Dk) (s : ByteArray) (n f : Nat) (F : Fl) (ad : Option Addr) (c : Nat) (w : World) (h : OneN base w d N K s n f F) :
    Calls Tryz.prog 80 #[.pointer (some ⟨d, 0, none⟩), .string s, .slice ad 0 c] w fun e w' => e = .returned (.int .i64 0) ∧ OneN base w' d N K s n f F ∧ (∀ k : Nat, w'.heap[k]? = w.heap[k]?) ∧ Upd (fun k => k = d) w w' := by
  have FI := findN_any base d N K n f w h.disk h.on s h.small h.ok h.has
  have FR := fire_zero base d N K w h.disk h.arm
  have FN := fun W c => fappend_none f ad c W
  have k3 : min (9223372036854775807 : Int) 0 = 0 := by omega
  have k4 : (0 : Int) ≤ (c : Int) := by omega
  have EN : Hid (∀ w1, DiskAt base w1 d N K → (∀ k : Nat, w1.heap[k]? = w.heap[k]?) → Upd (fun k => k = d) w w1 → OneN base w1 d N K s n f F ∧ (∀ k : Nat, w1.heap[k]? = w.heap[k]?) ∧ Upd (fun k => k = d) w w1) := fun w1 D1 same U1 =>
    ⟨⟨D1, h.file.same same (U1.mono (fun _ _ _ => trivial)), h.has, h.on, h.arm, h.small, h.ok⟩, same, U1⟩
  clear h
  cases ad with
  | none =>
    go_enter Tryz.func80, Tryz.ntmps80
    go_wp2_with (first
      | (go_at_call 101; refine FI.mono ?_; clear FI; rintro e w0 ⟨rfl, hw⟩; obtain rfl := hw.symm)
      | (go_at_call 131; refine FR.mono ?_; clear FR; rintro e w1 ⟨rfl, D1, same1, U1⟩; have q := EN.out w1 D1 same1 U1; clear D1 same1 U1)
      | (go_at_call 140; refine (FN _ _).mono ?_; clear FN; rintro e w2 ⟨rfl, hw⟩; obtain rfl := hw.symm))
    go_ret
    exact ⟨rfl, q⟩
  | some a =>
    obtain ⟨b, o, x⟩ := a
    go_enter Tryz.func80, Tryz.ntmps80
    go_wp2_with (first
      | (go_at_call 101; refine FI.mono ?_; clear FI; rintro e w0 ⟨rfl, hw⟩; obtain rfl := hw.symm)
      | (go_at_call 131; refine FR.mono ?_; clear FR; rintro e w1 ⟨rfl, D1, same1, U1⟩; have q := EN.out w1 D1 same1 U1; clear D1 same1 U1)
      | (go_at_call 140; refine (FN _ _).mono ?_; clear FN; rintro e w2 ⟨rfl, hw⟩; obtain rfl := hw.symm))
    go_ret
    exact ⟨rfl, q⟩
end Go.Proofs.YtgoafinbaiepmaaGreatDoor
