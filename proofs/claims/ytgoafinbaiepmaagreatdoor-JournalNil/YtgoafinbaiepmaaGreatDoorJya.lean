/-
  Layer 8 (journal): the law's fault.
-/
import Derived.Test.YtgoafinbaiepmaaGreatDoorJv
import Derived.Test.YtgoafinbaiepmaaGreatDoorJB
namespace Go.Proofs.YtgoafinbaiepmaaGreatDoor
open Go.RowKit Go.Shelf
set_option maxRecDepth 100000
/-- The errors package's own variable. -/
def ErrT (w : World) : Prop := w.cell? ⟨0, 0, none⟩ = some (.iface 200 (.agg #[.pointer (some ⟨5, 51, none⟩)]))
theorem ErrT.below {w w' : World} (h : ErrT w) (hb : Below w.heap.size w w') : ErrT w' := (hb.cell (p := ⟨0, 0, none⟩) (World.block_lt_of_cell? w _ h)).trans h
/-- A file's fault without a name: ErrArg. -/
def IsF (w : World) (p : Nat) : Prop := w.heap[p]? = some (.cells #[.string ⟨#[]⟩, .int .i64 0, .int .i64 1] 113 (0, 0))
theorem as_new (p : Nat) (w : World) (hF : IsF w p) (hE : ErrT w) :
    Calls Tryz.prog 53 #[.iface 111 (.pointer (some ⟨p, 0, none⟩)), .iface 122 (.pointer (some ⟨w.heap.size, 0, none⟩))] (w.alloc (.cells #[.pointer none] 111)) fun e w' => e = .returned (.bool true) ∧ w'.cell? ⟨w.heap.size, 0, none⟩ = some (.pointer (some ⟨p, 0, none⟩)) ∧ IsF w' p ∧ Below w.heap.size w w' := by
  have hb0 : Below w.heap.size w (w.alloc (.cells #[.pointer none] 111)) := (Below.refl _ _).alloc (Nat.le_refl _) _
  refine (as_hit ⟨p, 0, none⟩ ⟨w.heap.size, 0, none⟩ (.pointer none) (w.alloc (.cells #[.pointer none] 111)) (hE.below hb0) (by simp [go_sem]) (by simp [go_sem])).mono ?_
  rintro e w' ⟨rfl, o1, o2, o3, o4, rfl⟩
  have hb : Below w.heap.size w (((((w.alloc (.cells #[.pointer none] 111)).alloc o1).alloc o2).alloc o3).alloc o4) := ((((((Below.refl _ _).alloc (Nat.le_refl _) _).alloc (by (try simp); (try omega)) _).alloc (by (try simp); (try omega)) _).alloc (by (try simp); (try omega)) _).alloc (by (try simp); (try omega)) _)
  have hb' := hb.setCell (p := ⟨w.heap.size, 0, none⟩) (Nat.le_refl _) (.pointer (some ⟨p, 0, none⟩))
  refine ⟨rfl, ?_, (hb'.block p (lt_of_block hF)).trans hF, hb'⟩
  simp [go_sem]
set_option maxHeartbeats 2000000 in
theorem fault_hit (p : Nat) (w : World) (hF : IsF w p) (hE : ErrT w) :
    Calls Tryz.prog 17 #[.iface 111 (.pointer (some ⟨p, 0, none⟩)), .string ⟨#[]⟩, .int .i64 0, .int .i64 1] w fun e w' => e = .returned (.bool true) ∧ Below w.heap.size w w' := by
  have AS := as_new p w hF hE
  clear hF hE
  go_enter Tryz.func17, Tryz.ntmps17
  go_wp2_with (first
    | (go_at_call 53; refine AS.mono ?_; clear AS; rintro e w3 ⟨rfl, c3, f3, b3⟩; have g0 : w3.cell? ⟨p, 0, none⟩ = some (.string ⟨#[]⟩) := (by simp [World.cell?, show w3.heap[p]? = _ from f3]); have g1 : w3.cell? ⟨p, 1, none⟩ = some (.int .i64 0) := (by simp [World.cell?, show w3.heap[p]? = _ from f3]); have g2 : w3.cell? ⟨p, 2, none⟩ = some (.int .i64 1) := (by simp [World.cell?, show w3.heap[p]? = _ from f3]); clear f3)
    | (go_at_call 21; refine (is_fault p 1 _ g2).mono ?_; rintro e w4 ⟨rfl, hw⟩; obtain rfl := hw.symm))
  go_ret
  exact ⟨rfl, b3⟩
set_option maxHeartbeats 2000000 in
theorem fault_nil (w : World) :
    Calls Tryz.prog 17 #[.nilIface, .string ⟨#[]⟩, .int .i64 0, .int .i64 1] w fun e w' => e = .returned (.bool false) ∧ Below w.heap.size w w' := by
  have b3 : Below w.heap.size w (w.alloc (.cells #[.pointer none] 111)) := (Below.refl _ _).alloc (Nat.le_refl _) _
  go_enter Tryz.func17, Tryz.ntmps17
  go_wp2_with (go_at_call 53; refine (as_nil _ _).mono ?_; rintro e w3 ⟨rfl, hw⟩; obtain rfl := hw.symm)
  go_ret
  exact ⟨rfl, b3⟩
end Go.Proofs.YtgoafinbaiepmaaGreatDoor
