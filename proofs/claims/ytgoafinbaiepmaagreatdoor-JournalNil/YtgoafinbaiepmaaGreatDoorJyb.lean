/-
  Layer 8 (journal): Open of what may not be.
-/
import Derived.Test.YtgoafinbaiepmaaGreatDoorJya
namespace Go.Proofs.YtgoafinbaiepmaaGreatDoor
open Go.RowKit Go.Shelf
set_option maxRecDepth 100000
theorem Tryz.info113 : (Tryz.prog.info? 113).map (fun i => (i.zero, i.size)) = some (some (.agg #[.string ⟨#[]⟩, .int .i64 0, .int .i64 0]), 3) := by kernel_rfl
/-- What is told of it. -/
def Refused (w : World) (e : Ending) (w' : World) : Prop := ∃ p, e = .returned (.tuple #[.pointer none, .agg #[.int .i64 0, .int .u64 0, .int .u64 0, .int .i64 0], .iface 111 (.pointer (some ⟨p, 0, none⟩))]) ∧ IsF w' p ∧ Below w.heap.size w w'
def recO : Obj := .cells #[.int .i64 0, .int .u64 0, .int .u64 0, .int .i64 0] 49
def ffO : Obj := .cells #[.string ⟨#[]⟩, .int .i64 0, .int .i64 1] 113
theorem refused_end (w : World) : IsF ((w.alloc recO).alloc ffO) (w.heap.size + 1) ∧ Below w.heap.size w ((w.alloc recO).alloc ffO) :=
  ⟨heap_at (by simp), ((Below.refl _ _).alloc (Nat.le_refl _) _).alloc (by simp) _⟩
set_option maxHeartbeats 2000000 in
theorem open_nil (z : Int) (w : World) : Calls Tryz.prog 16 #[.pointer none, .int .i64 z] w (Refused w) := by
  have HQ : Hid _ := refused_end w
  go_enter Tryz.func16, Tryz.ntmps16
  go_wp2
  refine bodyPost_ret (by simp [results, Tryz.results16, go_sem]; try rfl) rfl ?_
  exact ⟨_, rfl, HQ.out⟩
set_option maxHeartbeats 2000000 in
theorem open_low (d : Nat) (z : Int) (w : World) (hz : z < 64) : Calls Tryz.prog 16 #[.pointer (some ⟨d, 0, none⟩), .int .i64 z] w (Refused w) := by
  have HQ : Hid _ := refused_end w
  have l3 : decide (z < 64) = true := decide_eq_true hz
  go_enter Tryz.func16, Tryz.ntmps16
  go_wp2
  refine bodyPost_ret (by simp [results, Tryz.results16, go_sem]; try rfl) rfl ?_
  exact ⟨_, rfl, HQ.out⟩
set_option maxHeartbeats 2000000 in
theorem open_high (d : Nat) (z : Int) (w : World) (hz : 16777216 < z) : Calls Tryz.prog 16 #[.pointer (some ⟨d, 0, none⟩), .int .i64 z] w (Refused w) := by
  have HQ : Hid _ := refused_end w
  have l3 : decide (z < 64) = false := decide_eq_false (by omega)
  have l4 : decide (16777216 < z) = true := decide_eq_true hz
  go_enter Tryz.func16, Tryz.ntmps16
  go_wp2
  refine bodyPost_ret (by simp [results, Tryz.results16, go_sem]; try rfl) rfl ?_
  exact ⟨_, rfl, HQ.out⟩
end Go.Proofs.YtgoafinbaiepmaaGreatDoor
