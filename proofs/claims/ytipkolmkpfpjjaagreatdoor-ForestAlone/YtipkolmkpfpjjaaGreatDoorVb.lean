/-
  Vb.
-/
import Derived.Test.YtipkolmkpfpjjaaGreatDoorVa
import Derived.Test.YtipkolmkpfpjjaaGreatDoorMw
import Derived.Test.YtipkolmkpfpjjaaGreatDoorProg
import Derived.BigQuiet
import Derived.WalkMore
import Derived.Handy
namespace Go.Proofs.YtipkolmkpfpjjaaGreatDoor
open Go.RowKit
set_option maxRecDepth 100000

def ivV (i : Int × Int) : Value := .agg #[.int .i64 i.1, .int .i64 i.2]

def brI (v f t : Int) : Int := min (max v f) t
theorem empty_any (f t : Int) (w : World) :
    Calls Tryz.prog 86 #[.agg #[.int .i64 f, .int .i64 t]] w fun e w' => e = .returned (.bool (decide (t ≤ f))) ∧ w' = w.alloc (.cells #[.int .i64 f, .int .i64 t] 47) := by
  go_enter Tryz.func86, Tryz.ntmps86
  go_wp2
  go_ret
  exact ⟨rfl, rfl⟩
theorem bring_any (v f t : Int) (w : World) :
    Calls Tryz.prog 87 #[.int .i64 v, .agg #[.int .i64 f, .int .i64 t]] w fun e w' => e = .returned (.int .i64 (brI v f t)) ∧ w' = w.alloc (.cells #[.int .i64 f, .int .i64 t] 47) := by
  go_enter Tryz.func87, Tryz.ntmps87
  go_wp2
  all_goals go_ret
  all_goals refine ⟨?_, rfl⟩
  all_goals (unfold brI; show Ending.returned (Value.int _ _) = _; congr 2; try (split at * <;> omega))

def clipI (a w : Int × Int) : Int × Int := if w.2 ≤ w.1 then (w.1, w.1) else if a.2 ≤ a.1 then (brI a.1 w.1 w.2, brI a.1 w.1 w.2) else (brI a.1 w.1 w.2, brI a.2 w.1 w.2)

theorem clip_any (a b : Int × Int) (w : World) :
    Calls Tryz.prog 70 #[.agg #[.int .i64 a.1, .int .i64 a.2], .agg #[.int .i64 b.1, .int .i64 b.2]] w fun e w' => e = .returned (.agg #[.int .i64 (clipI a b).1, .int .i64 (clipI a b).2]) ∧ Below w.heap.size w w' := by
  obtain ⟨a1, a2⟩ := a
  obtain ⟨b1, b2⟩ := b
  have E := empty_any
  have B := bring_any
  unfold clipI
  by_cases h : b2 ≤ b1
  · rw [if_pos h]
    have h' : decide (b2 ≤ b1) = true := decide_eq_true h
    go_enter Tryz.func70, Tryz.ntmps70
    go_wp2_with (go_at_call 86; refine (E _ _ _).mono ?_; rintro e w1 ⟨rfl, rfl⟩)
    go_returns
    refine ⟨rfl, ?_⟩
    repeat' first | exact Below.refl _ _ | refine Below.alloc ?_ (by simp <;> omega) _ | refine Below.setCell ?_ ?_ _
  · rw [if_neg h]
    have h' : decide (b2 ≤ b1) = false := decide_eq_false h
    by_cases k : a2 ≤ a1
    · rw [if_pos k]
      have k' : decide (a2 ≤ a1) = true := decide_eq_true k
      go_enter Tryz.func70, Tryz.ntmps70
      go_wp2_with (first
        | (go_at_call 86; refine (E _ _ _).mono ?_; rintro e w1 ⟨rfl, rfl⟩)
        | (go_at_call 87; refine (B _ _ _ _).mono ?_; rintro e w1 ⟨rfl, rfl⟩))
      go_returns
      refine ⟨rfl, ?_⟩
      repeat' first | exact Below.refl _ _ | refine Below.alloc ?_ (by simp <;> omega) _ | refine Below.setCell ?_ ?_ _
    · rw [if_neg k]
      have k' : decide (a2 ≤ a1) = false := decide_eq_false k
      go_enter Tryz.func70, Tryz.ntmps70
      go_wp2_with (first
        | (go_at_call 86; refine (E _ _ _).mono ?_; rintro e w1 ⟨rfl, rfl⟩)
        | (go_at_call 87; refine (B _ _ _ _).mono ?_; rintro e w1 ⟨rfl, rfl⟩))
      go_returns
      refine ⟨rfl, ?_⟩
      repeat' first | exact Below.refl _ _ | refine Below.alloc ?_ (by simp <;> omega) _ | refine Below.setCell ?_ ?_ _

def in64 (x : Int) : Prop := -9223372036854775808 ≤ x ∧ x ≤ 9223372036854775807
def In64 (i : Int × Int) : Prop := in64 i.1 ∧ in64 i.2
theorem wrap_diff {f t : Int} (hf : in64 f) (ht : in64 t) (h : ¬ t ≤ f) : IntKind.u64.wrap (IntKind.u64.wrap t - IntKind.u64.wrap f) = t - f := by
  unfold in64 at *
  simp only [IntKind.wrap_u64]
  omega
end Go.Proofs.YtipkolmkpfpjjaaGreatDoor
