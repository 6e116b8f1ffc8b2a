/-
  Contracts: the taker: text, raw, small, moment, count, end.
-/
import Derived.Test.YtfhpocgiekkboaaDoorZd
namespace Go.Proofs.YtfhpocgiekkboaaDoor
open Go.Shelf Go.RowKit
set_option maxRecDepth 100000

theorem Upd.drewL {S : Nat → Prop} {a b : World} {m : Nat} (h : Upd S (a.drewN m) b) : Upd S a b := ⟨h.os, h.tape, h.output, h.size, h.block⟩
theorem below_drewL {B : Nat} {a b : World} {m : Nat} (h : Below B (a.drewN m) b) : Below B a b := ⟨h.os, h.tape, h.output, h.size, h.block⟩

def smallP (K : List Int) (s : Option Nat) : Int × Option Nat := (min (uintP K s).1 2147483647, (uintP K s).2)
def momP (K : List Int) (s : Option Nat) : Int × Option Nat := (min (uintP K s).1 4611686018427387905, (uintP K s).2)
theorem uintP_rng (K : List Int) (s : Option Nat) (hK : ∀ x ∈ K, 0 ≤ x ∧ x < 256) : 0 ≤ (uintP K s).1 ∧ (uintP K s).1 < 18446744073709551616 := by
  cases s with
  | none => simp [uintP]
  | some t =>
    unfold uintP
    simp only
    have hv := scan_val (K.drop t) 0 0
    generalize scanN (K.drop t) 0 0 = r at hv ⊢
    cases r using NumRes.each with
    | ok v n =>
      have := hv v n (fun x hx => hK x (List.mem_of_mem_drop hx)) (by omega) (by simp) rfl
      simp; omega
    | form => simp
    | ended => simp
/-- How many there are of a list that has at most so many. -/
def countP (K : List Int) (most : Nat) (s : Option Nat) : Nat × Option Nat := if (most : Int) < (uintP K s).1 then (0, none) else ((uintP K s).1.toNat, (uintP K s).2)
/-- All must be taken. -/
def endP (K : List Int) : Option Nat → Option Nat
  | none => none
  | some t => if t = K.length then some t else none
end Go.Proofs.YtfhpocgiekkboaaDoor
