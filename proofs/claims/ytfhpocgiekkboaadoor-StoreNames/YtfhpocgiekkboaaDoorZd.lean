/-
  Contracts: the taker: take, raw, text, small, moment, count, end.
-/
import Derived.Test.YtfhpocgiekkboaaDoorTx
import Derived.Test.YtfhpocgiekkboaaDoorRw
import Derived.Test.YtfhpocgiekkboaaDoorZe
import Derived.Deep.RegionHeld3
namespace Go.Proofs.YtfhpocgiekkboaaDoor
open Go.Shelf Go.RowKit
set_option maxRecDepth 100000

theorem blk_cell {w : World} {g : Nat} {cs : Array Value} {t : TypeId} {fz : Nat × Nat} (h : w.heap[g]? = some (.cells cs t fz)) (j : Nat) {u : Value} (hu : cs[j]? = some u) : w.cell? ⟨g, j, none⟩ = some u := by
  simp [World.cell?, h, hu]
theorem blk_free {w : World} {g : Nat} {cs : Array Value} {t : TypeId} (h : w.heap[g]? = some (.cells cs t (0, 0))) (j : Nat) : w.frozen? ⟨g, j, none⟩ = false := by
  simp [World.frozen?, h]
abbrev TR (T R : Nat) : Nat → Prop := fun k => k = T ∨ k = R
theorem ne_of_types {w : World} {a b : Nat} {c d : Array Value} {s t : TypeId} {f h : Nat × Nat} (h1 : w.heap[a]? = some (.cells c s f)) (h2 : w.heap[b]? = some (.cells d t h)) (hne : s ≠ t) : a ≠ b := by
  rintro rfl
  rw [h1] at h2
  simp at h2
  exact hne h2.2.1
theorem upd_ok {T R : Nat} {w w' : World} {v : Value} (h : Upd (fun k => k = R) w w') : Upd (TR T R) w (w'.setCell ⟨T, 1, none⟩ v) :=
  Upd.setCell (S := TR T R) (p := ⟨T, 1, none⟩) (h.mono (fun _ _ e => Or.inr e)) (fun _ => Or.inl rfl) _
theorem upd_bad {T R : Nat} {w w' : World} {v : Value} (h : Below w.heap.size w w') : Upd (TR T R) w (w'.setCell ⟨T, 1, none⟩ v) :=
  Upd.setCell (S := TR T R) (p := ⟨T, 1, none⟩) (Upd.ofBelow h (fun k hk hk' => by omega)) (fun _ => Or.inl rfl) _

/-- A number is taken. -/
def uintP (K : List Int) : Option Nat → Int × Option Nat
  | none => (0, none)
  | some t => match scanN (K.drop t) 0 0 with
    | some (some (v, n)) => ((v : Int), some (t + n))
    | _ => (0, none)
def intP (K : List Int) (s : Option Nat) : Int × Option Nat :=
  match s with
  | none => (0, none)
  | some t => match scanN (K.drop t) 0 0 with
    | some (some (v, n)) => (zagI v, some (t + n))
    | _ => (0, none)
def textP (K : List Int) (most : Int) : Option Nat → ByteArray × Option Nat
  | none => (ByteArray.empty, none)
  | some t => match textR K t most with
    | Except.ok (f, v) => (strI ((K.drop f).take v), some (f + v))
    | Except.error _ => (ByteArray.empty, none)

end Go.Proofs.YtfhpocgiekkboaaDoor
