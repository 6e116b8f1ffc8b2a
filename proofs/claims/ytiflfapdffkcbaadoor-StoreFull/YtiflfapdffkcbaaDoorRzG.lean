/-
  RzG.
-/
import Derived.Test.YtiflfapdffkcbaaDoorRzE
import Derived.Test.YtiflfapdffkcbaaDoorGBq
import Derived.Stop.RegionWithIn
namespace Go.Proofs.YtiflfapdffkcbaaDoor
open Go Go.RowKit Go.Maps Go.WideMaps Go.Shelf
set_option maxRecDepth 100000

/-- What a loop over All must keep: all but the block U, and what it lays itself. -/
abbrev KpU (B U : Nat) (W W' : World) : Prop := Upd (fun j => j = U ∨ B ≤ j) W W'
theorem KpU.trans {B U : Nat} {W1 W2 W3 : World} (h : KpU B U W1 W2) (k : KpU B U W2 W3) : KpU B U W1 W3 := Upd.trans h k (fun _ _ h => h)
theorem KpU.put {B U : Nat} (W : World) (l : Nat) (o o' : Obj) (hl : B ≤ l) (_ : W.heap[l]? = some o) (_ : o.isCells = false) (_ : o.isWalk = false) : KpU B U W (W.putObj l o') :=
  ⟨rfl, rfl, rfl, by rw [World.putObj_size]; exact Nat.le_refl _, fun k _ hn => World.putObj_heap_other (fun e => hn (Or.inr (by omega)))⟩
/-- A span that was laid on the way, of those that are told. -/
def PaC (Z : List It) (k : Nat) (A B : World) (args : Array Value) : Prop := ∃ z p', Z[k]? = some z ∧ args = #[spV z.a p'] ∧ ∀ w5 : World, (∀ j, A.heap.size ≤ j → j < B.heap.size → w5.heap[j]? = B.heap[j]?) → SpAt w5 z.a p'
end Go.Proofs.YtiflfapdffkcbaaDoor
