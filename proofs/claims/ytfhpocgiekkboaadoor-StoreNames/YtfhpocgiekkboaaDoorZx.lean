/-
  Contracts: the taker's attributes and events.
-/
import Derived.Test.YtfhpocgiekkboaaDoorZo
namespace Go.Proofs.YtfhpocgiekkboaaDoor
open Go.Shelf Go.RowKit
set_option maxRecDepth 100000

theorem a4_0 (a b c d v : Value) : (#[a, b, c, d] : Array Value).setIfInBounds 0 v = #[v, b, c, d] := rfl
theorem a4_1 (a b c d v : Value) : (#[a, b, c, d] : Array Value).setIfInBounds 1 v = #[a, v, c, d] := rfl
theorem a4_2 (a b c d v : Value) : (#[a, b, c, d] : Array Value).setIfInBounds 2 v = #[a, b, v, d] := rfl
theorem a4_3 (a b c d v : Value) : (#[a, b, c, d] : Array Value).setIfInBounds 3 v = #[a, b, c, v] := rfl
theorem a2_0 (a b v : Value) : (#[a, b] : Array Value).setIfInBounds 0 v = #[v, b] := rfl
theorem a2_1 (a b v : Value) : (#[a, b] : Array Value).setIfInBounds 1 v = #[a, v] := rfl

def attrP (K : List Int) (s : Option Nat) : AttrD × Option Nat :=
  (⟨(textP K 40 s).1, (smallP K (textP K 40 s).2).1, (textP K 200 (smallP K (textP K 40 s).2).2).1, (intP K (textP K 200 (smallP K (textP K 40 s).2).2).2).1⟩, (intP K (textP K 200 (smallP K (textP K 40 s).2).2).2).2)
def eventP (K : List Int) (s : Option Nat) : EventD × Option Nat := (⟨(momP K s).1, (textP K 100 (momP K s).2).1⟩, (textP K 100 (momP K s).2).2)
def attrC (a : AttrD) : List Value := [.string a.key, .int .i64 a.kind, .string a.text, .int .i64 a.num]
def eventC (a : EventD) : List Value := [.int .i64 a.moment, .string a.name]
def attrsP (K : List Int) (s : Option Nat) : List AttrD × Option Nat := iterS (attrP K) (countP K 32 s).1 (countP K 32 s).2
def eventsP (K : List Int) (s : Option Nat) : List EventD × Option Nat := iterS (eventP K) (countP K 32 s).1 (countP K 32 s).2
theorem Tryd.info65 : (Tryd.prog.info? 65).map (fun i => (i.zero, i.size, i.bytes)) = some (some (.agg #[.string ⟨#[]⟩, .int .i64 0, .string ⟨#[]⟩, .int .i64 0]), 4, 48) := by kernel_rfl
theorem Tryd.info68 : (Tryd.prog.info? 68).map (fun i => (i.zero, i.size, i.bytes)) = some (some (.agg #[.int .i64 0, .string ⟨#[]⟩]), 2, 24) := by kernel_rfl
theorem upd_far {S : Nat → Prop} {w0 w : World} {E i : Nat} {v : Value} (hu : Upd S w0 w) (hE : w0.heap.size ≤ E) : Upd S w0 (w.setCell ⟨E, i, none⟩ v) :=
  Upd.setCell (p := ⟨E, i, none⟩) hu (fun h => by simp at h; omega) v

theorem own_fresh {base : Nat} {w : World} {e : TypeId} {size : Nat} {v : Value} {n : Nat} {xs : List Value} (h : w.ownsRow base e size v n xs) : v.ownBlock ≠ some w.heap.size := by
  intro hk
  rcases h.2 with ⟨rfl, _⟩ | ⟨g, cap, cur, rfl, _, hg, _⟩
  · simp [Value.ownBlock] at hk
  · simp [Value.ownBlock] at hk
    have := lt_of_block hg
    omega
theorem eventP_eq (K : List Int) (s : Option Nat) : eventP K s = (⟨(momP K s).1, (textP K 100 (momP K s).2).1⟩, (textP K 100 (momP K s).2).2) := rfl
theorem attrP_eq (K : List Int) (s : Option Nat) : attrP K s = (⟨(textP K 40 s).1, (smallP K (textP K 40 s).2).1, (textP K 200 (smallP K (textP K 40 s).2).2).1, (intP K (textP K 200 (smallP K (textP K 40 s).2).2).2).1⟩, (intP K (textP K 200 (smallP K (textP K 40 s).2).2).2).2) := rfl

end Go.Proofs.YtfhpocgiekkboaaDoor
