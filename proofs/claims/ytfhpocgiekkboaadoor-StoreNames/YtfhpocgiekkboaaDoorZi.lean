/-
  Contracts: layAttrs, layEvents.
-/
import Derived.Test.YtfhpocgiekkboaaDoorZe
namespace Go.Proofs.YtfhpocgiekkboaaDoor
open Go.Shelf Go.RowKit
set_option maxRecDepth 100000

def textL (s : ByteArray) : List Int := encN s.size ++ bytesI s
def attrL (a : AttrD) : List Int := textL a.key ++ (encN a.kind.toNat ++ (textL a.text ++ encN (zigI a.num).toNat))
def eventL (a : EventD) : List Int := encN a.moment.toNat ++ textL a.name
def catL {α : Type} (f : α → List Int) : List α → List Int
  | [] => []
  | a :: r => f a ++ catL f r
theorem catL_snoc {α : Type} (f : α → List Int) (X : List α) (k : Nat) (hk : k < X.length) : catL f (X.take (k + 1)) = catL f (X.take k) ++ f X[k] := by
  induction X generalizing k with
  | nil => simp at hk
  | cons a r ih =>
    cases k with
    | zero => simp [catL]
    | succ k =>
      simp only [List.take_succ_cons, catL, List.getElem_cons_succ]
      rw [ih k (by simpa using hk), List.append_assoc]
theorem box_cells {w : World} {g : Nat} {cs : Array Value} {t : TypeId} (h : w.heap[g]? = some (.cells cs t (0, 0))) (j : Nat) {u : Value} (hu : cs[j]? = some u) : w.cell? ⟨g, j, none⟩ = some u := by
  simp [World.cell?, h, hu]

end Go.Proofs.YtfhpocgiekkboaaDoor
