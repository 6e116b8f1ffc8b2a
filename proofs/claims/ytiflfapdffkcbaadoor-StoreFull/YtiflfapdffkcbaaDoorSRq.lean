/-
  Merged: SR, SS.
-/
import Derived.Test.YtiflfapdffkcbaaDoorWaq
import Derived.Handy
import Derived.Deep.RegionHeld3
namespace Go.Proofs.YtiflfapdffkcbaaDoor
open Go.RowKit
set_option maxRecDepth 100000

theorem cmpI_len {n m : Nat} : cmpI (n : Int) (m : Int) = if n < m then -1 else if m < n then 1 else 0 := by
  unfold cmpI
  repeat' split
  all_goals first | rfl | omega
theorem lex_end {α : Type} {c : α → α → Int} {x y : List α} {k : Nat} {r : Int} (h : r = lexL c (x.drop k) (y.drop k)) (hx : k ≤ x.length) (hy : k ≤ y.length) (he : ¬ (k < x.length ∧ k < y.length)) : r = cmpI (x.length : Int) (y.length : Int) := by
  rw [cmpI_len]
  by_cases h1 : k < x.length
  · have h2 : y.length ≤ k := by omega
    rw [lexL_right h h1 h2, if_neg (by omega), if_pos (by omega)]
  · by_cases h2 : k < y.length
    · rw [lexL_left h (by omega) h2, if_pos (by omega)]
    · rw [lexL_both h (by omega) (by omega), if_neg (by omega), if_neg (by omega)]
end Go.Proofs.YtiflfapdffkcbaaDoor

namespace Go.Proofs.YtiflfapdffkcbaaDoor
open Go.RowKit
set_option maxRecDepth 100000

theorem cell_blk {w : World} {g : Nat} {cs : Array Value} {t : TypeId} {fz : Nat × Nat} (h : w.heap[g]? = some (.cells cs t fz)) (j : Nat) {u : Value} (hu : cs[j]? = some u) : w.cell? ⟨g, j, none⟩ = some u := by
  simp [World.cell?, h, hu]
end Go.Proofs.YtiflfapdffkcbaaDoor
