/-
  A row of one's own, midway.
-/
import Derived.Test.YtkfefebjciolcaaSh2
namespace Go.Proofs.Ytkfefebjciolcaa
open Go.RowKit
set_option maxRecDepth 100000

/-- A list without bytes, just made. -/
theorem own_fresh (w : World) (base : Nat) (hb : base ≤ w.heap.size) : (w.alloc (.cells #[] 5)).ownsRow base 5 1 (.slice (some ⟨w.heap.size, 0, none⟩) 0 0) 0 [] := by
  have h : RowAt (w.alloc (.cells #[] 5)) w.heap.size [] := heap_alloc_new w _
  have := h.own base hb (by simp)
  simpa using this
/-- Midway: a row of one's own above what was there. -/
structure Ow (w : World) (wk : World) (v : Value) (L : List Int) : Prop where
  below : Below w.heap.size w wk
  own : wk.ownsRow w.heap.size 5 1 v L.length (L.map (Value.int .u8))
theorem Ow.fresh {w wk : World} (hb : Below w.heap.size w wk) : Ow w (wk.alloc (.cells #[] 5)) (.slice (some ⟨wk.heap.size, 0, none⟩) 0 0) [] :=
  ⟨hb.alloc hb.size _, own_fresh wk _ hb.size⟩
theorem Ow.grown {w wk w2 : World} {v v' : Value} {L M : List Int} (h : Ow w wk v L) (ho : w2.ownsRow w.heap.size 5 1 v' (L.length + M.length) (L.map (Value.int .u8) ++ M.map (Value.int .u8))) (hg : wk.grownBy w2 v.ownBlock) : Ow w w2 v' (L ++ M) :=
  ⟨h.below.trans ((grown_upd hg).below h.below.size (fun k hk e => by have := (own_lt h.own e).2; omega)), by simpa using ho⟩
end Go.Proofs.Ytkfefebjciolcaa
