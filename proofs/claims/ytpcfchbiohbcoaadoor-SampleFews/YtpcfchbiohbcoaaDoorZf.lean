/-
  Zf.
-/
import Derived.Test.YtpcfchbiohbcoaaDoorZa
import Derived.Shelf.Abstract
namespace Go.Proofs.YtpcfchbiohbcoaaDoor
open Go.RowKit
set_option maxRecDepth 100000

/-- A list of attrs lies here. -/
structure AttrsAt (w : World) (ad : Option Addr) (n : Nat) (A : List AttrD) : Prop where
  len : A.length = n
  lies : 0 < n → ∃ b off, ad = some ⟨b, off, none⟩ ∧ ∀ i (_ : i < A.length), w.cell? ⟨b, off + i * 4, none⟩ = some (.string A[i].key) ∧ w.cell? ⟨b, off + i * 4 + 1, none⟩ = some (.int .i64 A[i].kind) ∧ w.cell? ⟨b, off + i * 4 + 2, none⟩ = some (.string A[i].text) ∧ w.cell? ⟨b, off + i * 4 + 3, none⟩ = some (.int .i64 A[i].num)
theorem AttrsAt.below {w w' : World} {ad : Option Addr} {n : Nat} {A : List AttrD} (h : AttrsAt w ad n A) (hb : Below w.heap.size w w') : AttrsAt w' ad n A := by
  refine ⟨h.len, fun hp => ?_⟩
  obtain ⟨b, off, ha, hc⟩ := h.lies hp
  refine ⟨b, off, ha, fun i hi => ?_⟩
  obtain ⟨c0, c1, c2, c3⟩ := hc i hi
  exact ⟨(hb.cell (World.block_lt_of_cell? w _ c0)).trans c0, (hb.cell (World.block_lt_of_cell? w _ c1)).trans c1, (hb.cell (World.block_lt_of_cell? w _ c2)).trans c2, (hb.cell (World.block_lt_of_cell? w _ c3)).trans c3⟩

/-- A list of events lies here. -/
structure EventsAt (w : World) (ad : Option Addr) (n : Nat) (A : List EventD) : Prop where
  len : A.length = n
  lies : 0 < n → ∃ b off, ad = some ⟨b, off, none⟩ ∧ ∀ i (_ : i < A.length), w.cell? ⟨b, off + i * 2, none⟩ = some (.int .i64 A[i].moment) ∧ w.cell? ⟨b, off + i * 2 + 1, none⟩ = some (.string A[i].name)
theorem EventsAt.below {w w' : World} {ad : Option Addr} {n : Nat} {A : List EventD} (h : EventsAt w ad n A) (hb : Below w.heap.size w w') : EventsAt w' ad n A := by
  refine ⟨h.len, fun hp => ?_⟩
  obtain ⟨b, off, ha, hc⟩ := h.lies hp
  refine ⟨b, off, ha, fun i hi => ?_⟩
  obtain ⟨c0, c1⟩ := hc i hi
  exact ⟨(hb.cell (World.block_lt_of_cell? w _ c0)).trans c0, (hb.cell (World.block_lt_of_cell? w _ c1)).trans c1⟩

end Go.Proofs.YtpcfchbiohbcoaaDoor
