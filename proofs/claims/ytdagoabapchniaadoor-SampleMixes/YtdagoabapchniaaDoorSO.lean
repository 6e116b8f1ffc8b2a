/-
  A list of spans in memory.
-/
import Derived.Test.YtdagoabapchniaaDoorZp
namespace Go.Proofs.YtdagoabapchniaaDoor
open Go.RowKit
set_option maxRecDepth 100000

/-- A list of spans, thirteen cells each. -/
structure SpsAt (w : World) (ad : Option Addr) (n : Nat) (X : List Sp) (P : Nat → Pl) : Prop where
  len : X.length = n
  lies : 0 < n → ∃ b off, ad = some ⟨b, off, none⟩ ∧ ∀ i (_ : i < X.length) (j : Nat) (u : Value), (spC X[i] (P i))[j]? = some u → w.cell? ⟨b, off + i * 13 + j, none⟩ = some u
  each : ∀ i (_ : i < X.length), SpAt w X[i] (P i)
theorem SpsAt.below {w w' : World} {ad : Option Addr} {n : Nat} {X : List Sp} {P : Nat → Pl} (h : SpsAt w ad n X P) (hb : Below w.heap.size w w') : SpsAt w' ad n X P := by
  refine ⟨h.len, fun hp => ?_, fun i hi => (h.each i hi).below hb⟩
  obtain ⟨b, off, ha, hc⟩ := h.lies hp
  refine ⟨b, off, ha, fun i hi j u hu => ?_⟩
  have h1 := hc i hi j u hu
  exact (hb.cell (p := ⟨b, _, none⟩) (World.block_lt_of_cell? w _ h1)).trans h1
end Go.Proofs.YtdagoabapchniaaDoor
