/-
  SbF.
-/
import Derived.Test.YtpcfchbiohbcoaaDoorSbBq
namespace Go.Proofs.YtpcfchbiohbcoaaDoor
open Go Go.RowKit
set_option maxRecDepth 100000

/-- Traces that lie in memory, anywhere in a block. -/
def TrO (w : World) (ad : Option Addr) (T : List Tr) : Prop :=
  0 < T.length → ∃ b o, ad = some ⟨b, o, none⟩ ∧ b < w.heap.size ∧ ∀ i (hi : i < T.length), w.cell? ⟨b, o + i * 2, none⟩ = some (.int .u64 (bvI T[i].1)) ∧ w.cell? ⟨b, o + i * 2 + 1, none⟩ = some (.int .u64 (bvI T[i].2))
theorem TrO.below {w w' : World} {ad : Option Addr} {T : List Tr} (h : TrO w ad T) (hb : Below w.heap.size w w') : TrO w' ad T := fun hn => by
  obtain ⟨b, o, e, hl, hc⟩ := h hn
  exact ⟨b, o, e, Nat.lt_of_lt_of_le hl hb.size, fun i hi => ⟨(hb.cell (p := ⟨b, o + i * 2, none⟩) hl).trans (hc i hi).1, (hb.cell (p := ⟨b, o + i * 2 + 1, none⟩) hl).trans (hc i hi).2⟩⟩
theorem run_eqTr (a b : Tr) (W : World) : (binOp .eql 33 (.agg #[.int .u64 (bvI a.1), .int .u64 (bvI a.2)]) (.agg #[.int .u64 (bvI b.1), .int .u64 (bvI b.2)])).run Tryd.prog W = .ok (.bool (decide (a = b))) W := by
  have h := run_eql_of (eqI_trace 9998 (bvI a.1) (bvI a.2) (bvI b.1) (bvI b.2) W)
  rw [h]
  congr 2
  by_cases e : a = b
  · subst e; simp
  · have : ¬ (bvI a.1 = bvI b.1 ∧ bvI a.2 = bvI b.2) := fun ⟨h1, h2⟩ => e (Prod.ext (bvI_inj h1) (bvI_inj h2))
    simp [e, this]
/-- What chosen looks at. -/
def ChoE (w W : World) (ba la : Option Addr) (T L : List Tr) : Prop := Below w.heap.size w W ∧ TrAt W ba T ∧ TrO W la L
theorem ChoE.below {w W W' : World} {ba la : Option Addr} {T L : List Tr} (h : ChoE w W ba la T L) (hb : Below W.heap.size W W') : ChoE w W' ba la T L := ⟨h.1.trans (hb.mono h.1.size), h.2.1.below hb, h.2.2.below hb⟩
theorem ChoE.drewN {w W : World} {ba la : Option Addr} {T L : List Tr} (h : ChoE w W ba la T L) (n : Nat) : ChoE w (W.drewN n) ba la T L := h.below ⟨rfl, rfl, rfl, Nat.le_refl _, fun _ _ => rfl⟩
end Go.Proofs.YtpcfchbiohbcoaaDoor
