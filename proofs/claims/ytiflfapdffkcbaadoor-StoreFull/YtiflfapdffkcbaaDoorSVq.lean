/-
  Merged: SV, SW.
-/
import Derived.Test.YtiflfapdffkcbaaDoorSRq
import Derived.Test.YtiflfapdffkcbaaDoorSOq
namespace Go.Proofs.YtiflfapdffkcbaaDoor
open Go.RowKit
set_option maxRecDepth 100000

theorem cmp_13 (a b : Sp) : orL [cmpI a.hi b.hi, cmpI a.lo b.lo, cmpI a.id b.id, cmpI a.fin b.fin, cmpI b.start a.start, cmpI a.status b.status, cmpI a.par b.par, cmpS a.svc b.svc, cmpS a.op b.op, cmpI a.kind b.kind, lexL cmpI a.links b.links, lexL cmpA a.attrs b.attrs, lexL cmpE a.events b.events] = cmpP a b := by
  simp only [cmpP, cmpN, cmpT, orL, orI_zero, orI_assoc]
end Go.Proofs.YtiflfapdffkcbaaDoor

namespace Go.Proofs.YtiflfapdffkcbaaDoor
open Go.RowKit
set_option maxRecDepth 100000

/-- It says whether they are the same. -/
def SameP (X Y : List Sp) (e : Ending) : Prop := ∃ r, e = .returned (.bool r) ∧ (r = true ↔ X = Y)
end Go.Proofs.YtiflfapdffkcbaaDoor
