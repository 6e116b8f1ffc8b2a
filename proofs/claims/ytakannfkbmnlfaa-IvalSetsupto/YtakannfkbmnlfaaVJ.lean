/-
  Arguments of layer 6: a list without an address has nothing.
-/
import Derived.Test.YtakannfkbmnlfaaVI
import Derived.Test.YtakannfkbmnlfaaVo
namespace Go.Proofs.Ytakannfkbmnlfaa
open Go.ChangeShapes Go.WideShapes Go.ChangeAt Go.RowKit Go.Deep
theorem ivs_nil {H : Type} {enc : TypeId × Value → H} {W : World} {base : Nat} {spare : Nat → Bool} {held : Bool} {n : Nat} {ad : Option Addr} {len cap : Nat} {d : DataW H} {pl : List MemPlace} (h : DataW.trod enc Try.prog W base spare held n 22 [.slice ad len cap] = some (d, pl)) : ad = none → len = 0 ∧ cap = 0 := by
  intro e
  subst e
  rcases open_slice Try.underlying22 h with ⟨hcs, hx⟩ | ⟨a, len', cap', m, n', D, Pl, hcs, hb, hl, hm, hmm, hx, hel⟩
  · simp at hcs
    exact ⟨hcs.1, hcs.2⟩
  · simp at hcs
end Go.Proofs.Ytakannfkbmnlfaa
