/-
  Contracts: the Reader's Text.
-/
import Derived.Test.YtfhpocgiekkboaaDoorRt
namespace Go.Proofs.YtfhpocgiekkboaaDoor
open Go.Shelf Go.RowKit
set_option maxRecDepth 100000

/-- What Text answers: the text's place and length; or what is wrong, and where. -/
abbrev TxtRes := Except (Nat × Nat) (Nat × Nat)
abbrev TxtRes.ok (from_ v : Nat) : TxtRes := Except.ok (from_, v)
abbrev TxtRes.bad (at_ no : Nat) : TxtRes := Except.error (at_, no)
theorem TxtRes.each {motive : TxtRes → Prop} (ok : ∀ f v, motive (.ok f v)) (bad : ∀ a n, motive (.bad a n)) (r : TxtRes) : motive r := by
  rcases r with ⟨a, n⟩ | ⟨f, v⟩
  · exact bad a n
  · exact ok f v
def textR (K : List Int) (t : Nat) (most : Int) : TxtRes :=
  if most < 0 then .bad t 1
  else match scanN (K.drop t) 0 0 with
    | some none => .bad t 12
    | none => .bad K.length 11
    | some (some (v, s)) => if most < (v : Int) then .bad t 13 else if K.length < t + s + v then .bad K.length 11
      else if endL ((K.drop (t + s)).take v) < v then .bad (t + s + endL ((K.drop (t + s)).take v)) 14 else .ok (t + s) v
end Go.Proofs.YtfhpocgiekkboaaDoor
