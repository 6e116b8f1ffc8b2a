/-
  Merged: KH, KJ.
-/
import Derived.Test.YthajamokaabogaaGreatDoorKCq
import Derived.Test.YthajamokaabogaaGreatDoorPLq
namespace Go.Proofs.YthajamokaabogaaGreatDoor
open Go Go.RowKit Go.Maps
set_option maxRecDepth 100000

end Go.Proofs.YthajamokaabogaaGreatDoor

namespace Go.Proofs.YthajamokaabogaaGreatDoor
open Go Go.RowKit Go.Maps
set_option maxRecDepth 100000

theorem hopL_len (fin : Nat → Nod) (h : Hop) : (hopL fin h).length = 4 := rfl
theorem sameLegs_nil (a b : Option Addr) (c d : Nat) (w : World) :
    Calls Tryz.prog 17 #[.slice a 0 c, .slice b 0 d] w fun e w' => e = .returned (.bool true) ∧ Below w.heap.size w w' := by
  go_enter Tryz.func17, Tryz.ntmps17
  go_wp2
  go_loopw [5] (fun y wr => y = .int .i64 0 ∧ wr = w) (fun _ _ => 0)
  case atStart => exact ⟨rfl, rfl⟩
  case round =>
    obtain ⟨rfl, rfl⟩ := hrel
    go_wp2
    go_ret
    exact ⟨rfl, Below.refl _ _⟩
end Go.Proofs.YthajamokaabogaaGreatDoor
