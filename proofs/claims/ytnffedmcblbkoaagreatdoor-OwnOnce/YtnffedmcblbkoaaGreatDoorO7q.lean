/-
  Merged: O7, O8.
-/
import Derived.Test.YtnffedmcblbkoaaGreatDoorO5
import Derived.Test.YtnffedmcblbkoaaGreatDoorTVq
import Derived.Test.YtnffedmcblbkoaaGreatDoorTJq
import Derived.Test.YtnffedmcblbkoaaGreatDoorTQq
import Derived.Test.YtnffedmcblbkoaaGreatDoorOZ
import Derived.Test.YtnffedmcblbkoaaGreatDoorOMq
import Derived.BigQuiet
namespace Go.Proofs.YtnffedmcblbkoaaGreatDoor
open Go Go.RowKit
set_option maxRecDepth 100000
theorem both_yes (ad : Option Addr) (n cap : Nat) (X : List Sp) (P : Nat → Pl) (w : World) (hX : SpsAt w ad n X P) (hF : ∀ a ∈ X, a.Fits) (hS : ∀ a ∈ X, a.Small) (hT : Tabs w) (h1 : OneT X) : Calls Tryz.prog 7 #[.slice ad n cap] w fun e w' => ∃ f g sb Y C dp fin X' K rv R, e = .returned (.tuple #[.pointer (some ⟨f, 0, none⟩), .pointer (some ⟨g, 0, none⟩), .bool true]) ∧ Hid (BuT X w' f sb Y C dp fin X' K rv R) ∧ Below w.heap.size w w' := by
 have BD := build_one ad n cap X P w hX hF hS hT h1
 have RB : Hid (∀ w1 f sb Y C dp fin X' K rv R, Below w.heap.size w w1 → BuT X w1 f sb Y C dp fin X' K rv R → Calls Tryz.prog 30 #[.slice ad n cap] w1 fun e w' => ∃ g, e = .returned (.tuple #[.pointer (some ⟨g, 0, none⟩), .int .i64 0]) ∧ Hid (RFor w' g Y fin) ∧ Below w1.heap.size w1 w') := fun w1 f sb Y C dp fin X' K rv R hb hB => rBuild_one ad n cap X P w1 (hX.below hb) hF hS h1 hB
 clear hX hF hS hT h1
 go_enter Tryz.func7, Tryz.ntmps7
 go_wp2_with (first
  | (go_at_call 27; (with_reducible refine BD.mono ?_); clear BD; rintro e w2 ⟨f, sb, Y, C, dp, fin, X', K, rv, R, rfl, HB, b2⟩; have R1 := RB.out w2 f sb Y C dp fin X' K rv R b2 HB.out; have HB2 : Hid (Below w.heap.size w w2) := b2; clear b2 RB)
  | (go_at_call 30; (with_reducible refine R1.mono ?_); clear R1; rintro e w3 ⟨g, rfl, HG, b3⟩; have HB3 : Hid (BuT X w3 f sb Y C dp fin X' K rv R ∧ Below w.heap.size w w3) := ⟨HB.out.below b3, HB2.out.trans (b3.mono HB2.out.size)⟩; clear b3))
 go_ret3
 exact ⟨f, g, sb, Y, C, dp, fin, X', K, rv, R, rfl, HB3.out.1, HB3.out.2⟩
theorem both_no (ad : Option Addr) (n cap : Nat) (X : List Sp) (P : Nat → Pl) (w : World) (hX : SpsAt w ad n X P) (hF : ∀ a ∈ X, a.Fits) (hS : ∀ a ∈ X, a.Small) (hT : Tabs w) (h1 : ¬ OneT X) : Calls Tryz.prog 7 #[.slice ad n cap] w fun e w' => e = .returned (.tuple #[.pointer none, .pointer none, .bool true]) ∧ Below w.heap.size w w' := by
 have BD := build_none ad n cap X P w hX hF hS hT h1
 have RB : Hid (∀ w1, Below w.heap.size w w1 → Calls Tryz.prog 30 #[.slice ad n cap] w1 fun e w' => e = .returned (.tuple #[.pointer none, .int .i64 101]) ∧ Below w1.heap.size w1 w') := fun w1 hb => rBuild_none ad n cap X P w1 (hX.below hb) hF hS h1
 clear hX hF hS hT h1
 go_enter Tryz.func7, Tryz.ntmps7
 go_wp2_with (first
  | (go_at_call 27; (with_reducible refine BD.mono ?_); clear BD; rintro e w2 ⟨rfl, b2⟩; have R1 := RB.out w2 b2; have HB2 : Hid (Below w.heap.size w w2) := b2; clear b2 RB)
  | (go_at_call 30; (with_reducible refine R1.mono ?_); clear R1; rintro e w3 ⟨rfl, b3⟩; have HB3 : Hid (Below w.heap.size w w3) := HB2.out.trans (b3.mono HB2.out.size); clear b3))
 go_ret3
 exact ⟨rfl, HB3.out⟩
theorem below_dr {B : Nat} {a w : World} (h : Below B a w) (q : Nat) : Below B a (w.drewN q) := ⟨h.os, h.tape, h.output, h.size, h.block⟩
end Go.Proofs.YtnffedmcblbkoaaGreatDoor
