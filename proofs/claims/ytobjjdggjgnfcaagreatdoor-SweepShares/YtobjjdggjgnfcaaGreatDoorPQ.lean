/-
  PQ.
-/
import Derived.Test.YtobjjdggjgnfcaaGreatDoorPMq
import Derived.Test.YtobjjdggjgnfcaaGreatDoorPLq
import Derived.Test.YtobjjdggjgnfcaaGreatDoorGMq
namespace Go.Proofs.YtobjjdggjgnfcaaGreatDoor
open Go Go.RowKit
set_option maxRecDepth 100000

theorem one_perm {X Y : List Sp} (h : OneT X) (hp : X.Perm Y) : OneT Y :=
  ⟨by rw [← hp.length_eq]; exact h.len, fun a ha => h.chk a (hp.mem_iff.2 ha), fun a ha => h.fits a (hp.mem_iff.2 ha), fun a ha => h.small a (hp.mem_iff.2 ha), fun a ha b hb => h.tr a (hp.mem_iff.2 ha) b (hp.mem_iff.2 hb), (hp.map _).nodup_iff.1 h.ids⟩
theorem buildT (ad : Option Addr) (n cap : Nat) (X : List Sp) (P : Nat → Pl) (w w1 : World) (hb : Below w.heap.size w w1) (hX : SpsAt w ad n X P) (hF : ∀ a ∈ X, a.Fits) (hS : ∀ a ∈ X, a.Small) (hT : Tabs w) :
    Calls Tryz.prog 12 #[.slice ad n cap] w1 fun e w' => (∃ f sb Y X' K rv R C dp fin, e = .returned (.tuple #[.pointer (some ⟨f, 0, none⟩), .int .i64 0]) ∧ ForestAt w' f sb X' K rv R ∧ FoB Y C dp fin X' K R ∧ Below w.heap.size w w') ∨ (e = .returned (.tuple #[.pointer none, .int .i64 101]) ∧ Below w.heap.size w w') := by
  refine (build_total ad n cap X P w1 (hX.below hb) hF hS (hT.below hb)).mono ?_
  rintro e w' (⟨h1, Y, hp, hr, f, sb, X', K, rv, R, C, dp, fin, rfl, h2, _, h4, h5, h6⟩ | ⟨_, rfl, h3⟩)
  · exact Or.inl ⟨f, sb, Y, X', K, rv, R, C, dp, fin, rfl, h2, ⟨h5, h4, h2.rise, one_perm h1 hp⟩, hb.trans (h6.mono hb.size)⟩
  · exact Or.inr ⟨rfl, hb.trans (h3.mono hb.size)⟩
end Go.Proofs.YtobjjdggjgnfcaaGreatDoor
