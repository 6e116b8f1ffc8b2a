/-
  Merged: Wr, Cp, Scan, Rd.
-/
import Derived.Test.YtbefeobikjnlpaaGreatDoorZmq
import Derived.Laws.CopyOwn
import Derived.BigQuiet
import Derived.WalkMore
namespace Go.Proofs.YtbefeobikjnlpaaGreatDoor
open Go.RowKit
set_option maxRecDepth 100000
theorem row_shape {base : Nat} {w : World} {e : TypeId} {size n : Nat} {v : Value} {xs : List Value} (h : w.ownsRow base e size v n xs) : ∃ ao l c, v = .slice ao l c := by
  rcases h.2 with ⟨rfl, _⟩ | ⟨g, cap, cur, rfl, _⟩
  · exact ⟨_, _, _, rfl⟩
  · exact ⟨_, _, _, rfl⟩

/-- A string's bytes, as numbers. -/
def bytesI (s : ByteArray) : List Int := s.data.toList.map fun b => (b.toNat : Int)
theorem bytesI_length (s : ByteArray) : (bytesI s).length = s.size := by unfold bytesI; rw [List.length_map, Array.length_toList]; rfl
end Go.Proofs.YtbefeobikjnlpaaGreatDoor

namespace Go.Proofs.YtbefeobikjnlpaaGreatDoor
open Go.RowKit
set_option maxRecDepth 100000

/-- The cells of a slice value hold these bytes. -/
structure Holds (w : World) (ad : Option Addr) (n : Nat) (K : List Int) : Prop where
  len : K.length = n
  cells : ∀ j u, (K.map (Value.int .u8))[j]? = some u → ∃ a, ad = some a ∧ w.cell? (a.add j) = some u

/-- A row of bytes, whole. -/
def RowAt (w : World) (g : Nat) (K : List Int) : Prop := w.heap[g]? = some (.cells (K.map (Value.int .u8)).toArray 5 (0, 0))
theorem RowAt.cell {w : World} {g : Nat} {K : List Int} (h : RowAt w g K) (j : Nat) (hj : j < K.length) : w.cell? ⟨g, j, none⟩ = some (.int .u8 (K.getD j 0)) := by
  unfold RowAt at h
  simp [World.cell?, h, List.getD, hj]
theorem RowAt.upd {w w' : World} {g : Nat} {K : List Int} {S : Nat → Prop} (h : RowAt w g K) (hu : Upd S w w') (hS : ¬ S g) : RowAt w' g K := (hu.block g (lt_of_block h) hS).trans h
theorem RowAt.own {w : World} {g : Nat} {K : List Int} (h : RowAt w g K) (base : Nat) (hb : base ≤ g) (hl : K.length ≤ maxLen) : w.ownsRow base 5 1 (.slice (some ⟨g, 0, none⟩) K.length K.length) K.length (K.map (Value.int .u8)) :=
  ⟨by simp, Or.inr ⟨g, K.length, _, rfl, hb, h, Nat.le_refl _, hl, by simp, by rw [Nat.mul_one, List.take_of_length_le (by simp)]⟩⟩
theorem RowAt.holds {w : World} {g : Nat} {K : List Int} (h : RowAt w g K) : Holds w (some ⟨g, 0, none⟩) K.length K := by
  refine ⟨rfl, fun j u hj => ⟨_, rfl, ?_⟩⟩
  unfold RowAt at h
  rw [Addr.add_lit]
  simp only [World.cell?, Nat.zero_add, h]
  simpa using hj

end Go.Proofs.YtbefeobikjnlpaaGreatDoor

namespace Go.Proofs.YtbefeobikjnlpaaGreatDoor
open Go

/-- What is read: a number and how many bytes it has; a form that may not be; no end. -/
abbrev NumRes := Option (Option (Nat × Nat))
abbrev NumRes.ok (v size : Nat) : NumRes := some (some (v, size))
abbrev NumRes.form : NumRes := some none
abbrev NumRes.ended : NumRes := none
theorem NumRes.each {motive : NumRes → Prop} (ok : ∀ v s, motive (.ok v s)) (form : motive .form) (ended : motive .ended) (r : NumRes) : motive r := by
  rcases r with _ | _ | ⟨v, s⟩
  · exact ended
  · exact form
  · exact ok v s

def badLast (size : Nat) (x : Int) : Bool := (decide (0 < size) && x == 0) || (size == 9 && decide (1 < x))
def scanN : List Int → Nat → Nat → NumRes
  | [], size, _ => if size = 10 then .form else .ended
  | x :: r, size, v => if size = 10 then .form else if x < 128 then (if badLast size x = true then .form else .ok (v + x.toNat * 128 ^ size) (size + 1)) else scanN r (size + 1) (v + (x.toNat - 128) * 128 ^ size)

structure NumRel (K : List Int) (t V s : Nat) : Prop where
  s10 : s ≤ 10
  sk : s ≤ K.length - t
  v64 : V < 18446744073709551616
  small : s ≤ 9 → V < 128 ^ s
  eq : s ≤ 9 → scanN (K.drop t) 0 0 = scanN (K.drop (t + s)) s V
  eq10 : s = 10 → scanN (K.drop t) 0 0 = .form

theorem NumRel.start (K : List Int) (t : Nat) : NumRel K t 0 0 := ⟨by omega, by omega, by omega, fun _ => by simp, fun _ => rfl, fun h => by omega⟩

end Go.Proofs.YtbefeobikjnlpaaGreatDoor

namespace Go.Proofs.YtbefeobikjnlpaaGreatDoor
open Go.RowKit
set_option maxRecDepth 100000

end Go.Proofs.YtbefeobikjnlpaaGreatDoor
