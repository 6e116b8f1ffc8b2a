/-
  PI.
-/
import Derived.Test.YtbbonnbcenhkeaaGreatDoorPAq
import Derived.Shelf.SlicesQ.Reverse
import Derived.Shelf.Lay
import Derived.Ground.SlgnProg
namespace Go.Proofs.YtbbonnbcenhkeaaGreatDoor
open Go Go.Shelf Go.RowKit Go.Lib Go.Sort
set_option maxRecDepth 100000

def Tryz.reverseLeg_ren : Go.Shelf.Ren := ⟨fun | 35 => 69 | n => n, fun | 22 => 65 | 23 => 69 | 3 => 3 | 4 => 4 | 0 => 0 | n => n, fun | n => n⟩
theorem Tryz.reverseLeg : Go.Proofs.SlLaysE0.n35 Tryz.prog Tryz.reverseLeg_ren := {
  mixed := by kernel_rfl
  f35 := ⟨Tryz.f69.name, by decide, Tryz.func69.trans (congrArg some (by kernel_rfl))⟩
  t0 := Tryz.underlying0
  a0 := Tryz.isAgg0
  z0 := Tryz.sizeOf0
  v0 := Tryz.zeroValue0
  t3 := Tryz.underlying3
  a3 := Tryz.isAgg3
  z3 := Tryz.sizeOf3
  v3 := Tryz.zeroValue3
  t4 := Tryz.underlying4
  a4 := Tryz.isAgg4
  z4 := Tryz.sizeOf4
  v4 := Tryz.zeroValue4
  t22 := Tryz.underlying65
  a22 := Tryz.isAgg65
  z22 := Tryz.sizeOf65
  v22 := Tryz.zeroValue65 }

theorem legs_at (L : List (Int × Int × Int)) (t : Nat) (ht : t < L.length * 3) : (L.flatMap legC)[t]? = some ((legC L.toArray[t / 3]!)[t % 3]!) := by
  have hi : t / 3 < L.length := by omega
  have e : L.toArray[t / 3]! = L[t / 3] := by simp [hi]
  have := legs_get L (t / 3) hi (t % 3) (by omega)
  rw [show t / 3 * 3 + t % 3 = t by omega] at this
  rw [this, e]
  have h3 : t % 3 < (legC L[t / 3]).length := by show t % 3 < 3; omega
  rw [List.getElem?_eq_getElem h3, getElem!_pos (legC L[t / 3]) (t % 3) h3]
theorem reverse_any (base g n cap : Nat) (L : List (Int × Int × Int)) (w : World) (h : w.ownsRow base 69 3 (.slice (some ⟨g, 0, none⟩) n cap) n (L.flatMap legC)) (hn : L.length = n) (hl : n ≤ 4000) :
    Calls Tryz.prog 69 #[.slice (some ⟨g, 0, none⟩) n cap] w fun e w' => e = .returned (.tuple #[]) ∧ LegsIn w' g L.reverse ∧ Upd (fun k => k = g) w w' := by
  obtain ⟨cur, hh⟩ := owns_typeS h (g := g) rfl
  have hB : Blk w g cur 69 := hh
  have hK : HoldsK legC 3 w g 0 L.toArray := by
    intro t ht
    rw [size_flatK] at ht
    have ht' : t < L.length * 3 := by simpa using ht
    rw [get_flatK legC 3 L.toArray t ht]
    refine ⟨?_, hB.frozen _⟩
    have := h.cells (g := g) rfl t _ (legs_at L t ht')
    rw [Addr.add_lit] at this
    exact this
  have hz : L.toArray.size = n := by simp [hn]
  have C := AnyQ.slices_Reverse Tryz.reverseLeg 3 Tryz.isAgg69 Tryz.sizeOf69 legC (fun _ => rfl) (fun x v hv => by simp [legC] at hv; rcases hv with rfl | rfl | rfl <;> rfl) g 0 cap L.toArray w hK (by omega)
  rw [hz] at C
  refine C.mono ?_
  rintro e w' ⟨rfl, m, rfl⟩
  have hR := holdsK_putRowK legC 3 (Sort.ahead w m) g 0 L.toArray L.toArray.reverse (holdsK_ahead legC 3 w m g 0 L.toArray hK) (by simp)
  refine ⟨rfl, fun i hi => ?_, ?_⟩
  · have hi' : i < L.toArray.reverse.size := by simpa using hi
    have e : L.toArray.reverse[i]! = L.reverse[i] := by
      rw [getElem!_pos L.toArray.reverse i hi']
      simp
    have c0 := (hR.cell hi' (show 0 < 3 by omega)).1
    have c1 := (hR.cell hi' (show 1 < 3 by omega)).1
    have c2 := (hR.cell hi' (show 2 < 3 by omega)).1
    rw [e] at c0 c1 c2
    simp only [Nat.zero_add, Nat.add_zero] at c0 c1 c2
    exact ⟨c0, c1, c2⟩
  · unfold putRowK
    refine ⟨rfl, rfl, rfl, ?_, fun k hk hn => ?_⟩
    · rw [size_putRow]; exact Nat.le_refl _
    · show (w.heap.modify g _)[k]? = _
      rw [Array.getElem?_modify, if_neg (fun e => hn e.symm)]
theorem reverse_none (ad : Option Addr) (cap : Nat) (w : World) : Calls Tryz.prog 69 #[.slice ad 0 cap] w fun e w' => e = .returned (.tuple #[]) ∧ w' = w :=
  AnyQ.slices_Reverse_empty Tryz.reverseLeg ad cap w
end Go.Proofs.YtbbonnbcenhkeaaGreatDoor
