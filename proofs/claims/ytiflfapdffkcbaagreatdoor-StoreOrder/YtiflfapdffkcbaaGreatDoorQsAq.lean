/-
  Merged: QsA, QsB.
-/
import Derived.WalkKit
import Derived.Test.YtiflfapdffkcbaaGreatDoorSOq
import Derived.Deep.RegionHeld3
import Derived.Deep.RegionWith
import Derived.Deep.QuietTactic
import Derived.BigQuiet
import Derived.WalkMore
import Derived.Handy
import Derived.Deep.Cut
namespace Go.Proofs.YtiflfapdffkcbaaGreatDoor.qs
set_option maxRecDepth 100000

/-- What stands at a place. -/
def atL (L : List Int) (i : Nat) : Int := L.getD i 0
theorem atL_get {L : List Int} {i : Nat} (h : i < L.length) : L[i] = atL L i := by unfold atL; rw [List.getD_eq_getElem?_getD, List.getElem?_eq_getElem h, Option.getD_some]
/-- Two places exchanged. -/
def swapL (L : List Int) (i j : Nat) : List Int := (L.set i (atL L j)).set j (atL L i)
theorem swapL_len (L : List Int) (i j : Nat) : (swapL L i j).length = L.length := by unfold swapL; rw [List.length_set, List.length_set]
theorem atL_set (L : List Int) (i k : Nat) (v : Int) (h : i < L.length) : atL (L.set i v) k = if k = i then v else atL L k := by
  unfold atL
  rw [List.getD_eq_getElem?_getD, List.getD_eq_getElem?_getD, List.getElem?_set]
  by_cases e : i = k
  · subst e
    rw [if_pos rfl, if_pos rfl, if_pos h, Option.getD_some]
  · rw [if_neg e, if_neg (fun h => e h.symm)]
theorem atL_swap (L : List Int) (i j k : Nat) (hi : i < L.length) (hj : j < L.length) : atL (swapL L i j) k = if k = j then atL L i else if k = i then atL L j else atL L k := by
  unfold swapL
  rw [atL_set _ _ _ _ (by rw [List.length_set]; exact hj)]
  split
  · rfl
  · rw [atL_set _ _ _ _ hi]
theorem swapL_self (L : List Int) (i : Nat) (hi : i < L.length) : swapL L i i = L := by
  apply List.ext_getElem (swapL_len L i i)
  intro k h1 h2
  rw [atL_get h1, atL_get h2, atL_swap L i i k hi hi]
  split
  · rename_i e; rw [e]
  · rfl
/-- Turned within [a, b): by exchanges alone. -/
def PermOn (a b : Nat) (L L' : List Int) : Prop := ∀ R : List Int → Prop, R L → (∀ M i j, R M → M.length = L.length → a ≤ i → i < b → a ≤ j → j < b → R (swapL M i j)) → R L'
theorem PermOn.refl (a b : Nat) (L : List Int) : PermOn a b L L := fun _ h _ => h
theorem PermOn.len {a b : Nat} {L L' : List Int} (h : PermOn a b L L') : L'.length = L.length := h (fun M => M.length = L.length) rfl (fun M i j hM _ _ _ _ _ => by rw [swapL_len]; exact hM)
theorem PermOn.trans {a b : Nat} {L L' L'' : List Int} (h : PermOn a b L L') (k : PermOn a b L' L'') : PermOn a b L L'' := fun R hL st => k R (h R hL st) (fun M i j hM hl h1 h2 h3 h4 => st M i j hM (hl.trans h.len) h1 h2 h3 h4)
theorem PermOn.swap {a b : Nat} {L L' : List Int} (h : PermOn a b L L') {i j : Nat} (h1 : a ≤ i) (h2 : i < b) (h3 : a ≤ j) (h4 : j < b) : PermOn a b L (swapL L' i j) := fun R hL st => st L' i j (h R hL st) h.len h1 h2 h3 h4
theorem PermOn.mono {a b a' b' : Nat} {L L' : List Int} (h : PermOn a b L L') (ha : a' ≤ a) (hb : b ≤ b') : PermOn a' b' L L' := fun R hL st => h R hL (fun M i j hM hl h1 h2 h3 h4 => st M i j hM hl (by omega) (by omega) (by omega) (by omega))
theorem PermOn.out {a b : Nat} {L L' : List Int} (h : PermOn a b L L') (hb : b ≤ L.length) : ∀ k, k < a ∨ b ≤ k → atL L' k = atL L k := by
  refine (h (fun M => M.length = L.length ∧ ∀ k, k < a ∨ b ≤ k → atL M k = atL L k) ⟨rfl, fun _ _ => rfl⟩ ?_).2
  rintro M i j ⟨hM, hk⟩ _ h1 h2 h3 h4
  refine ⟨by rw [swapL_len]; exact hM, fun k hk' => ?_⟩
  rw [atL_swap M i j k (by omega) (by omega), if_neg (by omega), if_neg (by omega)]
  exact hk k hk'
/-- What all have within, all have behind it. -/
theorem PermOn.all {a b : Nat} {L L' : List Int} (h : PermOn a b L L') (hb : b ≤ L.length) (P : Int → Prop) (hP : ∀ k, a ≤ k → k < b → P (atL L k)) : ∀ k, a ≤ k → k < b → P (atL L' k) := by
  refine (h (fun M => M.length = L.length ∧ ∀ k, a ≤ k → k < b → P (atL M k)) ⟨rfl, hP⟩ ?_).2
  rintro M i j ⟨hM, hk⟩ _ h1 h2 h3 h4
  refine ⟨by rw [swapL_len]; exact hM, fun k h5 h6 => ?_⟩
  rw [atL_swap M i j k (by omega) (by omega)]
  split
  · exact hk i h1 h2
  · split
    · exact hk j h3 h4
    · exact hk k h5 h6
/-- What is there stays there, somewhere within. -/
theorem PermOn.some {a b : Nat} {L L' : List Int} (h : PermOn a b L L') (hb : b ≤ L.length) {v : Int} (hv : ∃ k, a ≤ k ∧ k < b ∧ atL L k = v) : ∃ k, a ≤ k ∧ k < b ∧ atL L' k = v := by
  refine (h (fun M => M.length = L.length ∧ ∃ k, a ≤ k ∧ k < b ∧ atL M k = v) ⟨rfl, hv⟩ ?_).2
  rintro M i j ⟨hM, k, h5, h6, h7⟩ _ h1 h2 h3 h4
  refine ⟨by rw [swapL_len]; exact hM, ?_⟩
  by_cases e1 : k = i
  · refine ⟨j, h3, h4, ?_⟩
    rw [atL_swap M i j j (by omega) (by omega), if_pos rfl, ← e1]
    exact h7
  · by_cases e2 : k = j
    · refine ⟨i, h1, h2, ?_⟩
      rw [atL_swap M i j i (by omega) (by omega)]
      split
      · rename_i e; rw [e, ← e2]; exact h7
      · rw [if_pos rfl, ← e2]; exact h7
    · refine ⟨k, h5, h6, ?_⟩
      rw [atL_swap M i j k (by omega) (by omega), if_neg e2, if_neg e1]
      exact h7
theorem swap_lt (L : List Int) (i j : Nat) (hi : i < L.length) (hj : j < L.length) (h : i < j) : ((L.set i L[j]).set j L[i]).Perm L := by
  refine List.perm_iff_count.2 (fun v => ?_)
  have h1 := List.count_set (l := L) (i := i) (a := L[j]) (b := v) hi
  have h2 := List.count_set (l := L.set i L[j]) (i := j) (a := L[i]) (b := v) (by rw [List.length_set]; exact hj)
  rw [List.getElem_set_ne (by omega)] at h2
  rw [h2, h1]
  have c1 : (if L[i] == v then 1 else 0) ≤ L.count v := by
    split
    · rename_i e; exact List.count_pos_iff.2 ((eq_of_beq e) ▸ List.getElem_mem hi)
    · omega
  generalize L.count v = c at *
  generalize (L[i] == v) = x at *
  generalize (L[j] == v) = y at *
  cases x <;> cases y <;> simp at c1 ⊢ <;> omega
theorem swap_perm (L : List Int) (i j : Nat) (hi : i < L.length) (hj : j < L.length) : (swapL L i j).Perm L := by
  have h : swapL L i j = (L.set i (L[j])).set j (L[i]) := by unfold swapL; rw [atL_get hi, atL_get hj]
  rw [h]
  rcases Nat.lt_trichotomy i j with h1 | h1 | h1
  · exact swap_lt L i j hi hj h1
  · subst h1
    rw [List.set_set, List.set_getElem_self]
  · have := swap_lt L j i hj hi h1
    rw [List.set_comm _ _ (by omega)] at this
    exact this
/-- It rises within [a, b). -/
def SortedOn (a b : Nat) (L : List Int) : Prop := ∀ i j, a ≤ i → i < j → j < b → atL L i ≤ atL L j
end Go.Proofs.YtiflfapdffkcbaaGreatDoor.qs

namespace Go.Proofs.YtiflfapdffkcbaaGreatDoor.qs
open Go Go.RowKit
set_option maxRecDepth 100000

/-- Numbers at the head of a block. -/
def U64R (w : World) (g : Nat) (L : List Int) (R : List Value) : Prop := Blk w g (L.map (Value.int .u64) ++ R).toArray 34
theorem U64R.cell {w : World} {g : Nat} {L : List Int} {R : List Value} (h : U64R w g L R) (i : Nat) (hi : i < L.length) : w.cell? ⟨g, i, none⟩ = some (.int .u64 (atL L i)) := by
  refine Blk.cell h i ?_
  rw [List.getElem?_toArray, List.getElem?_append_left (by simpa using hi), List.getElem?_map, List.getElem?_eq_getElem hi, atL_get hi]
  rfl
theorem U64R.frozen {w : World} {g : Nat} {L : List Int} {R : List Value} (h : U64R w g L R) (i : Nat) : w.frozen? ⟨g, i, none⟩ = false := Blk.frozen h i
theorem U64R.lt {w : World} {g : Nat} {L : List Int} {R : List Value} (h : U64R w g L R) : g < w.heap.size := Blk.lt h
theorem U64R.below {w w' : World} {g : Nat} {L : List Int} {R : List Value} (h : U64R w g L R) (hb : Below w.heap.size w w') : U64R w' g L R := Blk.below h hb (Blk.lt h)
theorem U64R.set {w : World} {g : Nat} {L : List Int} {R : List Value} (h : U64R w g L R) (i : Nat) (hi : i < L.length) (x : Int) : U64R (w.setCell ⟨g, i, none⟩ (.int .u64 x)) g (L.set i x) R := by
  have h2 := Blk.set h i (.int .u64 x)
  have e : ((L.map (Value.int .u64) ++ R).toArray.setIfInBounds i (.int .u64 x)) = ((L.set i x).map (Value.int .u64) ++ R).toArray := by
    rw [List.setIfInBounds_toArray, List.set_append_left _ _ (by simpa using hi), List.map_set]
  rw [e] at h2
  exact h2
/-- What a turn does in memory: the row alone is written. -/
def TurnU (w w' : World) (g : Nat) (R : List Value) (L' : List Int) : Prop := U64R w' g L' R ∧ Upd (fun k => k = g) w w'
theorem TurnU.refl {w : World} {g : Nat} {R : List Value} {L : List Int} (h : U64R w g L R) : TurnU w w g R L := ⟨h, Upd.refl _ _⟩
theorem TurnU.below {w w1 w2 : World} {g : Nat} {R : List Value} {L : List Int} (h : TurnU w w1 g R L) (hb : Below w1.heap.size w1 w2) : TurnU w w2 g R L := ⟨h.1.below hb, h.2.trans (Upd.ofBelow (S := fun k => k = g) hb (fun k h1 h2 => by omega)) (fun _ _ h => h)⟩
theorem TurnU.trans {w w1 w2 : World} {g : Nat} {R : List Value} {L L' : List Int} (h : TurnU w w1 g R L) (k : TurnU w1 w2 g R L') : TurnU w w2 g R L' := ⟨k.1, h.2.trans k.2 (fun _ _ h => h)⟩
theorem TurnU.swap {w w1 : World} {g : Nat} {R : List Value} {L : List Int} (h : TurnU w w1 g R L) {i j : Nat} (hi : i < L.length) (hj : j < L.length) : TurnU w ((w1.setCell ⟨g, i, none⟩ (.int .u64 (atL L j))).setCell ⟨g, j, none⟩ (.int .u64 (atL L i))) g R (swapL L i j) :=
  ⟨(h.1.set i hi _).set j (by rw [List.length_set]; exact hj) _, (h.2.setCell (p := ⟨g, i, none⟩) (fun _ => rfl) _).setCell (p := ⟨g, j, none⟩) (fun _ => rfl) _⟩
/-- What an exchange asks of memory. -/
theorem U64R.swapF {w : World} {g : Nat} {L : List Int} {R : List Value} (h : U64R w g L R) {i j : Nat} (hi : i < L.length) (hj : j < L.length) (v : Int) : (∃ u, (w.setCell ⟨g, i, none⟩ (.int .u64 v)).cell? ⟨g, j, none⟩ = some (.int .u64 u)) ∧ (w.setCell ⟨g, i, none⟩ (.int .u64 v)).frozen? ⟨g, j, none⟩ = false ∧ w.frozen? ⟨g, i, none⟩ = false :=
  ⟨⟨_, (h.set i hi v).cell j (by rw [List.length_set]; exact hj)⟩, (h.set i hi v).frozen j, h.frozen i⟩
theorem less_any (x y : Int) (w : World) :
    Calls Tryz.prog 93 #[.int .u64 x, .int .u64 y] w fun e w' => e = .returned (.bool (decide (x < y))) ∧ Below w.heap.size w w' := by
  have B0 : Hid (Below w.heap.size w w) := Below.refl _ _
  have e1 : (x != x) = false := by simp
  go_enter Tryz.func93, Tryz.ntmps93
  go_wp2
  go_ret
  exact ⟨rfl, B0.out⟩
end Go.Proofs.YtiflfapdffkcbaaGreatDoor.qs
