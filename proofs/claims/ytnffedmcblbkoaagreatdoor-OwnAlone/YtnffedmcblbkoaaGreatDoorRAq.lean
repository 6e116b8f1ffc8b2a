/-
  Merged: RA, KC, RB, RC, RP.
-/
import Derived.Test.YtnffedmcblbkoaaGreatDoorPFq
import Derived.Test.YtnffedmcblbkoaaGreatDoorTQq
import Derived.Test.YtnffedmcblbkoaaGreatDoorFSq
import Derived.Test.YtnffedmcblbkoaaGreatDoorWaq
import Derived.Test.YtnffedmcblbkoaaGreatDoorFXq
import Derived.Test.YtnffedmcblbkoaaGreatDoorOXq
import Derived.Test.YtnffedmcblbkoaaGreatDoorOZ
import Derived.Shelf.SlSortCmp.WholeK
import Derived.Shelf.SlSortCmp.NoneTotal
import Derived.Ground.SlsfProg
import Derived.Test.YtnffedmcblbkoaaGreatDoorFKq
import Derived.Test.YtnffedmcblbkoaaGreatDoorQAq
import Derived.Test.YtnffedmcblbkoaaGreatDoorSA
import Derived.StringKeys
namespace Go.Proofs.YtnffedmcblbkoaaGreatDoor
open Go Go.RowKit
set_option maxRecDepth 100000

def sumH (L : List (Nat × Int × Int)) (y : Nat) : Int := (L.map (fun l => if l.1 = y then lenI (l.2.1, l.2.2) else 0)).sum
end Go.Proofs.YtnffedmcblbkoaaGreatDoor

namespace Go.Proofs.YtnffedmcblbkoaaGreatDoor
open Go Go.RowKit
set_option maxRecDepth 100000

theorem FoB.top {Y : List Sp} {C : List Int} {dp : Nat → Nat} {fin : Nat → Nod} {X : List Spot} {K : Nat → List Int} {R : List Int} (h : FoB Y C dp fin X K R) : ∀ (d i : Nat), dp i = d → i < Y.length → ∃ x : Nat, (x : Int) ∈ R ∧ x < Y.length ∧ (fin x).org ≠ 0 ∧ (fin x).tree = (fin x).id ∧ (fin i).tree = (fin x).id := by
  intro d
  induction d using Nat.strongRecOn with
  | ind d ih =>
    intro i hd hi
    rcases nmC_range Y C i hi with hn | ⟨j, hj, hn⟩
    · have hm : (i : Int) ∈ R := h.fo.roots.1.mem_iff.1 (kidsF_iff.2 ⟨i, rfl, hi, hn⟩)
      obtain ⟨x, e, hx, h1, h2⟩ := h.root _ hm
      have : i = x := by omega
      subst this
      exact ⟨i, hm, hx, h1, h2, h2⟩
    · have hc : i ∈ knK K j := (h.mem j hj i).2 ⟨hi, hn⟩
      have e := h.tree.hdp j hj i hc
      obtain ⟨x, a1, a2, a3, a4, a5⟩ := ih (dp j) (by omega) j rfl hj
      exact ⟨x, a1, a2, a3, a4, by rw [(h.kid j hj i hc).2.2]; exact a5⟩
theorem FoB.u64 {Y : List Sp} {C : List Int} {dp : Nat → Nat} {fin : Nat → Nod} {X : List Spot} {K : Nat → List Int} {R : List Int} (h : FoB Y C dp fin X K R) (i : Nat) (hi : i < Y.length) : u64J (fin i).id ∧ u64J (fin i).tree := by
  have h1 : ∀ x, x < Y.length → u64J (fin x).id := fun x hx => by
    rw [← h.ids x hx]
    unfold spAt
    rw [List.getD_eq_getElem?_getD, List.getElem?_eq_getElem hx]
    exact (h.one.fits _ (List.getElem_mem hx)).id
  obtain ⟨x, _, hx, _, _, e⟩ := h.top (dp i) i rfl hi
  exact ⟨h1 i hi, by rw [e]; exact h1 x hx⟩
end Go.Proofs.YtnffedmcblbkoaaGreatDoor

namespace Go.Proofs.YtnffedmcblbkoaaGreatDoor
open Go Go.Shelf Go.RowKit Go.Lib Go.Sort
set_option maxRecDepth 100000

def LieIn {α : Type} (f : α → List Value) (s : Nat) (W : World) (ad : Option Addr) (l : List α) : Prop := l ≠ [] → ∃ g, ad = some ⟨g, 0, none⟩ ∧ g < W.heap.size ∧ ∀ i (hi : i < l.length) j v, (f l[i])[j]? = some v → W.cell? ⟨g, i * s + j, none⟩ = some v
theorem LieIn.of_owns {α : Type} {f : α → List Value} {s : Nat} (hf : ∀ x, (f x).length = s) {T : TypeId} {W : World} {base : Nat} {ad : Option Addr} {n c : Nat} {l : List α} (h : W.ownsRow base T s (.slice ad n c) n (l.flatMap f)) (hn : l.length = n) : LieIn f s W ad l := fun hne => by
  have h0 := List.length_pos_iff.2 hne
  obtain ⟨g, cap, e1, _, hr⟩ := RwG.of_owns h hn (by omega)
  injection e1 with e1 _ _
  exact ⟨g, e1, hr.lt, fun i hi j v hv => hr.cell hf i hi j hv⟩
end Go.Proofs.YtnffedmcblbkoaaGreatDoor

namespace Go.Proofs.YtnffedmcblbkoaaGreatDoor
open Go Go.RowKit
set_option maxRecDepth 100000

theorem src_two {P : Program} {tx e : TypeId} (hu : P.underlying tx = some (.slice e)) {W : World} {b : Nat} {x y : Value} {t : TypeId} (h : W.heap[b]? = some (.cells #[x, y] t (0, 0))) (h1 : x.oneCell' = true) (h2 : y.oneCell' = true) : Src P 2 tx (.slice (some ⟨b, 0, none⟩) 1 1) 1 [x, y] W := by
  refine Src.ofSlice _ hu ⟨b, 0, none⟩ 1 1 _ rfl ?_ ?_
  · intro j u hj
    match j, hj with
    | 0, hj => simp at hj; subst hj; simp [Addr.add, World.cell?, h]
    | 1, hj => simp at hj; subst hj; simp [Addr.add, World.cell?, h]
    | j + 2, hj => simp at hj
  · intro u hu
    simp at hu
    rcases hu with rfl | rfl <;> assumption
end Go.Proofs.YtnffedmcblbkoaaGreatDoor

namespace Go.Proofs.YtnffedmcblbkoaaGreatDoor
open Go Go.RowKit
set_option maxRecDepth 100000

def lenL (l : Nat × Int × Int) : Int := lenI (l.2.1, l.2.2)
theorem lenL_nn (l : Nat × Int × Int) : 0 ≤ lenL l := by
  unfold lenL lenI
  split <;> simp only at * <;> omega
theorem tile_sum {hi : Int} : ∀ (lo : Int) (M : List (Nat × Int × Int)), TileF hi lo M → (M.map lenL).sum = hi - lo
  | lo, [], h => by
    have e : lo = hi := h
    simp [e]
  | lo, (y, a, b) :: r, h => by
    obtain ⟨h1, h2, h3⟩ := h
    have ih := tile_sum b r h3
    have e : lenL (y, a, b) = b - a := by unfold lenL lenI; simp only; rw [if_neg (by omega)]
    rw [List.map_cons, List.sum_cons, ih, e]
    omega
theorem sumH_cons (l : Nat × Int × Int) (r : List (Nat × Int × Int)) (y : Nat) : sumH (l :: r) y = (if l.1 = y then lenL l else 0) + sumH r y := by simp [sumH, lenL]
theorem tile_cnt (y : Nat) {hi lo0 : Int} {n : Nat} : ∀ (lo : Int) (M : List (Nat × Int × Int)), TileF hi lo M → lo0 ≤ lo → hi ≤ lo0 + n → sumH M y = cntM (memI ((M.filter (fun l => decide (l.1 = y))).map (fun l => (l.2.1, l.2.2)))) lo0 n ∧ lo ≤ hi ∧ ∀ x, memI ((M.filter (fun l => decide (l.1 = y))).map (fun l => (l.2.1, l.2.2))) x = true → lo ≤ x
  | lo, [], h, h0, h1 => by
    have e : lo = hi := h
    refine ⟨?_, by omega, fun x hx => by simp [memI] at hx⟩
    have : ∀ k : Nat, cntM (memI []) lo0 k = 0 := fun k => by
      induction k with
      | zero => rfl
      | succ k ih => simp [cntM, ih, memI]
    simp [sumH, this]
  | lo, (z, a, b) :: r, h, h0, h1 => by
    obtain ⟨g1, g2, g3⟩ := h
    obtain ⟨i1, i2, i3⟩ := tile_cnt y b r g3 (by omega) h1
    rw [sumH_cons]
    have e : lenL (z, a, b) = b - a := by unfold lenL lenI; simp only; rw [if_neg (by omega)]
    by_cases hz : z = y
    · rw [List.filter_cons_of_pos (by simpa using hz), List.map_cons, if_pos hz, e]
      refine ⟨?_, by omega, fun x hx => ?_⟩
      · have ec : ∀ x, memI ((a, b) :: (r.filter (fun l => decide (l.1 = y))).map (fun l => (l.2.1, l.2.2))) x = ((decide (a ≤ x) && decide (x < b)) || memI ((r.filter (fun l => decide (l.1 = y))).map (fun l => (l.2.1, l.2.2))) x) := fun x => memI_cons _ _ _
        rw [cntM_congr ec, cntM_or _ _ _ (fun x hx => ?_), cntM_iv a b lo0 (by omega) (by omega), if_neg (by omega), i1]
        · split <;> omega
        · simp only [Bool.and_eq_true, decide_eq_true_eq] at hx
          cases hq : memI ((r.filter (fun l => decide (l.1 = y))).map (fun l => (l.2.1, l.2.2))) x with
          | false => rfl
          | true => have := i3 x hq; omega
      · rw [memI_cons] at hx
        simp only [Bool.or_eq_true, Bool.and_eq_true, decide_eq_true_eq] at hx
        rcases hx with hx | hx
        · omega
        · have := i3 x hx; omega
    · rw [List.filter_cons_of_neg (by simpa using hz), if_neg hz, Int.zero_add]
      exact ⟨i1, by omega, fun x hx => by have := i3 x hx; omega⟩
theorem cntM_le {p q : Int → Bool} (h : ∀ x, p x = true → q x = true) (lo : Int) : ∀ n, cntM p lo n ≤ cntM q lo n
  | 0 => Int.le_refl _
  | n + 1 => by
    have := cntM_le h lo n
    have hx := h (lo + n)
    unfold cntM
    cases hp : p (lo + n) <;> cases hq : q (lo + n) <;> simp_all <;> omega
section
variable {Y : List Sp} {C : List Int} {dp : Nat → Nat} {fin : Nat → Nod} {X : List Spot} {K : Nat → List Int} {R : List Int}
def kidI (fin : Nat → Nod) (K : Nat → List Int) (y : Nat) : List (Int × Int) := (knK K y).map (fun c => ((fin c).fr, (fin c).til))
end
end Go.Proofs.YtnffedmcblbkoaaGreatDoor
