/-
  OZ.
-/
import Derived.Test.YtmpmpoclkgofeaaGreatDoorSOq
import Derived.Test.YtmpmpoclkgofeaaGreatDoorMwq
namespace Go.Proofs.YtmpmpoclkgofeaaGreatDoor
open Go Go.RowKit
set_option maxRecDepth 100000

def pB (B : Nat → Nat) (x : Nat) : Value := .pointer (some ⟨B x, 0, none⟩)
theorem owns_type {w : World} {base n : Nat} {e : TypeId} {v : Value} {xs : List Value} (h : w.ownsRow base e 1 v n xs) {g : Nat} (hg : v.ownBlock = some g) : ∃ cur, w.heap[g]? = some (.cells cur e (0, 0)) := by
  rcases h.2 with ⟨e1, _⟩ | ⟨g', cap, cur, e1, _, hh, _⟩
  · rw [e1] at hg; simp [Value.ownBlock] at hg
  · rw [e1] at hg
    simp [Value.ownBlock] at hg
    subst hg
    exact ⟨cur, hh⟩
def upF {α : Type} (f : Nat → α) (x : Nat) (v : α) : Nat → α := fun y => if y = x then v else f y
theorem upF_same {α : Type} (f : Nat → α) (x : Nat) (v : α) : upF f x v x = v := if_pos rfl
theorem upF_ne {α : Type} (f : Nat → α) {x y : Nat} (v : α) (h : y ≠ x) : upF f x v y = f y := if_neg h
def preN (K : Nat → List Nat) : Nat → List Nat → List Nat
  | 0, _ => []
  | fu + 1, L => L.flatMap (fun x => x :: preN K fu (K x))
def DeepN (K : Nat → List Nat) : Nat → List Nat → Prop
  | 0, L => L = []
  | fu + 1, L => ∀ x ∈ L, DeepN K fu (K x)
theorem preN_take (K : Nat → List Nat) (fu : Nat) (L : List Nat) (q : Nat) (hq : q < L.length) : preN K fu (L.take (q + 1)) = preN K fu (L.take q) ++ preN K fu [L[q]] := by
  cases fu with
  | zero => rfl
  | succ fu =>
    show (L.take (q + 1)).flatMap (fun x => x :: preN K fu (K x)) = (L.take q).flatMap (fun x => x :: preN K fu (K x)) ++ [L[q]].flatMap (fun x => x :: preN K fu (K x))
    rw [List.take_succ_eq_append_getElem hq, List.flatMap_append]
theorem preN_one (K : Nat → List Nat) (fu x : Nat) : preN K (fu + 1) [x] = x :: preN K fu (K x) := by
  show [x].flatMap (fun x => x :: preN K fu (K x)) = _
  simp
theorem preN_mem (K : Nat → List Nat) (fu : Nat) (L : List Nat) (h : DeepN K fu L) : ∀ x ∈ L, x ∈ preN K fu L := fun x hx => by
  cases fu with
  | zero => rw [show L = [] from h] at hx; cases hx
  | succ fu =>
    show x ∈ L.flatMap (fun x => x :: preN K fu (K x))
    exact List.mem_flatMap.2 ⟨x, hx, by simp⟩
abbrev nilV : Value := .slice none 0 0
theorem map_up {B : Nat → Nat} {x b : Nat} {L : List Nat} (h : x ∉ L) : L.map (pB (upF B x b)) = L.map (pB B) :=
  List.map_congr_left fun y hy => by
    unfold pB
    rw [upF_ne _ _ (fun e => h (by rw [← e]; exact hy))]
def blkOf (v : Value) : Nat := (v.ownBlock).getD 0
theorem DeepN.one {K : Nat → List Nat} {fu : Nat} {L : List Nat} (h : DeepN K fu L) {c : Nat} (hc : c ∈ L) : DeepN K fu [c] := by
  cases fu with
  | zero => rw [show L = [] from h] at hc; cases hc
  | succ fu => intro y hy; simp at hy; subst hy; exact h y hc
theorem preN_part (K : Nat → List Nat) (fu : Nat) (L : List Nat) (q : Nat) (hq : q < L.length) : ∃ M, preN K fu L = preN K fu (L.take q) ++ preN K fu [L[q]] ++ M := by
  cases fu with
  | zero => exact ⟨[], rfl⟩
  | succ fu =>
    refine ⟨(L.drop (q + 1)).flatMap (fun x => x :: preN K fu (K x)), ?_⟩
    rw [← preN_take K (fu + 1) L q hq]
    show L.flatMap (fun x => x :: preN K fu (K x)) = (L.take (q + 1)).flatMap (fun x => x :: preN K fu (K x)) ++ _
    rw [← List.flatMap_append, List.take_append_drop]
theorem Deep_take {K : Nat → List Nat} {fu : Nat} {L : List Nat} (h : DeepN K fu L) (i : Nat) : DeepN K fu (L.take i) := by
  cases fu with
  | zero => rw [show L = [] from h]; exact List.take_nil
  | succ fu => exact fun y hy => h y (List.mem_of_mem_take hy)
theorem map_agree {B B' : Nat → Nat} {L : List Nat} (h : ∀ y ∈ L, B' y = B y) : L.map (pB B') = L.map (pB B) :=
  List.map_congr_left fun y hy => by unfold pB; rw [h y hy]
def legC (l : Int × Int × Int) : List Value := [.int .u64 l.1, .int .i64 l.2.1, .int .i64 l.2.2]
theorem infoLeg : (Tryz.prog.info? 41).map (fun i => (i.zero, i.size, i.bytes)) = some (some (.agg #[.int .u64 0, .int .i64 0, .int .i64 0]), 3, 24) := by kernel_rfl
theorem infoLeg_parts : ∃ i, Tryz.prog.info? 41 = some i ∧ i.zero = some (.agg #[.int .u64 0, .int .i64 0, .int .i64 0]) ∧ i.size = 3 ∧ i.bytes = 24 := by
  have h := infoLeg
  cases hq : Tryz.prog.info? 41 with
  | none => rw [hq] at h; simp at h
  | some i =>
    rw [hq] at h
    simp at h
    exact ⟨i, rfl, h.1, h.2.1, h.2.2⟩
theorem owns_typeS {w : World} {base n s : Nat} {e : TypeId} {v : Value} {xs : List Value} (h : w.ownsRow base e s v n xs) {g : Nat} (hg : v.ownBlock = some g) : ∃ cur, w.heap[g]? = some (.cells cur e (0, 0)) := by
  rcases h.2 with ⟨e1, _⟩ | ⟨g', cap, cur, e1, _, hh, _⟩
  · rw [e1] at hg; simp [Value.ownBlock] at hg
  · rw [e1] at hg
    simp [Value.ownBlock] at hg
    subst hg
    exact ⟨cur, hh⟩
theorem owns_sliceS {w : World} {base n s : Nat} {e : TypeId} {v : Value} {xs : List Value} (h : w.ownsRow base e s v n xs) : ∃ ad cap, v = .slice ad n cap := by
  rcases h.2 with ⟨e1, e2⟩ | ⟨g, cap, cur, e1, _⟩
  · exact ⟨none, 0, by rw [e1, e2]⟩
  · exact ⟨_, cap, e1⟩
theorem owns_some {w : World} {base n cap s : Nat} {e : TypeId} {ad : Option Addr} {xs : List Value} (h : w.ownsRow base e s (.slice ad (n + 1) cap) (n + 1) xs) : ∃ g, ad = some ⟨g, 0, none⟩ := by
  rcases h.2 with ⟨e1, e2⟩ | ⟨g, cap, cur, e1, _⟩
  · omega
  · simp at e1
    exact ⟨g, e1.1⟩
def LegsIn (w : World) (g : Nat) (L : List (Int × Int × Int)) : Prop :=
  ∀ i (h : i < L.length), w.cell? ⟨g, i * 3, none⟩ = some (.int .u64 L[i].1) ∧ w.cell? ⟨g, i * 3 + 1, none⟩ = some (.int .i64 L[i].2.1) ∧ w.cell? ⟨g, i * 3 + 2, none⟩ = some (.int .i64 L[i].2.2)
theorem legs_get (L : List (Int × Int × Int)) : ∀ (i : Nat) (hi : i < L.length) (j : Nat), j < 3 → (L.flatMap legC)[i * 3 + j]? = (legC L[i])[j]? := by
  induction L with
  | nil => intro i hi; simp at hi
  | cons l r ih =>
    intro i hi j hj
    rw [List.flatMap_cons]
    cases i with
    | zero => rw [List.getElem?_append_left (by simp [legC]; omega)]; simp
    | succ i =>
      rw [List.getElem?_append_right (by simp [legC]; omega), show (i + 1) * 3 + j - (legC l).length = i * 3 + j by simp [legC]; omega]
      exact ih i (by simpa using hi) j hj
end Go.Proofs.YtmpmpoclkgofeaaGreatDoor
