/-
  Merged: UA, UC.
-/
import Derived.Test.YtbefeobikjnlpaaGreatDoorHGq
import Derived.Test.YtbefeobikjnlpaaGreatDoorYcq
import Derived.Test.YtbefeobikjnlpaaGreatDoorSOq
import Derived.Test.YtbefeobikjnlpaaGreatDoorMwq
namespace Go.Proofs.YtbefeobikjnlpaaGreatDoor
open Go Go.RowKit
set_option maxRecDepth 100000

/-- What is sorted so is one list. -/
theorem sort_one {fin : Nat → Nod} {L M : List Int} (hp : L.Perm M) (hinj : ∀ a ∈ L, ∀ b ∈ L, (fin a.toNat).id = (fin b.toNat).id → a = b) (hL : L.Pairwise (fun a b => ¬ ltK (fin b.toNat) (fin a.toNat))) (hM : M.Pairwise (fun a b => ¬ ltK (fin b.toNat) (fin a.toNat))) : L = M := by
  refine List.Perm.eq_of_pairwise (le := fun a b => ¬ ltK (fin b.toNat) (fin a.toNat)) ?_ hL hM hp
  intro a b ha hb h1 h2
  refine hinj a ha b (hp.mem_iff.2 hb) ?_
  unfold ltK at h1 h2
  omega
section
variable {Y : List Sp} {C C' : List Int} {dp dp' : Nat → Nat} {fin fin' : Nat → Nod} {X X' : List Spot} {K K' : Nat → List Int} {R R' : List Int}
end
end Go.Proofs.YtbefeobikjnlpaaGreatDoor

namespace Go.Proofs.YtbefeobikjnlpaaGreatDoor
open Go Go.RowKit
set_option maxRecDepth 100000

theorem infoQ : (Tryz.prog.info? 62).map (fun i => (i.zero, i.size, i.bytes)) = some (some (.agg zSpL.toArray), 13, 168) := by kernel_rfl
abbrev Sq := Sp × Pl
def sqL (x : Sq) : List Value := (spC x.1 x.2).toList
theorem sqL_len (x : Sq) : (sqL x).length = 13 := rfl
theorem sqL_one (x : Sq) : ∀ v ∈ sqL x, v.oneCell' = true := by
  intro v hv
  unfold sqL spC at hv
  simp only [List.mem_cons, List.not_mem_nil, or_false] at hv
  rcases hv with rfl | rfl | rfl | rfl | rfl | rfl | rfl | rfl | rfl | rfl | rfl | rfl | rfl
  all_goals rfl
theorem sqF_len (L : List Sq) : (L.flatMap sqL).length = L.length * 13 := by
  induction L with
  | nil => rfl
  | cons x L ih => rw [List.flatMap_cons, List.length_append, ih, sqL_len, List.length_cons]; omega
theorem sqF_get (L : List Sq) : ∀ (i : Nat) (hi : i < L.length) (j : Nat), j < 13 → (L.flatMap sqL)[i * 13 + j]? = (sqL L[i])[j]? := by
  induction L with
  | nil => intro i hi; simp at hi
  | cons x L ih =>
    intro i hi j hj
    rw [List.flatMap_cons]
    cases i with
    | zero => rw [Nat.zero_mul, Nat.zero_add, List.getElem?_append_left (by rw [sqL_len]; exact hj)]; rfl
    | succ i =>
      rw [List.getElem?_append_right (by rw [sqL_len]; omega), sqL_len, show (i + 1) * 13 + j - 13 = i * 13 + j by omega]
      exact ih i (by simpa using hi) j hj
/-- A row of spans, in a block of its own, maybe with room behind it. -/
def RowQ (w : World) (g : Nat) (L : List Sq) : Prop := ∃ rest, Blk w g (L.flatMap sqL ++ rest).toArray 62
theorem RowQ.upd {S : Nat → Prop} {w w' : World} {g : Nat} {L : List Sq} (h : RowQ w g L) (hu : Upd S w w') (hS : ¬ S g) : RowQ w' g L := by
  obtain ⟨rest, hB⟩ := h
  exact ⟨rest, hB.upd hu hS⟩
theorem RowQ.lt {w : World} {g : Nat} {L : List Sq} (h : RowQ w g L) : g < w.heap.size := by
  obtain ⟨rest, hB⟩ := h
  exact hB.lt
theorem RowQ.cell {w : World} {g : Nat} {L : List Sq} (h : RowQ w g L) (i : Nat) (hi : i < L.length) (j : Nat) {u : Value} (hu : (spC L[i].1 L[i].2)[j]? = some u) : w.cell? ⟨g, i * 13 + j, none⟩ = some u := by
  obtain ⟨rest, hB⟩ := h
  have hj : j < 13 := (Array.getElem?_eq_some_iff.mp hu).1
  refine hB.cell _ ?_
  rw [List.getElem?_toArray, List.getElem?_append_left (by rw [sqF_len]; omega), sqF_get L i hi j hj]
  unfold sqL
  rw [Array.getElem?_toList]
  exact hu
end Go.Proofs.YtbefeobikjnlpaaGreatDoor
