/-
  Merged: VR, TJ.
-/
import Derived.Test.YtobjjdggjgnfcaaGreatDoorMwq
import Derived.Test.YtobjjdggjgnfcaaGreatDoorZmq
import Derived.Laws.StructEq
import Derived.Test.YtobjjdggjgnfcaaGreatDoorYcq
namespace Go.Proofs.YtobjjdggjgnfcaaGreatDoor
open Go Go.RowKit Go.Lib
set_option maxRecDepth 100000

theorem refEmpty_any (f t : Int) (w : World) :
    Calls Tryz.prog 92 #[.agg #[.int .i64 f, .int .i64 t]] w fun e w' => e = .returned (.bool (decide (t ≤ f))) ∧ w' = w.alloc (.cells #[.int .i64 f, .int .i64 t] 46) := by
  go_enter Tryz.func92, Tryz.ntmps92
  go_wp2
  go_ret
  exact ⟨rfl, rfl⟩
end Go.Proofs.YtobjjdggjgnfcaaGreatDoor

namespace Go.Proofs.YtobjjdggjgnfcaaGreatDoor
open Go Go.RowKit
set_option maxRecDepth 100000

section
variable {α : Type} {f : α → List Value} {s : Nat}
theorem flatG_len (hf : ∀ x, (f x).length = s) : ∀ L : List α, (L.flatMap f).length = L.length * s
  | [] => by simp
  | a :: r => by rw [List.flatMap_cons, List.length_append, hf, flatG_len hf r, List.length_cons, Nat.succ_mul]; omega
theorem flatG_get (hf : ∀ x, (f x).length = s) : ∀ (L : List α) (i : Nat) (hi : i < L.length) (j : Nat), j < s → (L.flatMap f)[i * s + j]? = (f L[i])[j]?
  | [], i, hi, _, _ => by simp at hi
  | a :: r, 0, _, j, hj => by
    rw [List.flatMap_cons, Nat.zero_mul, Nat.zero_add, List.getElem?_append_left (by rw [hf]; exact hj)]; rfl
  | a :: r, i + 1, hi, j, hj => by
    rw [List.flatMap_cons, List.getElem?_append_right (by rw [hf, Nat.succ_mul]; omega), hf, show (i + 1) * s + j - s = i * s + j by rw [Nat.succ_mul]; omega]
    exact flatG_get hf r i (by simpa using hi) j hj
theorem mulG {i n s : Nat} (hi : i < n) : i * s + s ≤ n * s := by
  have := Nat.mul_le_mul_right s (show i + 1 ≤ n from hi)
  rw [Nat.succ_mul] at this
  exact this
structure RwG (f : α → List Value) (s : Nat) (T : TypeId) (w : World) (g cap : Nat) (L : List α) : Prop where
  nc : L.length ≤ cap
  cm : cap ≤ maxLen
  blk : ∃ rest, Blk w g (L.flatMap f ++ rest).toArray T ∧ L.length * s + rest.length = cap * s
variable {T : TypeId} {w : World} {g cap : Nat} {L : List α}
theorem RwG.of_owns {base : Nat} {v : Value} {n : Nat} (h : w.ownsRow base T s v n (L.flatMap f)) (hn : L.length = n) (hp : 0 < n) : ∃ g cap, v = .slice (some ⟨g, 0, none⟩) n cap ∧ base ≤ g ∧ RwG f s T w g cap L := by
  rcases h.2 with ⟨_, h0⟩ | ⟨g, cap, cur, rfl, hb, hh, hnc, hcm, hcs, ht⟩
  · omega
  · refine ⟨g, cap, rfl, hb, by omega, hcm, cur.toList.drop (n * s), ?_, ?_⟩
    · show w.heap[g]? = _
      rw [hh, ← ht, List.take_append_drop]
    · rw [List.length_drop, hn]
      have h1 : cur.toList.length = cap * s := by simpa using hcs
      have h2 := Nat.mul_le_mul_right s hnc
      omega
theorem RwG.lt (h : RwG f s T w g cap L) : g < w.heap.size := by
  obtain ⟨rest, hB, _⟩ := h.blk
  exact hB.lt
theorem RwG.cell (h : RwG f s T w g cap L) (hf : ∀ x, (f x).length = s) (i : Nat) (hi : i < L.length) (j : Nat) {u : Value} (hu : (f L[i])[j]? = some u) : w.cell? ⟨g, i * s + j, none⟩ = some u := by
  obtain ⟨rest, hB, _⟩ := h.blk
  have hj : j < s := by have := (List.getElem?_eq_some_iff.mp hu).1; rw [hf] at this; exact this
  have hm := mulG (s := s) hi
  refine hB.cell _ ?_
  rw [List.getElem?_toArray, List.getElem?_append_left (by rw [flatG_len hf]; omega), flatG_get hf L i hi j hj]
  exact hu
theorem RwG.free (h : RwG f s T w g cap L) (k : Nat) : w.frozen? ⟨g, k, none⟩ = false := by
  obtain ⟨rest, hB, _⟩ := h.blk
  exact hB.frozen k
end
end Go.Proofs.YtobjjdggjgnfcaaGreatDoor
