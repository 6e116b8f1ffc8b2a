/-
  FrameForm: what is told is what Make makes; the walk.
-/
import Derived.Test.YthnfpapaknejnabSp
namespace Go.Proofs.Ythnfpapaknejnab
open Go.RowKit
set_option maxRecDepth 100000

/-- Pieces that stand one behind the other, each what Make makes. -/
def Chain (K : List Int) : Nat → List Pc → Nat → Prop
  | p, [], z => p = z
  | p, (k, q, a, L) :: r, z => a = p + 24 ∧ a + L ≤ K.length ∧ (1 ≤ k ∧ k ≤ 9) ∧ q < 18446744073709551616 ∧ L ≤ 1048576 ∧ part K p (24 + L) = makeL k q (part K a L) ∧ Chain K (a + L) r z
theorem part_drop (K : List Int) (p i m : Nat) : part (K.drop p) i m = part K (p + i) m := by unfold part; rw [List.drop_drop]
theorem part_zero (K : List Int) (m : Nat) : part K 0 m = K.take m := by unfold part; rw [List.drop_zero]
theorem scan_chain (K : List Int) (hK : ByteL K) (f : Nat) : ∀ p, p ≤ K.length → K.length - p ≤ f →
    Chain K p (scanG f (K.drop p) p).1 (scanG f (K.drop p) p).2.1 ∧ (scanG f (K.drop p) p).2.1 ≤ K.length ∧ p + (scanG f (K.drop p) p).1.length * 24 ≤ (scanG f (K.drop p) p).2.1 ∧ ((scanG f (K.drop p) p).2.2 = 0 ↔ (scanG f (K.drop p) p).2.1 = K.length) ∧
    ∀ z, z = (scanG f (K.drop p) p).2.1 → scanG f ((K.take z).drop p) p = ((scanG f (K.drop p) p).1, z, 0) := by
  induction f with
  | zero =>
    intro p hp hf
    have e : K.drop p = [] := List.drop_of_length_le (by omega)
    rw [e, scanG_nil]
    refine ⟨rfl, hp, by simp, by simp; omega, ?_⟩
    intro z hz
    have hz2 : z = p := hz
    have e2 : (K.take z).drop p = [] := List.drop_of_length_le (by simp; omega)
    rw [e2, scanG_nil, hz2]
  | succ f ih =>
    intro p hp hf
    by_cases h0 : p = K.length
    · have e : K.drop p = [] := List.drop_of_length_le (by omega)
      rw [e, scanG_nil]
      refine ⟨rfl, hp, by simp, by simp; omega, ?_⟩
      intro z hz
      have hz2 : z = p := hz
      have e2 : (K.take z).drop p = [] := List.drop_of_length_le (by simp; omega)
      rw [e2, scanG_nil, hz2]
    · have hRl : 0 < (K.drop p).length := by simp; omega
      have hRb : ByteL (K.drop p) := hK.drop p
      cases hs : stepS (K.drop p) with
      | error e =>
        rw [scanG_err f p _ e hRl hs]
        have he : e ≠ 0 := by
          rcases stepS_err _ e hs with ⟨_, rfl⟩ | ⟨_, _, rfl⟩ | ⟨_, _, _, rfl⟩ | ⟨_, _, _, _, rfl⟩ <;> decide
        refine ⟨rfl, hp, by simp, ?_, ?_⟩
        · constructor
          · intro h; exact absurd h he
          · intro h; exact absurd h h0
        · intro z hz
          have hz2 : z = p := hz
          have e2 : (K.take z).drop p = [] := List.drop_of_length_le (by simp; omega)
          rw [e2, scanG_nil, hz2]
      | ok x =>
        obtain ⟨k, q, n⟩ := x
        obtain ⟨g1, g2, g3, g4, g5⟩ := stepS_ok _ k q n hRb hs
        rw [List.length_drop] at g1
        rw [scanG_ok f p _ k q n hRl hs, List.drop_drop, ← Nat.add_assoc]
        obtain ⟨i1, i2, i3, i4, i5⟩ := ih (p + 24 + n) (by omega) (by omega)
        have hpart : part K p (24 + n) = makeL k q (part K (p + 24) n) := by
          rw [part_drop] at g5
          exact g5
        refine ⟨⟨rfl, by omega, g2, g3, g4, hpart, i1⟩, i2, by simp; omega, i4, ?_⟩
        rintro z rfl
        have hz : p + 24 + n ≤ (scanG f (K.drop (p + 24 + n)) (p + 24 + n)).2.1 := by omega
        generalize hzz : (scanG f (K.drop (p + 24 + n)) (p + 24 + n)).2.1 = z at *
        have hsplit : (K.take z).drop p = makeL k q (part K (p + 24) n) ++ (K.take z).drop (p + 24 + n) := by
          rw [← hpart]
          have e1 : (K.take z).drop p = ((K.take z).drop p).take (24 + n) ++ ((K.take z).drop p).drop (24 + n) := (List.take_append_drop _ _).symm
          rw [List.drop_drop, ← Nat.add_assoc] at e1
          rw [e1]
          congr 1
          unfold part
          rw [List.drop_take, List.take_take]
          congr 1
          omega
        have hpl : (part K (p + 24) n).length = n := part_len (by omega)
        have hst := stepS_make k q (part K (p + 24) n) ((K.take z).drop (p + 24 + n)) g2 g3 (by omega)
        rw [← hsplit, hpl] at hst
        have hl2 : 0 < ((K.take z).drop p).length := by simp; omega
        rw [scanG_ok f p _ k q n hl2 hst, List.drop_drop, ← Nat.add_assoc, i5 z rfl]
end Go.Proofs.Ythnfpapaknejnab
