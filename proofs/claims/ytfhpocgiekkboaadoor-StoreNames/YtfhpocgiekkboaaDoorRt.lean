/-
  Contracts: the Reader's At, Left, End, Int, Raw, Text; the Writer's Len, Raw.
-/
import Derived.Test.YtfhpocgiekkboaaDoorWe
namespace Go.Proofs.YtfhpocgiekkboaaDoor
open Go.Shelf Go.RowKit
set_option maxRecDepth 100000

theorem scan_val : ∀ (l : List Int) (s v v' s' : Nat), (∀ x ∈ l, 0 ≤ x ∧ x < 256) → s ≤ 10 → (s ≤ 9 → v < 128 ^ s) → scanN l s v = .ok v' s' → v' < 18446744073709551616 := by
  intro l
  induction l with
  | nil => intro s v v' s' _ _ _ h; unfold scanN at h; split at h <;> simp at h
  | cons x r ih =>
    intro s v v' s' hl hs hv h
    unfold scanN at h
    have hx := hl x (by simp)
    split at h
    · simp at h
    · rename_i h10
      have hv' := hv (by omega)
      split at h
      · split at h
        · simp at h
        · rename_i hx128 hb
          simp at h
          obtain ⟨rfl, _⟩ := h
          by_cases h8 : s ≤ 8
          · have hp := pow_le8 s h8
            have hm : x.toNat * 128 ^ s ≤ 127 * 128 ^ s := Nat.mul_le_mul_right _ (by omega)
            omega
          · have h9 : s = 9 := by omega
            subst h9
            have hx1 : x ≤ 1 := by
              by_cases hx1 : x ≤ 1
              · exact hx1
              · exact absurd (by simp [badLast]; omega) hb
            have hm : x.toNat * 128 ^ 9 ≤ 1 * 128 ^ 9 := Nat.mul_le_mul_right _ (by omega)
            omega
      · refine ih (s + 1) _ v' s' (fun y hy => hl y (by simp [hy])) (by omega) (fun h9 => ?_) h
        have hm : (x.toNat - 128) * 128 ^ s ≤ 127 * 128 ^ s := Nat.mul_le_mul_right _ (by omega)
        rw [Nat.pow_succ]; omega
end Go.Proofs.YtfhpocgiekkboaaDoor
