/-
  Mathematics: a text is UTF-8 just if the reference's runes fill it.
-/
import Derived.Test.YtdagoabapchniaaDoorZk
namespace Go.Proofs.YtdagoabapchniaaDoor
open Go.Shelf Go.RowKit
set_option maxRecDepth 100000

def intsT (l : List UInt8) : List Int := l.map fun b => (b.toNat : Int)
theorem strI_intsT (l : List UInt8) : strI (intsT l) = ⟨l.toArray⟩ := by
  unfold strI intsT
  rw [List.map_map]
  have : ((fun n : Int => UInt8.ofNat n.toNat) ∘ fun b : UInt8 => (b.toNat : Int)) = id := by
    funext b
    simp
  rw [this, List.map_id]
theorem intsT_byte (l : List UInt8) : ∀ x ∈ intsT l, 0 ≤ x ∧ x < 256 := by
  intro x hx
  obtain ⟨b, _, rfl⟩ := List.mem_map.1 hx
  have := b.toNat_lt
  omega
theorem valid_endT : ∀ (n : Nat) (l : List UInt8), l.length ≤ n → (Lib.validGoD n l = true ↔ endL (intsT l) = l.length) := by
  intro n
  induction n with
  | zero => intro l hl; have : l = [] := List.eq_nil_of_length_eq_zero (by omega); subst this; exact ⟨fun _ => rfl, fun _ => rfl⟩
  | succ n ih =>
    intro l hl
    by_cases h0 : l = []
    · subst h0; exact ⟨fun _ => rfl, fun _ => by simp [Lib.validGoD]⟩
    · have hpos : 0 < l.length := List.length_pos_iff.2 h0
      have hd : Lib.decodeGo (strI (intsT l)) = Lib.decodeL l := by
        rw [strI_intsT]
        unfold Lib.decodeGo Lib.decodeL
        rw [if_neg (by show ¬ l.toArray.size = 0; simp; exact h0)]
      obtain ⟨q1, q2⟩ := decode_rune (intsT l) (by simpa [intsT] using hpos) (intsT_byte l)
      rw [hd] at q1 q2
      rw [Lib.validGoD, if_neg h0]
      have hll : (intsT l).length = l.length := by simp [intsT]
      by_cases hr : runeL (intsT l) = 0
      · have e := q1 hr
        rw [if_pos ⟨by rw [e], by rw [e]⟩, endL_zero _ hr]
        simp; omega
      · obtain ⟨q3, q4⟩ := q2 (by omega)
        have hle := rune_le (intsT l)
        rw [hll] at hle
        rw [if_neg (fun h => by have := q4 h.1; rw [q3] at h; omega), q3, endL_step _ (by omega)]
        have e : (intsT l).drop (runeL (intsT l)) = intsT (l.drop (runeL (intsT l))) := by simp [intsT, List.map_drop]
        rw [e, ih (l.drop (runeL (intsT l))) (by simp; omega), List.length_drop]
        omega
theorem valid_iff (s : ByteArray) : Lib.validD s.data.toList = true ↔ endL (bytesI s) = s.size := by
  have := valid_endT _ s.data.toList (Nat.le_refl _)
  have e : (s.data.toList).length = s.size := by rw [Array.length_toList]; rfl
  rw [e] at this
  have e2 : Lib.validD s.data.toList = Lib.validGoD s.size s.data.toList := by unfold Lib.validD; rw [e]
  rw [e2]
  exact this
end Go.Proofs.YtdagoabapchniaaDoor
