/-
  Plain mathematics: no number's bytes begin another's; lesser numbers have no more bytes; how many there are.
-/
import Derived.Test.YtpbpkhbmopjdjaaMath
namespace Go.Proofs.Ytpbpkhbmopjdjaa
open Go

theorem encN_head (b : Nat) : ∃ r, encN b = (if b < 128 then (b : Int) else ((b % 128 + 128 : Nat) : Int)) :: r := by
  by_cases h : b < 128
  · exact ⟨[], by rw [encN_lt h, if_pos h]⟩
  · exact ⟨encN (b / 128), by rw [encN_ge (by omega), if_neg h]⟩

theorem encN_prefix : ∀ (a b : Nat), (encN a).take (min (encN a).length (encN b).length) = (encN b).take (min (encN a).length (encN b).length) → a = b := by
  intro a
  induction a using Nat.strongRecOn with
  | _ a ih =>
    intro b h
    by_cases ha : a < 128
    · obtain ⟨r, hr⟩ := encN_head b
      rw [hr, encN_lt ha] at h
      simp at h
      split at h <;> omega
    · by_cases hb : b < 128
      · rw [encN_lt hb, encN_ge (v := a) (by omega)] at h
        simp at h
        omega
      · rw [encN_ge (v := a) (by omega), encN_ge (v := b) (by omega)] at h
        simp only [List.length_cons, Nat.succ_min_succ, List.take_succ_cons, List.cons.injEq] at h
        have := ih (a / 128) (by omega) (b / 128) h.2
        omega
theorem encN_mono : ∀ (a b : Nat), a ≤ b → (encN a).length ≤ (encN b).length := by
  intro a
  induction a using Nat.strongRecOn with
  | _ a ih =>
    intro b h
    by_cases ha : a < 128
    · rw [encN_lt ha]; have := encN_pos b; simp; omega
    · rw [encN_ge (v := a) (by omega), encN_ge (v := b) (by omega)]
      have := ih (a / 128) (by omega) (b / 128) (by omega)
      simp; omega
def cntN (v : Nat) : Nat := if v = 0 then 0 else (encN v).length
theorem cnt_zero : cntN 0 = 0 := rfl
theorem cnt_len (v : Nat) : (encN v).length = 1 + cntN (v / 128) := by
  unfold cntN
  by_cases h : v < 128
  · rw [encN_lt h, if_pos (by omega)]; rfl
  · rw [encN_ge (by omega), if_neg (by omega)]; simp; omega
theorem cnt_pos (v : Nat) (h : 0 < v) : cntN v = 1 + cntN (v / 128) := by
  rw [← cnt_len]; unfold cntN; rw [if_neg (by omega)]
end Go.Proofs.Ytpbpkhbmopjdjaa
