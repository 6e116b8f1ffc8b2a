/-
  Utf.
-/
import Derived.Lib.DecodeN
namespace Go.Proofs.YtnffedmcblbkoaaGreatDoor
open Go
def bt (l : List Int) (i : Nat) : Int := l.getD i (-1)
def loB (b : Int) : Int := if b = 224 then 160 else if b = 240 then 144 else 128
def hiB (b : Int) : Int := if b = 237 then 159 else if b = 244 then 143 else 191
def runeOf (b0 b1 b2 b3 : Int) : Nat :=
  if b0 < 0 then 0 else if b0 < 128 then 1
  else if 194 ≤ b0 ∧ b0 ≤ 223 then (if 128 ≤ b1 ∧ b1 ≤ 191 then 2 else 0)
  else if 224 ≤ b0 ∧ b0 ≤ 239 then (if (loB b0 ≤ b1 ∧ b1 ≤ hiB b0) ∧ (128 ≤ b2 ∧ b2 ≤ 191) then 3 else 0)
  else if 240 ≤ b0 ∧ b0 ≤ 244 then (if (loB b0 ≤ b1 ∧ b1 ≤ hiB b0) ∧ (128 ≤ b2 ∧ b2 ≤ 191) ∧ (128 ≤ b3 ∧ b3 ≤ 191) then 4 else 0)
  else 0
def runeL (l : List Int) : Nat := runeOf (bt l 0) (bt l 1) (bt l 2) (bt l 3)
theorem lo_ge (b : Int) : 128 ≤ loB b := by unfold loB; repeat' split
                                            all_goals omega
theorem bt_some {l : List Int} {i : Nat} (h : 0 ≤ bt l i) : i < l.length := by
  by_cases hl : i < l.length
  · exact hl
  · simp [bt, List.getD, List.getElem?_eq_none (Nat.le_of_not_lt hl)] at h
theorem rune_cases (b0 b1 b2 b3 : Int) : (runeOf b0 b1 b2 b3 = 0) ∨ (runeOf b0 b1 b2 b3 = 1 ∧ 0 ≤ b0) ∨ (runeOf b0 b1 b2 b3 = 2 ∧ 0 ≤ b0 ∧ 0 ≤ b1) ∨ (runeOf b0 b1 b2 b3 = 3 ∧ 0 ≤ b0 ∧ 0 ≤ b1 ∧ 0 ≤ b2) ∨ (runeOf b0 b1 b2 b3 = 4 ∧ 0 ≤ b0 ∧ 0 ≤ b1 ∧ 0 ≤ b2 ∧ 0 ≤ b3) := by
  have := lo_ge b0
  unfold runeOf
  repeat' split
  all_goals first | omega | simp
theorem rune_le (l : List Int) : runeL l ≤ l.length := by
  rcases rune_cases (bt l 0) (bt l 1) (bt l 2) (bt l 3) with h | ⟨h, h0⟩ | ⟨h, _, h1⟩ | ⟨h, _, _, h2⟩ | ⟨h, _, _, _, h3⟩
  all_goals unfold runeL; rw [h]
  · omega
  · have := bt_some h0; omega
  · have := bt_some h1; omega
  · have := bt_some h2; omega
  · have := bt_some h3; omega
def endG : Nat → List Int → Nat
  | 0, _ => 0
  | n + 1, l => if runeL l = 0 then 0 else runeL l + endG n (l.drop (runeL l))
def endL (l : List Int) : Nat := endG l.length l
theorem endG_enough : ∀ (n m : Nat) (l : List Int), l.length ≤ n → l.length ≤ m → endG n l = endG m l := by
  intro n
  induction n with
  | zero =>
    intro m l h _
    have h0 : runeL l = 0 := by have := rune_le l; omega
    cases m <;> simp [endG, h0]
  | succ n ih =>
    intro m l h hm
    by_cases h0 : runeL l = 0
    · cases m <;> simp [endG, h0]
    · have hle := rune_le l
      cases m with
      | zero => omega
      | succ m => rw [endG, endG, if_neg h0, if_neg h0, ih m _ (by simp; omega) (by simp; omega)]
theorem endL_zero (l : List Int) (h : runeL l = 0) : endL l = 0 := by
  unfold endL
  cases l.length <;> simp [endG, h]
theorem endL_step (l : List Int) (h : 0 < runeL l) : endL l = runeL l + endL (l.drop (runeL l)) := by
  have hle := rune_le l
  unfold endL
  obtain ⟨n, hn⟩ : ∃ n, l.length = n + 1 := ⟨l.length - 1, by omega⟩
  rw [hn, endG, if_neg (by omega), endG_enough n _ (l.drop (runeL l)) (by simp; omega) (Nat.le_refl _)]
theorem rune_nil : runeL [] = 0 := by decide
theorem endL_le : ∀ (n : Nat) (l : List Int), l.length ≤ n → endL l ≤ l.length := by
  intro n
  induction n with
  | zero => intro l h; have : l = [] := List.eq_nil_of_length_eq_zero (by omega); subst this; rw [endL_zero [] rune_nil]; omega
  | succ n ih =>
    intro l h
    by_cases h0 : runeL l = 0
    · rw [endL_zero l h0]; omega
    · rw [endL_step l (by omega)]
      have hle := rune_le l
      have := ih (l.drop (runeL l)) (by simp; omega)
      simp at this; omega
set_option maxHeartbeats 4000000 in
theorem rune3 (n b0 b1 b2 b3 lo hi : Nat) (c1 c2 c3 : Int) (hb : 224 ≤ b0 ∧ b0 ≤ 239) (hlo : loB b0 = lo) (hhi : hiB b0 = hi) (hl : 128 ≤ lo)
    (e1 : c1 = if 1 < n then (b1 : Int) else -1) (e2 : c2 = if 2 < n then (b2 : Int) else -1) :
    (runeOf b0 c1 c2 c3 = 0 → Lib.slowN n b0 b1 b2 b3 3 lo hi = (65533, 1)) ∧ (0 < runeOf b0 c1 c2 c3 → (Lib.slowN n b0 b1 b2 b3 3 lo hi).2 = runeOf b0 c1 c2 c3 ∧ ((Lib.slowN n b0 b1 b2 b3 3 lo hi).1 = 65533 → 1 < runeOf b0 c1 c2 c3)) := by
  unfold Lib.slowN runeOf
  rw [hlo, hhi, if_neg (by omega), if_neg (by omega), if_neg (by omega), if_pos (by omega)]
  subst e1 e2
  repeat' split
  all_goals first | (exfalso; omega) | (simp; done) | (simp; omega)
set_option maxHeartbeats 4000000 in
theorem rune4 (n b0 b1 b2 b3 lo hi : Nat) (c1 c2 c3 : Int) (hb : 240 ≤ b0 ∧ b0 ≤ 244) (hlo : loB b0 = lo) (hhi : hiB b0 = hi) (hl : 128 ≤ lo)
    (e1 : c1 = if 1 < n then (b1 : Int) else -1) (e2 : c2 = if 2 < n then (b2 : Int) else -1) (e3 : c3 = if 3 < n then (b3 : Int) else -1) :
    (runeOf b0 c1 c2 c3 = 0 → Lib.slowN n b0 b1 b2 b3 4 lo hi = (65533, 1)) ∧ (0 < runeOf b0 c1 c2 c3 → (Lib.slowN n b0 b1 b2 b3 4 lo hi).2 = runeOf b0 c1 c2 c3 ∧ ((Lib.slowN n b0 b1 b2 b3 4 lo hi).1 = 65533 → 1 < runeOf b0 c1 c2 c3)) := by
  unfold Lib.slowN runeOf
  rw [hlo, hhi, if_neg (by omega), if_neg (by omega), if_neg (by omega), if_neg (by omega), if_pos (by omega)]
  subst e1 e2 e3
  repeat' split
  all_goals first | (exfalso; omega) | (simp; done) | (simp; omega)
set_option maxHeartbeats 4000000 in
theorem dec_rune (n b0 b1 b2 b3 : Nat) (hn : 1 ≤ n) (h0 : b0 < 256) (h1 : b1 < 256) (h2 : b2 < 256) (h3 : b3 < 256) (c1 c2 c3 : Int)
    (e1 : c1 = if 1 < n then (b1 : Int) else -1) (e2 : c2 = if 2 < n then (b2 : Int) else -1) (e3 : c3 = if 3 < n then (b3 : Int) else -1) :
    (runeOf b0 c1 c2 c3 = 0 → Lib.decodeN n b0 b1 b2 b3 = (65533, 1)) ∧ (0 < runeOf b0 c1 c2 c3 → (Lib.decodeN n b0 b1 b2 b3).2 = runeOf b0 c1 c2 c3 ∧ ((Lib.decodeN n b0 b1 b2 b3).1 = 65533 → 1 < runeOf b0 c1 c2 c3)) := by
  by_cases q0 : b0 < 128
  · have r : runeOf b0 c1 c2 c3 = 1 := by unfold runeOf; rw [if_neg (by omega), if_pos (by omega)]
    have d : Lib.decodeN n b0 b1 b2 b3 = (b0, 1) := by unfold Lib.decodeN; rw [if_pos q0]
    rw [r, d]; simp; omega
  by_cases q1 : b0 < 194
  · have r : runeOf b0 c1 c2 c3 = 0 := by unfold runeOf; rw [if_neg (by omega), if_neg (by omega), if_neg (by omega), if_neg (by omega), if_neg (by omega)]
    have d : Lib.decodeN n b0 b1 b2 b3 = (65533, 1) := by
      unfold Lib.decodeN
      repeat' split
      all_goals first | rfl | (exfalso; omega)
    rw [r, d]; simp
  by_cases q2 : b0 < 224
  · rw [← Lib.slow_C2 n b0 b1 b2 b3 hn h1 h2 h3 (by omega)]
    unfold Lib.slowN runeOf
    subst e1
    repeat' split
    all_goals first | (exfalso; omega) | (simp; done) | (simp; omega)
  by_cases q3 : b0 < 240
  · by_cases r1 : b0 = 224
    · rw [← Lib.slow_E0 n b0 b1 b2 b3 hn h1 h2 h3 r1]
      exact rune3 n b0 b1 b2 b3 160 191 c1 c2 c3 (by omega) (by subst r1; rfl) (by subst r1; rfl) (by omega) e1 e2
    by_cases r2 : b0 = 237
    · rw [← Lib.slow_ED n b0 b1 b2 b3 hn h1 h2 h3 r2]
      exact rune3 n b0 b1 b2 b3 128 159 c1 c2 c3 (by omega) (by subst r2; rfl) (by subst r2; rfl) (by omega) e1 e2
    · rw [← Lib.slow_E1 n b0 b1 b2 b3 hn h1 h2 h3 (by omega)]
      exact rune3 n b0 b1 b2 b3 128 191 c1 c2 c3 (by omega) (by unfold loB; rw [if_neg (by omega), if_neg (by omega)]; rfl) (by unfold hiB; rw [if_neg (by omega), if_neg (by omega)]; rfl) (by omega) e1 e2
  by_cases q4 : b0 ≤ 244
  · by_cases r1 : b0 = 240
    · rw [← Lib.slow_F0 n b0 b1 b2 b3 hn h1 h2 h3 r1]
      exact rune4 n b0 b1 b2 b3 144 191 c1 c2 c3 (by omega) (by subst r1; rfl) (by subst r1; rfl) (by omega) e1 e2 e3
    by_cases r2 : b0 = 244
    · rw [← Lib.slow_F4 n b0 b1 b2 b3 hn h1 h2 h3 r2]
      exact rune4 n b0 b1 b2 b3 128 143 c1 c2 c3 (by omega) (by subst r2; rfl) (by subst r2; rfl) (by omega) e1 e2 e3
    · rw [← Lib.slow_F1 n b0 b1 b2 b3 hn h1 h2 h3 (by omega)]
      exact rune4 n b0 b1 b2 b3 128 191 c1 c2 c3 (by omega) (by unfold loB; rw [if_neg (by omega), if_neg (by omega)]; rfl) (by unfold hiB; rw [if_neg (by omega), if_neg (by omega)]; rfl) (by omega) e1 e2 e3
  · have r : runeOf b0 c1 c2 c3 = 0 := by unfold runeOf; rw [if_neg (by omega), if_neg (by omega), if_neg (by omega), if_neg (by omega), if_neg (by omega)]
    have d : Lib.decodeN n b0 b1 b2 b3 = (65533, 1) := by
      unfold Lib.decodeN
      repeat' split
      all_goals first | rfl | (exfalso; omega)
    rw [r, d]; simp
end Go.Proofs.YtnffedmcblbkoaaGreatDoor
