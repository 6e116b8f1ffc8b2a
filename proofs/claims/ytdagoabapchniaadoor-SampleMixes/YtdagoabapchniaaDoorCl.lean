/-
  Contracts: spoorref01.Rune, whole; spoorlaw01.clean.
-/
import Derived.Test.YtdagoabapchniaaDoorRn
namespace Go.Proofs.YtdagoabapchniaaDoor
open Go.RowKit
set_option maxRecDepth 100000

theorem rune_any (s : ByteArray) (i : Nat) (hs : s.size ≤ 140737488355328) (w : World) :
    Calls Tryd.prog 59 #[.string s, .int .i64 i] w fun e w' => e = .returned (.int .i64 (runeL ((bytesI s).drop i))) ∧ w' = w := by
  have e : runeL ((bytesI s).drop i) = runeOf (bt (bytesI s) i) (bt (bytesI s) (i + 1)) (bt (bytesI s) (i + 2)) (bt (bytesI s) (i + 3)) := by
    unfold runeL; rw [bt_drop, bt_drop, bt_drop, bt_drop]; rfl
  by_cases hi : i < s.size
  · have hx := bytesI_get s i hi
    have hlt : s[i].toNat < 256 := s[i].toNat_lt
    obtain ⟨x, hxx⟩ : ∃ x : Nat, s[i].toNat = x := ⟨_, rfl⟩
    rw [hx, hxx] at e
    rw [hxx] at hlt
    have fin : ∀ (lo hi : Int) (more : Nat), (more = 1 ∨ more = 2 ∨ more = 3) → loB x = lo → hiB x = hi → (more = 1 → 194 ≤ x ∧ x ≤ 223) → (more = 2 → 224 ≤ x ∧ x ≤ 239) → (more = 3 → 240 ≤ x ∧ x ≤ 244) →
        (if chkN s i lo hi more = true then ((more + 1 : Nat) : Int) else 0) = ((runeL ((bytesI s).drop i) : Nat) : Int) := by
      intro lo hi more hm hlo hhi m1 m2 m3
      have cast : ∀ (p : Prop) [Decidable p] (m : Nat), (((if p then m else 0 : Nat)) : Int) = if p then (m : Int) else 0 := by intro p _ m; split <;> rfl
      rw [e]
      rcases hm with rfl | rfl | rfl
      · have := m1 rfl
        have hl : lo = 128 := by rw [← hlo]; unfold loB; rw [if_neg (by omega), if_neg (by omega)]
        have hh : hi = 191 := by rw [← hhi]; unfold hiB; rw [if_neg (by omega), if_neg (by omega)]
        have r : ∀ b1 b2 b3 : Int, runeOf x b1 b2 b3 = if 128 ≤ b1 ∧ b1 ≤ 191 then 2 else 0 := by
          intro b1 b2 b3; unfold runeOf; rw [if_neg (by omega), if_neg (by omega), if_pos (by omega)]
        rw [r, cast]
        simp [chkN, betB, loK, hiK, hl, hh]
      · have := m2 rfl
        have r : ∀ b1 b2 b3 : Int, runeOf x b1 b2 b3 = if (lo ≤ b1 ∧ b1 ≤ hi) ∧ (128 ≤ b2 ∧ b2 ≤ 191) then 3 else 0 := by
          intro b1 b2 b3; unfold runeOf; rw [if_neg (by omega), if_neg (by omega), if_neg (by omega), if_pos (by omega), hlo, hhi]
        rw [r, cast]
        simp [chkN, betB, loK, hiK]
      · have := m3 rfl
        have r : ∀ b1 b2 b3 : Int, runeOf x b1 b2 b3 = if (lo ≤ b1 ∧ b1 ≤ hi) ∧ (128 ≤ b2 ∧ b2 ≤ 191) ∧ (128 ≤ b3 ∧ b3 ≤ 191) then 4 else 0 := by
          intro b1 b2 b3; unfold runeOf; rw [if_neg (by omega), if_neg (by omega), if_neg (by omega), if_neg (by omega), if_pos (by omega), hlo, hhi]
        rw [r, cast]
        simp [chkN, betB, loK, hiK, and_assoc]
    by_cases q0 : x < 128
    · have r : runeL ((bytesI s).drop i) = 1 := by rw [e]; unfold runeOf; rw [if_neg (by omega), if_pos (by omega)]
      rw [r]; exact rune_one s i hi (by rw [hxx]; omega) w
    by_cases q1 : x ≤ 193 ∨ 245 ≤ x
    · have r : runeL ((bytesI s).drop i) = 0 := by rw [e]; unfold runeOf; rw [if_neg (by omega), if_neg (by omega), if_neg (by omega), if_neg (by omega), if_neg (by omega)]
      rw [r]; exact rune_bad s i hi (by rw [hxx]; omega) w
    rcases (by omega : (194 ≤ x ∧ x ≤ 223) ∨ x = 224 ∨ (225 ≤ x ∧ x ≤ 236) ∨ x = 237 ∨ (238 ≤ x ∧ x ≤ 239) ∨ x = 240 ∨ (241 ≤ x ∧ x ≤ 243) ∨ x = 244) with h | h | h | h | h | h | h | h
    · rw [← fin 128 191 1 (by omega) (by unfold loB; rw [if_neg (by omega), if_neg (by omega)]) (by unfold hiB; rw [if_neg (by omega), if_neg (by omega)]) (by omega) (by omega) (by omega)]
      exact rune_c194 s i hs hi (by rw [hxx]; omega) (by rw [hxx]; omega) w
    · rw [← fin 160 191 2 (by omega) (by rw [h]; rfl) (by rw [h]; rfl) (by omega) (by omega) (by omega)]
      exact rune_c224 s i hs hi (by rw [hxx]; omega) (by rw [hxx]; omega) w
    · rw [← fin 128 191 2 (by omega) (by unfold loB; rw [if_neg (by omega), if_neg (by omega)]) (by unfold hiB; rw [if_neg (by omega), if_neg (by omega)]) (by omega) (by omega) (by omega)]
      exact rune_c225 s i hs hi (by rw [hxx]; omega) (by rw [hxx]; omega) w
    · rw [← fin 128 159 2 (by omega) (by rw [h]; rfl) (by rw [h]; rfl) (by omega) (by omega) (by omega)]
      exact rune_c237 s i hs hi (by rw [hxx]; omega) (by rw [hxx]; omega) w
    · rw [← fin 128 191 2 (by omega) (by unfold loB; rw [if_neg (by omega), if_neg (by omega)]) (by unfold hiB; rw [if_neg (by omega), if_neg (by omega)]) (by omega) (by omega) (by omega)]
      exact rune_c238 s i hs hi (by rw [hxx]; omega) (by rw [hxx]; omega) w
    · rw [← fin 144 191 3 (by omega) (by rw [h]; rfl) (by rw [h]; rfl) (by omega) (by omega) (by omega)]
      exact rune_c240 s i hs hi (by rw [hxx]; omega) (by rw [hxx]; omega) w
    · rw [← fin 128 191 3 (by omega) (by unfold loB; rw [if_neg (by omega), if_neg (by omega)]) (by unfold hiB; rw [if_neg (by omega), if_neg (by omega)]) (by omega) (by omega) (by omega)]
      exact rune_c241 s i hs hi (by rw [hxx]; omega) (by rw [hxx]; omega) w
    · rw [← fin 128 143 3 (by omega) (by rw [h]; rfl) (by rw [h]; rfl) (by omega) (by omega) (by omega)]
      exact rune_c244 s i hs hi (by rw [hxx]; omega) (by rw [hxx]; omega) w
  · have hx := bytesI_out s i (by omega)
    have r : runeL ((bytesI s).drop i) = 0 := by rw [e, hx]; rfl
    rw [r]; exact rune_out s i (by omega) w

end Go.Proofs.YtdagoabapchniaaDoor
