/-
  Plain mathematics: what Scan tells of frames in one of which bits are turned.
-/
import Derived.Test.YthnfpapaknejnabTu
namespace Go.Proofs.Ythnfpapaknejnab
open Go

/-- Why Scan must end: the law's own reckoning. -/
def whyN (f run : Nat) : Nat → Int
  | 0 => 0
  | j + 1 => if run.testBit j then (if f + j < 192 then 24 else if whyN f run j = 0 then 25 else whyN f run j) else whyN f run j
theorem whyN_cases (f run j : Nat) : (whyN f run j = 0 ∧ ∀ i, i < j → run.testBit i = false) ∨ (whyN f run j = 24 ∧ ∃ i, i < j ∧ run.testBit i = true ∧ f + i < 192) ∨ (whyN f run j = 25 ∧ (∃ i, i < j ∧ run.testBit i = true) ∧ ∀ i, i < j → run.testBit i = true → 192 ≤ f + i) := by
  induction j with
  | zero => left; exact ⟨rfl, fun i hi => by omega⟩
  | succ j ih =>
    simp only [whyN]
    by_cases hb : run.testBit j = true
    · rw [if_pos hb]
      by_cases h192 : f + j < 192
      · rw [if_pos h192]
        right; left
        exact ⟨rfl, j, by omega, hb, h192⟩
      · rw [if_neg h192]
        rcases ih with ⟨h1, h2⟩ | ⟨h1, i, h2, h3, h4⟩ | ⟨h1, h2, h3⟩
        · rw [if_pos h1]
          right; right
          refine ⟨rfl, ⟨j, by omega, hb⟩, fun i hi hi2 => ?_⟩
          by_cases e : i = j
          · subst e; omega
          · rw [h2 i (by omega)] at hi2; cases hi2
        · rw [if_neg (by rw [h1]; decide)]
          right; left
          exact ⟨h1, i, by omega, h3, h4⟩
        · rw [if_neg (by rw [h1]; decide)]
          right; right
          refine ⟨h1, ⟨j, by omega, hb⟩, fun i hi hi2 => ?_⟩
          by_cases e : i = j
          · subst e; omega
          · exact h3 i (by omega) hi2
    · rw [if_neg hb]
      have hbf : run.testBit j = false := by simpa using hb
      rcases ih with ⟨h1, h2⟩ | ⟨h1, i, h2, h3, h4⟩ | ⟨h1, ⟨i, h2, h4⟩, h3⟩
      · left
        refine ⟨h1, fun i hi => ?_⟩
        by_cases e : i = j
        · subst e; exact hbf
        · exact h2 i (by omega)
      · right; left; exact ⟨h1, i, by omega, h3, h4⟩
      · right; right
        refine ⟨h1, ⟨i, by omega, h4⟩, fun i hi hi2 => ?_⟩
        by_cases e : i = j
        · subst e; rw [hbf] at hi2; cases hi2
        · exact h3 i (by omega) hi2
theorem stepS_bad (R : List Int) (hl : 24 ≤ R.length) (h : ¬ RightH R) : stepS R = .error 24 := by
  unfold stepS
  rw [if_neg (by omega), if_neg (fun e => h ((rightB_iff R).1 e))]

theorem step_turned (k : Int) (q : Nat) (P C T : List Int) (hk : 1 ≤ k ∧ k ≤ 9) (hP : P.length ≤ 1048576) (hPb : ByteL P) (hCb : ByteL C) (hTb : ByteL T) (f run m : Nat) (hm : m ≤ 32) (hfm : f + m ≤ 8 * (24 + P.length))
    (hTl : T.length = (makeL k q P ++ C).length) (hT : ∀ i, i < 8 * T.length → bitI T i = (bitI (makeL k q P ++ C) i ^^ inB f run m i)) (hw : whyN f run m ≠ 0) : stepS T = .error (whyN f run m) := by
  have hml := makeL_len k q P
  have hGl : (makeL k q P ++ C).length = 24 + P.length + C.length := by rw [List.length_append, hml]
  have e : makeL k q P ++ C = headL k q P.length (moreB 0#32 P).toNat ++ (P ++ C) := by unfold makeL; rw [List.append_assoc]
  have hR : RightH (makeL k q P ++ C) := by rw [e]; exact right_head k q P.length _ (P ++ C) hk hP
  have hGb : ByteL (makeL k q P ++ C) := (makeL_bytes k q P (by omega) hPb).append hCb
  have hout : ∀ i, (i < f ∨ f + 32 ≤ i) → inB f run m i = false := by
    intro i hi
    unfold inB
    by_cases h1 : f ≤ i
    · simp [show ¬ i < f + m by omega]
    · simp [h1]
  have hin : ∀ i, i < m → run.testBit i = true → inB f run m (f + i) = true := by
    intro i hi hb
    unfold inB
    simp [hi, hb]
  rcases whyN_cases f run m with ⟨h1, _⟩ | ⟨h1, i, h2, h3, h4⟩ | ⟨h1, ⟨i, h2, h4⟩, h3⟩
  · exact absurd h1 hw
  · rw [h1]
    refine stepS_bad T (by omega) (head_turned T _ hTb hGb (by omega) (by omega) hR (inB f run m) (fun j hj => hT j (by omega)) f (f + i) (by omega) (fun j _ hj => hout j hj) h4 (hin i h2 h3))
  · rw [h1]
    have h5 := h3 i h2 h4
    have hno : ∀ j, j < 192 → inB f run m j = false := by
      intro j hj
      by_cases hb : inB f run m j = true
      · unfold inB at hb
        simp at hb
        obtain ⟨⟨b1, b2⟩, b3⟩ := hb
        have := h3 (j - f) (by omega) b3
        omega
      · simpa using hb
    have ht24 : T.take 24 = headL k q P.length (moreB 0#32 P).toNat := by
      have hG24 : (makeL k q P ++ C).take 24 = headL k q P.length (moreB 0#32 P).toNat := by
        rw [e, List.take_append, headL_len, List.take_of_length_le (by rw [headL_len]; omega)]; simp
      rw [← hG24]
      apply bits_ext _ _ (hTb.take 24) (hGb.take 24) (by simp; omega)
      intro j hj
      have hj2 : j < 192 := by simp at hj; omega
      rw [bitI_take _ _ _ (by omega), bitI_take _ _ _ (by omega), hT j (by omega), hno j hj2]
      simp
    have hTs : T = headL k q P.length (moreB 0#32 P).toNat ++ T.drop 24 := by rw [← ht24, List.take_append_drop]
    obtain ⟨g1, g2, g3, g4, g5, g6, g7⟩ := head_parts k q P.length (moreB 0#32 P).toNat (T.drop 24)
    have hRT := (rightB_iff _).2 (right_head k q P.length (moreB 0#32 P).toNat (T.drop 24) hk hP)
    rw [← hTs] at g4 g5 hRT
    have hpn : numI (part T 12 4) = P.length := by rw [g4, numI_big 4 _ (by omega)]
    have hps : sumI (part T 16 4) = (moreB 0#32 P).toNat := by rw [g5, sumI_le _ (moreB 0#32 P).isLt]
    have hpl : (part T 24 P.length).length = P.length := part_len (by omega)
    have hne : moreB 0#32 (part T 24 P.length) ≠ moreB 0#32 P := by
      refine more_turned _ P (hTb.part _ _) hPb hpl (fun j => inB f run m (192 + j)) (fun j hj => ?_) (f - 192) (f + i - 192) (by omega) (fun j hj hjo => hout _ (by omega)) (by omega) ?_
      · rw [bitI_part _ _ _ _ hj, show 8 * 24 + j = 192 + j by omega, hT _ (by omega)]
        congr 1
        have hh := bitI_append_right (headL k q P.length (moreB 0#32 P).toNat) (P ++ C) j
        rw [headL_len, show 8 * 24 + j = 192 + j by omega, ← e] at hh
        rw [hh, bitI_append_left _ _ _ hj]
      · show inB f run m (192 + (f + i - 192)) = true
        rw [show 192 + (f + i - 192) = f + i by omega]
        exact hin i h2 h4
    unfold stepS
    rw [if_neg (by omega), hRT, if_pos rfl, hpn, if_neg (by omega), hps, if_neg ?_]
    intro h
    exact hne (BitVec.eq_of_toNat_eq h)

theorem scan_turned (fs : List Fr) (hok : ∀ f ∈ fs, okF f) (i : Nat) (hi : i < fs.length) (f run m : Nat) (hm : m ≤ 32) (hfm : f + m ≤ 8 * (24 + fs[i].2.2.length)) :
    scanL (turnL (catL fs) (8 * endAt fs i + f) run m) = if whyN f run m = 0 then (pcsL 0 fs, (catL fs).length, 0) else ((pcsL 0 fs).take i, endAt fs i, whyN f run m) := by
  have hend := endAt_succ fs i hi
  have hle := endAt_le fs (i + 1)
  have hcb := catL_bytes fs hok
  by_cases hw : whyN f run m = 0
  · rw [if_pos hw]
    rcases whyN_cases f run m with ⟨_, h2⟩ | ⟨h1, _⟩ | ⟨h1, _⟩
    · rw [turnL_none _ _ _ _ h2]
      have := scan_cat fs [] 0 (catL fs).length 0 hok (by simp) (by simp)
      rw [List.append_nil, scanG_nil] at this
      unfold scanL
      rw [this]
      simp
    · rw [h1] at hw; cases hw
    · rw [h1] at hw; cases hw
  · rw [if_neg hw]
    obtain ⟨T, hT⟩ : ∃ T, turnL (catL fs) (8 * endAt fs i + f) run m = T := ⟨_, rfl⟩
    rw [hT]
    have hTb : ByteL T := by rw [← hT]; exact turnL_bytes _ hcb _ _ _
    have hTl : T.length = (catL fs).length := by rw [← hT, turnL_len]
    have hTbit : ∀ j, bitI T j = (bitI (catL fs) j ^^ inB (8 * endAt fs i + f) run m j) := by
      intro j; rw [← hT]; exact turnL_bit _ _ _ _ (by omega) j
    have hsplit : catL fs = catL (fs.take i) ++ catL (fs.drop i) := by rw [← catL_append, List.take_append_drop]
    have hAl : (catL (fs.take i)).length = endAt fs i := rfl
    have hTA : T.take (endAt fs i) = catL (fs.take i) := by
      have hh : (catL fs).take (endAt fs i) = catL (fs.take i) := by rw [hsplit, ← hAl, List.take_left]
      rw [← hh]
      apply bits_ext _ _ (hTb.take _) (hcb.take _) (by simp [hTl])
      intro j hj
      have hj2 : j < 8 * endAt fs i := by simp at hj; omega
      rw [bitI_take _ _ _ hj2, bitI_take _ _ _ hj2, hTbit]
      have : inB (8 * endAt fs i + f) run m j = false := by unfold inB; simp [show ¬ 8 * endAt fs i + f ≤ j by omega]
      rw [this]; simp
    have hTs : T = catL (fs.take i) ++ T.drop (endAt fs i) := by rw [← hTA, List.take_append_drop]
    obtain ⟨g1, g2, g3, g4⟩ := hok fs[i] (List.getElem_mem hi)
    have hd : catL (fs.drop i) = makeL fs[i].1 fs[i].2.1 fs[i].2.2 ++ catL (fs.drop (i + 1)) := by rw [List.drop_eq_getElem_cons hi, catL_cons]
    have hdl : (T.drop (endAt fs i)).length = (catL (fs.drop i)).length := by
      rw [List.length_drop, hTl, hsplit, List.length_append, hAl]; omega
    have hst := step_turned fs[i].1 fs[i].2.1 fs[i].2.2 (catL (fs.drop (i + 1))) (T.drop (endAt fs i)) g1 g3 g4 (catL_bytes _ (fun x hx => hok x (List.mem_of_mem_drop hx))) (hTb.drop _) f run m hm hfm (by rw [hdl, hd]) (fun j hj => by
      rw [bitI_drop, hTbit, ← hd]
      have h1 : bitI (catL fs) (8 * endAt fs i + j) = bitI (catL (fs.drop i)) j := by
        conv => lhs; rw [hsplit]
        rw [← hAl, bitI_append_right]
      have h2 : inB (8 * endAt fs i + f) run m (8 * endAt fs i + j) = inB f run m j := by
        unfold inB
        rw [show 8 * endAt fs i + j - (8 * endAt fs i + f) = j - f by omega]
        simp [show (8 * endAt fs i + j < 8 * endAt fs i + f + m) ↔ j < f + m by omega]
      rw [h1, h2]) hw
    have hpos : 0 < (T.drop (endAt fs i)).length := by rw [hdl, hd, List.length_append, makeL_len]; omega
    obtain ⟨g, hg⟩ : ∃ g, (T.drop (endAt fs i)).length = g + 1 := ⟨(T.drop (endAt fs i)).length - 1, by omega⟩
    unfold scanL
    conv => lhs; rw [hTs]
    rw [scan_cat (fs.take i) _ 0 _ (g + 1) (fun x hx => hok x (List.mem_of_mem_take hx)) (Nat.le_refl _) (by omega), Nat.zero_add, scanG_err g _ _ _ hpos hst, pcsL_take]
    simp [hAl]
end Go.Proofs.Ythnfpapaknejnab
