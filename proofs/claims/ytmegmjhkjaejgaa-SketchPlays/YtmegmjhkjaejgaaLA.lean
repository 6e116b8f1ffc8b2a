/-
  Layer 13 (sketch): one answer of the program and of the document, whatever is asked.
-/
import Derived.Test.YtmegmjhkjaejgaaSkP
import Derived.Test.YtmegmjhkjaejgaaSkS
import Derived.Test.YtmegmjhkjaejgaaSlO
namespace Go.Proofs.Ytmegmjhkjaejgaa.sk
open Go Go.RowKit
set_option maxRecDepth 100000

theorem below_drewQ {w w' : World} (h : ∃ n, w' = w.drewN n) : Below w.heap.size w w' := by
  obtain ⟨n, rfl⟩ := h
  exact below_drewN (Below.refl _ _) (Nat.le_refl _) n
/-- A sketch and an error. -/
def MadeU (L : List (Int × Int)) (err : Int) (w : World) (e : Ending) (w' : World) : Prop := ∃ ao n c, e = .returned (.tuple #[.slice ao n c, .int .i64 err]) ∧ Hid (OwnBar w.heap.size w' (.slice ao n c) L) ∧ Below w.heap.size w w'
theorem MadeP.some_uni {f : Nat → Nat} {err : Int} {w w' : World} {e : Ending} (h : MadeP (some f) err w e w') : MadeU (barsF f) 0 w e w' := by
  obtain ⟨hb, v, rfl, ho⟩ := h
  obtain ⟨ao, n, c, rfl⟩ := row_shape ho
  exact ⟨ao, n, c, rfl, ho, hb⟩
theorem MadeP.none_uni {err : Int} {w w' : World} {e : Ending} (h : MadeP none err w e w') : MadeU [] err w e w' := by
  obtain ⟨hb, rfl⟩ := h
  exact ⟨none, 0, 0, rfl, World.ownsRow_nil w' _ _ _, hb⟩
theorem span_uni (i : Int) : ∃ x y e : Int, (∀ W, Calls Try.prog 14 #[.int .i64 i] W fun r w' => r = .returned (.tuple #[.int .u64 x, .int .u64 y, .int .i64 e]) ∧ Below W.heap.size W w') ∧ (∀ W, Calls Try.prog 15 #[.int .i64 i] W fun r w' => r = .returned (.tuple #[.int .u64 x, .int .u64 y, .int .i64 e]) ∧ Below W.heap.size W w') := by
  by_cases h : i < 0 ∨ 1920 ≤ i
  · refine ⟨0, 0, 1, fun W => (span_no i W h).mono fun r w' ⟨h1, h2⟩ => ⟨h1, ?_⟩, fun W => (refSpan_no i W h).mono fun r w' ⟨h1, h2⟩ => ⟨h1, ?_⟩⟩
    · rw [h2]; exact Below.refl _ _
    · rw [h2]; exact Below.refl _ _
  · obtain ⟨k, rfl⟩ : ∃ k : Nat, i = (k : Int) := ⟨i.toNat, by omega⟩
    have hk : k < 1920 := by omega
    exact ⟨_, _, 0, fun W => (skSpan k W hk).mono fun r w' ⟨h1, h2⟩ => ⟨h1, below_drewQ h2⟩, fun W => (refSpan_any k W hk).mono fun r w' ⟨h1, h2⟩ => ⟨h1, below_drewQ h2⟩⟩
theorem index_uni (v : Nat) (hv : v < 18446744073709551616) : ∃ x : Int, (∀ W, Calls Try.prog 13 #[.int .u64 (v : Int)] W fun r w' => r = .returned (.int .i64 x) ∧ w' = W) ∧ (∀ W, Calls Try.prog 16 #[.int .u64 (v : Int)] W fun r w' => r = .returned (.int .i64 x) ∧ w' = W) :=
  ⟨_, fun W => skIndex v hv W, fun W => refIndex v hv W⟩
theorem add_uni (l : List (Int × Int)) (hbl : Bin l) (v t : Nat) (hv : v < 18446744073709551616) (ht : t < 18446744073709551616) : ∃ (L : List (Int × Int)) (err : Int), (L.length ≤ 1920 ∧ Bin L) ∧ (∀ W (ad : Option Addr) (n c : Nat), InAt W ad n l → Calls Try.prog 10 #[.slice ad n c, .int .u64 (v : Int), .int .u64 (t : Int)] W (MadeU L err W)) ∧ (∀ W (ad : Option Addr) (n c : Nat), InAt W ad n l → Calls Try.prog 19 #[.slice ad n c, .int .u64 (v : Int), .int .u64 (t : Int)] W (MadeU L err W)) := by
  cases hc : chkF (-1) l with
  | false =>
    have e : addR l v t = none := by unfold addR; rw [hc]; rfl
    refine ⟨[], 131, ⟨Nat.zero_le _, fun b hb => by cases hb⟩, fun W ad n c hA => ?_, fun W ad n c hA => ?_⟩
    · have h := add_any ad n c l v t hv ht W hA
      rw [e] at h
      exact h.mono fun _ _ h => MadeP.none_uni h
    · have h := refAdd_any ad n c l v t hv ht W hA
      rw [e] at h
      exact h.mono fun _ _ h => MadeP.none_uni h
  | true =>
    have e : addR l v t = some (addF l v t) := by unfold addR; rw [hc]; rfl
    refine ⟨barsF (addF l v t), 0, ⟨barsF_len _, Bin.bars (addF_le hbl v t)⟩, fun W ad n c hA => ?_, fun W ad n c hA => ?_⟩
    · have h := add_any ad n c l v t hv ht W hA
      rw [e] at h
      exact h.mono fun _ _ h => MadeP.some_uni h
    · have h := refAdd_any ad n c l v t hv ht W hA
      rw [e] at h
      exact h.mono fun _ _ h => MadeP.some_uni h
theorem merge_uni (a b : List (Int × Int)) : ∃ (L : List (Int × Int)) (err : Int), (L.length ≤ 1920 ∧ Bin L) ∧ (∀ W (ad bd : Option Addr) (n m c d : Nat), InAt W ad n a → InAt W bd m b → Calls Try.prog 21 #[.slice ad n c, .slice bd m d] W (MadeU L err W)) ∧ (∀ W (ad bd : Option Addr) (n m c d : Nat), InAt W ad n a → InAt W bd m b → Calls Try.prog 22 #[.slice ad n c, .slice bd m d] W (MadeU L err W)) := by
  cases hc : chkF (-1) a && chkF (-1) b with
  | false =>
    have e : mergeR a b = none := by unfold mergeR; rw [hc]; rfl
    refine ⟨[], 131, ⟨Nat.zero_le _, fun b hb => by cases hb⟩, fun W ad bd n m c d hA hB => ?_, fun W ad bd n m c d hA hB => ?_⟩
    · have h := merge_any ad bd n m c d a b W hA hB
      rw [e] at h
      exact h.mono fun _ _ h => MadeP.none_uni h
    · have h := refMerge_any ad bd n m c d a b W hA hB
      rw [e] at h
      exact h.mono fun _ _ h => MadeP.none_uni h
  | true =>
    have e : mergeR a b = some (mergeF a b) := by unfold mergeR; rw [hc]; rfl
    refine ⟨barsF (mergeF a b), 0, ⟨barsF_len _, Bin.bars (fun j => Nat.min_le_right _ _)⟩, fun W ad bd n m c d hA hB => ?_, fun W ad bd n m c d hA hB => ?_⟩
    · have h := merge_any ad bd n m c d a b W hA hB
      rw [e] at h
      exact h.mono fun _ _ h => MadeP.some_uni h
    · have h := refMerge_any ad bd n m c d a b W hA hB
      rw [e] at h
      exact h.mono fun _ _ h => MadeP.some_uni h
theorem takeL_le : ∀ {l : List (Int × Int)} {f g : Nat → Nat}, takeL f l = some g → ∀ j, g j ≤ f j
  | [], f, g, h, j => by
    simp [takeL] at h
    subst h
    exact Nat.le_refl _
  | b :: l, f, g, h, j => by
    rw [takeL_cons] at h
    split at h
    · cases h
    · have ih := takeL_le h j
      unfold setF at ih
      split at ih
      · rename_i e
        subst e
        exact Nat.le_trans ih (Nat.sub_le _ _)
      · exact ih
theorem less_uni (a b : List (Int × Int)) (hba : Bin a) : ∃ (L : List (Int × Int)) (err : Int), (L.length ≤ 1920 ∧ Bin L) ∧ (∀ W (ad bd : Option Addr) (n m c d : Nat), InAt W ad n a → InAt W bd m b → Calls Try.prog 23 #[.slice ad n c, .slice bd m d] W (MadeU L err W)) ∧ (∀ W (ad bd : Option Addr) (n m c d : Nat), InAt W ad n a → InAt W bd m b → Calls Try.prog 24 #[.slice ad n c, .slice bd m d] W (MadeU L err W)) := by
  cases hc : chkF (-1) a && chkF (-1) b with
  | false =>
    refine ⟨[], 131, ⟨Nat.zero_le _, fun b hb => by cases hb⟩, fun W ad bd n m c d hA hB => ?_, fun W ad bd n m c d hA hB => ?_⟩
    · exact (less_no ad bd n m c d a b W hA hB hc).mono fun _ _ h => MadeP.none_uni h
    · exact (refLess_no ad bd n m c d a b W hA hB hc).mono fun _ _ h => MadeP.none_uni h
  | true =>
    obtain ⟨ha, hb⟩ := Bool.and_eq_true_iff.1 hc
    cases hr : lessR a b with
    | none =>
      refine ⟨[], 134, ⟨Nat.zero_le _, fun b hb => by cases hb⟩, fun W ad bd n m c d hA hB => ?_, fun W ad bd n m c d hA hB => ?_⟩
      · have h := less_ok ad bd n m c d a b W hA hB ha hb
        rw [hr] at h
        exact h.mono fun _ _ h => MadeP.none_uni h
      · have h := refLess_ok ad bd n m c d a b W hA hB ha hb
        rw [hr] at h
        exact h.mono fun _ _ h => MadeP.none_uni h
    | some f =>
      refine ⟨barsF f, 0, ⟨barsF_len _, Bin.bars (fun j => Nat.le_trans (takeL_le hr j) (cntF_le hba j))⟩, fun W ad bd n m c d hA hB => ?_, fun W ad bd n m c d hA hB => ?_⟩
      · have h := less_ok ad bd n m c d a b W hA hB ha hb
        rw [hr] at h
        exact h.mono fun _ _ h => MadeP.some_uni h
      · have h := refLess_ok ad bd n m c d a b W hA hB ha hb
        rw [hr] at h
        exact h.mono fun _ _ h => MadeP.some_uni h
theorem count_uni (l : List (Int × Int)) : ∃ h0 l0 e : Int, (∀ W (ad : Option Addr) (n c : Nat), InAt W ad n l → Calls Try.prog 12 #[.slice ad n c] W fun r w' => r = .returned (.tuple #[.agg #[.int .u64 h0, .int .u64 l0], .int .i64 e]) ∧ Below W.heap.size W w') ∧ (∀ W (ad : Option Addr) (n c : Nat), InAt W ad n l → Calls Try.prog 25 #[.slice ad n c] W fun r w' => r = .returned (.tuple #[.agg #[.int .u64 h0, .int .u64 l0], .int .i64 e]) ∧ Below W.heap.size W w') := by
  cases hc : chkF (-1) l with
  | false =>
    refine ⟨_, _, 131, fun W ad n c hA => count_no ad n c l W hA hc, fun W ad n c hA => ?_⟩
    have h := refCount_any ad n c l W hA
    rw [hc, chkE_no hc] at h
    exact h
  | true =>
    refine ⟨_, _, 0, fun W ad n c hA => count_ok ad n c l W hA hc, fun W ad n c hA => ?_⟩
    have h := refCount_any ad n c l W hA
    rw [if_pos hc, chkE_ok hc] at h
    exact h
theorem sumB_up (l : List (Int × Int)) (i : Nat) : ∀ d, sumB (l.take i) ≤ sumB (l.take (i + d))
  | 0 => Nat.le_refl _
  | d + 1 => by
    have ih := sumB_up l i d
    rcases Nat.lt_or_ge (i + d) l.length with h | h
    · have := sumB_take l (i + d) h
      show sumB (l.take i) ≤ sumB (l.take (i + d + 1))
      omega
    · have e1 := List.take_of_length_le h
      have e2 : l.take (i + (d + 1)) = l := List.take_of_length_le (by omega)
      rw [e2]
      rw [e1] at ih
      exact ih
theorem AtBar.one {l : List (Int × Int)} {r i j : Nat} (h : AtBar l r i) (k : AtBar l r j) : i = j := by
  rcases Nat.lt_trichotomy i j with hlt | he | hlt
  · have := sumB_up l (i + 1) (j - (i + 1))
    rw [show i + 1 + (j - (i + 1)) = j by omega] at this
    have h1 := h.2.2
    have h2 := k.2.1
    omega
  · exact he
  · have := sumB_up l (j + 1) (i - (j + 1))
    rw [show j + 1 + (i - (j + 1)) = i by omega] at this
    have h1 := k.2.2
    have h2 := h.2.1
    omega
theorem quan_uni (l : List (Int × Int)) (num den : Nat) : ∃ x y e : Int, (∀ W (ad : Option Addr) (n c : Nat), InAt W ad n l → Calls Try.prog 11 #[.slice ad n c, .int .u64 (num : Int), .int .u64 (den : Int)] W fun r w' => r = .returned (.tuple #[.int .u64 x, .int .u64 y, .int .i64 e]) ∧ Below W.heap.size W w') ∧ (∀ W (ad : Option Addr) (n c : Nat), InAt W ad n l → Calls Try.prog 26 #[.slice ad n c, .int .u64 (num : Int), .int .u64 (den : Int)] W fun r w' => r = .returned (.tuple #[.int .u64 x, .int .u64 y, .int .i64 e]) ∧ Below W.heap.size W w') := by
  cases hc : chkF (-1) l with
  | false => exact ⟨0, 0, 131, fun W ad n c hA => quan_bars ad n c l num den W hA hc, fun W ad n c hA => refQuan_bars ad n c l num den W hA hc⟩
  | true =>
    cases hl : l with
    | nil =>
      subst hl
      refine ⟨0, 0, 132, fun W ad n c hA => ?_, fun W ad n c hA => ?_⟩
      · obtain rfl : n = 0 := hA.at_.len.symm
        exact quan_none c ad num den W hA
      · obtain rfl : n = 0 := hA.at_.len.symm
        exact refQuan_none c ad num den W hA
    | cons x0 xs =>
      rw [← hl]
      have hpos : ∀ {W : World} {ad : Option Addr} {n : Nat}, InAt W ad n l → 0 < n := fun hA => by rw [← hA.at_.len, hl]; simp
      by_cases hr : den = 0 ∨ 1000000 < den ∨ den < num
      · exact ⟨0, 0, 133, fun W ad n c hA => quan_ratio ad n c l num den W hA hc (hpos hA) hr, fun W ad n c hA => refQuan_ratio ad n c l num den W hA hc (hpos hA) hr⟩
      · by_cases hx : ∃ i k : Nat, AtBar l (rkN (sumB l * num) den) i ∧ (l[i]?).map (·.1) = some ((k : Nat) : Int)
        · obtain ⟨i, k, h1, h2⟩ := hx
          have key : ∀ (W : World) r w', QuanP l num den W r w' → r = .returned (.tuple #[.int .u64 (loN k : Int), .int .u64 (hiN k : Int), .int .i64 0]) ∧ Below W.heap.size W w' := fun W r w' h => by
            obtain ⟨i', k', g1, g2, g3, g4, g5⟩ := h
            obtain rfl := AtBar.one h1 g1
            rw [h2] at g2
            injection g2 with g2
            obtain rfl : k = k' := by omega
            exact ⟨g4, g5⟩
          exact ⟨_, _, 0, fun W ad n c hA => (quan_all ad n c l num den W hA hc (hpos hA) (by omega) (by omega) (by omega)).mono (key W), fun W ad n c hA => (refQuan_ok ad n c l num den W hA hc (hpos hA) (by omega) (by omega) (by omega)).mono (key W)⟩
        · have key : ∀ (W : World) r w', QuanP l num den W r w' → r = .returned (.tuple #[.int .u64 0, .int .u64 0, .int .i64 0]) ∧ Below W.heap.size W w' := fun W r w' h => by
            obtain ⟨i', k', g1, g2, _⟩ := h
            exact absurd ⟨i', k', g1, g2⟩ hx
          exact ⟨0, 0, 0, fun W ad n c hA => (quan_all ad n c l num den W hA hc (hpos hA) (by omega) (by omega) (by omega)).mono (key W), fun W ad n c hA => (refQuan_ok ad n c l num den W hA hc (hpos hA) (by omega) (by omega) (by omega)).mono (key W)⟩
end Go.Proofs.Ytmegmjhkjaejgaa.sk
