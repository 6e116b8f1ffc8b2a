/-
  Contracts of layer 6: Measure.
-/
import Derived.Test.YtakannfkbmnlfaaVp
namespace Go.Proofs.Ytakannfkbmnlfaa
open Go.Shelf Go.RowKit Go.Lib
set_option maxRecDepth 100000

theorem len_nonneg (i : Int × Int) : 0 ≤ lenI i := by unfold lenI; split <;> omega
theorem sum_append (a b : List (Int × Int)) : sumI (a ++ b) = sumI a + sumI b := by
  unfold sumI; rw [List.map_append, List.sum_append]
theorem sum_nonneg : ∀ l : List (Int × Int), 0 ≤ sumI l
  | [] => Int.le_refl _
  | i :: l => by
    have := sum_nonneg l
    have h := len_nonneg i
    show 0 ≤ lenI i + (l.map lenI).sum
    unfold sumI at this
    omega
theorem sum_take_le (l : List (Int × Int)) (k : Nat) : sumI (l.take k) ≤ sumI l := by
  have h : sumI l = sumI (l.take k) + sumI (l.drop k) := by rw [← sum_append, List.take_append_drop]
  have := sum_nonneg (l.drop k)
  omega
theorem big : ∃ N : Nat, (N : Int) = 18446744073709551615 := ⟨18446744073709551615, rfl⟩
/-- How many moments a set of moments has. -/
theorem sum_is {N : Nat} (hN : (N : Int) = 18446744073709551615) {L : List (Int × Int)} (hf : Form L) (hi : ∀ i ∈ L, In64 i) : sumI L = cntM (memI L) (-9223372036854775808) N :=
  sum_cnt _ N L hf (fun i h => by have := hi i h; unfold In64 in64 at this; omega)
theorem sum_lt {L : List (Int × Int)} (hf : Form L) (hi : ∀ i ∈ L, In64 i) : sumI L ≤ 18446744073709551615 := by
  obtain ⟨N, hN⟩ := big
  rw [sum_is hN hf hi]
  have := (cntM_nonneg (memI L) (-9223372036854775808) N).2
  omega
theorem sum_step {l : List (Int × Int)} {k : Nat} (hk : k < l.length) : sumI (l.take (k + 1)) = sumI (l.take k) + lenI l[k] := by
  rw [List.take_succ_eq_append_getElem hk, sum_append]
  simp [sumI]
/-- What Measure tells. -/
def MeasP (A : List (Int × Int)) (w : World) (e : Ending) (w' : World) : Prop :=
  ∃ L, e = .returned (.int .u64 (sumI L)) ∧ Form L ∧ (∀ x, memI L x = memI A x) ∧ (∀ i ∈ L, In64 i) ∧ Below w.heap.size w w'
set_option maxHeartbeats 1000000 in
theorem measure_any (ad : Option Addr) (n ca : Nat) (A : List (Int × Int)) (w : World) (hA : IvAt w ad n A) (hn : n ≤ 268435456) (iA : ∀ i ∈ A, In64 i) :
    Calls Try.prog 10 #[.slice ad n ca] w (MeasP A w) := by
  have G := normal_any ad n ca A w hA (by omega) iA
  unfold MeasP
  clear hA
  go_enter Try.func10, Try.ntmps10
  go_wp2_with (go_at_call 8; refine G.mono ?_; clear G; rintro e w1 ⟨v, L, rfl, t, b⟩; obtain ⟨ao, l, cp, rfl⟩ := row_shape t.own)
  have hL := t.own.len
  have hI := t.own.at
  have hlt := sum_lt t.form t.in64
  have HT : Hid _ := t
  have HLT : Hid _ := hlt
  have hfew : l ≤ 2 * n := by have := t.few; omega
  clear t hlt
  have HLl : Hid (l = L.length) := hL
  clear hL
  go_loopw [3, 9] (fun a c wr => ∃ (k : Nat), c = .int .i64 k ∧ k ≤ l ∧ a = .int .u64 (sumI (L.take k)) ∧ Below w1.heap.size w1 wr) (fun _ c _ => l - (intOf c).toNat)
  case atStart => exact ⟨0, rfl, by omega, rfl, Below.refl _ _⟩
  case round =>
    obtain ⟨k, rfl, hk, rfl, hb⟩ := hrel
    have hsz := hb.size
    by_cases hlt : k < l
    · have hz : (k : Int) < (l : Int) := by omega
      obtain ⟨b1, o1, had, hc1⟩ := (hI.below hb).lies (by omega)
      subst had
      have hkL : k < L.length := by have := HLl.out; omega
      obtain ⟨c0, c1⟩ := hc1 k hkL
      have HS : Hid (sumI (L.take (k + 1)) = _) := sum_step hkL
      have hin := HT.out.in64 L[k] (List.getElem_mem hkL)
      have hup := sum_take_le L (k + 1)
      have h0 := sum_nonneg (L.take k)
      rw [HS.out] at hup
      have hl0 := len_nonneg L[k]
      generalize L[k] = y at c0 c1 HS hin hup hl0
      have wr1 : IntKind.u64.wrap (sumI (L.take k) + lenI y) = sumI (L.take k) + lenI y := by
        have := HLT.out
        rw [IntKind.wrap_u64]; omega
      have LN := fun W => length_any y W hin
      obtain ⟨x1, x2⟩ := y
      simp only at c0 c1 LN
      generalize lenI (x1, x2) = ll at *
      generalize sumI (L.take k) = ss at *
      clear hc1 hin hup h0 hl0
      go_wp2_with (go_at_call 24; refine (LN _).mono ?_; clear LN; rintro e w2 ⟨rfl, b2⟩)
      go_roundw
      case rel => exact ⟨k + 1, by go_num, by omega, by rw [HS.out], (hb.alloc hsz _).trans (b2.mono (by simp; omega))⟩
      case measure => simp [intOf]; omega
    · have hz : ¬ (k : Int) < (l : Int) := by omega
      have HE : Hid (L.take k = L) := List.take_of_length_le (by have := HLl.out; omega)
      go_wp2
      go_ret
      refine ⟨L, by rw [HE.out]; rfl, HT.out.form, HT.out.mem, fun a b h => HT.out.in64 (a, b) h, Below.step b hb⟩
end Go.Proofs.Ytakannfkbmnlfaa
