/-
  The walk of IvalMoments.
-/
import Derived.Test.YtmpjoenjnpafcaaVl
namespace Go.Proofs.Ytmpjoenjnpafcaa
open Go.Shelf Go.RowKit Go.Lib
set_option maxRecDepth 100000

theorem Below.step {w w1 w2 : World} (h : Below w.heap.size w w1) (k : Below w1.heap.size w1 w2) : Below w.heap.size w w2 := h.trans (k.mono h.size)
theorem in_tells {p : Int → Bool} {N : Nat} {base : Nat} {W : World} {ao : Option Addr} {l c : Nat} {L : List (Int × Int)} (hN : N ≤ 8388608) (t : Tells base W (.slice ao l c) p N L) (x : Int) :
    Calls Try.prog 39 #[.slice ao l c, .int .i64 x] W fun e w' => e = .returned (.bool (p x)) ∧ Below W.heap.size W w' := by
  have := in_any ao l c L x W t.own.at (by have := t.few; have := t.own.len; omega)
  rw [t.mem] at this
  exact this
set_option maxHeartbeats 2000000 in
theorem asked_any (ad bd : Option Addr) (n m ca cb : Nat) (A B : List (Int × Int)) (x : Int) (w : World) (hA : IvAt w ad n A) (hB : IvAt w bd m B) (hn : n + m ≤ 4194304) (iA : ∀ i ∈ A, In64 i) (iB : ∀ i ∈ B, In64 i) :
    Calls Try.prog 27 #[.slice ad n ca, .slice bd m cb, .int .i64 x] w fun e w' => e = .returned (.bool true) ∧ Below w.heap.size w w' := by
  have B0 : Below w.heap.size w w := Below.refl _ _
  have I1 := fun W (b : Below w.heap.size w W) => in_any ad n ca A x W (hA.below b) (by omega)
  have I2 := fun W (b : Below w.heap.size w W) => in_any bd m cb B x W (hB.below b) (by omega)
  have H1 := fun W (b : Below w.heap.size w W) => has_any ad n ca A x W (hA.below b) (by omega)
  have N1 := fun W (b : Below w.heap.size w W) => normal_any ad n ca A W (hA.below b) (by omega) iA
  have M1 := fun W (b : Below w.heap.size w W) => meet_any ad bd n m ca cb A B W (hA.below b) (hB.below b) (by omega) iA iB
  have X1 := fun W (b : Below w.heap.size w W) => minus_any ad bd n m ca cb A B W (hA.below b) (hB.below b) (by omega) iA iB
  have h1 : 2 * n ≤ 8388608 := by omega
  have h2 : 2 * (n + m) ≤ 8388608 := by omega
  clear hA hB hn iA iB
  have G1 : ∀ {N : Nat} {base : Nat} {W : World} {ao : Option Addr} {l c : Nat} {L : List (Int × Int)}, N ≤ 8388608 → Tells base W (.slice ao l c) (memI A) N L → Calls Try.prog 39 #[.slice ao l c, .int .i64 x] W fun e w' => e = .returned (.bool (memI A x)) ∧ Below W.heap.size W w' := fun hN t => in_tells hN t x
  have G2 : ∀ {N : Nat} {base : Nat} {W : World} {ao : Option Addr} {l c : Nat} {L : List (Int × Int)}, N ≤ 8388608 → Tells base W (.slice ao l c) (fun x => memI A x && memI B x) N L → Calls Try.prog 39 #[.slice ao l c, .int .i64 x] W fun e w' => e = .returned (.bool (memI A x && memI B x)) ∧ Below W.heap.size W w' := fun hN t => in_tells hN t x
  have G3 : ∀ {N : Nat} {base : Nat} {W : World} {ao : Option Addr} {l c : Nat} {L : List (Int × Int)}, N ≤ 8388608 → Tells base W (.slice ao l c) (fun x => memI A x && !memI B x) N L → Calls Try.prog 39 #[.slice ao l c, .int .i64 x] W fun e w' => e = .returned (.bool (memI A x && !memI B x)) ∧ Below W.heap.size W w' := fun hN t => in_tells hN t x
  generalize memI A x = p at I1 H1 G1 G2 G3
  generalize memI B x = q at I2 G2 G3
  cases p <;> cases q
  all_goals
    simp only [Bool.not_true, Bool.not_false, Bool.and_true, Bool.and_false] at G2 G3
    go_enter Try.func27, Try.ntmps27
    go_wp2_with (first
      | (go_at_call 39; refine (I1 _ (by assumption)).mono ?_; rintro e w1 ⟨rfl, b1⟩; have B1 := Below.step (w := w) (by assumption) b1; clear b1 I1)
      | (go_at_call 39; refine (I2 _ (by assumption)).mono ?_; rintro e w2 ⟨rfl, b2⟩; have B2 := Below.step (w := w) (by assumption) b2; clear b2 I2 B1)
      | (go_at_call 16; refine (N1 _ (by assumption)).mono ?_; clear N1; rintro e w3 ⟨v3, L3, rfl, t3, b3⟩; obtain ⟨ao3, l3, cp3, rfl⟩ := row_shape t3.own; have B3 := Below.step (w := w) (by assumption) b3; clear b3)
      | (go_at_call 39; refine (G1 h1 t3).mono ?_; clear G1; rintro e w4 ⟨rfl, b4⟩; have B4 := Below.step B3 b4; clear b4 t3)
      | (go_at_call 20; refine (M1 _ (by assumption)).mono ?_; clear M1; rintro e w5 ⟨v5, L5, rfl, t5, b5⟩; obtain ⟨ao5, l5, cp5, rfl⟩ := row_shape t5.own; have B5 := Below.step B4 b5; clear b5)
      | (go_at_call 39; refine (G2 h2 t5).mono ?_; clear G2; rintro e w6 ⟨rfl, b6⟩; have B6 := Below.step B5 b6; clear b6 t5)
      | (go_at_call 22; refine (X1 _ (by assumption)).mono ?_; clear X1; rintro e w7 ⟨v7, L7, rfl, t7, b7⟩; obtain ⟨ao7, l7, cp7, rfl⟩ := row_shape t7.own; have B7 := Below.step B6 b7; clear b7)
      | (go_at_call 39; refine (G3 h2 t7).mono ?_; clear G3; rintro e w8 ⟨rfl, b8⟩; have B8 := Below.step B7 b8; clear b8 t7)
      | (go_at_call 24; refine (H1 _ (by assumption)).mono ?_; clear H1; rintro e w9 ⟨rfl, b9⟩; have B9 := Below.step B8 b9; clear b9))
  all_goals go_ret
  all_goals exact ⟨rfl, B9⟩

/-- A list of intervals that lies here is a source of an append. -/
theorem IvAt.src {w : World} {ad : Option Addr} {n c : Nat} {l : List (Int × Int)} (h : IvAt w ad n l) : Src Try.prog 2 29 (.slice ad n c) n (l.flatMap ivC) w := by
  by_cases hn : 0 < n
  · obtain ⟨b, off, rfl, hc⟩ := h.lies hn
    refine Src.ofSlice w Try.underlying29 ⟨b, off, none⟩ n c _ (by rw [ivC_len, h.len]) ?_ (ivC_one l)
    intro j u hj
    rw [Addr.add_lit]
    have hjl : j < (l.flatMap ivC).length := (List.getElem?_eq_some_iff.1 hj).1
    rw [ivC_len] at hjl
    have hi : j / 2 < l.length := by omega
    obtain ⟨a1, a2⟩ := ivC_at l (j / 2) hi
    obtain ⟨c1, c2⟩ := hc (j / 2) hi
    have h2 : j % 2 = 0 ∨ j % 2 = 1 := by omega
    rcases h2 with h2 | h2
    · have e : j / 2 * 2 = j := by omega
      rw [e] at a1 c1
      rw [hj] at a1
      rw [c1, Option.some.inj a1]
    · have e : j / 2 * 2 + 1 = j := by omega
      rw [e] at a2
      rw [Nat.add_assoc, e] at c2
      rw [hj] at a2
      rw [c2, Option.some.inj a2]
  · have h0 : n = 0 := by omega
    subst h0
    have hl : l = [] := List.eq_nil_of_length_eq_zero h.len
    subst hl
    cases ad with
    | none => exact Src.ofNil w Try.underlying29 c
    | some a => exact Src.ofSlice w Try.underlying29 a 0 c [] rfl (fun j u hj => by simp at hj) (fun _ h => by cases h)
end Go.Proofs.Ytmpjoenjnpafcaa
