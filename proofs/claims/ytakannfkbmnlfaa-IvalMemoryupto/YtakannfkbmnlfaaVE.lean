/-
  Layer 6, the reference: Normal, Meet, Minus, Measure: the program's answers.
-/
import Derived.Test.YtakannfkbmnlfaaVD
import Derived.Test.YtakannfkbmnlfaaVs
namespace Go.Proofs.Ytakannfkbmnlfaa
open Go.Shelf Go.RowKit Go.Lib
set_option maxRecDepth 100000

theorem pieces_set (ad bd : Option Addr) (n m ca cb : Nat) (A B : List (Int × Int)) (u : Bool) (w : World) (hA : IvAt w ad n A) (hB : IvAt w bd m B) (hn : n + m ≤ 274877906944) (iA : ∀ i ∈ A, In64 i) (iB : ∀ i ∈ B, In64 i) :
    Calls Try.prog 27 #[.slice ad n ca, .slice bd m cb, .bool u] w fun e w' => ∃ v L, e = .returned v ∧ Tells w.heap.size w' v (fun x => wantW u (memI A x) (memI B x)) (2 * (n + m)) L ∧ Below w.heap.size w w' := by
  refine (pieces_any ad bd n m ca cb A B u w hA hB hn).mono ?_
  rintro e w' ⟨v, E, rfl, H⟩
  obtain ⟨p1, p2, o, b⟩ := H.out
  obtain ⟨f, h⟩ := gather_form (wantW u) (wantW_no u) A B E p1 p2
  refine ⟨v, _, rfl, ⟨o, f, h, form_in (wantW_no u) f h iA iB, ?_⟩, b⟩
  have hb := (run_b (wantW u) E.length E rfl).2.2
  have := p1.length_eq
  rw [List.length_append] at this
  have a := endsL_len 0 A
  have b := endsL_len 1 B
  rw [hA.len] at a
  rw [hB.len] at b
  omega
theorem Tells.weaken {base : Nat} {w : World} {v : Value} {p q : Int → Bool} {N M : Nat} {L : List (Int × Int)} (h : Tells base w v p N L) (hp : ∀ x, p x = q x) (hN : N ≤ M) : Tells base w v q M L :=
  ⟨h.own, h.form, fun x => (h.mem x).trans (hp x), h.in64, Nat.le_trans h.few hN⟩
theorem refNormal_any (ad : Option Addr) (n ca : Nat) (A : List (Int × Int)) (w : World) (hA : IvAt w ad n A) (hn : n ≤ 274877906944) (iA : ∀ i ∈ A, In64 i) :
    Calls Try.prog 9 #[.slice ad n ca] w fun e w' => ∃ v L, e = .returned v ∧ Tells w.heap.size w' v (memI A) (2 * n) L ∧ Below w.heap.size w w' := by
  have G := pieces_set ad none n 0 ca 0 A [] false w hA ⟨rfl, fun h => by omega⟩ (by omega) iA (fun _ h => by cases h)
  clear hA
  go_enter Try.func9, Try.ntmps9
  go_wp2_with (go_at_call 27; refine G.mono ?_; clear G; rintro e w' ⟨v, L, rfl, t, b⟩; obtain ⟨ao, l, cp, rfl⟩ := row_shape t.own)
  go_ret
  exact ⟨_, L, rfl, t.weaken (fun x => by simp [wantW, memI_nil]) (by omega), b⟩
theorem refMeet_any (ad bd : Option Addr) (n m ca cb : Nat) (A B : List (Int × Int)) (w : World) (hA : IvAt w ad n A) (hB : IvAt w bd m B) (hn : n + m ≤ 274877906944) (iA : ∀ i ∈ A, In64 i) (iB : ∀ i ∈ B, In64 i) :
    Calls Try.prog 13 #[.slice ad n ca, .slice bd m cb] w fun e w' => ∃ v L, e = .returned v ∧ Tells w.heap.size w' v (fun x => memI A x && memI B x) (2 * (n + m)) L ∧ Below w.heap.size w w' := by
  have G := pieces_set ad bd n m ca cb A B true w hA hB hn iA iB
  clear hA hB
  go_enter Try.func13, Try.ntmps13
  go_wp2_with (go_at_call 27; refine G.mono ?_; clear G; rintro e w' ⟨v, L, rfl, t, b⟩; obtain ⟨ao, l, cp, rfl⟩ := row_shape t.own)
  go_ret
  exact ⟨_, L, rfl, t.weaken (fun x => by cases memI A x <;> cases memI B x <;> rfl) (Nat.le_refl _), b⟩
theorem refMinus_any (ad bd : Option Addr) (n m ca cb : Nat) (A B : List (Int × Int)) (w : World) (hA : IvAt w ad n A) (hB : IvAt w bd m B) (hn : n + m ≤ 274877906944) (iA : ∀ i ∈ A, In64 i) (iB : ∀ i ∈ B, In64 i) :
    Calls Try.prog 15 #[.slice ad n ca, .slice bd m cb] w fun e w' => ∃ v L, e = .returned v ∧ Tells w.heap.size w' v (fun x => memI A x && !memI B x) (2 * (n + m)) L ∧ Below w.heap.size w w' := by
  have G := pieces_set ad bd n m ca cb A B false w hA hB hn iA iB
  clear hA hB
  go_enter Try.func15, Try.ntmps15
  go_wp2_with (go_at_call 27; refine G.mono ?_; clear G; rintro e w' ⟨v, L, rfl, t, b⟩; obtain ⟨ao, l, cp, rfl⟩ := row_shape t.own)
  go_ret
  exact ⟨_, L, rfl, t.weaken (fun x => by cases memI A x <;> cases memI B x <;> rfl) (Nat.le_refl _), b⟩
/-- Two answers of one set are one list. -/
theorem tells_one {b1 b2 : Nat} {w1 w2 : World} {v1 v2 : Value} {p : Int → Bool} {N1 N2 : Nat} {L1 L2 : List (Int × Int)} (h1 : Tells b1 w1 v1 p N1 L1) (h2 : Tells b2 w2 v2 p N2 L2) : L1 = L2 :=
  form_one h1.form h2.form (fun x => (h1.mem x).trans (h2.mem x).symm)
/-- How many moments a set of moments has. -/
def muV (N : Nat) (p : Int → Bool) : Int := cntM p (-9223372036854775808) N
theorem measV_any {N : Nat} (hN : (N : Int) = 18446744073709551615) (ad : Option Addr) (n ca : Nat) (A : List (Int × Int)) (w : World) (hA : IvAt w ad n A) (hn : n ≤ 268435456) (iA : ∀ i ∈ A, In64 i) :
    Calls Try.prog 10 #[.slice ad n ca] w fun e w' => e = .returned (.int .u64 (muV N (memI A))) ∧ Below w.heap.size w w' := by
  refine (measure_any ad n ca A w hA hn iA).mono ?_
  rintro e w' ⟨L, rfl, f, m, i, b⟩
  rw [sum_is hN f i, cntM_congr m]
  exact ⟨rfl, b⟩
set_option maxHeartbeats 1000000 in
theorem refMeasure_any (ad : Option Addr) (n ca : Nat) (A : List (Int × Int)) (w : World) (hA : IvAt w ad n A) (hn : n ≤ 268435456) (iA : ∀ i ∈ A, In64 i) :
    Calls Try.prog 11 #[.slice ad n ca] w (MeasP A w) := by
  have G := refNormal_any ad n ca A w hA (by omega) iA
  unfold MeasP
  clear hA
  go_enter Try.func11, Try.ntmps11
  go_wp2_with (go_at_call 9; refine G.mono ?_; clear G; rintro e w1 ⟨v, L, rfl, t, b⟩; obtain ⟨ao, l, cp, rfl⟩ := row_shape t.own)
  have hL := t.own.len
  have hI := t.own.at
  have hlt := sum_lt t.form t.in64
  have HT : Hid _ := t
  have HLT : Hid _ := hlt
  have hfew : l ≤ 2 * n := by have := t.few; omega
  clear t hlt
  have HLl : Hid (l = L.length) := hL
  clear hL
  go_loopw [4, 5] (fun a c wr => ∃ (k : Nat), c = .int .i64 k ∧ k ≤ l ∧ a = .int .u64 (sumI (L.take k)) ∧ Below w1.heap.size w1 wr) (fun _ c _ => l - (intOf c).toNat)
  case atStart => exact ⟨0, rfl, by omega, rfl, Below.refl _ _⟩
  case round =>
    obtain ⟨k, rfl, hk, rfl, hb⟩ := hrel
    have hsz := hb.size
    by_cases hlt : k < l
    · have hz : (k : Int) < (l : Int) := by omega
      obtain ⟨b1, o1, had, hc1⟩ := (hI.below hb).lies (by omega)
      subst had
      have hkL : k < L.length := by have := HLl.out; omega
      obtain ⟨c0, c1⟩ := hc1 k hkL
      have HS : Hid (sumI (L.take (k + 1)) = _) := sum_step hkL
      have hin := HT.out.in64 L[k] (List.getElem_mem hkL)
      have hup := sum_take_le L (k + 1)
      have h0 := sum_nonneg (L.take k)
      rw [HS.out] at hup
      have hl0 := len_nonneg L[k]
      generalize L[k] = y at c0 c1 HS hin hup hl0
      have wr1 : IntKind.u64.wrap (sumI (L.take k) + lenI y) = sumI (L.take k) + lenI y := by
        have := HLT.out
        rw [IntKind.wrap_u64]; omega
      have LN := fun W => refLength_any y W hin
      obtain ⟨x1, x2⟩ := y
      simp only at c0 c1 LN
      generalize lenI (x1, x2) = ll at *
      generalize sumI (L.take k) = ss at *
      clear hc1 hin hup h0 hl0
      go_wp2_with (go_at_call 28; refine (LN _).mono ?_; clear LN; rintro e w2 ⟨rfl, b2⟩)
      go_roundw
      case rel => exact ⟨k + 1, by go_num, by omega, by rw [HS.out], hb.trans (b2.mono hsz)⟩
      case measure => simp [intOf]; omega
    · have hz : ¬ (k : Int) < (l : Int) := by omega
      have HE : Hid (L.take k = L) := List.take_of_length_le (by have := HLl.out; omega)
      go_wp2
      go_ret
      refine ⟨L, by rw [HE.out]; rfl, HT.out.form, HT.out.mem, fun a b h => HT.out.in64 (a, b) h, Below.step b hb⟩
theorem refMeasV_any {N : Nat} (hN : (N : Int) = 18446744073709551615) (ad : Option Addr) (n ca : Nat) (A : List (Int × Int)) (w : World) (hA : IvAt w ad n A) (hn : n ≤ 268435456) (iA : ∀ i ∈ A, In64 i) :
    Calls Try.prog 11 #[.slice ad n ca] w fun e w' => e = .returned (.int .u64 (muV N (memI A))) ∧ Below w.heap.size w w' := by
  refine (refMeasure_any ad n ca A w hA hn iA).mono ?_
  rintro e w' ⟨L, rfl, f, m, i, b⟩
  rw [sum_is hN f i, cntM_congr m]
  exact ⟨rfl, b⟩
end Go.Proofs.Ytakannfkbmnlfaa
