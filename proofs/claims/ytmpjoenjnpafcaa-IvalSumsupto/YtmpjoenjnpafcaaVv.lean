/-
  The walk of IvalSums.
-/
import Derived.Test.YtmpjoenjnpafcaaVq
import Derived.Test.YtmpjoenjnpafcaaVs
namespace Go.Proofs.Ytmpjoenjnpafcaa
open Go.Shelf Go.RowKit Go.Lib
set_option maxRecDepth 100000

def mu (N : Nat) (p : Int → Bool) : Int := cntM p (-9223372036854775808) N
theorem meas_mu {N : Nat} (hN : (N : Int) = 18446744073709551615) (ad : Option Addr) (n ca : Nat) (A : List (Int × Int)) (p : Int → Bool) (w : World) (hA : IvAt w ad n A) (hn : n ≤ 268435456) (iA : ∀ i ∈ A, In64 i) (hp : ∀ x, memI A x = p x) :
    Calls Try.prog 18 #[.slice ad n ca] w fun e w' => e = .returned (.int .u64 (mu N p)) ∧ Below w.heap.size w w' := by
  refine (measure_any ad n ca A w hA hn iA).mono ?_
  rintro e w' ⟨L, rfl, f, m, i, b⟩
  rw [sum_is hN f i, cntM_congr (fun x => (m x).trans (hp x))]
  exact ⟨rfl, b⟩
theorem meas_tells {N : Nat} (hN : (N : Int) = 18446744073709551615) {base M : Nat} {ao : Option Addr} {l c : Nat} {p : Int → Bool} {L : List (Int × Int)} {w : World} (t : Tells base w (.slice ao l c) p M L) (hM : M ≤ 268435456) :
    Calls Try.prog 18 #[.slice ao l c] w fun e w' => e = .returned (.int .u64 (mu N p)) ∧ Below w.heap.size w w' :=
  meas_mu hN ao l c L p w t.own.at (by have := t.few; have := t.own.len; omega) t.in64 t.mem
theorem mu_rng {N : Nat} (hN : (N : Int) = 18446744073709551615) (p : Int → Bool) : 0 ≤ mu N p ∧ mu N p ≤ 18446744073709551615 := by
  have := cntM_nonneg p (-9223372036854775808) N
  unfold mu
  omega
theorem mu_two (N : Nat) (p q : Int → Bool) : mu N (fun x => p x && q x) + mu N (fun x => p x && !q x) = mu N p := cntM_split p q _ N
theorem mu_three (N : Nat) (p q : Int → Bool) : mu N (fun x => p x || q x) = mu N p + mu N (fun x => q x && !p x) := by
  unfold mu
  rw [← cntM_or p (fun x => q x && !p x) _ (fun x h => by simp [h])]
  exact cntM_congr (fun x => by cases p x <;> cases q x <;> rfl) _ _
theorem mu_four (N : Nat) (p q : Int → Bool) : mu N (fun x => p x && q x) = mu N (fun x => q x && p x) := cntM_congr (fun _ => Bool.and_comm _ _) _ _
set_option maxHeartbeats 2000000 in
theorem sums_walk (N : Nat) (hN : (N : Int) = 18446744073709551615) (ad bd : Option Addr) (n m ca cb : Nat) (A B : List (Int × Int)) (w : World) (hA : IvAt w ad n A) (hB : IvAt w bd m B) (hn : n ≤ 1048576) (hm : m ≤ 1048576) (iA : ∀ i ∈ A, In64 i) (iB : ∀ i ∈ B, In64 i) :
    Calls Try.prog 7 #[.slice ad n ca, .slice bd m cb] w fun e w' => e = .returned (.bool true) ∧ Below w.heap.size w w' := by
  obtain ⟨i0, hi, hz0, hz1, hz2⟩ := info_parts Try.info23
  have B0 : Below w.heap.size w w := Below.refl _ _
  have SA := fun W (b : Below w.heap.size w W) => (hA.below b).src (c := ca)
  have SB := fun W (b : Below w.heap.size w W) => (hB.below b).src (c := cb)
  have hAl := hA.len
  have hBl := hB.len
  have N1 := fun W (b : Below w.heap.size w W) => normal_any ad n ca A W (hA.below b) (by omega) iA
  have HI : Hid (∀ i ∈ A ++ B, In64 i) := fun i h => (List.mem_append.mp h).elim (iA i) (iB i)
  have HAB : Hid (IvAt w ad n A ∧ IvAt w bd m B ∧ (∀ i ∈ A, In64 i) ∧ (∀ i ∈ B, In64 i)) := ⟨hA, hB, iA, iB⟩
  have HN : Hid _ := hN
  clear hA hB iA iB hN
  go_enter Try.func7, Try.ntmps7
  go_wp2_with (first
    | (go_at_call 9; refine (alive_any _).mono ?_; rintro e w2 ⟨rfl, b1⟩; have B2 := Below.step B0 b1; clear b1)
    | (at_builtin; refine wpList_appW _ rfl _ _ 29 29 rfl w.heap.size 23 i0 _ 2 16 Try.underlying29 hi hz0 hz1 hz2 rfl (.slice none 0 0) 0 [] rfl (World.ownsRow_nil _ _ _ _) _ n _ rfl (SA _ B2) (by unfold maxLen; omega) (by omega) B2.size ?_; clear SA; intro v3 w3 o3 g3 m3; clear m3; rw [List.nil_append, Nat.zero_add] at o3; obtain ⟨ao3, l3, cp3, rfl⟩ := row_shape o3; have B3 : Below w.heap.size w w3 := B2.trans (below_grown g3 (World.ownsRow_nil _ _ 23 2) B2.size); clear g3)
    | (at_builtin; refine wpList_appW _ rfl _ _ 29 29 rfl w.heap.size 23 i0 _ 2 16 Try.underlying29 hi hz0 hz1 hz2 rfl (.slice ao3 l3 cp3) n _ rfl o3 _ m _ rfl (SB _ B3) (by unfold maxLen; omega) (by omega) B3.size ?_; clear SB; intro v4 w4 o4 g4 m4; clear m4; obtain ⟨ao4, l4, cp4, rfl⟩ := row_shape o4; have B4 : Below w.heap.size w w4 := B3.trans (below_grown g4 o3 B3.size); have O4 := both_own o4 hAl hBl; clear g4 o4 o3 B3)
    | (go_at_call 16; refine (N1 _ B4).mono ?_; clear N1; rintro e w5 ⟨v5, L5, rfl, t5, b5⟩; obtain ⟨ao5, l5, cp5, rfl⟩ := row_shape t5.own; have B5 := Below.step B4 b5; have O5 := O4.below b5; clear b5 O4 B4))
  have hL := t5.own.len
  have hI := t5.own.at
  have HT : Hid _ := t5
  have HLT : Hid _ := sum_lt t5.form t5.in64
  have hfew : l5 ≤ 2 * n := by have := t5.few; omega
  have HLl : Hid (l5 = L5.length) := hL
  clear t5 hL
  go_loopw [8, 9] (fun a c wr => ∃ (k : Nat), c = .int .i64 k ∧ k ≤ l5 ∧ a = .int .u64 (sumI (L5.take k)) ∧ Below w5.heap.size w5 wr) (fun _ c _ => l5 - (intOf c).toNat)
  case atStart => exact ⟨0, rfl, by omega, rfl, Below.refl _ _⟩
  case round =>
    obtain ⟨k, rfl, hk, rfl, hb⟩ := hrel
    have hsz := hb.size
    by_cases hlt : k < l5
    · have hz : (k : Int) < (l5 : Int) := by omega
      obtain ⟨b1, o1, had, hc1⟩ := (hI.below hb).lies (by omega)
      subst had
      have hkL : k < L5.length := by have := HLl.out; omega
      obtain ⟨c0, c1⟩ := hc1 k hkL
      have HS : Hid (sumI (L5.take (k + 1)) = _) := sum_step hkL
      have hin := HT.out.in64 L5[k] (List.getElem_mem hkL)
      have hup := sum_take_le L5 (k + 1)
      have h0 := sum_nonneg (L5.take k)
      rw [HS.out] at hup
      have hl0 := len_nonneg L5[k]
      generalize L5[k] = y at c0 c1 HS hin hup hl0
      have wr1 : IntKind.u64.wrap (sumI (L5.take k) + lenI y) = sumI (L5.take k) + lenI y := by
        have := HLT.out
        rw [IntKind.wrap_u64]; omega
      have LN := fun W => length_any y W hin
      obtain ⟨x1, x2⟩ := y
      simp only at c0 c1 LN
      generalize lenI (x1, x2) = ll at *
      generalize sumI (L5.take k) = ss at *
      clear hc1 hin hup h0 hl0
      go_wp2_with (go_at_call 12; refine (LN _).mono ?_; clear LN; rintro e w6 ⟨rfl, b6⟩)
      go_roundw
      case rel => exact ⟨k + 1, by go_num, by omega, by rw [HS.out], hb.trans (b6.mono hsz)⟩
      case measure => simp [intOf]; omega
    · have hz : ¬ (k : Int) < (l5 : Int) := by omega
      have hE : sumI (L5.take k) = mu N (memI A) := by
        rw [List.take_of_length_le (by have := HLl.out; omega), sum_is HN.out HT.out.form HT.out.in64]
        exact cntM_congr HT.out.mem _ _
      rw [hE]
      obtain ⟨hA, hB, iA, iB⟩ := HAB.out
      have h2 := mu_two N (memI A) (memI B)
      have h3 := mu_three N (memI A) (memI B)
      have h4 := mu_four N (memI A) (memI B)
      have rA := mu_rng HN.out (memI A)
      have rU := mu_rng HN.out (fun x => memI A x || memI B x)
      have B6 := Below.step B5 hb
      have O6 := O5.below hb
      have MA := fun W (b : Below w.heap.size w W) => meas_mu HN.out ad n ca A (memI A) W (hA.below b) (by omega) iA (fun _ => rfl)
      have MU := fun W (b : Below wr.heap.size wr W) => meas_mu HN.out ao4 l4 cp4 (A ++ B) (fun x => memI A x || memI B x) W (O6.below b).at (by have := O6.len; rw [List.length_append, hAl, hBl] at this; omega) HI.out (fun x => memI_append A B x)
      have P1 := fun W (b : Below w.heap.size w W) => meet_any ad bd n m ca cb A B W (hA.below b) (hB.below b) (by omega) iA iB
      have P2 := fun W (b : Below w.heap.size w W) => minus_any ad bd n m ca cb A B W (hA.below b) (hB.below b) (by omega) iA iB
      have P3 := fun W (b : Below w.heap.size w W) => minus_any bd ad m n cb ca B A W (hB.below b) (hA.below b) (by omega) iB iA
      have P4 := fun W (b : Below w.heap.size w W) => meet_any bd ad m n cb ca B A W (hB.below b) (hA.below b) (by omega) iB iA
      generalize eA : mu N (memI A) = mA at *
      generalize eM : mu N (fun x => memI A x && memI B x) = mM at *
      generalize eX : mu N (fun x => memI A x && !memI B x) = mX at *
      generalize eU : mu N (fun x => memI A x || memI B x) = mU at *
      generalize eY : mu N (fun x => memI B x && !memI A x) = mY at *
      have q2 : IntKind.u64.wrap (mM + mX) = mA := by rw [h2, IntKind.wrap_u64]; omega
      have q3 : IntKind.u64.wrap (mA + mY) = mU := by rw [← h3, IntKind.wrap_u64]; omega
      have T1 : ∀ {base : Nat} {ao : Option Addr} {l c : Nat} {L : List (Int × Int)} {W : World}, Tells base W (.slice ao l c) (fun x => memI A x && memI B x) (2 * (n + m)) L → Calls Try.prog 18 #[.slice ao l c] W fun e w' => e = .returned (.int .u64 mM) ∧ Below W.heap.size W w' := fun t => by have := meas_tells HN.out t (by omega); rw [eM] at this; exact this
      have T2 : ∀ {base : Nat} {ao : Option Addr} {l c : Nat} {L : List (Int × Int)} {W : World}, Tells base W (.slice ao l c) (fun x => memI A x && !memI B x) (2 * (n + m)) L → Calls Try.prog 18 #[.slice ao l c] W fun e w' => e = .returned (.int .u64 mX) ∧ Below W.heap.size W w' := fun t => by have := meas_tells HN.out t (by omega); rw [eX] at this; exact this
      have T3 : ∀ {base : Nat} {ao : Option Addr} {l c : Nat} {L : List (Int × Int)} {W : World}, Tells base W (.slice ao l c) (fun x => memI B x && !memI A x) (2 * (m + n)) L → Calls Try.prog 18 #[.slice ao l c] W fun e w' => e = .returned (.int .u64 mY) ∧ Below W.heap.size W w' := fun t => by have := meas_tells HN.out t (by omega); rw [eY] at this; exact this
      have T4 : ∀ {base : Nat} {ao : Option Addr} {l c : Nat} {L : List (Int × Int)} {W : World}, Tells base W (.slice ao l c) (fun x => memI B x && memI A x) (2 * (m + n)) L → Calls Try.prog 18 #[.slice ao l c] W fun e w' => e = .returned (.int .u64 mM) ∧ Below W.heap.size W w' := fun t => by have := meas_tells HN.out t (by omega); rw [← h4] at this; exact this
      clear h2 h3 h4 rA rU hA hB iA iB eA eM eX eU eY hE HAB HI O5 O6 HT HLT HLl hI hb
      have C0 : Below wr.heap.size wr wr := Below.refl _ _
      go_wp2_with (first
        | (go_at_call 18; (with_reducible refine (MA _ (by assumption)).mono ?_); rintro e w7 ⟨rfl, b7⟩; have B7 := Below.step (w := w) (by assumption) b7; have C7 := Below.step (w := wr) (by assumption) b7; clear b7)
        | (go_at_call 18; (with_reducible refine (MU _ (by assumption)).mono ?_); rintro e w7 ⟨rfl, b7⟩; have B7 := Below.step (w := w) (by assumption) b7; have C7 := Below.step (w := wr) (by assumption) b7; clear b7)
        | (go_at_call 20; (with_reducible refine (P1 _ (by assumption)).mono ?_); rintro e w8 ⟨v8, L8, rfl, t1, b8⟩; obtain ⟨ao8, l8, cp8, rfl⟩ := row_shape t1.own; have B8 := Below.step (w := w) (by assumption) b8; have C8 := Below.step (w := wr) (by assumption) b8; clear b8)
        | (go_at_call 20; (with_reducible refine (P4 _ (by assumption)).mono ?_); rintro e w8 ⟨v8, L8, rfl, t4, b8⟩; obtain ⟨ao8, l8, cp8, rfl⟩ := row_shape t4.own; have B8 := Below.step (w := w) (by assumption) b8; have C8 := Below.step (w := wr) (by assumption) b8; clear b8)
        | (go_at_call 22; (with_reducible refine (P2 _ (by assumption)).mono ?_); rintro e w8 ⟨v8, L8, rfl, t2, b8⟩; obtain ⟨ao8, l8, cp8, rfl⟩ := row_shape t2.own; have B8 := Below.step (w := w) (by assumption) b8; have C8 := Below.step (w := wr) (by assumption) b8; clear b8)
        | (go_at_call 22; (with_reducible refine (P3 _ (by assumption)).mono ?_); rintro e w8 ⟨v8, L8, rfl, t3, b8⟩; obtain ⟨ao8, l8, cp8, rfl⟩ := row_shape t3.own; have B8 := Below.step (w := w) (by assumption) b8; have C8 := Below.step (w := wr) (by assumption) b8; clear b8)
        | (go_at_call 18; (with_reducible refine (T1 t1).mono ?_); clear t1; rintro e w9 ⟨rfl, b9⟩; have B9 := Below.step (w := w) (by assumption) b9; have C9 := Below.step (w := wr) (by assumption) b9; clear b9)
        | (go_at_call 18; (with_reducible refine (T2 t2).mono ?_); clear t2; rintro e w9 ⟨rfl, b9⟩; have B9 := Below.step (w := w) (by assumption) b9; have C9 := Below.step (w := wr) (by assumption) b9; clear b9)
        | (go_at_call 18; (with_reducible refine (T3 t3).mono ?_); clear t3; rintro e w9 ⟨rfl, b9⟩; have B9 := Below.step (w := w) (by assumption) b9; have C9 := Below.step (w := wr) (by assumption) b9; clear b9)
        | (go_at_call 18; (with_reducible refine (T4 t4).mono ?_); clear t4; rintro e w9 ⟨rfl, b9⟩; have B9 := Below.step (w := w) (by assumption) b9; have C9 := Below.step (w := wr) (by assumption) b9; clear b9))
      go_ret
      exact ⟨rfl, by assumption⟩
theorem sums_any (ad bd : Option Addr) (n m ca cb : Nat) (A B : List (Int × Int)) (w : World) (hA : IvAt w ad n A) (hB : IvAt w bd m B) (hn : n ≤ 1048576) (hm : m ≤ 1048576) (iA : ∀ i ∈ A, In64 i) (iB : ∀ i ∈ B, In64 i) :
    Calls Try.prog 7 #[.slice ad n ca, .slice bd m cb] w fun e w' => e = .returned (.bool true) ∧ Below w.heap.size w w' := by
  obtain ⟨N, hN⟩ := big
  exact sums_walk N hN ad bd n m ca cb A B w hA hB hn hm iA iB
end Go.Proofs.Ytmpjoenjnpafcaa
