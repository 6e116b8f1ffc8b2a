/-
  Layer 13: SketchBars' walk.
-/
import Derived.Test.YtefnbljgfealbaaSkP
namespace Go.Proofs.Ytefnbljgfealbaa.sk
open Go.RowKit
set_option maxRecDepth 100000

/-- What pick tells. -/
def PickP (n : Nat) (w : World) (e : Ending) (w' : World) : Prop := ∃ k : Nat, k < n ∧ e = .returned (.int .i64 (k : Int)) ∧ w' = w
set_option maxHeartbeats 400000 in
theorem pick_any (c : Int) (n : Nat) (h1 : -9223372036854775808 ≤ c) (h2 : c ≤ 9223372036854775807) (hn : 0 < n) (w : World) :
    Calls Try.prog 17 #[.int .i64 c, .int .i64 (n : Int)] w (PickP n w) := by
  have hn1 : (0 : Int) < (n : Int) := by omega
  have hn2 : ((n : Int) == 0) = false := by
    have : ¬ (n : Int) = 0 := by omega
    simpa using this
  by_cases hc : c < 0
  · have e := Int.emod_nonneg (-(c + 1)) (show (n : Int) ≠ 0 by omega)
    have e' := Int.emod_lt_of_pos (-(c + 1)) hn1
    have eq : -((c + 1).tmod (n : Int)) = (-(c + 1)) % (n : Int) := by rw [← Int.neg_tmod, Int.tmod_eq_emod_of_nonneg (by omega)]
    have HE : Hid (PickP n w (.returned (.int .i64 (-((c + 1).tmod (n : Int))))) w) := ⟨((-(c + 1)) % (n : Int)).toNat, by omega, by rw [eq, Int.toNat_of_nonneg e], rfl⟩
    clear eq
    clear e e'
    generalize (n : Int) = N at *
    go_enter Try.func17, Try.ntmps17
    go_wp2
    go_ret
    exact HE.out
  · have e := Int.emod_nonneg c (show (n : Int) ≠ 0 by omega)
    have e' := Int.emod_lt_of_pos c hn1
    have HE : Hid (PickP n w (.returned (.int .i64 (c % (n : Int)))) w) := ⟨(c % (n : Int)).toNat, by omega, by rw [Int.toNat_of_nonneg e], rfl⟩
    clear e e'
    generalize (n : Int) = N at *
    go_enter Try.func17, Try.ntmps17
    go_wp2
    go_ret
    exact HE.out
def SpanP (a b : Int) (w : World) (e : Ending) (w' : World) : Prop := e = .returned (.tuple #[.int .u64 a, .int .u64 b, .int .i64 0]) ∧ ∃ n, w' = w.drewN n
theorem below_drewN {B : Nat} {w w1 : World} (h : Below B w w1) (hB : B ≤ w1.heap.size) (n : Nat) : Below B w (w1.drewN n) := h.trans (((Upd.refl (fun _ => False) w1).drewN n).below (B := B) hB (fun _ _ h => h))
set_option maxHeartbeats 2000000 in
theorem sketchBars_any (v : Nat) (raw : Int) (hv : v < 18446744073709551616) (r1 : -9223372036854775808 ≤ raw) (r2 : raw ≤ 9223372036854775807) (w : World) :
    Calls Try.prog 5 #[.int .u64 (v : Int), .int .i64 raw] w fun e w' => e = .returned (.bool true) ∧ Below w.heap.size w w' := by
  have AW := awake_any w
  have IX := skIndex v hv
  have hI := idxN_lt hv
  have SP : ∀ W, Calls Try.prog 16 #[.int .i64 (idxN v : Int)] W (SpanP (loN (idxN v)) (hiN (idxN v)) W) := fun W => skSpan _ W hI
  obtain ⟨s1, s2⟩ := idx_span v
  have hl := lo_le_hi (idxN v)
  have hh := hi_lt hI
  have IL := skIndex (loN (idxN v)) (by omega)
  have IU := skIndex (hiN (idxN v)) hh
  rw [idx_of (Nat.le_refl _) hl] at IL
  rw [idx_of hl (Nat.le_refl _)] at IU
  have PK : ∀ W, Calls Try.prog 17 #[.int .i64 raw, .int .i64 1919] W (PickP 1919 W) := fun W => pick_any raw 1919 r1 r2 (by omega) W
  have SL : ∀ W, Calls Try.prog 16 #[.int .i64 1919] W (SpanP (loN 1919) 18446744073709551615 W) := fun W => by
    have := skSpan 1919 W (by omega)
    rw [hi_last] at this
    exact this
  have SF : ∀ W, Calls Try.prog 16 #[.int .i64 0] W (SpanP 0 (hiN 0) W) := fun W => by
    have := skSpan 0 W (by omega)
    rw [lo_first] at this
    exact this
  have hsm : v < 64 → idxN v = v ∧ loN (idxN v) = v ∧ hiN (idxN v) = v := fun h => by
    obtain ⟨a, b, c⟩ := idx_small h
    rw [a]; exact ⟨rfl, b, c⟩
  have hwd : 64 ≤ v → hiN (idxN v) - loN (idxN v) ≤ loN (idxN v) / 32 := fun h => wide_of (idx_ge h)
  generalize idxN v = I at *
  have i1 : (0 : Int) ≤ (I : Int) := by omega
  have i2 : (I : Int) < 1920 := by omega
  have l1 : (loN I : Int) ≤ (v : Int) := by omega
  have l2 : (v : Int) ≤ (hiN I : Int) := by omega
  have l0 : (0 : Int) ≤ (loN I : Int) := by omega
  have l3 : (hiN I : Int) < 18446744073709551616 := by omega
  have SK : ∀ k : Nat, k < 1919 → ∃ a b c d : Int, (∀ W, Calls Try.prog 16 #[.int .i64 (k : Int)] W (SpanP a b W)) ∧ (∀ W, Calls Try.prog 16 #[.int .i64 ((k : Int) + 1)] W (SpanP c d W)) ∧ c = b + 1 ∧ c ≤ d ∧ 0 ≤ b ∧ d ≤ 18446744073709551615 := fun k hk => by
    refine ⟨loN k, hiN k, loN (k + 1), hiN (k + 1), fun W => skSpan k W (by omega), fun W => skSpan (k + 1) W (by omega), ?_, ?_, by omega, ?_⟩
    · have := lo_next k; omega
    · have := lo_le_hi (k + 1); omega
    · have := hi_lt (i := k + 1) (by omega); omega
  have HSK : Hid _ := SK
  clear SK
  have fin : ∀ k : Nat, k < 1919 → True := fun _ _ => trivial
  clear fin
  by_cases h64 : v < 64
  · obtain ⟨e1, e2, e3⟩ := hsm h64
    have h64' : (v : Int) < 64 := by omega
    rw [e2] at SP IL
    rw [e3] at SP IU
    subst e1
    clear hsm hwd e2 e3 s1 s2 hl hh l1 l2 l0 l3 h64 hI hv
    generalize (I : Int) = V at *
    generalize ((loN 1919 : Nat) : Int) = L9 at SL
    generalize ((hiN 0 : Nat) : Int) = H0 at SF
    go_enter Try.func5, Try.ntmps5
    go_wp2_with (first
      | (go_at_call 9; (with_reducible refine AW.mono ?_); clear AW; rintro e w1 ⟨rfl, b1⟩; have HB : Hid _ := b1; clear b1)
      | (go_at_call 15; (with_reducible refine (IX _).mono ?_); rintro e w' ⟨rfl, hw⟩; obtain rfl := hw.symm)
      | (go_at_call 16; (with_reducible refine (SP _).mono ?_); clear SP; rintro e w' ⟨rfl, n2, hw⟩; have HB2 : Hid _ := below_drewN HB.out HB.out.size n2; rw [← hw] at HB2; clear hw HB; have HB := HB2; clear HB2)
      | (go_at_call 17; (with_reducible refine (PK _).mono ?_); clear PK; rintro e w' ⟨k, hk, rfl, hw⟩; obtain rfl := hw.symm; obtain ⟨a, b, c, d, S1, S2, e1, e2, e3, e4⟩ := HSK.out k hk; subst e1; have hk' : (k : Int) < 1919 := by omega)
      | (go_at_call 16; (with_reducible refine (S1 _).mono ?_); clear S1; rintro e w' ⟨rfl, n2, hw⟩; have HB2 : Hid _ := below_drewN HB.out HB.out.size n2; rw [← hw] at HB2; clear hw HB; have HB := HB2; clear HB2)
      | (go_at_call 16; (with_reducible refine (S2 _).mono ?_); clear S2; rintro e w' ⟨rfl, n2, hw⟩; have HB2 : Hid _ := below_drewN HB.out HB.out.size n2; rw [← hw] at HB2; clear hw HB; have HB := HB2; clear HB2)
      | (go_at_call 16; (with_reducible refine (SL _).mono ?_); clear SL; rintro e w' ⟨rfl, n2, hw⟩; have HB2 : Hid _ := below_drewN HB.out HB.out.size n2; rw [← hw] at HB2; clear hw HB; have HB := HB2; clear HB2)
      | (go_at_call 16; (with_reducible refine (SF _).mono ?_); clear SF; rintro e w' ⟨rfl, n2, hw⟩; have HB2 : Hid _ := below_drewN HB.out HB.out.size n2; rw [← hw] at HB2; clear hw HB; have HB := HB2; clear HB2))
    go_ret
    exact ⟨rfl, HB.out⟩
  · have h64' : ¬ (v : Int) < 64 := by omega
    have hw := hwd (by omega)
    have hw' : (hiN I : Int) - (loN I : Int) ≤ (loN I : Int) / 32 := by omega
    clear hsm hwd s1 s2 hl hh h64 hI hv hw
    generalize (I : Int) = J at *
    generalize (v : Int) = V at *
    generalize ((loN I : Nat) : Int) = L at *
    generalize ((hiN I : Nat) : Int) = U at *
    generalize ((loN 1919 : Nat) : Int) = L9 at SL
    generalize ((hiN 0 : Nat) : Int) = H0 at SF
    go_enter Try.func5, Try.ntmps5
    go_wp2_with (first
      | (go_at_call 9; (with_reducible refine AW.mono ?_); clear AW; rintro e w1 ⟨rfl, b1⟩; have HB : Hid _ := b1; clear b1)
      | (go_at_call 15; (with_reducible refine (IX _).mono ?_); rintro e w' ⟨rfl, hw⟩; obtain rfl := hw.symm)
      | (go_at_call 15; (with_reducible refine (IL _).mono ?_); rintro e w' ⟨rfl, hw⟩; obtain rfl := hw.symm)
      | (go_at_call 15; (with_reducible refine (IU _).mono ?_); rintro e w' ⟨rfl, hw⟩; obtain rfl := hw.symm)
      | (go_at_call 16; (with_reducible refine (SP _).mono ?_); clear SP; rintro e w' ⟨rfl, n2, hw⟩; have HB2 : Hid _ := below_drewN HB.out HB.out.size n2; rw [← hw] at HB2; clear hw HB; have HB := HB2; clear HB2)
      | (go_at_call 17; (with_reducible refine (PK _).mono ?_); clear PK; rintro e w' ⟨k, hk, rfl, hw⟩; obtain rfl := hw.symm; obtain ⟨a, b, c, d, S1, S2, e1, e2, e3, e4⟩ := HSK.out k hk; subst e1; have hk' : (k : Int) < 1919 := by omega)
      | (go_at_call 16; (with_reducible refine (S1 _).mono ?_); clear S1; rintro e w' ⟨rfl, n2, hw⟩; have HB2 : Hid _ := below_drewN HB.out HB.out.size n2; rw [← hw] at HB2; clear hw HB; have HB := HB2; clear HB2)
      | (go_at_call 16; (with_reducible refine (S2 _).mono ?_); clear S2; rintro e w' ⟨rfl, n2, hw⟩; have HB2 : Hid _ := below_drewN HB.out HB.out.size n2; rw [← hw] at HB2; clear hw HB; have HB := HB2; clear HB2)
      | (go_at_call 16; (with_reducible refine (SL _).mono ?_); clear SL; rintro e w' ⟨rfl, n2, hw⟩; have HB2 : Hid _ := below_drewN HB.out HB.out.size n2; rw [← hw] at HB2; clear hw HB; have HB := HB2; clear HB2)
      | (go_at_call 16; (with_reducible refine (SF _).mono ?_); clear SF; rintro e w' ⟨rfl, n2, hw⟩; have HB2 : Hid _ := below_drewN HB.out HB.out.size n2; rw [← hw] at HB2; clear hw HB; have HB := HB2; clear HB2))
    go_ret
    exact ⟨rfl, HB.out⟩
end Go.Proofs.Ytefnbljgfealbaa.sk
