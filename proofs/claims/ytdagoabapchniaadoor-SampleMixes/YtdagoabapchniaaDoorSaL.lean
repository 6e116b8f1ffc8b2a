/-
  Layer 21 (sample): SampleNames and SampleOnto, walked.
-/
import Derived.Test.YtdagoabapchniaaDoorSaK
namespace Go.Proofs.YtdagoabapchniaaDoor
open Go Go.RowKit
set_option maxRecDepth 100000

theorem mix00 : bvI (mixB 0#64 0#64) = 0 := by decide +kernel
theorem bv0 : bvI 0#64 = 0 := by decide +kernel
theorem mix0_any (w : World) : Calls Tryd.prog 7 #[.agg #[.int .u64 0, .int .u64 0]] w fun e w' => e = .returned (.int .u64 0) ∧ Below w.heap.size w w' := by
  have h := mix_any 0#64 0#64 w
  rw [mix00, bv0] at h
  exact h
set_option maxHeartbeats 2000000 in
theorem sampleNames_any (w : World) (hT : Tabs w) :
    Calls Tryd.prog 3 #[] w fun e w' => e = .returned (.bool true) ∧ Below w.heap.size w w' := by
  have AL := aliveP_any w hT
  clear hT
  go_enter Tryd.func3, Tryd.ntmps3
  go_wp2_with (first
    | (go_at_call 6; (with_reducible refine AL.mono ?_); clear AL; rintro e w1 ⟨rfl, hb1⟩; have MX := mix0_any w1)
    | (go_at_call 7; (with_reducible refine MX.mono ?_); clear MX; rintro e w2 ⟨rfl, hb2⟩))
  go_ret
  exact ⟨rfl, hb1.trans (hb2.mono hb1.size)⟩
set_option maxHeartbeats 4000000 in
theorem sampleOnto_any (mix lo hi : Int) (hm : 0 ≤ mix ∧ mix < 18446744073709551616) (hl : 0 ≤ lo ∧ lo < 18446744073709551616) (hh : 0 ≤ hi ∧ hi < 18446744073709551616) (w : World) (hT : Tabs w) :
    Calls Tryd.prog 5 #[.int .u64 mix, .int .u64 lo, .int .u64 hi] w fun e w' => e = .returned (.bool true) ∧ Below w.heap.size w w' := by
  obtain ⟨m, rfl⟩ : ∃ m, mix = bvI m := ⟨_, (bvI_of mix hm.1 hm.2).symm⟩
  obtain ⟨l, rfl⟩ : ∃ l, lo = bvI l := ⟨_, (bvI_of lo hl.1 hl.2).symm⟩
  obtain ⟨h, rfl⟩ : ∃ h, hi = bvI h := ⟨_, (bvI_of hi hh.1 hh.2).symm⟩
  have AL := aliveP_any w hT
  clear hT hm hl hh
  go_enter Tryd.func5, Tryd.ntmps5
  go_wp2_with (first
    | (go_at_call 6; (with_reducible refine AL.mono ?_); clear AL; rintro e w1 ⟨rfl, hb1⟩; have NM := named_any m l w1)
    | (go_at_call 11; (with_reducible refine NM.mono ?_); clear NM; rintro e w2 ⟨rfl, hb2⟩))
  have MT : ∀ W, Calls Tryd.prog 7 #[.agg #[.int .u64 (bvI (unblend m - blend l)), .int .u64 (bvI l)]] W fun e w' => e = .returned (.int .u64 (bvI m)) ∧ Below W.heap.size W w' := fun W => by
    have h := mix_any (unblend m - blend l) l W
    rwa [mix_named] at h
  have MU : ∀ W, Calls Tryd.prog 7 #[.agg #[.int .u64 (bvI h), .int .u64 (bvI l)]] W fun e w' => e = .returned (.int .u64 (bvI (mixB h l))) ∧ Below W.heap.size W w' := fun W => mix_any h l W
  have QE : (h = unblend m - blend l ∧ bvI h = bvI (unblend m - blend l) ∧ bvI (mixB h l) = bvI m) ∨ (bvI h ≠ bvI (unblend m - blend l) ∧ bvI (mixB h l) ≠ bvI m) := by
    by_cases e : h = unblend m - blend l
    · exact Or.inl ⟨e, by rw [e], by rw [(mix_iff m l h).2 e]⟩
    · exact Or.inr ⟨fun e2 => e (bvI_inj e2), fun e2 => e ((mix_iff m l h).1 (bvI_inj e2))⟩
  have HB2 : Hid (Below w.heap.size w w2) := hb1.trans (hb2.mono hb1.size)
  clear hb1 hb2
  generalize bvI (unblend m - blend l) = z at *
  generalize bvI (mixB h l) = k at *
  generalize bvI m = mm at *
  generalize bvI l = y at *
  generalize bvI h = x at *
  obtain ⟨w4, hw4⟩ : ∃ w4, (w2.alloc (.cells #[.int .u64 z, .int .u64 y] 26)).alloc (.cells #[.int .u64 x, .int .u64 y] 26) = w4 := ⟨_, rfl⟩
  have H4 : Hid (Below w.heap.size w w4) := by rw [← hw4]; exact belowAllocs HB2.out HB2.out.size _ _
  have KB : ∀ W, Below w4.heap.size w4 W → W.cell? ⟨w2.heap.size, 0, none⟩ = some (.int .u64 z) ∧ W.cell? ⟨w2.heap.size, 1, none⟩ = some (.int .u64 y) ∧ W.cell? ⟨w2.heap.size + 1, 0, none⟩ = some (.int .u64 x) ∧ W.cell? ⟨w2.heap.size + 1, 1, none⟩ = some (.int .u64 y) := fun W hW => by
    subst hw4
    have k1 : Blk ((w2.alloc (.cells #[.int .u64 z, .int .u64 y] 26)).alloc (.cells #[.int .u64 x, .int .u64 y] 26)) w2.heap.size #[.int .u64 z, .int .u64 y] 26 := (Blk.new _ _ _).alloc _
    have k2 : Blk ((w2.alloc (.cells #[.int .u64 z, .int .u64 y] 26)).alloc (.cells #[.int .u64 x, .int .u64 y] 26)) (w2.heap.size + 1) #[.int .u64 x, .int .u64 y] 26 := Blk.new2 _ _ _ _
    have k1 := k1.below hW k1.lt
    have k2 := k2.below hW k2.lt
    exact ⟨k1.cell 0 rfl, k1.cell 1 rfl, k2.cell 0 rfl, k2.cell 1 rfl⟩
  rw [hw4]
  have B0 : Below w4.heap.size w4 w4.drew := (Below.refl _ _).drew
  have M1 := MT w4.drew
  have hg := guard_trace
  have em : (mm == mm) = true := by simp
  have HMU : Hid (∀ W, Calls Tryd.prog 7 #[.agg #[.int .u64 x, .int .u64 y]] W fun e w' => e = .returned (.int .u64 k) ∧ Below W.heap.size W w') := MU
  clear hw4 MT MU HB2
  rcases QE with ⟨-, rfl, rfl⟩ | ⟨e1, e2⟩
  · have hq : ∀ W, (binOp .eql 26 (.agg #[.int .u64 x, .int .u64 y]) (.agg #[.int .u64 x, .int .u64 y])).run Tryd.prog W = .ok (.bool true) W := fun W => by
      have h := run_eql_of (eqI_trace 9998 x y x y W)
      simpa using h
    go_region_held3 (fun W => W.cell? ⟨w2.heap.size, 0, none⟩ = some (.int .u64 x) ∧ W.cell? ⟨w2.heap.size, 1, none⟩ = some (.int .u64 y) ∧ W.cell? ⟨w2.heap.size + 1, 0, none⟩ = some (.int .u64 x) ∧ W.cell? ⟨w2.heap.size + 1, 1, none⟩ = some (.int .u64 y)) (first | exact KB _ B0 | exact KB _ B1 | exact KB _ B2) (first
      | (go_at_call 7; (with_reducible refine M1.mono ?_); clear M1; rintro e w5 ⟨rfl, hb5⟩; have B1 : Below w4.heap.size w4 w5 := B0.trans (hb5.mono B0.size); have M2 := HMU.out w5; clear hb5)
      | (go_at_call 7; (with_reducible refine M2.mono ?_); clear M2; rintro e w6 ⟨rfl, hb6⟩; have B2 : Below w4.heap.size w4 w6 := B1.trans (hb6.mono B1.size); clear hb6))
    all_goals go_wp2
    all_goals go_ret
    all_goals exact ⟨rfl, H4.out.trans (B2.mono H4.out.size)⟩
  · have hq : ∀ W, (binOp .eql 26 (.agg #[.int .u64 x, .int .u64 y]) (.agg #[.int .u64 z, .int .u64 y])).run Tryd.prog W = .ok (.bool false) W := fun W => by
      have h := run_eql_of (eqI_trace 9998 x y z y W)
      simpa [e1] using h
    have ek : (k == mm) = false := by simp [e2]
    go_region_held3 (fun W => W.cell? ⟨w2.heap.size, 0, none⟩ = some (.int .u64 z) ∧ W.cell? ⟨w2.heap.size, 1, none⟩ = some (.int .u64 y) ∧ W.cell? ⟨w2.heap.size + 1, 0, none⟩ = some (.int .u64 x) ∧ W.cell? ⟨w2.heap.size + 1, 1, none⟩ = some (.int .u64 y)) (first | exact KB _ B0 | exact KB _ B1 | exact KB _ B2) (first
      | (go_at_call 7; (with_reducible refine M1.mono ?_); clear M1; rintro e w5 ⟨rfl, hb5⟩; have B1 : Below w4.heap.size w4 w5 := B0.trans (hb5.mono B0.size); have M2 := HMU.out w5; clear hb5)
      | (go_at_call 7; (with_reducible refine M2.mono ?_); clear M2; rintro e w6 ⟨rfl, hb6⟩; have B2 : Below w4.heap.size w4 w6 := B1.trans (hb6.mono B1.size); clear hb6))
    all_goals go_wp2
    all_goals go_ret
    all_goals exact ⟨rfl, H4.out.trans (B2.mono H4.out.size)⟩
end Go.Proofs.YtdagoabapchniaaDoor
