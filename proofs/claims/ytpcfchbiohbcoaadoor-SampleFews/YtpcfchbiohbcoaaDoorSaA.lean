/-
  SaA.
-/
import Derived.Test.YtpcfchbiohbcoaaDoorSaM
import Derived.Deep.RegionHeld3
import Derived.Deep.Cut
import Derived.Test.YtpcfchbiohbcoaaDoorFA
import Derived.Test.YtpcfchbiohbcoaaDoorWy
import Derived.Test.YtpcfchbiohbcoaaDoorProg
namespace Go.Proofs.YtpcfchbiohbcoaaDoor
open Go Go.RowKit
set_option maxRecDepth 100000

theorem fac1I : bvI fac1 = 11400714819323198485 := by decide +kernel
theorem fac2I : bvI fac2 = 7640891576956012809 := by decide +kernel
theorem bvI_shr31 (a : BitVec 64) : bvI a / (2147483648 : Int) = bvI (a >>> 31) := bvI_shr a 31
theorem bvI_shr29 (a : BitVec 64) : bvI a / (536870912 : Int) = bvI (a >>> 29) := bvI_shr a 29
theorem bvI_shr32 (a : BitVec 64) : bvI a / (4294967296 : Int) = bvI (a >>> 32) := bvI_shr a 32
theorem bvI_mul1 (a : BitVec 64) : IntKind.u64.wrap (bvI a * (11400714819323198485 : Int)) = bvI (a * fac1) := by rw [← fac1I, bvI_mul]
theorem bvI_mul2 (a : BitVec 64) : IntKind.u64.wrap (bvI a * (7640891576956012809 : Int)) = bvI (a * fac2) := by rw [← fac2I, bvI_mul]
theorem blend_any (v : BitVec 64) (w : World) :
    Calls Tryd.prog 37 #[.int .u64 (bvI v)] w fun e w' => e = .returned (.int .u64 (bvI (blend v))) ∧ Below w.heap.size w w' := by
  have B0 : Hid (Below w.heap.size w w) := Below.refl _ _
  go_enter Tryd.func37, Tryd.ntmps37
  go_wp2
  go_ret
  refine ⟨congrArg (fun z => Ending.returned (.int .u64 z)) (?_ : _ = bvI (blend v)), B0.out⟩
  rw [bvI_shr31, bvI_xor, bvI_mul1, bvI_shr29, bvI_xor, bvI_mul2, bvI_shr32, bvI_xor]
  rfl
theorem rBlend_any (v : BitVec 64) (w : World) :
    Calls Tryd.prog 34 #[.int .u64 (bvI v)] w fun e w' => e = .returned (.int .u64 (bvI (blend v))) ∧ Below w.heap.size w w' := by
  have B0 : Hid (Below w.heap.size w w) := Below.refl _ _
  go_enter Tryd.func34, Tryd.ntmps34
  go_wp2
  go_ret
  refine ⟨congrArg (fun z => Ending.returned (.int .u64 z)) (?_ : _ = bvI (blend v)), B0.out⟩
  rw [bvI_shr31, bvI_xor, bvI_mul1, bvI_shr29, bvI_xor, bvI_mul2, bvI_shr32, bvI_xor]
  rfl
set_option maxHeartbeats 1000000 in
theorem mix_any (hi lo : BitVec 64) (w : World) :
    Calls Tryd.prog 22 #[.agg #[.int .u64 (bvI hi), .int .u64 (bvI lo)]] w fun e w' => e = .returned (.int .u64 (bvI (mixB hi lo))) ∧ Below w.heap.size w w' := by
  have BB : Hid (∀ o, Below w.heap.size w (w.alloc o)) := fun o => (Below.refl _ _).alloc (Nat.le_refl _) _
  go_enter Tryd.func22, Tryd.ntmps22
  go_upto_region 1 with fail
  obtain ⟨w0, hw0⟩ : ∃ w0, w.alloc (.cells #[.int .u64 (bvI hi), .int .u64 (bvI lo)] 33) = w0 := ⟨_, rfl⟩
  have H0 : Hid (Below w.heap.size w w0) := by rw [← hw0]; exact BB.out _
  have KB : ∀ W, Below w0.heap.size w0 W → W.cell? ⟨w.heap.size, 0, none⟩ = some (.int .u64 (bvI hi)) ∧ W.cell? ⟨w.heap.size, 1, none⟩ = some (.int .u64 (bvI lo)) := fun W hb => by
    subst hw0
    have h0 : ∀ j, W.cell? ⟨w.heap.size, j, none⟩ = _ := fun j => hb.cell (p := ⟨w.heap.size, j, none⟩) (by rw [World.size_alloc]; show w.heap.size < w.heap.size + 1; omega)
    simp only [h0]
    simp [go_sem]
  rw [hw0]
  have B0 : Below w0.heap.size w0 w0.drew := (Below.refl _ _).drew
  have BL := blend_any lo w0.drew
  have BH : Hid _ := blend_any (hi + blend lo)
  clear BB hw0
  go_region_held3 (fun W => W.cell? ⟨w.heap.size, 0, none⟩ = some (.int .u64 (bvI hi)) ∧ W.cell? ⟨w.heap.size, 1, none⟩ = some (.int .u64 (bvI lo))) (first | exact KB _ B0 | exact KB _ B1 | exact KB _ B2) (first
    | (go_at_call 37; (with_reducible refine BL.mono ?_); clear BL; rintro e w1 ⟨rfl, hb1⟩; have B1 : Below w0.heap.size w0 w1 := B0.trans (hb1.mono B0.size); have BL2 := BH.out w1; clear hb1)
    | (go_at_call 37; rw [bvI_add]; (with_reducible refine BL2.mono ?_); clear BL2; rintro e w2 ⟨rfl, hb2⟩; have B2 : Below w0.heap.size w0 w2 := B1.trans (hb2.mono B1.size); clear hb2))
  go_wp2
  go_ret
  exact ⟨rfl, H0.out.trans (B2.mono H0.out.size)⟩
set_option maxHeartbeats 1000000 in
theorem rMix_any (hi lo : BitVec 64) (w : World) :
    Calls Tryd.prog 24 #[.agg #[.int .u64 (bvI hi), .int .u64 (bvI lo)]] w fun e w' => e = .returned (.int .u64 (bvI (mixB hi lo))) ∧ Below w.heap.size w w' := by
  have BB : Hid (∀ o, Below w.heap.size w (w.alloc o)) := fun o => (Below.refl _ _).alloc (Nat.le_refl _) _
  go_enter Tryd.func24, Tryd.ntmps24
  go_upto_region 1 with fail
  obtain ⟨w0, hw0⟩ : ∃ w0, w.alloc (.cells #[.int .u64 (bvI hi), .int .u64 (bvI lo)] 33) = w0 := ⟨_, rfl⟩
  have H0 : Hid (Below w.heap.size w w0) := by rw [← hw0]; exact BB.out _
  have KB : ∀ W, Below w0.heap.size w0 W → W.cell? ⟨w.heap.size, 0, none⟩ = some (.int .u64 (bvI hi)) ∧ W.cell? ⟨w.heap.size, 1, none⟩ = some (.int .u64 (bvI lo)) := fun W hb => by
    subst hw0
    have h0 : ∀ j, W.cell? ⟨w.heap.size, j, none⟩ = _ := fun j => hb.cell (p := ⟨w.heap.size, j, none⟩) (by rw [World.size_alloc]; show w.heap.size < w.heap.size + 1; omega)
    simp only [h0]
    simp [go_sem]
  rw [hw0]
  have B0 : Below w0.heap.size w0 w0.drew := (Below.refl _ _).drew
  have BL := rBlend_any lo w0.drew
  have BH : Hid _ := rBlend_any (hi + blend lo)
  clear BB hw0
  go_region_held3 (fun W => W.cell? ⟨w.heap.size, 0, none⟩ = some (.int .u64 (bvI hi)) ∧ W.cell? ⟨w.heap.size, 1, none⟩ = some (.int .u64 (bvI lo))) (first | exact KB _ B0 | exact KB _ B1 | exact KB _ B2) (first
    | (go_at_call 34; (with_reducible refine BL.mono ?_); clear BL; rintro e w1 ⟨rfl, hb1⟩; have B1 : Below w0.heap.size w0 w1 := B0.trans (hb1.mono B0.size); have BL2 := BH.out w1; clear hb1)
    | (go_at_call 34; rw [bvI_add]; (with_reducible refine BL2.mono ?_); clear BL2; rintro e w2 ⟨rfl, hb2⟩; have B2 : Below w0.heap.size w0 w2 := B1.trans (hb2.mono B1.size); clear hb2))
  go_wp2
  go_ret
  exact ⟨rfl, H0.out.trans (B2.mono H0.out.size)⟩
theorem unshift_any (v : BitVec 64) (s : Nat) (hs : s ≤ 63) (si : Int) (hsi : si = s) (w : World) :
    Calls Tryd.prog 51 #[.int .u64 (bvI v), .int .i64 si] w fun e w' => e = .returned (.int .u64 (bvI (unS v s 8))) ∧ Below w.heap.size w w' := by
  have B0 : Hid (Below w.heap.size w w) := Below.refl _ _
  subst hsi
  have hm : min ((s : Int).toNat) 64 = s := by omega
  go_enter Tryd.func51, Tryd.ntmps51
  go_wp2
  go_loopw [5, 6] (fun x y wr => ∃ i : Nat, y = .int .i64 i ∧ x = .int .u64 (bvI (unS v s i)) ∧ i ≤ 8 ∧ wr = w) (fun _ y _ => 8 - (intOf y).toNat)
  case atStart => exact ⟨0, rfl, rfl, by omega, rfl⟩
  case round =>
    obtain ⟨i, rfl, rfl, hi, rfl⟩ := hrel
    by_cases h8 : i < 8
    · have hlt : (i : Int) < 8 := by omega
      go_wp2
      go_roundw
      case rel =>
        refine ⟨i + 1, by go_num, ?_, by omega, ?_⟩
        · rw [bvI_shr, bvI_xor]; rfl
        · trivial
      case measure => (simp [intOf]; omega)
    · obtain rfl : i = 8 := by omega
      go_wp2
      go_ret
      exact ⟨rfl, B0.out⟩
theorem two64 : bvI 2#64 = 2 := by decide +kernel
theorem inverse_any (v : BitVec 64) (w : World) :
    Calls Tryd.prog 52 #[.int .u64 (bvI v)] w fun e w' => e = .returned (.int .u64 (bvI (invN v 6))) ∧ Below w.heap.size w w' := by
  have B0 : Hid (Below w.heap.size w w) := Below.refl _ _
  go_enter Tryd.func52, Tryd.ntmps52
  go_wp2
  go_loopw [3, 4] (fun x y wr => ∃ i : Nat, y = .int .i64 i ∧ x = .int .u64 (bvI (invN v i)) ∧ i ≤ 6 ∧ wr = w) (fun _ y _ => 6 - (intOf y).toNat)
  case atStart => exact ⟨0, rfl, rfl, by omega, rfl⟩
  case round =>
    obtain ⟨i, rfl, rfl, hi, rfl⟩ := hrel
    by_cases h8 : i < 6
    · have hlt : (i : Int) < 6 := by omega
      go_wp2
      go_roundw
      case rel =>
        refine ⟨i + 1, by go_num, ?_, by omega, ?_⟩
        · rw [bvI_mul, ← two64, bvI_sub, bvI_mul]; rfl
        · trivial
      case measure => (simp [intOf]; omega)
    · obtain rfl : i = 6 := by omega
      go_wp2
      go_ret
      exact ⟨rfl, B0.out⟩
set_option maxHeartbeats 1000000 in
theorem unblend_any (v : BitVec 64) (w : World) :
    Calls Tryd.prog 33 #[.int .u64 (bvI v)] w fun e w' => e = .returned (.int .u64 (bvI (unblend v))) ∧ Below w.heap.size w w' := by
  have S1 := unshift_any v 32 (by omega) 32 rfl w
  have I1 := fun W => inverse_any fac1 W
  have I2 := fun W => inverse_any fac2 W
  rw [fac1I] at I1
  rw [fac2I] at I2
  go_enter Tryd.func33, Tryd.ntmps33
  go_wp2_with (first
    | (go_at_call 51; (with_reducible refine S1.mono ?_); clear S1; rintro e w1 ⟨rfl, hb1⟩; have J2 := I2 w1; clear I2)
    | (go_at_call 52; (with_reducible refine J2.mono ?_); clear J2; rintro e w2 ⟨rfl, hb2⟩; have HB2 : Hid (Below w.heap.size w w2) := hb1.trans (hb2.mono hb1.size); have S2 := unshift_any (unS v 32 8 * invN fac2 6) 29 (by omega) 29 rfl w2; clear hb1 hb2)
    | (go_at_call 51; rw [bvI_mul]; (with_reducible refine S2.mono ?_); clear S2; rintro e w3 ⟨rfl, hb3⟩; have J1 := I1 w3; clear I1)
    | (go_at_call 52; (with_reducible refine J1.mono ?_); clear J1; rintro e w4 ⟨rfl, hb4⟩; have HB4 : Hid (Below w.heap.size w w4) := (HB2.out.trans (hb3.mono HB2.out.size)).trans (hb4.mono (Nat.le_trans HB2.out.size hb3.size)); have S3 := unshift_any (unS (unS v 32 8 * invN fac2 6) 29 8 * invN fac1 6) 31 (by omega) 31 rfl w4; clear hb3 hb4)
    | (go_at_call 51; rw [bvI_mul]; (with_reducible refine S3.mono ?_); clear S3; rintro e w5 ⟨rfl, hb5⟩))
  go_ret
  exact ⟨rfl, HB4.out.trans (hb5.mono HB4.out.size)⟩
theorem trSize : (Tryd.prog.info? 33).map (·.size) = some 2 := by kernel_rfl
set_option maxHeartbeats 1000000 in
theorem named_any (mix lo : BitVec 64) (w : World) :
    Calls Tryd.prog 16 #[.int .u64 (bvI mix), .int .u64 (bvI lo)] w fun e w' => e = .returned (.agg #[.int .u64 (bvI (unblend mix - blend lo)), .int .u64 (bvI lo)]) ∧ Below w.heap.size w w' := by
  have U1 := unblend_any mix (w.alloc (.cells #[.int .u64 0, .int .u64 0] 33))
  have BL := rBlend_any lo
  have K1 : Blk (w.alloc (.cells #[.int .u64 0, .int .u64 0] 33)) w.heap.size #[.int .u64 0, .int .u64 0] 33 := Blk.new _ _ _
  have hl : w.heap.size < (w.alloc (.cells #[.int .u64 0, .int .u64 0] 33)).heap.size := by rw [World.size_alloc]; omega
  have B1 : Below w.heap.size w (w.alloc (.cells #[.int .u64 0, .int .u64 0] 33)) := (Below.refl _ _).alloc (Nat.le_refl _) _
  have HK : Hid (Blk (w.alloc (.cells #[.int .u64 0, .int .u64 0] 33)) w.heap.size #[.int .u64 0, .int .u64 0] 33 ∧ w.heap.size < (w.alloc (.cells #[.int .u64 0, .int .u64 0] 33)).heap.size ∧ Below w.heap.size w (w.alloc (.cells #[.int .u64 0, .int .u64 0] 33))) := ⟨K1, hl, B1⟩
  clear K1 hl B1
  go_enter Tryd.func16, Tryd.ntmps16
  go_wp2_with (first
    | (go_at_call 33; (with_reducible refine U1.mono ?_); clear U1; rintro e w1 ⟨rfl, hb1⟩; have B1 := BL w1; clear BL)
    | (go_at_call 34; (with_reducible refine B1.mono ?_); clear B1; rintro e w2 ⟨rfl, hb2⟩; have hb : Below _ _ w2 := hb1.trans (hb2.mono hb1.size); have K2 : Blk w2 w.heap.size #[.int .u64 0, .int .u64 0] 33 := HK.out.1.below hb HK.out.2.1; have o0 := K2.cell 0 rfl; have o1 := K2.cell 1 rfl; have g0 := K2.frozen 0; have g1 := K2.frozen 1; have sb := bvI_sub (unblend mix) (blend lo)))
  (try simp only [Exit.inBlock, Exit.then])
  have hrow := (K2.set 0 (.int .u64 (bvI (unblend mix - blend lo)))).set 1 (.int .u64 (bvI lo))
  have hld := run_loadVar_row (P := Tryd.prog) _ w.heap.size 33 33 #[.int .u64 (bvI (unblend mix - blend lo)), .int .u64 (bvI lo)] (0, 0) _ hrow Tryd.underlying33 rfl trSize
  have hb0 := HK.out.2.2.trans (hb.mono HK.out.2.2.size)
  refine bodyPost_ret (v := .agg #[.int .u64 (bvI (unblend mix - blend lo)), .int .u64 (bvI lo)]) ?_ rfl ⟨rfl, ((hb0).setCell (p := ⟨w.heap.size, 0, none⟩) (Nat.le_refl _) _).setCell (p := ⟨w.heap.size, 1, none⟩) (Nat.le_refl _) _⟩
  rw [results_cell1 rfl]
  simp [asAddr, Result.andThen, hld]
end Go.Proofs.YtpcfchbiohbcoaaDoor
