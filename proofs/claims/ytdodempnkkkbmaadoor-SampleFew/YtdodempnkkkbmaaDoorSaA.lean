/-
  SaA.
-/
import Derived.Test.YtdodempnkkkbmaaDoorSaM
import Derived.Deep.RegionHeld3
import Derived.Deep.Cut
import Derived.Test.YtdodempnkkkbmaaDoorFA
import Derived.Test.YtdodempnkkkbmaaDoorWy
import Derived.Test.YtdodempnkkkbmaaDoorProg
namespace Go.Proofs.YtdodempnkkkbmaaDoor
open Go Go.RowKit
set_option maxRecDepth 100000

theorem fac1I : bvI fac1 = 11400714819323198485 := by decide +kernel
theorem fac2I : bvI fac2 = 7640891576956012809 := by decide +kernel
theorem bvI_shr31 (a : BitVec 64) : bvI a / (2147483648 : Int) = bvI (a >>> 31) := bvI_shr a 31
theorem bvI_shr29 (a : BitVec 64) : bvI a / (536870912 : Int) = bvI (a >>> 29) := bvI_shr a 29
theorem bvI_shr32 (a : BitVec 64) : bvI a / (4294967296 : Int) = bvI (a >>> 32) := bvI_shr a 32
theorem bvI_mul1 (a : BitVec 64) : IntKind.u64.wrap (bvI a * (11400714819323198485 : Int)) = bvI (a * fac1) := by rw [← fac1I, bvI_mul]
theorem bvI_mul2 (a : BitVec 64) : IntKind.u64.wrap (bvI a * (7640891576956012809 : Int)) = bvI (a * fac2) := by rw [← fac2I, bvI_mul]
theorem blend_any (v : BitVec 64) (w : World) :
    Calls Tryd.prog 31 #[.int .u64 (bvI v)] w fun e w' => e = .returned (.int .u64 (bvI (blend v))) ∧ Below w.heap.size w w' := by
  have B0 : Hid (Below w.heap.size w w) := Below.refl _ _
  go_enter Tryd.func31, Tryd.ntmps31
  go_wp2
  go_ret
  refine ⟨congrArg (fun z => Ending.returned (.int .u64 z)) (?_ : _ = bvI (blend v)), B0.out⟩
  rw [bvI_shr31, bvI_xor, bvI_mul1, bvI_shr29, bvI_xor, bvI_mul2, bvI_shr32, bvI_xor]
  rfl
theorem rBlend_any (v : BitVec 64) (w : World) :
    Calls Tryd.prog 46 #[.int .u64 (bvI v)] w fun e w' => e = .returned (.int .u64 (bvI (blend v))) ∧ Below w.heap.size w w' := by
  have B0 : Hid (Below w.heap.size w w) := Below.refl _ _
  go_enter Tryd.func46, Tryd.ntmps46
  go_wp2
  go_ret
  refine ⟨congrArg (fun z => Ending.returned (.int .u64 z)) (?_ : _ = bvI (blend v)), B0.out⟩
  rw [bvI_shr31, bvI_xor, bvI_mul1, bvI_shr29, bvI_xor, bvI_mul2, bvI_shr32, bvI_xor]
  rfl
set_option maxHeartbeats 1000000 in
theorem mix_any (hi lo : BitVec 64) (w : World) :
    Calls Tryd.prog 18 #[.agg #[.int .u64 (bvI hi), .int .u64 (bvI lo)]] w fun e w' => e = .returned (.int .u64 (bvI (mixB hi lo))) ∧ Below w.heap.size w w' := by
  have BB : Hid (∀ o, Below w.heap.size w (w.alloc o)) := fun o => (Below.refl _ _).alloc (Nat.le_refl _) _
  go_enter Tryd.func18, Tryd.ntmps18
  go_upto_region 1 with fail
  obtain ⟨w0, hw0⟩ : ∃ w0, w.alloc (.cells #[.int .u64 (bvI hi), .int .u64 (bvI lo)] 32) = w0 := ⟨_, rfl⟩
  have H0 : Hid (Below w.heap.size w w0) := by rw [← hw0]; exact BB.out _
  have KB : ∀ W, Below w0.heap.size w0 W → W.cell? ⟨w.heap.size, 0, none⟩ = some (.int .u64 (bvI hi)) ∧ W.cell? ⟨w.heap.size, 1, none⟩ = some (.int .u64 (bvI lo)) := fun W hb => by
    subst hw0
    have h0 : ∀ j, W.cell? ⟨w.heap.size, j, none⟩ = _ := fun j => hb.cell (p := ⟨w.heap.size, j, none⟩) (by rw [World.size_alloc]; show w.heap.size < w.heap.size + 1; omega)
    simp only [h0]
    simp [go_sem]
  rw [hw0]
  have B0 : Below w0.heap.size w0 w0.drew := (Below.refl _ _).drew
  have BL := blend_any lo w0.drew
  have BH : Hid _ := blend_any (hi + blend lo)
  clear BB hw0
  go_region_held3 (fun W => W.cell? ⟨w.heap.size, 0, none⟩ = some (.int .u64 (bvI hi)) ∧ W.cell? ⟨w.heap.size, 1, none⟩ = some (.int .u64 (bvI lo))) (first | exact KB _ B0 | exact KB _ B1 | exact KB _ B2) (first
    | (go_at_call 31; (with_reducible refine BL.mono ?_); clear BL; rintro e w1 ⟨rfl, hb1⟩; have B1 : Below w0.heap.size w0 w1 := B0.trans (hb1.mono B0.size); have BL2 := BH.out w1; clear hb1)
    | (go_at_call 31; rw [bvI_add]; (with_reducible refine BL2.mono ?_); clear BL2; rintro e w2 ⟨rfl, hb2⟩; have B2 : Below w0.heap.size w0 w2 := B1.trans (hb2.mono B1.size); clear hb2))
  go_wp2
  go_ret
  exact ⟨rfl, H0.out.trans (B2.mono H0.out.size)⟩
set_option maxHeartbeats 1000000 in
theorem rMix_any (hi lo : BitVec 64) (w : World) :
    Calls Tryd.prog 33 #[.agg #[.int .u64 (bvI hi), .int .u64 (bvI lo)]] w fun e w' => e = .returned (.int .u64 (bvI (mixB hi lo))) ∧ Below w.heap.size w w' := by
  have BB : Hid (∀ o, Below w.heap.size w (w.alloc o)) := fun o => (Below.refl _ _).alloc (Nat.le_refl _) _
  go_enter Tryd.func33, Tryd.ntmps33
  go_upto_region 1 with fail
  obtain ⟨w0, hw0⟩ : ∃ w0, w.alloc (.cells #[.int .u64 (bvI hi), .int .u64 (bvI lo)] 32) = w0 := ⟨_, rfl⟩
  have H0 : Hid (Below w.heap.size w w0) := by rw [← hw0]; exact BB.out _
  have KB : ∀ W, Below w0.heap.size w0 W → W.cell? ⟨w.heap.size, 0, none⟩ = some (.int .u64 (bvI hi)) ∧ W.cell? ⟨w.heap.size, 1, none⟩ = some (.int .u64 (bvI lo)) := fun W hb => by
    subst hw0
    have h0 : ∀ j, W.cell? ⟨w.heap.size, j, none⟩ = _ := fun j => hb.cell (p := ⟨w.heap.size, j, none⟩) (by rw [World.size_alloc]; show w.heap.size < w.heap.size + 1; omega)
    simp only [h0]
    simp [go_sem]
  rw [hw0]
  have B0 : Below w0.heap.size w0 w0.drew := (Below.refl _ _).drew
  have BL := rBlend_any lo w0.drew
  have BH : Hid _ := rBlend_any (hi + blend lo)
  clear BB hw0
  go_region_held3 (fun W => W.cell? ⟨w.heap.size, 0, none⟩ = some (.int .u64 (bvI hi)) ∧ W.cell? ⟨w.heap.size, 1, none⟩ = some (.int .u64 (bvI lo))) (first | exact KB _ B0 | exact KB _ B1 | exact KB _ B2) (first
    | (go_at_call 46; (with_reducible refine BL.mono ?_); clear BL; rintro e w1 ⟨rfl, hb1⟩; have B1 : Below w0.heap.size w0 w1 := B0.trans (hb1.mono B0.size); have BL2 := BH.out w1; clear hb1)
    | (go_at_call 46; rw [bvI_add]; (with_reducible refine BL2.mono ?_); clear BL2; rintro e w2 ⟨rfl, hb2⟩; have B2 : Below w0.heap.size w0 w2 := B1.trans (hb2.mono B1.size); clear hb2))
  go_wp2
  go_ret
  exact ⟨rfl, H0.out.trans (B2.mono H0.out.size)⟩
theorem two64 : bvI 2#64 = 2 := by decide +kernel
theorem trSize : (Tryd.prog.info? 32).map (·.size) = some 2 := by kernel_rfl
end Go.Proofs.YtdodempnkkkbmaaDoor
