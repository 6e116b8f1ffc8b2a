/-
  Merged: SaM, SaA.
-/
import Derived.Test.YtffdgpplgkmhiaaGreatDoorZmq
import Derived.Laws.Bits64
import Derived.Laws.BitsAllLaws
import Derived.Deep.RegionHeld3
import Derived.Deep.Cut
import Derived.Test.YtffdgpplgkmhiaaGreatDoorSOq
import Derived.Test.YtffdgpplgkmhiaaGreatDoorZjq
import Derived.Test.YtffdgpplgkmhiaaGreatDoorProg
namespace Go.Proofs.YtffdgpplgkmhiaaGreatDoor
open Go Go.RowKit
set_option maxRecDepth 100000

/-- A number, turned by itself shifted. -/
def shX (v : BitVec 64) (s : Nat) : BitVec 64 := v ^^^ (v >>> s)
/-- The way back of a shift, in steps. -/
def unS (v : BitVec 64) (s : Nat) : Nat → BitVec 64
  | 0 => v
  | n + 1 => v ^^^ (unS v s n >>> s)
theorem xor_mid (a b c : BitVec 64) : (a ^^^ b ^^^ c) ^^^ a = c ^^^ b := by
  rw [BitVec.xor_comm (a ^^^ b ^^^ c) a, BitVec.xor_assoc a b c, ← BitVec.xor_assoc a a, BitVec.xor_self, BitVec.zero_xor, BitVec.xor_comm]
theorem unS_sh (y : BitVec 64) (s : Nat) : ∀ n, unS (shX y s) s n ^^^ y = (shX y s ^^^ y) >>> (n * s)
  | 0 => by simp [unS]
  | n + 1 => by
    have ih := unS_sh y s n
    have e : unS (shX y s) s (n + 1) ^^^ y = (unS (shX y s) s n ^^^ y) >>> s := by
      show (y ^^^ y >>> s ^^^ unS (shX y s) s n >>> s) ^^^ y = _
      rw [xor_mid, ← BitVec.ushiftRight_xor_distrib]
    rw [e, ih, ← BitVec.shiftRight_add, Nat.succ_mul]
theorem shift_out (x : BitVec 64) (n : Nat) (h : 64 ≤ n) : x >>> n = 0#64 := by
  apply BitVec.eq_of_toNat_eq
  rw [BitVec.toNat_ushiftRight, Nat.shiftRight_eq_div_pow]
  have : x.toNat < 2 ^ n := Nat.lt_of_lt_of_le x.isLt (Nat.pow_le_pow_right (by omega) h)
  rw [Nat.div_eq_of_lt this]
  rfl
theorem xor_zero_eq {a b : BitVec 64} (h : a ^^^ b = 0#64) : a = b := by
  have : (a ^^^ b) ^^^ b = 0#64 ^^^ b := by rw [h]
  rwa [BitVec.xor_assoc, BitVec.xor_self, BitVec.xor_zero, BitVec.zero_xor] at this
theorem unS_of (y : BitVec 64) (s : Nat) (h : 8 ≤ s) : unS (shX y s) s 8 = y :=
  xor_zero_eq ((unS_sh y s 8).trans (shift_out _ _ (by omega)))
theorem unS_next (v : BitVec 64) (s : Nat) : ∀ n, unS v s (n + 1) ^^^ unS v s n = v >>> ((n + 1) * s)
  | 0 => by
    show (v ^^^ v >>> s) ^^^ v = _
    rw [BitVec.xor_comm v, BitVec.xor_assoc, BitVec.xor_self, BitVec.xor_zero]
    simp
  | n + 1 => by
    have ih := unS_next v s n
    have e : unS v s (n + 1 + 1) ^^^ unS v s (n + 1) = (unS v s (n + 1) ^^^ unS v s n) >>> s := by
      show (v ^^^ unS v s (n + 1) >>> s) ^^^ (v ^^^ unS v s n >>> s) = _
      rw [BitVec.ushiftRight_xor_distrib, BitVec.xor_comm v, BitVec.xor_assoc, ← BitVec.xor_assoc v v, BitVec.xor_self, BitVec.zero_xor]
    rw [e, ih, ← BitVec.shiftRight_add]
    congr 1
    rw [Nat.succ_mul (n + 1)]
theorem sh_unS (v : BitVec 64) (s : Nat) (h : 8 ≤ s) : shX (unS v s 8) s = v := by
  have e : unS v s 9 = unS v s 8 := xor_zero_eq ((unS_next v s 8).trans (shift_out _ _ (by omega)))
  have e2 : unS v s 9 = v ^^^ unS v s 8 >>> s := rfl
  have e3 : unS v s 8 = v ^^^ unS v s 8 >>> s := e.symm.trans e2
  unfold shX
  generalize hu : unS v s 8 >>> s = u at e3 ⊢
  rw [e3, BitVec.xor_assoc, BitVec.xor_self, BitVec.xor_zero]
/-- The two factors, and what makes 1 with them. -/
abbrev fac1 : BitVec 64 := 11400714819323198485#64
abbrev fac2 : BitVec 64 := 7640891576956012809#64
/-- What an odd number is to be multiplied with, in steps. -/
def invN (v : BitVec 64) : Nat → BitVec 64
  | 0 => v
  | n + 1 => invN v n * (2#64 - v * invN v n)
theorem inv1 : invN fac1 6 * fac1 = 1#64 := by decide +kernel
theorem inv2 : invN fac2 6 * fac2 = 1#64 := by decide +kernel
/-- The blend. -/
def blend (v : BitVec 64) : BitVec 64 := shX (shX (shX v 31 * fac1) 29 * fac2) 32
def unblend (v : BitVec 64) : BitVec 64 := unS (unS (unS v 32 8 * invN fac2 6) 29 8 * invN fac1 6) 31 8
theorem blend_un (v : BitVec 64) : blend (unblend v) = v := by
  unfold blend unblend
  rw [sh_unS _ 31 (by omega), BitVec.mul_assoc, inv1, BitVec.mul_one, sh_unS _ 29 (by omega), BitVec.mul_assoc, inv2, BitVec.mul_one, sh_unS _ 32 (by omega)]
theorem inv1' : fac1 * invN fac1 6 = 1#64 := by rw [BitVec.mul_comm]; exact inv1
theorem inv2' : fac2 * invN fac2 6 = 1#64 := by rw [BitVec.mul_comm]; exact inv2
theorem un_blend (v : BitVec 64) : unblend (blend v) = v := by
  unfold blend unblend
  rw [unS_of _ 32 (by omega), BitVec.mul_assoc, inv2', BitVec.mul_one, unS_of _ 29 (by omega), BitVec.mul_assoc, inv1', BitVec.mul_one, unS_of _ 31 (by omega)]
/-- The mix. -/
def mixB (hi lo : BitVec 64) : BitVec 64 := blend (hi + blend lo)
theorem mix_named (mix lo : BitVec 64) : mixB (unblend mix - blend lo) lo = mix := by
  unfold mixB
  rw [BitVec.sub_add_cancel, blend_un]
theorem mix_iff (mix lo hi : BitVec 64) : mixB hi lo = mix ↔ hi = unblend mix - blend lo := by
  constructor
  · intro h
    rw [← h]
    unfold mixB
    rw [un_blend, BitVec.add_sub_cancel]
  · intro h
    rw [h, mix_named]
/-- As numbers. -/
def bvI (v : BitVec 64) : Int := (v.toNat : Int)
theorem bvI_lo (v : BitVec 64) : 0 ≤ bvI v := by unfold bvI; omega
theorem bvI_hi (v : BitVec 64) : bvI v < 18446744073709551616 := by have := v.isLt; unfold bvI; omega
theorem bvI_of (i : Int) (h0 : 0 ≤ i) (h1 : i < 18446744073709551616) : bvI (BitVec.ofInt 64 i) = i := by
  unfold bvI
  rw [BitVec.toNat_ofInt]
  omega
theorem bvI_inj {a b : BitVec 64} (h : bvI a = bvI b) : a = b := BitVec.eq_of_toNat_eq (by unfold bvI at h; omega)
theorem bvI_beq (a b : BitVec 64) : (bvI a == bvI b) = decide (a = b) := by
  by_cases h : a = b
  · subst h; simp
  · have : ¬ bvI a = bvI b := fun e => h (bvI_inj e)
    simp [h, this]
theorem bvI_xor (a b : BitVec 64) : bits .xor .u64 (bvI a) (bvI b) = bvI (a ^^^ b) := by
  unfold bvI
  rw [u64_xor_nat _ _ a.isLt b.isLt, BitVec.toNat_xor]
theorem bvI_shr (a : BitVec 64) (s : Nat) : bvI a / 2 ^ s = bvI (a >>> s) := by
  unfold bvI
  rw [BitVec.toNat_ushiftRight, Nat.shiftRight_eq_div_pow]
  simp
theorem bvI_mul (a b : BitVec 64) : IntKind.u64.wrap (bvI a * bvI b) = bvI (a * b) := by
  rw [IntKind.wrap_u64]
  unfold bvI
  rw [BitVec.toNat_mul]
  simp
theorem bvI_add (a b : BitVec 64) : IntKind.u64.wrap (bvI a + bvI b) = bvI (a + b) := by
  rw [IntKind.wrap_u64]
  unfold bvI
  rw [BitVec.toNat_add]
  simp
theorem bvI_sub (a b : BitVec 64) : IntKind.u64.wrap (bvI a - bvI b) = bvI (a - b) := by
  rw [IntKind.wrap_u64]
  unfold bvI
  rw [BitVec.toNat_sub]
  have := a.isLt
  have := b.isLt
  omega
end Go.Proofs.YtffdgpplgkmhiaaGreatDoor

namespace Go.Proofs.YtffdgpplgkmhiaaGreatDoor
open Go Go.RowKit
set_option maxRecDepth 100000

theorem fac1I : bvI fac1 = 11400714819323198485 := by decide +kernel
theorem fac2I : bvI fac2 = 7640891576956012809 := by decide +kernel
theorem bvI_shr31 (a : BitVec 64) : bvI a / (2147483648 : Int) = bvI (a >>> 31) := bvI_shr a 31
theorem bvI_shr29 (a : BitVec 64) : bvI a / (536870912 : Int) = bvI (a >>> 29) := bvI_shr a 29
theorem bvI_shr32 (a : BitVec 64) : bvI a / (4294967296 : Int) = bvI (a >>> 32) := bvI_shr a 32
theorem bvI_mul1 (a : BitVec 64) : IntKind.u64.wrap (bvI a * (11400714819323198485 : Int)) = bvI (a * fac1) := by rw [← fac1I, bvI_mul]
theorem bvI_mul2 (a : BitVec 64) : IntKind.u64.wrap (bvI a * (7640891576956012809 : Int)) = bvI (a * fac2) := by rw [← fac2I, bvI_mul]
theorem blend_any (v : BitVec 64) (w : World) :
    Calls Tryz.prog 50 #[.int .u64 (bvI v)] w fun e w' => e = .returned (.int .u64 (bvI (blend v))) ∧ Below w.heap.size w w' := by
  have B0 : Hid (Below w.heap.size w w) := Below.refl _ _
  go_enter Tryz.func50, Tryz.ntmps50
  go_wp2
  go_ret
  refine ⟨congrArg (fun z => Ending.returned (.int .u64 z)) (?_ : _ = bvI (blend v)), B0.out⟩
  rw [bvI_shr31, bvI_xor, bvI_mul1, bvI_shr29, bvI_xor, bvI_mul2, bvI_shr32, bvI_xor]
  rfl
theorem rBlend_any (v : BitVec 64) (w : World) :
    Calls Tryz.prog 64 #[.int .u64 (bvI v)] w fun e w' => e = .returned (.int .u64 (bvI (blend v))) ∧ Below w.heap.size w w' := by
  have B0 : Hid (Below w.heap.size w w) := Below.refl _ _
  go_enter Tryz.func64, Tryz.ntmps64
  go_wp2
  go_ret
  refine ⟨congrArg (fun z => Ending.returned (.int .u64 z)) (?_ : _ = bvI (blend v)), B0.out⟩
  rw [bvI_shr31, bvI_xor, bvI_mul1, bvI_shr29, bvI_xor, bvI_mul2, bvI_shr32, bvI_xor]
  rfl
set_option maxHeartbeats 1000000 in
theorem mix_any (hi lo : BitVec 64) (w : World) :
    Calls Tryz.prog 33 #[.agg #[.int .u64 (bvI hi), .int .u64 (bvI lo)]] w fun e w' => e = .returned (.int .u64 (bvI (mixB hi lo))) ∧ Below w.heap.size w w' := by
  have BB : Hid (∀ o, Below w.heap.size w (w.alloc o)) := fun o => (Below.refl _ _).alloc (Nat.le_refl _) _
  go_enter Tryz.func33, Tryz.ntmps33
  go_upto_region 1 with fail
  obtain ⟨w0, hw0⟩ : ∃ w0, w.alloc (.cells #[.int .u64 (bvI hi), .int .u64 (bvI lo)] 28) = w0 := ⟨_, rfl⟩
  have H0 : Hid (Below w.heap.size w w0) := by rw [← hw0]; exact BB.out _
  have KB : ∀ W, Below w0.heap.size w0 W → W.cell? ⟨w.heap.size, 0, none⟩ = some (.int .u64 (bvI hi)) ∧ W.cell? ⟨w.heap.size, 1, none⟩ = some (.int .u64 (bvI lo)) := fun W hb => by
    subst hw0
    have h0 : ∀ j, W.cell? ⟨w.heap.size, j, none⟩ = _ := fun j => hb.cell (p := ⟨w.heap.size, j, none⟩) (by rw [World.size_alloc]; show w.heap.size < w.heap.size + 1; omega)
    simp only [h0]
    simp [go_sem]
  rw [hw0]
  have B0 : Below w0.heap.size w0 w0.drew := (Below.refl _ _).drew
  have BL := blend_any lo w0.drew
  have BH : Hid _ := blend_any (hi + blend lo)
  clear BB hw0
  go_region_held3 (fun W => W.cell? ⟨w.heap.size, 0, none⟩ = some (.int .u64 (bvI hi)) ∧ W.cell? ⟨w.heap.size, 1, none⟩ = some (.int .u64 (bvI lo))) (first | exact KB _ B0 | exact KB _ B1 | exact KB _ B2) (first
    | (go_at_call 50; (with_reducible refine BL.mono ?_); clear BL; rintro e w1 ⟨rfl, hb1⟩; have B1 : Below w0.heap.size w0 w1 := B0.trans (hb1.mono B0.size); have BL2 := BH.out w1; clear hb1)
    | (go_at_call 50; rw [bvI_add]; (with_reducible refine BL2.mono ?_); clear BL2; rintro e w2 ⟨rfl, hb2⟩; have B2 : Below w0.heap.size w0 w2 := B1.trans (hb2.mono B1.size); clear hb2))
  go_wp2
  go_ret
  exact ⟨rfl, H0.out.trans (B2.mono H0.out.size)⟩
set_option maxHeartbeats 1000000 in
theorem rMix_any (hi lo : BitVec 64) (w : World) :
    Calls Tryz.prog 44 #[.agg #[.int .u64 (bvI hi), .int .u64 (bvI lo)]] w fun e w' => e = .returned (.int .u64 (bvI (mixB hi lo))) ∧ Below w.heap.size w w' := by
  have BB : Hid (∀ o, Below w.heap.size w (w.alloc o)) := fun o => (Below.refl _ _).alloc (Nat.le_refl _) _
  go_enter Tryz.func44, Tryz.ntmps44
  go_upto_region 1 with fail
  obtain ⟨w0, hw0⟩ : ∃ w0, w.alloc (.cells #[.int .u64 (bvI hi), .int .u64 (bvI lo)] 28) = w0 := ⟨_, rfl⟩
  have H0 : Hid (Below w.heap.size w w0) := by rw [← hw0]; exact BB.out _
  have KB : ∀ W, Below w0.heap.size w0 W → W.cell? ⟨w.heap.size, 0, none⟩ = some (.int .u64 (bvI hi)) ∧ W.cell? ⟨w.heap.size, 1, none⟩ = some (.int .u64 (bvI lo)) := fun W hb => by
    subst hw0
    have h0 : ∀ j, W.cell? ⟨w.heap.size, j, none⟩ = _ := fun j => hb.cell (p := ⟨w.heap.size, j, none⟩) (by rw [World.size_alloc]; show w.heap.size < w.heap.size + 1; omega)
    simp only [h0]
    simp [go_sem]
  rw [hw0]
  have B0 : Below w0.heap.size w0 w0.drew := (Below.refl _ _).drew
  have BL := rBlend_any lo w0.drew
  have BH : Hid _ := rBlend_any (hi + blend lo)
  clear BB hw0
  go_region_held3 (fun W => W.cell? ⟨w.heap.size, 0, none⟩ = some (.int .u64 (bvI hi)) ∧ W.cell? ⟨w.heap.size, 1, none⟩ = some (.int .u64 (bvI lo))) (first | exact KB _ B0 | exact KB _ B1 | exact KB _ B2) (first
    | (go_at_call 64; (with_reducible refine BL.mono ?_); clear BL; rintro e w1 ⟨rfl, hb1⟩; have B1 : Below w0.heap.size w0 w1 := B0.trans (hb1.mono B0.size); have BL2 := BH.out w1; clear hb1)
    | (go_at_call 64; rw [bvI_add]; (with_reducible refine BL2.mono ?_); clear BL2; rintro e w2 ⟨rfl, hb2⟩; have B2 : Below w0.heap.size w0 w2 := B1.trans (hb2.mono B1.size); clear hb2))
  go_wp2
  go_ret
  exact ⟨rfl, H0.out.trans (B2.mono H0.out.size)⟩
theorem two64 : bvI 2#64 = 2 := by decide +kernel
theorem trSize : (Tryz.prog.info? 28).map (·.size) = some 2 := by kernel_rfl
end Go.Proofs.YtffdgpplgkmhiaaGreatDoor
