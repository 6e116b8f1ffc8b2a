/-
  Merged: SaM, SaA.
-/
import Derived.Test.YtfgmjgoegdiieaaDoorZmq
import Derived.Laws.Bits64
import Derived.Laws.BitsAllLaws
import Derived.Deep.RegionHeld3
import Derived.Deep.Cut
import Derived.Test.YtfgmjgoegdiieaaDoorSOq
import Derived.Test.YtfgmjgoegdiieaaDoorZjq
import Derived.Test.YtfgmjgoegdiieaaDoorProg
namespace Go.Proofs.YtfgmjgoegdiieaaDoor
open Go Go.RowKit
set_option maxRecDepth 100000

/-- A number, turned by itself shifted. -/
def shX (v : BitVec 64) (s : Nat) : BitVec 64 := v ^^^ (v >>> s)
/-- The way back of a shift, in steps. -/
def unS (v : BitVec 64) (s : Nat) : Nat → BitVec 64
  | 0 => v
  | n + 1 => v ^^^ (unS v s n >>> s)
theorem xor_mid (a b c : BitVec 64) : (a ^^^ b ^^^ c) ^^^ a = c ^^^ b := by
  rw [BitVec.xor_comm (a ^^^ b ^^^ c) a, BitVec.xor_assoc a b c, ← BitVec.xor_assoc a a, BitVec.xor_self, BitVec.zero_xor, BitVec.xor_comm]
theorem unS_sh (y : BitVec 64) (s : Nat) : ∀ n, unS (shX y s) s n ^^^ y = (shX y s ^^^ y) >>> (n * s)
  | 0 => by simp [unS]
  | n + 1 => by
    have ih := unS_sh y s n
    have e : unS (shX y s) s (n + 1) ^^^ y = (unS (shX y s) s n ^^^ y) >>> s := by
      show (y ^^^ y >>> s ^^^ unS (shX y s) s n >>> s) ^^^ y = _
      rw [xor_mid, ← BitVec.ushiftRight_xor_distrib]
    rw [e, ih, ← BitVec.shiftRight_add, Nat.succ_mul]
theorem shift_out (x : BitVec 64) (n : Nat) (h : 64 ≤ n) : x >>> n = 0#64 := by
  apply BitVec.eq_of_toNat_eq
  rw [BitVec.toNat_ushiftRight, Nat.shiftRight_eq_div_pow]
  have : x.toNat < 2 ^ n := Nat.lt_of_lt_of_le x.isLt (Nat.pow_le_pow_right (by omega) h)
  rw [Nat.div_eq_of_lt this]
  rfl
theorem xor_zero_eq {a b : BitVec 64} (h : a ^^^ b = 0#64) : a = b := by
  have : (a ^^^ b) ^^^ b = 0#64 ^^^ b := by rw [h]
  rwa [BitVec.xor_assoc, BitVec.xor_self, BitVec.xor_zero, BitVec.zero_xor] at this
theorem unS_of (y : BitVec 64) (s : Nat) (h : 8 ≤ s) : unS (shX y s) s 8 = y :=
  xor_zero_eq ((unS_sh y s 8).trans (shift_out _ _ (by omega)))
theorem unS_next (v : BitVec 64) (s : Nat) : ∀ n, unS v s (n + 1) ^^^ unS v s n = v >>> ((n + 1) * s)
  | 0 => by
    show (v ^^^ v >>> s) ^^^ v = _
    rw [BitVec.xor_comm v, BitVec.xor_assoc, BitVec.xor_self, BitVec.xor_zero]
    simp
  | n + 1 => by
    have ih := unS_next v s n
    have e : unS v s (n + 1 + 1) ^^^ unS v s (n + 1) = (unS v s (n + 1) ^^^ unS v s n) >>> s := by
      show (v ^^^ unS v s (n + 1) >>> s) ^^^ (v ^^^ unS v s n >>> s) = _
      rw [BitVec.ushiftRight_xor_distrib, BitVec.xor_comm v, BitVec.xor_assoc, ← BitVec.xor_assoc v v, BitVec.xor_self, BitVec.zero_xor]
    rw [e, ih, ← BitVec.shiftRight_add]
    congr 1
    rw [Nat.succ_mul (n + 1)]
theorem sh_unS (v : BitVec 64) (s : Nat) (h : 8 ≤ s) : shX (unS v s 8) s = v := by
  have e : unS v s 9 = unS v s 8 := xor_zero_eq ((unS_next v s 8).trans (shift_out _ _ (by omega)))
  have e2 : unS v s 9 = v ^^^ unS v s 8 >>> s := rfl
  have e3 : unS v s 8 = v ^^^ unS v s 8 >>> s := e.symm.trans e2
  unfold shX
  generalize hu : unS v s 8 >>> s = u at e3 ⊢
  rw [e3, BitVec.xor_assoc, BitVec.xor_self, BitVec.xor_zero]
/-- The two factors, and what makes 1 with them. -/
abbrev fac1 : BitVec 64 := 11400714819323198485#64
abbrev fac2 : BitVec 64 := 7640891576956012809#64
/-- What an odd number is to be multiplied with, in steps. -/
def invN (v : BitVec 64) : Nat → BitVec 64
  | 0 => v
  | n + 1 => invN v n * (2#64 - v * invN v n)
theorem inv1 : invN fac1 6 * fac1 = 1#64 := by decide +kernel
theorem inv2 : invN fac2 6 * fac2 = 1#64 := by decide +kernel
/-- The blend. -/
def blend (v : BitVec 64) : BitVec 64 := shX (shX (shX v 31 * fac1) 29 * fac2) 32
def unblend (v : BitVec 64) : BitVec 64 := unS (unS (unS v 32 8 * invN fac2 6) 29 8 * invN fac1 6) 31 8
theorem blend_un (v : BitVec 64) : blend (unblend v) = v := by
  unfold blend unblend
  rw [sh_unS _ 31 (by omega), BitVec.mul_assoc, inv1, BitVec.mul_one, sh_unS _ 29 (by omega), BitVec.mul_assoc, inv2, BitVec.mul_one, sh_unS _ 32 (by omega)]
theorem inv1' : fac1 * invN fac1 6 = 1#64 := by rw [BitVec.mul_comm]; exact inv1
theorem inv2' : fac2 * invN fac2 6 = 1#64 := by rw [BitVec.mul_comm]; exact inv2
theorem un_blend (v : BitVec 64) : unblend (blend v) = v := by
  unfold blend unblend
  rw [unS_of _ 32 (by omega), BitVec.mul_assoc, inv2', BitVec.mul_one, unS_of _ 29 (by omega), BitVec.mul_assoc, inv1', BitVec.mul_one, unS_of _ 31 (by omega)]
/-- The mix. -/
def mixB (hi lo : BitVec 64) : BitVec 64 := blend (hi + blend lo)
theorem mix_named (mix lo : BitVec 64) : mixB (unblend mix - blend lo) lo = mix := by
  unfold mixB
  rw [BitVec.sub_add_cancel, blend_un]
theorem mix_iff (mix lo hi : BitVec 64) : mixB hi lo = mix ↔ hi = unblend mix - blend lo := by
  constructor
  · intro h
    rw [← h]
    unfold mixB
    rw [un_blend, BitVec.add_sub_cancel]
  · intro h
    rw [h, mix_named]
/-- As numbers. -/
def bvI (v : BitVec 64) : Int := (v.toNat : Int)
theorem bvI_lo (v : BitVec 64) : 0 ≤ bvI v := by unfold bvI; omega
theorem bvI_hi (v : BitVec 64) : bvI v < 18446744073709551616 := by have := v.isLt; unfold bvI; omega
theorem bvI_of (i : Int) (h0 : 0 ≤ i) (h1 : i < 18446744073709551616) : bvI (BitVec.ofInt 64 i) = i := by
  unfold bvI
  rw [BitVec.toNat_ofInt]
  omega
theorem bvI_inj {a b : BitVec 64} (h : bvI a = bvI b) : a = b := BitVec.eq_of_toNat_eq (by unfold bvI at h; omega)
theorem bvI_beq (a b : BitVec 64) : (bvI a == bvI b) = decide (a = b) := by
  by_cases h : a = b
  · subst h; simp
  · have : ¬ bvI a = bvI b := fun e => h (bvI_inj e)
    simp [h, this]
theorem bvI_xor (a b : BitVec 64) : bits .xor .u64 (bvI a) (bvI b) = bvI (a ^^^ b) := by
  unfold bvI
  rw [u64_xor_nat _ _ a.isLt b.isLt, BitVec.toNat_xor]
theorem bvI_shr (a : BitVec 64) (s : Nat) : bvI a / 2 ^ s = bvI (a >>> s) := by
  unfold bvI
  rw [BitVec.toNat_ushiftRight, Nat.shiftRight_eq_div_pow]
  simp
theorem bvI_mul (a b : BitVec 64) : IntKind.u64.wrap (bvI a * bvI b) = bvI (a * b) := by
  rw [IntKind.wrap_u64]
  unfold bvI
  rw [BitVec.toNat_mul]
  simp
theorem bvI_add (a b : BitVec 64) : IntKind.u64.wrap (bvI a + bvI b) = bvI (a + b) := by
  rw [IntKind.wrap_u64]
  unfold bvI
  rw [BitVec.toNat_add]
  simp
theorem bvI_sub (a b : BitVec 64) : IntKind.u64.wrap (bvI a - bvI b) = bvI (a - b) := by
  rw [IntKind.wrap_u64]
  unfold bvI
  rw [BitVec.toNat_sub]
  have := a.isLt
  have := b.isLt
  omega
end Go.Proofs.YtfgmjgoegdiieaaDoor

namespace Go.Proofs.YtfgmjgoegdiieaaDoor
open Go Go.RowKit
set_option maxRecDepth 100000

theorem fac1I : bvI fac1 = 11400714819323198485 := by decide +kernel
theorem fac2I : bvI fac2 = 7640891576956012809 := by decide +kernel
theorem bvI_shr31 (a : BitVec 64) : bvI a / (2147483648 : Int) = bvI (a >>> 31) := bvI_shr a 31
theorem bvI_shr29 (a : BitVec 64) : bvI a / (536870912 : Int) = bvI (a >>> 29) := bvI_shr a 29
theorem bvI_shr32 (a : BitVec 64) : bvI a / (4294967296 : Int) = bvI (a >>> 32) := bvI_shr a 32
theorem bvI_mul1 (a : BitVec 64) : IntKind.u64.wrap (bvI a * (11400714819323198485 : Int)) = bvI (a * fac1) := by rw [← fac1I, bvI_mul]
theorem bvI_mul2 (a : BitVec 64) : IntKind.u64.wrap (bvI a * (7640891576956012809 : Int)) = bvI (a * fac2) := by rw [← fac2I, bvI_mul]
theorem blend_any (v : BitVec 64) (w : World) :
    Calls Tryd.prog 41 #[.int .u64 (bvI v)] w fun e w' => e = .returned (.int .u64 (bvI (blend v))) ∧ Below w.heap.size w w' := by
  have B0 : Hid (Below w.heap.size w w) := Below.refl _ _
  go_enter Tryd.func41, Tryd.ntmps41
  go_wp2
  go_ret
  refine ⟨congrArg (fun z => Ending.returned (.int .u64 z)) (?_ : _ = bvI (blend v)), B0.out⟩
  rw [bvI_shr31, bvI_xor, bvI_mul1, bvI_shr29, bvI_xor, bvI_mul2, bvI_shr32, bvI_xor]
  rfl
theorem rBlend_any (v : BitVec 64) (w : World) :
    Calls Tryd.prog 16 #[.int .u64 (bvI v)] w fun e w' => e = .returned (.int .u64 (bvI (blend v))) ∧ Below w.heap.size w w' := by
  have B0 : Hid (Below w.heap.size w w) := Below.refl _ _
  go_enter Tryd.func16, Tryd.ntmps16
  go_wp2
  go_ret
  refine ⟨congrArg (fun z => Ending.returned (.int .u64 z)) (?_ : _ = bvI (blend v)), B0.out⟩
  rw [bvI_shr31, bvI_xor, bvI_mul1, bvI_shr29, bvI_xor, bvI_mul2, bvI_shr32, bvI_xor]
  rfl
set_option maxHeartbeats 1000000 in
theorem mix_any (hi lo : BitVec 64) (w : World) :
    Calls Tryd.prog 25 #[.agg #[.int .u64 (bvI hi), .int .u64 (bvI lo)]] w fun e w' => e = .returned (.int .u64 (bvI (mixB hi lo))) ∧ Below w.heap.size w w' := by
  have BB : Hid (∀ o, Below w.heap.size w (w.alloc o)) := fun o => (Below.refl _ _).alloc (Nat.le_refl _) _
  go_enter Tryd.func25, Tryd.ntmps25
  go_upto_region 1 with fail
  obtain ⟨w0, hw0⟩ : ∃ w0, w.alloc (.cells #[.int .u64 (bvI hi), .int .u64 (bvI lo)] 35) = w0 := ⟨_, rfl⟩
  have H0 : Hid (Below w.heap.size w w0) := by rw [← hw0]; exact BB.out _
  have KB : ∀ W, Below w0.heap.size w0 W → W.cell? ⟨w.heap.size, 0, none⟩ = some (.int .u64 (bvI hi)) ∧ W.cell? ⟨w.heap.size, 1, none⟩ = some (.int .u64 (bvI lo)) := fun W hb => by
    subst hw0
    have h0 : ∀ j, W.cell? ⟨w.heap.size, j, none⟩ = _ := fun j => hb.cell (p := ⟨w.heap.size, j, none⟩) (by rw [World.size_alloc]; show w.heap.size < w.heap.size + 1; omega)
    simp only [h0]
    simp [go_sem]
  rw [hw0]
  have B0 : Below w0.heap.size w0 w0.drew := (Below.refl _ _).drew
  have BL := blend_any lo w0.drew
  have BH : Hid _ := blend_any (hi + blend lo)
  clear BB hw0
  go_region_held3 (fun W => W.cell? ⟨w.heap.size, 0, none⟩ = some (.int .u64 (bvI hi)) ∧ W.cell? ⟨w.heap.size, 1, none⟩ = some (.int .u64 (bvI lo))) (first | exact KB _ B0 | exact KB _ B1 | exact KB _ B2) (first
    | (go_at_call 41; (with_reducible refine BL.mono ?_); clear BL; rintro e w1 ⟨rfl, hb1⟩; have B1 : Below w0.heap.size w0 w1 := B0.trans (hb1.mono B0.size); have BL2 := BH.out w1; clear hb1)
    | (go_at_call 41; rw [bvI_add]; (with_reducible refine BL2.mono ?_); clear BL2; rintro e w2 ⟨rfl, hb2⟩; have B2 : Below w0.heap.size w0 w2 := B1.trans (hb2.mono B1.size); clear hb2))
  go_wp2
  go_ret
  exact ⟨rfl, H0.out.trans (B2.mono H0.out.size)⟩
theorem unshift_any (v : BitVec 64) (s : Nat) (hs : s ≤ 63) (si : Int) (hsi : si = s) (w : World) :
    Calls Tryd.prog 28 #[.int .u64 (bvI v), .int .i64 si] w fun e w' => e = .returned (.int .u64 (bvI (unS v s 8))) ∧ Below w.heap.size w w' := by
  have B0 : Hid (Below w.heap.size w w) := Below.refl _ _
  subst hsi
  have hm : min ((s : Int).toNat) 64 = s := by omega
  go_enter Tryd.func28, Tryd.ntmps28
  go_wp2
  go_loopw [5, 6] (fun x y wr => ∃ i : Nat, y = .int .i64 i ∧ x = .int .u64 (bvI (unS v s i)) ∧ i ≤ 8 ∧ wr = w) (fun _ y _ => 8 - (intOf y).toNat)
  case atStart => exact ⟨0, rfl, rfl, by omega, rfl⟩
  case round =>
    obtain ⟨i, rfl, rfl, hi, rfl⟩ := hrel
    by_cases h8 : i < 8
    · have hlt : (i : Int) < 8 := by omega
      go_wp2
      go_roundw
      case rel =>
        refine ⟨i + 1, by go_num, ?_, by omega, ?_⟩
        · rw [bvI_shr, bvI_xor]; rfl
        · trivial
      case measure => (simp [intOf]; omega)
    · obtain rfl : i = 8 := by omega
      go_wp2
      go_ret
      exact ⟨rfl, B0.out⟩
theorem two64 : bvI 2#64 = 2 := by decide +kernel
theorem inverse_any (v : BitVec 64) (w : World) :
    Calls Tryd.prog 29 #[.int .u64 (bvI v)] w fun e w' => e = .returned (.int .u64 (bvI (invN v 6))) ∧ Below w.heap.size w w' := by
  have B0 : Hid (Below w.heap.size w w) := Below.refl _ _
  go_enter Tryd.func29, Tryd.ntmps29
  go_wp2
  go_loopw [3, 4] (fun x y wr => ∃ i : Nat, y = .int .i64 i ∧ x = .int .u64 (bvI (invN v i)) ∧ i ≤ 6 ∧ wr = w) (fun _ y _ => 6 - (intOf y).toNat)
  case atStart => exact ⟨0, rfl, rfl, by omega, rfl⟩
  case round =>
    obtain ⟨i, rfl, rfl, hi, rfl⟩ := hrel
    by_cases h8 : i < 6
    · have hlt : (i : Int) < 6 := by omega
      go_wp2
      go_roundw
      case rel =>
        refine ⟨i + 1, by go_num, ?_, by omega, ?_⟩
        · rw [bvI_mul, ← two64, bvI_sub, bvI_mul]; rfl
        · trivial
      case measure => (simp [intOf]; omega)
    · obtain rfl : i = 6 := by omega
      go_wp2
      go_ret
      exact ⟨rfl, B0.out⟩
set_option maxHeartbeats 1000000 in
theorem unblend_any (v : BitVec 64) (w : World) :
    Calls Tryd.prog 15 #[.int .u64 (bvI v)] w fun e w' => e = .returned (.int .u64 (bvI (unblend v))) ∧ Below w.heap.size w w' := by
  have S1 := unshift_any v 32 (by omega) 32 rfl w
  have I1 := fun W => inverse_any fac1 W
  have I2 := fun W => inverse_any fac2 W
  rw [fac1I] at I1
  rw [fac2I] at I2
  go_enter Tryd.func15, Tryd.ntmps15
  go_wp2_with (first
    | (go_at_call 28; (with_reducible refine S1.mono ?_); clear S1; rintro e w1 ⟨rfl, hb1⟩; have J2 := I2 w1; clear I2)
    | (go_at_call 29; (with_reducible refine J2.mono ?_); clear J2; rintro e w2 ⟨rfl, hb2⟩; have HB2 : Hid (Below w.heap.size w w2) := hb1.trans (hb2.mono hb1.size); have S2 := unshift_any (unS v 32 8 * invN fac2 6) 29 (by omega) 29 rfl w2; clear hb1 hb2)
    | (go_at_call 28; rw [bvI_mul]; (with_reducible refine S2.mono ?_); clear S2; rintro e w3 ⟨rfl, hb3⟩; have J1 := I1 w3; clear I1)
    | (go_at_call 29; (with_reducible refine J1.mono ?_); clear J1; rintro e w4 ⟨rfl, hb4⟩; have HB4 : Hid (Below w.heap.size w w4) := (HB2.out.trans (hb3.mono HB2.out.size)).trans (hb4.mono (Nat.le_trans HB2.out.size hb3.size)); have S3 := unshift_any (unS (unS v 32 8 * invN fac2 6) 29 8 * invN fac1 6) 31 (by omega) 31 rfl w4; clear hb3 hb4)
    | (go_at_call 28; rw [bvI_mul]; (with_reducible refine S3.mono ?_); clear S3; rintro e w5 ⟨rfl, hb5⟩))
  go_ret
  exact ⟨rfl, HB4.out.trans (hb5.mono HB4.out.size)⟩
theorem trSize : (Tryd.prog.info? 35).map (·.size) = some 2 := by kernel_rfl
set_option maxHeartbeats 1000000 in
theorem named_any (mix lo : BitVec 64) (w : World) :
    Calls Tryd.prog 7 #[.int .u64 (bvI mix), .int .u64 (bvI lo)] w fun e w' => e = .returned (.agg #[.int .u64 (bvI (unblend mix - blend lo)), .int .u64 (bvI lo)]) ∧ Below w.heap.size w w' := by
  have U1 := unblend_any mix (w.alloc (.cells #[.int .u64 0, .int .u64 0] 35))
  have BL := rBlend_any lo
  have K1 : Blk (w.alloc (.cells #[.int .u64 0, .int .u64 0] 35)) w.heap.size #[.int .u64 0, .int .u64 0] 35 := Blk.new _ _ _
  have hl : w.heap.size < (w.alloc (.cells #[.int .u64 0, .int .u64 0] 35)).heap.size := by rw [World.size_alloc]; omega
  have B1 : Below w.heap.size w (w.alloc (.cells #[.int .u64 0, .int .u64 0] 35)) := (Below.refl _ _).alloc (Nat.le_refl _) _
  have HK : Hid (Blk (w.alloc (.cells #[.int .u64 0, .int .u64 0] 35)) w.heap.size #[.int .u64 0, .int .u64 0] 35 ∧ w.heap.size < (w.alloc (.cells #[.int .u64 0, .int .u64 0] 35)).heap.size ∧ Below w.heap.size w (w.alloc (.cells #[.int .u64 0, .int .u64 0] 35))) := ⟨K1, hl, B1⟩
  clear K1 hl B1
  go_enter Tryd.func7, Tryd.ntmps7
  go_wp2_with (first
    | (go_at_call 15; (with_reducible refine U1.mono ?_); clear U1; rintro e w1 ⟨rfl, hb1⟩; have B1 := BL w1; clear BL)
    | (go_at_call 16; (with_reducible refine B1.mono ?_); clear B1; rintro e w2 ⟨rfl, hb2⟩; have hb : Below _ _ w2 := hb1.trans (hb2.mono hb1.size); have K2 : Blk w2 w.heap.size #[.int .u64 0, .int .u64 0] 35 := HK.out.1.below hb HK.out.2.1; have o0 := K2.cell 0 rfl; have o1 := K2.cell 1 rfl; have g0 := K2.frozen 0; have g1 := K2.frozen 1; have sb := bvI_sub (unblend mix) (blend lo)))
  (try simp only [Exit.inBlock, Exit.then])
  have hrow := (K2.set 0 (.int .u64 (bvI (unblend mix - blend lo)))).set 1 (.int .u64 (bvI lo))
  have hld := run_loadVar_row (P := Tryd.prog) _ w.heap.size 35 35 #[.int .u64 (bvI (unblend mix - blend lo)), .int .u64 (bvI lo)] (0, 0) _ hrow Tryd.underlying35 rfl trSize
  have hb0 := HK.out.2.2.trans (hb.mono HK.out.2.2.size)
  refine bodyPost_ret (v := .agg #[.int .u64 (bvI (unblend mix - blend lo)), .int .u64 (bvI lo)]) ?_ rfl ⟨rfl, ((hb0).setCell (p := ⟨w.heap.size, 0, none⟩) (Nat.le_refl _) _).setCell (p := ⟨w.heap.size, 1, none⟩) (Nat.le_refl _) _⟩
  rw [results_cell1 rfl]
  simp [asAddr, Result.andThen, hld]
end Go.Proofs.YtfgmjgoegdiieaaDoor
