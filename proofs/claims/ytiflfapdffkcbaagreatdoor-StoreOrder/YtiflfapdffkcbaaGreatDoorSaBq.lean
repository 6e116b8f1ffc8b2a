/-
  Merged: SaB, SaC, SdB, SaM, SaA, SdC, SdD, SdE.
-/
import Derived.Test.YtiflfapdffkcbaaGreatDoorZg
import Derived.Test.YtiflfapdffkcbaaGreatDoorSOq
import Derived.Laws.StructEq
import Derived.Deep.Cut
import Derived.Test.YtiflfapdffkcbaaGreatDoorSdA
import Derived.Test.YtiflfapdffkcbaaGreatDoorZmq
import Derived.Laws.Bits64
import Derived.Laws.BitsAllLaws
import Derived.Deep.RegionHeld3
import Derived.Test.YtiflfapdffkcbaaGreatDoorZjq
import Derived.Test.YtiflfapdffkcbaaGreatDoorProg
import Derived.Laws.ResultCell
namespace Go.Proofs.YtiflfapdffkcbaaGreatDoor
open Go Go.RowKit
set_option maxRecDepth 100000

/-- A policy. -/
structure Pol where
  kind : Int
  nanos : Int
  name : ByteArray
  part : Int
def polC (p : Pol) : List Value := [.int .i64 p.kind, .int .u64 p.nanos, .string p.name, .int .i64 p.part]
def polV (p : Pol) : Value := .agg #[.int .i64 p.kind, .int .u64 p.nanos, .string p.name, .int .i64 p.part]
abbrev emptyB : ByteArray := ⟨#[]⟩
/-- Which may be. -/
def mayP (p : Pol) : Bool :=
  if p.kind = 0 ∨ p.kind = 1 then decide (p.nanos = 0 ∧ p.name = emptyB ∧ p.part = 0)
  else if p.kind = 2 then decide (p.name = emptyB ∧ p.part = 0)
  else if p.kind = 3 then decide (p.nanos = 0 ∧ p.part = 0) && plainB p.name 60 33
  else if p.kind = 4 then decide (p.nanos = 0 ∧ p.name = emptyB) && decide (0 ≤ p.part) && decide (p.part ≤ 65536)
  else false
theorem strB_eq (s s' : ByteArray) : (s.toList == s'.toList) = decide (s = s') := by
  by_cases h : s = s'
  · simp [h]
  · have : ¬ s.toList = s'.toList := fun e => h (bytes_ext _ _ e)
    simp [h, this]
/-- A span in which nothing is amiss but its service. -/
def spQ (s : ByteArray) : Sp := ⟨0, 1, 1, 0, [], s, ⟨#[45]⟩, 0, 0, 0, 0, [], []⟩
def plQ : Pl := ⟨none, 0, none, 0, none, 0⟩
theorem spQ_at (w : World) (s : ByteArray) : SpAt w (spQ s) plQ :=
  ⟨⟨rfl, fun j u hj => by simp [spQ, intsV] at hj⟩, ⟨rfl, fun h => by cases h⟩, ⟨rfl, fun h => by cases h⟩, by simp [spQ], by simp [spQ], by simp [spQ]⟩
theorem spQ_chk (s : ByteArray) : decide (chkS (spQ s) = 0) = plainB s 60 33 := by
  have e1 : plainB ⟨#[45]⟩ 100 32 = true := by decide +kernel
  have e2 : momB 0 = true := by decide
  have e3 : linksB 1 [] = true := by decide +kernel
  have e4 : attrsB [] = true := by decide +kernel
  have e5 : eventsB [] = true := by decide +kernel
  unfold chkS spQ
  simp only [e1, e2, e3, e4, e5]
  cases plainB s 60 33 <;> simp
end Go.Proofs.YtiflfapdffkcbaaGreatDoor

namespace Go.Proofs.YtiflfapdffkcbaaGreatDoor
open Go Go.RowKit
set_option maxRecDepth 100000

/-- A list of policies in memory. -/
def PolAt (w : World) (ad : Option Addr) (n : Nat) (L : List Pol) : Prop :=
  L.length = n ∧ (0 < n → ∃ b o, ad = some ⟨b, o, none⟩ ∧ b < w.heap.size ∧ ∀ i (hi : i < L.length), ∀ j v, (polC L[i])[j]? = some v → w.cell? ⟨b, o + i * 4 + j, none⟩ = some v)
theorem PolAt.below {w w' : World} {ad : Option Addr} {n : Nat} {L : List Pol} (h : PolAt w ad n L) (hb : Below w.heap.size w w') : PolAt w' ad n L :=
  ⟨h.1, fun hn => by
    obtain ⟨b, o, e, hl, hc⟩ := h.2 hn
    exact ⟨b, o, e, Nat.lt_of_lt_of_le hl hb.size, fun i hi j v hv => (hb.cell (p := ⟨b, o + i * 4 + j, none⟩) hl).trans (hc i hi j v hv)⟩⟩
/-- What Check tells. -/
def chkP (L : List Pol) : Int := if L.length ≤ 20 ∧ L.all mayP = true then 0 else 211
theorem all_take_next {L : List Pol} {i : Nat} (hi : i < L.length) (h : ∀ j (hj : j < L.length), j < i → mayP L[j] = true) (hm : mayP L[i] = true) : ∀ j (hj : j < L.length), j < i + 1 → mayP L[j] = true := fun j hj hji => by
  rcases Nat.lt_succ_iff_lt_or_eq.1 hji with h1 | rfl
  · exact h j hj h1
  · exact hm
theorem chkP_ok {L : List Pol} (hn : L.length ≤ 20) (h : ∀ j (hj : j < L.length), mayP L[j] = true) : chkP L = 0 := by
  unfold chkP
  rw [if_pos ⟨hn, List.all_eq_true.2 fun x hx => by obtain ⟨j, hj, rfl⟩ := List.getElem_of_mem hx; exact h j hj⟩]
theorem chkP_no {L : List Pol} {j : Nat} (hj : j < L.length) (h : mayP L[j] = false) : chkP L = 211 := by
  unfold chkP
  rw [if_neg fun ⟨_, e⟩ => by have := List.all_eq_true.1 e _ (List.getElem_mem hj); rw [h] at this; cases this]
theorem chkP_many {L : List Pol} (h : ¬ L.length ≤ 20) : chkP L = 211 := by
  unfold chkP
  rw [if_neg fun ⟨e, _⟩ => h e]
end Go.Proofs.YtiflfapdffkcbaaGreatDoor

namespace Go.Proofs.YtiflfapdffkcbaaGreatDoor
open Go Go.RowKit
set_option maxRecDepth 100000

/-- From the least beginning to the greatest end. -/
def startM (X : List Sp) : Int := X.foldl (fun m a => min m a.start) 9223372036854775807
def finM (X : List Sp) : Int := X.foldl (fun m a => max m a.fin) 0
def tookN (X : List Sp) : Int := IntKind.u64.wrap (wrap64 (finM X - startM X))
theorem startM_next (X : List Sp) (k : Nat) (hk : k < X.length) : startM (X.take (k + 1)) = min (startM (X.take k)) X[k].start := by
  unfold startM
  rw [List.take_succ_eq_append_getElem hk, List.foldl_append]
  rfl
theorem finM_next (X : List Sp) (k : Nat) (hk : k < X.length) : finM (X.take (k + 1)) = max (finM (X.take k)) X[k].fin := by
  unfold finM
  rw [List.take_succ_eq_append_getElem hk, List.foldl_append]
  rfl
end Go.Proofs.YtiflfapdffkcbaaGreatDoor

namespace Go.Proofs.YtiflfapdffkcbaaGreatDoor
open Go Go.RowKit
set_option maxRecDepth 100000

/-- A number, turned by itself shifted. -/
def shX (v : BitVec 64) (s : Nat) : BitVec 64 := v ^^^ (v >>> s)
/-- The way back of a shift, in steps. -/
def unS (v : BitVec 64) (s : Nat) : Nat → BitVec 64
  | 0 => v
  | n + 1 => v ^^^ (unS v s n >>> s)
theorem xor_mid (a b c : BitVec 64) : (a ^^^ b ^^^ c) ^^^ a = c ^^^ b := by
  rw [BitVec.xor_comm (a ^^^ b ^^^ c) a, BitVec.xor_assoc a b c, ← BitVec.xor_assoc a a, BitVec.xor_self, BitVec.zero_xor, BitVec.xor_comm]
theorem unS_sh (y : BitVec 64) (s : Nat) : ∀ n, unS (shX y s) s n ^^^ y = (shX y s ^^^ y) >>> (n * s)
  | 0 => by simp [unS]
  | n + 1 => by
    have ih := unS_sh y s n
    have e : unS (shX y s) s (n + 1) ^^^ y = (unS (shX y s) s n ^^^ y) >>> s := by
      show (y ^^^ y >>> s ^^^ unS (shX y s) s n >>> s) ^^^ y = _
      rw [xor_mid, ← BitVec.ushiftRight_xor_distrib]
    rw [e, ih, ← BitVec.shiftRight_add, Nat.succ_mul]
theorem shift_out (x : BitVec 64) (n : Nat) (h : 64 ≤ n) : x >>> n = 0#64 := by
  apply BitVec.eq_of_toNat_eq
  rw [BitVec.toNat_ushiftRight, Nat.shiftRight_eq_div_pow]
  have : x.toNat < 2 ^ n := Nat.lt_of_lt_of_le x.isLt (Nat.pow_le_pow_right (by omega) h)
  rw [Nat.div_eq_of_lt this]
  rfl
theorem xor_zero_eq {a b : BitVec 64} (h : a ^^^ b = 0#64) : a = b := by
  have : (a ^^^ b) ^^^ b = 0#64 ^^^ b := by rw [h]
  rwa [BitVec.xor_assoc, BitVec.xor_self, BitVec.xor_zero, BitVec.zero_xor] at this
theorem unS_of (y : BitVec 64) (s : Nat) (h : 8 ≤ s) : unS (shX y s) s 8 = y :=
  xor_zero_eq ((unS_sh y s 8).trans (shift_out _ _ (by omega)))
theorem unS_next (v : BitVec 64) (s : Nat) : ∀ n, unS v s (n + 1) ^^^ unS v s n = v >>> ((n + 1) * s)
  | 0 => by
    show (v ^^^ v >>> s) ^^^ v = _
    rw [BitVec.xor_comm v, BitVec.xor_assoc, BitVec.xor_self, BitVec.xor_zero]
    simp
  | n + 1 => by
    have ih := unS_next v s n
    have e : unS v s (n + 1 + 1) ^^^ unS v s (n + 1) = (unS v s (n + 1) ^^^ unS v s n) >>> s := by
      show (v ^^^ unS v s (n + 1) >>> s) ^^^ (v ^^^ unS v s n >>> s) = _
      rw [BitVec.ushiftRight_xor_distrib, BitVec.xor_comm v, BitVec.xor_assoc, ← BitVec.xor_assoc v v, BitVec.xor_self, BitVec.zero_xor]
    rw [e, ih, ← BitVec.shiftRight_add]
    congr 1
    rw [Nat.succ_mul (n + 1)]
theorem sh_unS (v : BitVec 64) (s : Nat) (h : 8 ≤ s) : shX (unS v s 8) s = v := by
  have e : unS v s 9 = unS v s 8 := xor_zero_eq ((unS_next v s 8).trans (shift_out _ _ (by omega)))
  have e2 : unS v s 9 = v ^^^ unS v s 8 >>> s := rfl
  have e3 : unS v s 8 = v ^^^ unS v s 8 >>> s := e.symm.trans e2
  unfold shX
  generalize hu : unS v s 8 >>> s = u at e3 ⊢
  rw [e3, BitVec.xor_assoc, BitVec.xor_self, BitVec.xor_zero]
/-- The two factors, and what makes 1 with them. -/
abbrev fac1 : BitVec 64 := 11400714819323198485#64
abbrev fac2 : BitVec 64 := 7640891576956012809#64
/-- What an odd number is to be multiplied with, in steps. -/
def invN (v : BitVec 64) : Nat → BitVec 64
  | 0 => v
  | n + 1 => invN v n * (2#64 - v * invN v n)
theorem inv1 : invN fac1 6 * fac1 = 1#64 := by decide +kernel
theorem inv2 : invN fac2 6 * fac2 = 1#64 := by decide +kernel
/-- The blend. -/
def blend (v : BitVec 64) : BitVec 64 := shX (shX (shX v 31 * fac1) 29 * fac2) 32
def unblend (v : BitVec 64) : BitVec 64 := unS (unS (unS v 32 8 * invN fac2 6) 29 8 * invN fac1 6) 31 8
theorem blend_un (v : BitVec 64) : blend (unblend v) = v := by
  unfold blend unblend
  rw [sh_unS _ 31 (by omega), BitVec.mul_assoc, inv1, BitVec.mul_one, sh_unS _ 29 (by omega), BitVec.mul_assoc, inv2, BitVec.mul_one, sh_unS _ 32 (by omega)]
theorem inv1' : fac1 * invN fac1 6 = 1#64 := by rw [BitVec.mul_comm]; exact inv1
theorem inv2' : fac2 * invN fac2 6 = 1#64 := by rw [BitVec.mul_comm]; exact inv2
theorem un_blend (v : BitVec 64) : unblend (blend v) = v := by
  unfold blend unblend
  rw [unS_of _ 32 (by omega), BitVec.mul_assoc, inv2', BitVec.mul_one, unS_of _ 29 (by omega), BitVec.mul_assoc, inv1', BitVec.mul_one, unS_of _ 31 (by omega)]
/-- The mix. -/
def mixB (hi lo : BitVec 64) : BitVec 64 := blend (hi + blend lo)
theorem mix_named (mix lo : BitVec 64) : mixB (unblend mix - blend lo) lo = mix := by
  unfold mixB
  rw [BitVec.sub_add_cancel, blend_un]
theorem mix_iff (mix lo hi : BitVec 64) : mixB hi lo = mix ↔ hi = unblend mix - blend lo := by
  constructor
  · intro h
    rw [← h]
    unfold mixB
    rw [un_blend, BitVec.add_sub_cancel]
  · intro h
    rw [h, mix_named]
/-- As numbers. -/
def bvI (v : BitVec 64) : Int := (v.toNat : Int)
theorem bvI_lo (v : BitVec 64) : 0 ≤ bvI v := by unfold bvI; omega
theorem bvI_hi (v : BitVec 64) : bvI v < 18446744073709551616 := by have := v.isLt; unfold bvI; omega
theorem bvI_of (i : Int) (h0 : 0 ≤ i) (h1 : i < 18446744073709551616) : bvI (BitVec.ofInt 64 i) = i := by
  unfold bvI
  rw [BitVec.toNat_ofInt]
  omega
theorem bvI_inj {a b : BitVec 64} (h : bvI a = bvI b) : a = b := BitVec.eq_of_toNat_eq (by unfold bvI at h; omega)
theorem bvI_beq (a b : BitVec 64) : (bvI a == bvI b) = decide (a = b) := by
  by_cases h : a = b
  · subst h; simp
  · have : ¬ bvI a = bvI b := fun e => h (bvI_inj e)
    simp [h, this]
theorem bvI_xor (a b : BitVec 64) : bits .xor .u64 (bvI a) (bvI b) = bvI (a ^^^ b) := by
  unfold bvI
  rw [u64_xor_nat _ _ a.isLt b.isLt, BitVec.toNat_xor]
theorem bvI_shr (a : BitVec 64) (s : Nat) : bvI a / 2 ^ s = bvI (a >>> s) := by
  unfold bvI
  rw [BitVec.toNat_ushiftRight, Nat.shiftRight_eq_div_pow]
  simp
theorem bvI_mul (a b : BitVec 64) : IntKind.u64.wrap (bvI a * bvI b) = bvI (a * b) := by
  rw [IntKind.wrap_u64]
  unfold bvI
  rw [BitVec.toNat_mul]
  simp
theorem bvI_add (a b : BitVec 64) : IntKind.u64.wrap (bvI a + bvI b) = bvI (a + b) := by
  rw [IntKind.wrap_u64]
  unfold bvI
  rw [BitVec.toNat_add]
  simp
theorem bvI_sub (a b : BitVec 64) : IntKind.u64.wrap (bvI a - bvI b) = bvI (a - b) := by
  rw [IntKind.wrap_u64]
  unfold bvI
  rw [BitVec.toNat_sub]
  have := a.isLt
  have := b.isLt
  omega
end Go.Proofs.YtiflfapdffkcbaaGreatDoor

namespace Go.Proofs.YtiflfapdffkcbaaGreatDoor
open Go Go.RowKit
set_option maxRecDepth 100000

theorem fac1I : bvI fac1 = 11400714819323198485 := by decide +kernel
theorem fac2I : bvI fac2 = 7640891576956012809 := by decide +kernel
theorem bvI_shr31 (a : BitVec 64) : bvI a / (2147483648 : Int) = bvI (a >>> 31) := bvI_shr a 31
theorem bvI_shr29 (a : BitVec 64) : bvI a / (536870912 : Int) = bvI (a >>> 29) := bvI_shr a 29
theorem bvI_shr32 (a : BitVec 64) : bvI a / (4294967296 : Int) = bvI (a >>> 32) := bvI_shr a 32
theorem bvI_mul1 (a : BitVec 64) : IntKind.u64.wrap (bvI a * (11400714819323198485 : Int)) = bvI (a * fac1) := by rw [← fac1I, bvI_mul]
theorem bvI_mul2 (a : BitVec 64) : IntKind.u64.wrap (bvI a * (7640891576956012809 : Int)) = bvI (a * fac2) := by rw [← fac2I, bvI_mul]
theorem two64 : bvI 2#64 = 2 := by decide +kernel
theorem trSize : (Tryz.prog.info? 33).map (·.size) = some 2 := by kernel_rfl
end Go.Proofs.YtiflfapdffkcbaaGreatDoor

namespace Go.Proofs.YtiflfapdffkcbaaGreatDoor
open Go Go.RowKit
set_option maxRecDepth 100000

/-- The first sixteen bits of a trace's mix. -/
def mix48 (a : Sp) : Int := bvI (mixB (BitVec.ofInt 64 a.hi) (BitVec.ofInt 64 a.lo)) / 281474976710656
def firstMix (X : List Sp) : Int := match X with
  | [] => 0
  | a :: _ => mix48 a
/-- Does a policy hold? -/
def holdsB (p : Pol) (X : List Sp) : Bool :=
  if p.kind = 1 then X.any (fun a => decide (a.status = 2))
  else if p.kind = 2 then decide (p.nanos ≤ tookN X)
  else if p.kind = 3 then X.any (fun a => decide (a.svc = p.name))
  else if p.kind = 4 then decide (firstMix X < IntKind.u64.wrap p.part)
  else true
theorem bvI_shr48 (a : BitVec 64) : bvI a / (281474976710656 : Int) = bvI (a >>> 48) := bvI_shr a 48
theorem polC_all (p : Pol) : (polC p).toArray = #[.int .i64 p.kind, .int .u64 p.nanos, .string p.name, .int .i64 p.part] := rfl
end Go.Proofs.YtiflfapdffkcbaaGreatDoor

namespace Go.Proofs.YtiflfapdffkcbaaGreatDoor
open Go Go.RowKit
set_option maxRecDepth 100000

/-- The greatest part. -/
def maxPart (L : List Pol) : Int := L.foldl (fun m p => if p.kind = 4 then max m p.part else m) 0
def sureB (p : Pol) (X : List Sp) : Bool := !decide (p.kind = 4) && holdsB p X
def weightN (L : List Pol) (X : List Sp) : Int := if L.any (fun p => sureB p X) = true then 65536 else 4294967296 / maxPart L
theorem maxPart_next (L : List Pol) (k : Nat) (hk : k < L.length) : maxPart (L.take (k + 1)) = if L[k].kind = 4 then max (maxPart (L.take k)) L[k].part else maxPart (L.take k) := by
  unfold maxPart
  rw [List.take_succ_eq_append_getElem hk, List.foldl_append]
  rfl
theorem maxPart_app (L : List Pol) (p : Pol) : maxPart (L ++ [p]) = if p.kind = 4 then max (maxPart L) p.part else maxPart L := by
  unfold maxPart
  rw [List.foldl_append]
  rfl
/-- What may be: parts lie within a whole. -/
theorem mayP_part {p : Pol} (h : mayP p = true) : 0 ≤ p.part ∧ p.part ≤ 65536 := by
  unfold mayP at h
  repeat' split at h
  all_goals simp at h
  all_goals omega
theorem maxPart_le : ∀ (L : List Pol), (∀ p ∈ L, mayP p = true) → 0 ≤ maxPart L ∧ maxPart L ≤ 65536 := by
  intro L
  unfold maxPart
  have : ∀ (L : List Pol) (m : Int), (∀ p ∈ L, mayP p = true) → 0 ≤ m → m ≤ 65536 → 0 ≤ L.foldl (fun m p => if p.kind = 4 then max m p.part else m) m ∧ L.foldl (fun m p => if p.kind = 4 then max m p.part else m) m ≤ 65536 := by
    intro L
    induction L with
    | nil => exact fun m _ h1 h2 => ⟨h1, h2⟩
    | cons p r ih =>
      intro m h h1 h2
      have hp := mayP_part (h p (by simp))
      rw [List.foldl_cons]
      refine ih _ (fun q hq => h q (by simp [hq])) ?_ ?_
      · by_cases hk : p.kind = 4
        · rw [if_pos hk]; omega
        · rw [if_neg hk]; exact h1
      · by_cases hk : p.kind = 4
        · rw [if_pos hk]; omega
        · rw [if_neg hk]; exact h2
  exact fun h => this L 0 h (by omega) (by omega)
theorem maxPart_ge : ∀ (L : List Pol) (p : Pol), p ∈ L → p.kind = 4 → p.part ≤ maxPart L := by
  have mono : ∀ (L : List Pol) (m : Int), m ≤ L.foldl (fun m p => if p.kind = 4 then max m p.part else m) m := by
    intro L
    induction L with
    | nil => exact fun m => Int.le_refl _
    | cons p r ih =>
      intro m
      rw [List.foldl_cons]
      refine Int.le_trans ?_ (ih _)
      by_cases hk : p.kind = 4
      · rw [if_pos hk]; omega
      · rw [if_neg hk]; exact Int.le_refl _
  have : ∀ (L : List Pol) (m : Int) (p : Pol), p ∈ L → p.kind = 4 → p.part ≤ L.foldl (fun m p => if p.kind = 4 then max m p.part else m) m := by
    intro L
    induction L with
    | nil => exact fun m p hp => by cases hp
    | cons q r ih =>
      intro m p hp hk
      rw [List.foldl_cons]
      rcases List.mem_cons.1 hp with e | e
      · subst e
        rw [if_pos hk]
        exact Int.le_trans (by omega) (mono r _)
      · exact ih _ p e hk
  exact fun L p hp hk => this L 0 p hp hk
/-- The first policy that holds. -/
def FirstR (L : List Pol) (X : List Sp) (r : Int) : Prop := (r = -1 ∧ L.any (fun p => holdsB p X) = false) ∨ ∃ i, ∃ h : i < L.length, r = (i : Int) ∧ holdsB L[i] X = true ∧ ∀ j (hj : j < L.length), j < i → holdsB L[j] X = false
theorem FirstR.one {L : List Pol} {X : List Sp} {r s : Int} (h : FirstR L X r) (k : FirstR L X s) : r = s := by
  rcases h with ⟨h1, h2⟩ | ⟨i, hi, h1, h2, h3⟩ <;> rcases k with ⟨k1, k2⟩ | ⟨j, hj, k1, k2, k3⟩
  · rw [h1, k1]
  · rw [List.any_eq_false] at h2
    exact absurd k2 (h2 _ (List.getElem_mem hj))
  · rw [List.any_eq_false] at k2
    exact absurd h2 (k2 _ (List.getElem_mem hi))
  · rw [h1, k1]
    by_cases e : i < j
    · exact absurd (h2.symm.trans (k3 i hi e)) (by decide)
    · by_cases e2 : j < i
      · exact absurd (k2.symm.trans (h3 j hj e2)) (by decide)
      · have : i = j := by omega
        rw [this]
end Go.Proofs.YtiflfapdffkcbaaGreatDoor

namespace Go.Proofs.YtiflfapdffkcbaaGreatDoor
open Go Go.RowKit
set_option maxRecDepth 100000

/-- The verdict. -/
def DecR (L : List Pol) (X : List Sp) (k : Bool) (q g e : Int) : Prop :=
  (chkP L ≠ 0 ∧ k = false ∧ q = 0 ∧ g = 0 ∧ e = chkP L) ∨
  (chkP L = 0 ∧ ¬ OneT X ∧ k = false ∧ q = 0 ∧ g = 0 ∧ e = 101) ∨
  (chkP L = 0 ∧ OneT X ∧ (X = [] ∨ FirstR L X (-1)) ∧ k = false ∧ q = -1 ∧ g = 0 ∧ e = 0) ∨
  (chkP L = 0 ∧ OneT X ∧ X ≠ [] ∧ 0 ≤ q ∧ FirstR L X q ∧ k = true ∧ g = weightN L X ∧ e = 0)
theorem DecR.one {L : List Pol} {X : List Sp} {k k' : Bool} {q g e q' g' e' : Int} (h : DecR L X k q g e) (h' : DecR L X k' q' g' e') : k = k' ∧ q = q' ∧ g = g' ∧ e = e' := by
  rcases h with ⟨a1, a2, a3, a4, a5⟩ | ⟨a1, a0, a2, a3, a4, a5⟩ | ⟨a1, a0, a6, a2, a3, a4, a5⟩ | ⟨a1, a0, a6, a7, a8, a2, a3, a4⟩ <;> rcases h' with ⟨b1, b2, b3, b4, b5⟩ | ⟨b1, b0, b2, b3, b4, b5⟩ | ⟨b1, b0, b6, b2, b3, b4, b5⟩ | ⟨b1, b0, b6, b7, b8, b2, b3, b4⟩
  all_goals first
    | exact absurd ‹chkP L = 0› ‹chkP L ≠ 0›
    | exact absurd ‹OneT X› ‹¬ OneT X›
    | exact ⟨a2.trans b2.symm, a3.trans b3.symm, a4.trans b4.symm, a5.trans b5.symm⟩
    | skip
  · rcases a6 with h | h
    · exact absurd h b6
    · have := h.one b8; omega
  · rcases b6 with h | h
    · exact absurd h a6
    · have := h.one a8; omega
  · exact ⟨a2.trans b2.symm, a8.one b8, a3.trans b3.symm, a4.trans b4.symm⟩
theorem chkP_cases (L : List Pol) : chkP L = 0 ∨ chkP L = 211 := by
  unfold chkP
  split
  · exact Or.inl rfl
  · exact Or.inr rfl
theorem chkP_may {L : List Pol} (h : chkP L = 0) : L.length ≤ 20 ∧ ∀ p ∈ L, mayP p = true := by
  unfold chkP at h
  split at h
  · rename_i h1
    exact ⟨h1.1, fun p hp => List.all_eq_true.1 h1.2 p hp⟩
  · cases h
/-- A kept trace weighs something. -/
theorem first_weighs {L : List Pol} {X : List Sp} {r : Int} (hm : ∀ p ∈ L, mayP p = true) (hX : X ≠ []) (hF : ∀ a ∈ X, a.Fits) (h : FirstR L X r) (hr : 0 ≤ r) : L.any (fun p => sureB p X) = true ∨ 0 < maxPart L := by
  rcases h with ⟨h1, _⟩ | ⟨i, hi, h1, h2, _⟩
  · omega
  · by_cases hk : L[i].kind = 4
    · right
      have h3 := maxPart_ge L _ (List.getElem_mem hi) hk
      have h4 := mayP_part (hm _ (List.getElem_mem hi))
      unfold holdsB at h2
      rw [hk] at h2
      simp only [show ¬ (4 : Int) = 1 by decide, show ¬ (4 : Int) = 2 by decide, show ¬ (4 : Int) = 3 by decide, if_false, if_true, decide_eq_true_eq] at h2
      rw [IntKind.wrap_u64] at h2
      have h5 : 0 ≤ firstMix X := by
        match X, hX with
        | a :: r, _ =>
          show 0 ≤ mix48 a
          unfold mix48
          exact Int.ediv_nonneg (bvI_lo _) (by omega)
      omega
    · left
      exact List.any_eq_true.2 ⟨_, List.getElem_mem hi, by unfold sureB; rw [h2]; simp [hk]⟩
end Go.Proofs.YtiflfapdffkcbaaGreatDoor
