/-
  Merged: Wr, Cp, Scan, Rd.
-/
import Derived.Test.YtiflfapdffkcbaaGreatDoorZmq
import Derived.Laws.CopyOwn
import Derived.BigQuiet
import Derived.WalkMore
namespace Go.Proofs.YtiflfapdffkcbaaGreatDoor
open Go.RowKit
set_option maxRecDepth 100000
theorem Tryz.info5 : (Tryz.prog.info? 5).map (fun i => (i.zero, i.size, i.bytes)) = some (some (.int .u8 0), 1, 1) := by kernel_rfl

theorem row_shape {base : Nat} {w : World} {e : TypeId} {size n : Nat} {v : Value} {xs : List Value} (h : w.ownsRow base e size v n xs) : ∃ ao l c, v = .slice ao l c := by
  rcases h.2 with ⟨rfl, _⟩ | ⟨g, cap, cur, rfl, _⟩
  · exact ⟨_, _, _, rfl⟩
  · exact ⟨_, _, _, rfl⟩

/-- A string's bytes, as numbers. -/
def bytesI (s : ByteArray) : List Int := s.data.toList.map fun b => (b.toNat : Int)
theorem bytesI_length (s : ByteArray) : (bytesI s).length = s.size := by unfold bytesI; rw [List.length_map, Array.length_toList]; rfl
theorem bytesI_cells (s : ByteArray) : (bytesI s).map (Value.int .u8) = byteCells s := by unfold bytesI byteCells; rw [List.map_map]; rfl

theorem moved_S {w : World} {v vr : Value} {B k : Nat} (hM : Moved w v vr) (hS : k = B ∨ vr.ownBlock = some k) (hk : k < w.heap.size) : k = B ∨ v.ownBlock = some k := by
  rcases hS with h | h
  · exact Or.inl h
  · rcases hM with e | ⟨j, e, hj⟩
    · exact Or.inr (e ▸ h)
    · rw [h] at e; simp at e; omega

end Go.Proofs.YtiflfapdffkcbaaGreatDoor

namespace Go.Proofs.YtiflfapdffkcbaaGreatDoor
open Go.RowKit
set_option maxRecDepth 100000

/-- The cells of a slice value hold these bytes. -/
structure Holds (w : World) (ad : Option Addr) (n : Nat) (K : List Int) : Prop where
  len : K.length = n
  cells : ∀ j u, (K.map (Value.int .u8))[j]? = some u → ∃ a, ad = some a ∧ w.cell? (a.add j) = some u

theorem Holds.ofRow {base : Nat} {w : World} {ad : Option Addr} {n cap : Nat} {K : List Int} (h : w.ownsRow base 5 1 (.slice ad n cap) K.length (K.map (Value.int .u8))) : Holds w ad n K := by
  rcases h.2 with ⟨e, hn⟩ | ⟨g, cap', cur, e, _⟩
  · simp at e
    obtain ⟨rfl, rfl, rfl⟩ := e
    have : K = [] := List.eq_nil_of_length_eq_zero hn
    subst this
    exact ⟨rfl, fun j u hj => by simp at hj⟩
  · simp at e
    obtain ⟨rfl, rfl, rfl⟩ := e
    exact ⟨rfl, fun j u hj => ⟨_, rfl, h.cells (g := g) rfl j u hj⟩⟩

theorem u8_one (K : List Int) : ∀ u ∈ K.map (Value.int .u8), u.oneCell' = true := ints_oneCell _ _

theorem copy_src {w : World} {ad : Option Addr} {cs : List Value} (h : ∀ j u, cs[j]? = some u → ∃ a, ad = some a ∧ w.cell? (a.add j) = some u) (hp : 0 < cs.length) : ∃ a, ad = some a ∧ ∀ j u, cs[j]? = some u → w.cell? (a.add j) = some u := by
  obtain ⟨a, ha, _⟩ := h 0 cs[0] (by simp [hp])
  refine ⟨a, ha, fun j u hj => ?_⟩
  obtain ⟨a', ha', hc⟩ := h j u hj
  rw [ha] at ha'
  simp at ha'
  subst ha'
  exact hc

/-- A row of bytes, whole. -/
def RowAt (w : World) (g : Nat) (K : List Int) : Prop := w.heap[g]? = some (.cells (K.map (Value.int .u8)).toArray 5 (0, 0))
theorem RowAt.cell {w : World} {g : Nat} {K : List Int} (h : RowAt w g K) (j : Nat) (hj : j < K.length) : w.cell? ⟨g, j, none⟩ = some (.int .u8 (K.getD j 0)) := by
  unfold RowAt at h
  simp [World.cell?, h, List.getD, hj]
theorem RowAt.upd {w w' : World} {g : Nat} {K : List Int} {S : Nat → Prop} (h : RowAt w g K) (hu : Upd S w w') (hS : ¬ S g) : RowAt w' g K := (hu.block g (lt_of_block h) hS).trans h
theorem RowAt.own {w : World} {g : Nat} {K : List Int} (h : RowAt w g K) (base : Nat) (hb : base ≤ g) (hl : K.length ≤ maxLen) : w.ownsRow base 5 1 (.slice (some ⟨g, 0, none⟩) K.length K.length) K.length (K.map (Value.int .u8)) :=
  ⟨by simp, Or.inr ⟨g, K.length, _, rfl, hb, h, Nat.le_refl _, hl, by simp, by rw [Nat.mul_one, List.take_of_length_le (by simp)]⟩⟩
theorem RowAt.holds {w : World} {g : Nat} {K : List Int} (h : RowAt w g K) : Holds w (some ⟨g, 0, none⟩) K.length K := by
  refine ⟨rfl, fun j u hj => ⟨_, rfl, ?_⟩⟩
  unfold RowAt at h
  rw [Addr.add_lit]
  simp only [World.cell?, Nat.zero_add, h]
  simpa using hj

end Go.Proofs.YtiflfapdffkcbaaGreatDoor

namespace Go.Proofs.YtiflfapdffkcbaaGreatDoor
open Go

/-- What is read: a number and how many bytes it has; a form that may not be; no end. -/
abbrev NumRes := Option (Option (Nat × Nat))
abbrev NumRes.ok (v size : Nat) : NumRes := some (some (v, size))
abbrev NumRes.form : NumRes := some none
abbrev NumRes.ended : NumRes := none
theorem NumRes.each {motive : NumRes → Prop} (ok : ∀ v s, motive (.ok v s)) (form : motive .form) (ended : motive .ended) (r : NumRes) : motive r := by
  rcases r with _ | _ | ⟨v, s⟩
  · exact ended
  · exact form
  · exact ok v s

def badLast (size : Nat) (x : Int) : Bool := (decide (0 < size) && x == 0) || (size == 9 && decide (1 < x))
def scanN : List Int → Nat → Nat → NumRes
  | [], size, _ => if size = 10 then .form else .ended
  | x :: r, size, v => if size = 10 then .form else if x < 128 then (if badLast size x = true then .form else .ok (v + x.toNat * 128 ^ size) (size + 1)) else scanN r (size + 1) (v + (x.toNat - 128) * 128 ^ size)

theorem scanN_10 (l : List Int) (v : Nat) : scanN l 10 v = .form := by cases l <;> simp [scanN]
theorem scanN_nil (size v : Nat) (h : size ≠ 10) : scanN [] size v = .ended := by simp [scanN, h]
theorem scanN_last (x : Int) (r : List Int) (size v : Nat) (h : size ≠ 10) (hx : x < 128) : scanN (x :: r) size v = if badLast size x = true then .form else .ok (v + x.toNat * 128 ^ size) (size + 1) := by simp [scanN, h, hx]
theorem scanN_more (x : Int) (r : List Int) (size v : Nat) (h : size ≠ 10) (hx : ¬ x < 128) : scanN (x :: r) size v = scanN r (size + 1) (v + (x.toNat - 128) * 128 ^ size) := by simp [scanN, h, hx]

theorem and_u8_127 (x : Int) (h0 : 0 ≤ x) (h1 : x < 256) : bits .and .u8 x 127 = x % 128 := by
  rw [u8_and x 127 h0 h1 (by omega) (by omega)]
  show ((x.toNat &&& 127 : Nat) : Int) = _
  rw [nat_mask7]; omega
theorem or_u64_shl (V x s : Nat) (hV : V < 128 ^ s) (hx : V + x * 128 ^ s < 18446744073709551616) :
    bits .or .u64 (V : Int) ((x * 128 ^ s : Nat) : Int) = ((V + x * 128 ^ s : Nat) : Int) := by
  have hV' : V < 18446744073709551616 := by omega
  rw [u64_or_nat V (x * 128 ^ s) hV' (by omega)]
  congr 1
  have h : x * 128 ^ s ||| V = x * 128 ^ s + V := nat_join (7 * s) (x * 128 ^ s) V (by rw [Nat.pow_mul]; exact Nat.mul_mod_left _ _) (by rw [Nat.pow_mul]; exact hV)
  rw [Nat.or_comm, h, Nat.add_comm]
theorem pow128 (s : Nat) : (2 : Nat) ^ (7 * s) = 128 ^ s := by rw [Nat.pow_mul]
theorem pow128I (s : Nat) : (2 : Int) ^ (7 * s) = ((128 ^ s : Nat) : Int) := by rw [← pow128]; norm_cast
theorem pow_le9 (s : Nat) (h : s ≤ 9) : 128 ^ s ≤ 9223372036854775808 := by
  have : 128 ^ s ≤ 128 ^ 9 := Nat.pow_le_pow_right (by omega) h
  omega
theorem pow_le8 (s : Nat) (h : s ≤ 8) : 128 ^ s ≤ 72057594037927936 := by
  have : 128 ^ s ≤ 128 ^ 8 := Nat.pow_le_pow_right (by omega) h
  omega

structure NumRel (K : List Int) (t V s : Nat) : Prop where
  s10 : s ≤ 10
  sk : s ≤ K.length - t
  v64 : V < 18446744073709551616
  small : s ≤ 9 → V < 128 ^ s
  eq : s ≤ 9 → scanN (K.drop t) 0 0 = scanN (K.drop (t + s)) s V
  eq10 : s = 10 → scanN (K.drop t) 0 0 = .form

theorem NumRel.start (K : List Int) (t : Nat) : NumRel K t 0 0 := ⟨by omega, by omega, by omega, fun _ => by simp, fun _ => rfl, fun h => by omega⟩

theorem num_val (V s : Nat) (y : Int) (hy0 : 0 ≤ y) (hV : V < 128 ^ s) (hb : V + y.toNat * 128 ^ s < 18446744073709551616) :
    bits .or .u64 (V : Int) (IntKind.u64.wrap (y * 2 ^ (7 * s))) = ((V + y.toNat * 128 ^ s : Nat) : Int) := by
  have e : y * 2 ^ (7 * s) = ((y.toNat * 128 ^ s : Nat) : Int) := by
    rw [pow128I, Int.natCast_mul]
    congr 1
    omega
  rw [e, IntKind.wrap_u64]
  rw [show (((y.toNat * 128 ^ s : Nat) : Int) % 18446744073709551616) = ((y.toNat * 128 ^ s : Nat) : Int) by omega]
  exact or_u64_shl V y.toNat s hV hb

theorem num_step {K : List Int} {t V s : Nat} {x : Int} (hN : NumRel K t V s) (hs : s ≤ 9) (hd : K.drop (t + s) = x :: K.drop (t + s + 1)) (h0 : 128 ≤ x) (h1 : x < 256) (hsk : s < K.length - t) :
    ∃ V' : Nat, bits .or .u64 (V : Int) (IntKind.u64.wrap (x % 128 * 2 ^ (7 * s))) = (V' : Int) ∧ NumRel K t V' (s + 1) := by
  have hV := hN.small hs
  have eqs : scanN (K.drop t) 0 0 = scanN (K.drop (t + (s + 1))) (s + 1) (V + (x.toNat - 128) * 128 ^ s) := by
    rw [hN.eq hs, hd, scanN_more _ _ _ _ (by omega) (by omega)]; rfl
  by_cases h8 : s ≤ 8
  · have hp := pow_le8 s h8
    have hy : (x % 128).toNat = x.toNat - 128 := by omega
    have hm : (x.toNat - 128) * 128 ^ s ≤ 127 * 128 ^ s := Nat.mul_le_mul_right _ (by omega)
    have hlt : V + (x.toNat - 128) * 128 ^ s < 128 ^ (s + 1) := by rw [Nat.pow_succ]; omega
    have hp2 : 128 ^ (s + 1) ≤ 9223372036854775808 := pow_le9 (s + 1) (by omega)
    refine ⟨V + (x.toNat - 128) * 128 ^ s, ?_, ⟨by omega, by omega, by omega, fun _ => hlt, fun _ => eqs, fun h => by omega⟩⟩
    rw [num_val V s (x % 128) (by omega) hV (by rw [hy]; omega), hy]
  · have h9 : s = 9 := by omega
    have hw : 0 ≤ IntKind.u64.wrap (x % 128 * 2 ^ (7 * s)) ∧ IntKind.u64.wrap (x % 128 * 2 ^ (7 * s)) < 18446744073709551616 := by
      rw [IntKind.wrap_u64]; omega
    have hv64 := hN.v64
    rw [u64_or (V : Int) _ (by omega) (by omega) hw.1 hw.2]
    refine ⟨_, rfl, ⟨by omega, by omega, ?_, fun h => by omega, fun h => by omega, fun _ => ?_⟩⟩
    · have : (V : Int).toNat ||| (IntKind.u64.wrap (x % 128 * 2 ^ (7 * s))).toNat < 2 ^ 64 := Nat.or_lt_two_pow (by omega) (by omega)
      omega
    · rw [eqs]; subst h9; exact scanN_10 _ _

theorem num_last {K : List Int} {t V s : Nat} {x : Int} (hN : NumRel K t V s) (hs : s ≤ 9) (hd : K.drop (t + s) = x :: K.drop (t + s + 1)) (h0 : 0 ≤ x) (h1 : x < 128) (hb : ¬ badLast s x = true) :
    bits .or .u64 (V : Int) (IntKind.u64.wrap (x * 2 ^ (7 * s))) = ((V + x.toNat * 128 ^ s : Nat) : Int) ∧ scanN (K.drop t) 0 0 = .ok (V + x.toNat * 128 ^ s) (s + 1) := by
  have hV := hN.small hs
  refine ⟨num_val V s x h0 hV ?_, ?_⟩
  · by_cases h8 : s ≤ 8
    · have hp := pow_le8 s h8
      have hm : x.toNat * 128 ^ s ≤ 127 * 128 ^ s := Nat.mul_le_mul_right _ (by omega)
      omega
    · have h9 : s = 9 := by omega
      subst h9
      have hx1 : x ≤ 1 := by
        by_cases hx : x ≤ 1
        · exact hx
        · exact absurd (by simp [badLast]; omega) hb
      have hm : x.toNat * 128 ^ 9 ≤ 1 * 128 ^ 9 := Nat.mul_le_mul_right _ (by omega)
      omega
  · rw [hN.eq hs, hd, scanN_last _ _ _ _ (by omega) h1, if_neg hb]
theorem num_last' {K : List Int} {t V s : Nat} {x : Int} (hN : NumRel K t V s) (hs : s ≤ 9) (hd : K.drop (t + s) = x :: K.drop (t + s + 1)) (h0 : 0 ≤ x) (h1 : x < 128) (hb : ¬ badLast s x = true) (he : s = 0 ∨ s = 9) :
    bits .or .u64 (V : Int) (x * 2 ^ (7 * s)) = ((V + x.toNat * 128 ^ s : Nat) : Int) := by
  have h := (num_last hN hs hd h0 h1 hb).1
  have e : IntKind.u64.wrap (x * 2 ^ (7 * s)) = x * 2 ^ (7 * s) := by
    rw [IntKind.wrap_u64]
    rcases he with rfl | rfl
    · simp; omega
    · have hx1 : x ≤ 1 := by
        by_cases hx : x ≤ 1
        · exact hx
        · exact absurd (by simp [badLast]; omega) hb
      simp; omega
  rw [e] at h
  exact h
theorem num_bad {K : List Int} {t V s : Nat} {x : Int} (hN : NumRel K t V s) (hs : s ≤ 9) (hd : K.drop (t + s) = x :: K.drop (t + s + 1)) (h1 : x < 128) (hb : badLast s x = true) :
    scanN (K.drop t) 0 0 = .form := by
  rw [hN.eq hs, hd, scanN_last _ _ _ _ (by omega) h1, if_pos hb]
end Go.Proofs.YtiflfapdffkcbaaGreatDoor

namespace Go.Proofs.YtiflfapdffkcbaaGreatDoor
open Go.RowKit
set_option maxRecDepth 100000

theorem ret3 {a a' b b' : Int} {v : Value} (ha : a = a') (hb : b = b') : Ending.returned (.tuple #[.int .u64 a, .int .i64 b, v]) = .returned (.tuple #[.int .u64 a', .int .i64 b', v]) := by rw [ha, hb]
theorem scan_size : ∀ (l : List Int) (s v v' s' : Nat), scanN l s v = .ok v' s' → s < s' ∧ s' ≤ s + l.length := by
  intro l
  induction l with
  | nil => intro s v v' s' h; unfold scanN at h; split at h <;> simp at h
  | cons x r ih =>
    intro s v v' s' h
    unfold scanN at h
    split at h
    · simp at h
    · split at h
      · split at h
        · simp at h
        · simp at h; simp; omega
      · have := ih _ _ _ _ h; simp; omega

end Go.Proofs.YtiflfapdffkcbaaGreatDoor
