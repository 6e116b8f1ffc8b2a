/-
  Merged: SlA, SlB, SlC, SlD, SlE, SlF, SlH, SlI.
-/
import Derived.Test.YtkpkdikogoalkaaGreatDoorSkHq
import Derived.Test.YtkpkdikogoalkaaGreatDoorMw
import Derived.Deep.RegionLaw
namespace Go.Proofs.YtkpkdikogoalkaaGreatDoor.sk
open Go.RowKit
set_option maxRecDepth 100000

theorem addr (a b : Nat) : IntKind.u64.wrap ((a : Int) + (b : Int)) = (((a + b) % 18446744073709551616 : Nat) : Int) := by
  rw [← Int.natCast_add, IntKind.wrap_u64]; omega
theorem subr {a b r : Nat} (hr : r < 18446744073709551616) (h : (r + b) % 18446744073709551616 = a % 18446744073709551616) : IntKind.u64.wrap ((a : Int) - (b : Int)) = (r : Int) := by
  rw [IntKind.wrap_u64]; omega
theorem powN (a s : Nat) : (a : Int) * 2 ^ s = ((a * 2 ^ s : Nat) : Int) := by rw [Int.natCast_mul, Int.natCast_pow]; rfl
theorem divP (a s : Nat) : (a : Int) / 2 ^ s = ((a / 2 ^ s : Nat) : Int) := by rw [Int.natCast_ediv, Int.natCast_pow]; rfl
theorem or_sum {a b s : Nat} (h : b < 2 ^ s) (ha : a * 2 ^ s + b < 18446744073709551616) : bits .or .u64 ((a * 2 ^ s : Nat) : Int) (b : Int) = ((a * 2 ^ s + b : Nat) : Int) := by
  have e : a * 2 ^ s ||| b = a * 2 ^ s + b := by
    have := Nat.shiftLeft_add_eq_or_of_lt h a
    rw [Nat.shiftLeft_eq] at this
    exact this.symm
  have := bits_or_u64_nat (a * 2 ^ s) b (by omega) (by omega)
  rw [e] at this
  exact this
theorem len_small {y : Nat} (h0 : 0 < y) (h : y ≤ 1000000) : lenN y ≤ 20 ∧ 1 ≤ lenN y ∧ y < 2 ^ lenN y := by
  rw [lenN_log (by omega)]
  obtain ⟨l1, l2⟩ := log2_le (v := y) (by omega)
  refine ⟨?_, by omega, l2⟩
  rcases Nat.lt_or_ge y.log2 20 with h6 | h6
  · omega
  · have := Nat.pow_le_pow_right (n := 2) (by omega) h6
    omega
theorem wrapv {a : Int} {n : Nat} (h : a = (n : Int)) (hn : n < 18446744073709551616) : IntKind.u64.wrap a = (n : Int) := by
  rw [h, IntKind.wrap_u64]; omega
theorem rem_part {X Z R y p : Nat} (hp : 1 ≤ p) (h : X * p = Z * p + R) (hR : R < y * p) : ∃ r, R = r * p ∧ X = Z + r ∧ r < y := by
  have hZX : Z ≤ X := by
    rcases Nat.lt_or_ge X Z with h' | h'
    · have := Nat.mul_le_mul_right p (show X + 1 ≤ Z by omega)
      rw [Nat.add_mul] at this
      omega
    · exact h'
  refine ⟨X - Z, ?_, by omega, ?_⟩
  · rw [Nat.sub_mul]; omega
  · have : (X - Z) * p < y * p := by rw [Nat.sub_mul]; omega
    exact Nat.lt_of_mul_lt_mul_right this
theorem fin_sum {m1 rh un1 un0 m2 r0 un21 : Nat} (hd2 : m2 + r0 = un21) (h21 : un21 = rh * 4294967296 + un1) : (m1 + rh) * 18446744073709551616 + (4294967296 * un1 + un0) = m1 * 4294967296 * 4294967296 + m2 * 4294967296 + (r0 * 4294967296 + un0) := by omega
theorem wmulK {a : Nat} (h : a < 4294967296) : IntKind.u64.wrap (4294967296 * (a : Int)) = ((4294967296 * a : Nat) : Int) := wrapv (by omega) (by omega)
theorem wmulR {a : Nat} (h : a < 4294967296) : IntKind.u64.wrap ((a : Int) * 4294967296) = ((a * 4294967296 : Nat) : Int) := wrapv (by omega) (by omega)
theorem wmulM (a : Nat) : IntKind.u64.wrap ((a : Int) * 4294967296) = ((a * 4294967296 % 18446744073709551616 : Nat) : Int) := by rw [IntKind.wrap_u64]; omega
theorem quoN' {a b q : Nat} (h : a / b = q) (ha : a < 18446744073709551616) : IntKind.u64.wrap ((a : Int).tdiv (b : Int)) = (q : Int) := by
  rw [← h]; exact quoN a b ha
theorem r5_lt {r0 N1 un0 Y1 : Nat} (h1 : r0 < N1) (h2 : un0 < 4294967296) (h3 : Y1 = N1 * 4294967296) : r0 * 4294967296 + un0 < Y1 := by omega
theorem mods {a b c d : Nat} (h : a + b = c + d) : (a + b % 18446744073709551616) % 18446744073709551616 = (c % 18446744073709551616 + d) % 18446744073709551616 % 18446744073709551616 := by
  rw [Nat.add_mod_mod, Nat.mod_add_mod, Nat.mod_mod, h]
theorem L12 {U m1 rh : Nat} (h : m1 + rh = U) (hU : U < 18446744073709551616) : IntKind.u64.wrap ((U : Int) - (m1 : Int)) = (rh : Int) := subr (by omega) (by omega)
theorem L14 {rh un1 un21 : Nat} (h : un21 = rh * 4294967296 + un1) (hl : un21 < 18446744073709551616) : IntKind.u64.wrap (((4294967296 * rh : Nat) : Int) + (un1 : Int)) = (un21 : Int) := by
  rw [addw _ _ (by omega), h, Nat.mul_comm]
theorem L18 {U un1 m1 rh un21 : Nat} (hd1 : m1 + rh = U) (h : un21 = rh * 4294967296 + un1) (hl : un21 < 18446744073709551616) : IntKind.u64.wrap ((((U * 4294967296 % 18446744073709551616 + un1) % 18446744073709551616 : Nat) : Int) - ((m1 * 4294967296 % 18446744073709551616 : Nat) : Int)) = (un21 : Int) := subr hl (mods (by omega))
theorem L23 {r0 un0 : Nat} (h : r0 < 4294967296) (h2 : un0 < 4294967296) : IntKind.u64.wrap (((4294967296 * r0 : Nat) : Int) + (un0 : Int)) = ((4294967296 * r0 + un0 : Nat) : Int) := addw _ _ (by omega)
theorem L25 {q1 q0 : Nat} (h : q1 < 4294967296) (h2 : q0 < 4294967296) : IntKind.u64.wrap (((q1 * 4294967296 : Nat) : Int) + (q0 : Int)) = ((q1 * 4294967296 + q0 : Nat) : Int) := addw _ _ (by omega)
theorem L29 {un21 m2 r0 un0 : Nat} (hd2 : m2 + r0 = un21) (h : r0 < 4294967296) (h2 : un0 < 4294967296) : IntKind.u64.wrap ((((un21 * 4294967296 % 18446744073709551616 + un0) % 18446744073709551616 : Nat) : Int) - ((m2 * 4294967296 % 18446744073709551616 : Nat) : Int)) = ((r0 * 4294967296 + un0 : Nat) : Int) := subr (by omega) (mods (by omega))
theorem nat_nonneg (n : Nat) : ¬ (n : Int) < 0 := by omega
end Go.Proofs.YtkpkdikogoalkaaGreatDoor.sk

namespace Go.Proofs.YtkpkdikogoalkaaGreatDoor.sk
open Go.RowKit
set_option maxRecDepth 100000

theorem two_parts (m y : Nat) (hy : 0 < y) :
    lo64 (m / y) = ((hi64 m % y) * 18446744073709551616 + lo64 m) / y ∧ m % y = ((hi64 m % y) * 18446744073709551616 + lo64 m) % y := by
  have e1 : m = hi64 m * 18446744073709551616 + lo64 m := by unfold hi64 lo64; omega
  have e2 := Nat.div_add_mod (hi64 m) y
  have e3 : lo64 m < 18446744073709551616 := by unfold lo64; omega
  have e4 : hi64 m % y < y := Nat.mod_lt _ hy
  generalize hi64 m = H at *
  generalize lo64 m = L at *
  generalize H / y = k at *
  generalize H % y = r at *
  have e5 : m = r * 18446744073709551616 + L + y * (k * 18446744073709551616) := by
    rw [e1, ← e2, Nat.add_mul, Nat.mul_assoc]; omega
  have e6 : r * 18446744073709551616 + L < 18446744073709551616 * y := by
    have := Nat.mul_le_mul_right 18446744073709551616 (show r + 1 ≤ y by omega)
    rw [Nat.add_mul, Nat.one_mul, Nat.mul_comm y] at this
    omega
  have e7 : (r * 18446744073709551616 + L) / y < 18446744073709551616 := by
    rw [Nat.div_lt_iff_lt_mul hy]; exact e6
  clear e1 e2
  rw [e5]
  refine ⟨?_, by rw [Nat.add_mul_mod_self_left]⟩
  rw [Nat.add_mul_div_left _ _ hy]
  unfold lo64
  rw [Nat.add_mul_mod_self_right, Nat.mod_eq_of_lt e7]
end Go.Proofs.YtkpkdikogoalkaaGreatDoor.sk

namespace Go.Proofs.YtkpkdikogoalkaaGreatDoor.sk
open Go.RowKit
set_option maxRecDepth 100000

theorem quo2 (a : Nat) (h : a < 18446744073709551616) : IntKind.u64.wrap ((a : Int) / 2) = ((a / 2 : Nat) : Int) := by rw [IntKind.wrap_u64]; omega
theorem div2k (v k : Nat) : v / 2 ^ k / 2 = v / 2 ^ (k + 1) := by rw [Nat.div_div_eq_div_mul, Nat.pow_succ]
theorem log_one {v k : Nat} (h : v / 2 ^ k = 1) : v.log2 = k := by
  have hp := two_pos k
  have := Nat.div_add_mod v (2 ^ k)
  have := Nat.mod_lt v (show 2 ^ k > 0 by omega)
  rw [h] at *
  exact log2_of (by omega) (by rw [Nat.pow_succ]; omega)
theorem hid0 (v : Nat) : Hid (v = v / 2 ^ 0) := by
  have : v = v / 2 ^ 0 := by simp
  exact this
theorem five_lt (v : Nat) (h : 64 ≤ v) : v / 2 ^ (v.log2 - 5) < 64 := by
  obtain ⟨l1, l2⟩ := log2_le (v := v) (by omega)
  have e6 : 6 ≤ v.log2 := by
    rcases Nat.lt_or_ge v.log2 6 with h6 | h6
    · have := Nat.pow_le_pow_right (n := 2) (by omega) (show v.log2 + 1 ≤ 6 by omega)
      omega
    · exact h6
  have e7 : 2 ^ (v.log2 + 1) = 64 * 2 ^ (v.log2 - 5) := by rw [show v.log2 + 1 = (v.log2 - 5) + 6 by omega, Nat.pow_add]; omega
  exact (Nat.div_lt_iff_lt_mul (by have := two_pos (v.log2 - 5); omega)).mpr (by omega)
theorem ret_i64 {a b : Int} (h : a = b) : Ending.returned (.int .i64 a) = .returned (.int .i64 b) := by rw [h]
set_option maxHeartbeats 1000000 in
theorem refIndex (v : Nat) (hv : v < 18446744073709551616) (w : World) :
    Calls Tryz.prog 43 #[.int .u64 v] w fun e w' => e = .returned (.int .i64 (idxN v : Nat)) ∧ w' = w := by
  by_cases h : v < 64
  · have h1 : (v : Int) < 64 := by omega
    have e : idxN v = v := (idx_small h).1
    rw [e]
    clear e
    go_enter Tryz.func43, Tryz.ntmps43
    go_wp2
    go_ret
    exact ⟨rfl, rfl⟩
  · have h1 : ¬ (v : Int) < 64 := by omega
    obtain ⟨l1, l2⟩ := log2_le (v := v) (by omega)
    have e6 : 6 ≤ v.log2 := by
      rcases Nat.lt_or_ge v.log2 6 with h6 | h6
      · have := Nat.pow_le_pow_right (n := 2) (by omega) (show v.log2 + 1 ≤ 6 by omega)
        omega
      · exact h6
    have e64 : v.log2 < 64 := by
      rcases Nat.lt_or_ge v.log2 64 with h6 | h6
      · exact h6
      · have := Nat.pow_le_pow_right (n := 2) (by omega) h6
        omega
    have HI : Hid (idxN v = 32 * (v.log2 - 6) + 32 + v / 2 ^ (v.log2 - 5)) := by
      have : idxN v = 32 * (v.log2 - 6) + 32 + v / 2 ^ (v.log2 - 5) := by unfold idxN; rw [if_neg h]
      exact this
    have HV : Hid (v < 18446744073709551616) := hv
    have HL : Hid (∀ k, v / 2 ^ k = 1 → v.log2 = k) := fun k h => log_one h
    have H5 : Hid _ := five_lt v (by omega)
    clear l1 l2
    obtain ⟨e, he⟩ : ∃ e, v.log2 = e := ⟨_, rfl⟩
    rw [he] at HI e6 e64 H5
    have HE : Hid (v.log2 = e) := he
    have hv1 : 1 ≤ v := by omega
    clear he hv h
    go_enter Tryz.func43, Tryz.ntmps43
    go_wp2
    go_loop [3, 4] (fun a b => ∃ (k x : Nat), a = .int .i64 k ∧ b = .int .u64 (x : Int) ∧ k ≤ 64 ∧ 1 ≤ x ∧ Hid (x = v / 2 ^ k)) (fun _ b => (intOf b).toNat)
    case atStart => exact ⟨0, v, rfl, rfl, by omega, hv1, hid0 v⟩
    case round =>
      obtain ⟨k, x, rfl, rfl, hk, hx, HX⟩ := hrel
      by_cases hlt : 1 < x
      · have hx64 : x < 18446744073709551616 := by
          have := HX.out
          have := Nat.div_le_self v (2 ^ k)
          have := HV.out
          omega
        have hk2 : k + 1 ≤ 64 := by
          have : k ≠ 64 := by
            rintro rfl
            have := HX.out
            have := Nat.div_eq_of_lt (show v < 2 ^ 64 from HV.out)
            omega
          omega
        have hlt' : (1 : Int) < (x : Int) := by omega
        have q := quo2 x hx64
        obtain ⟨y, hy⟩ : ∃ y, x / 2 = y := ⟨_, rfl⟩
        rw [hy] at q
        have HY : Hid (y = v / 2 ^ (k + 1)) := by
          have : y = v / 2 ^ (k + 1) := by rw [← hy, HX.out, div2k]
          exact this
        have hy1 : 1 ≤ y := by omega
        have hy2 : y < x := by omega
        clear hy hlt hx64
        go_wp2
        go_round
        case rel => exact ⟨k + 1, y, by go_num, by first | rfl | rw [q], hk2, hy1, HY⟩
        case measure => simp [intOf]; omega
      · have hx1 : x = 1 := by omega
        subst hx1
        have hke : k = e := by rw [← HE.out]; exact (HL.out k HX.out.symm).symm
        subst hke
        clear hlt hx HX HL HE
        go_wp2
        go_loop [5, 6] (fun a b => ∃ (i x : Nat), b = .int .i64 i ∧ a = .int .u64 (x : Int) ∧ i + 5 ≤ k ∧ Hid (x = v / 2 ^ i)) (fun _ b => k - (intOf b).toNat)
        case atStart => exact ⟨0, v, rfl, rfl, by omega, hid0 v⟩
        case round =>
          obtain ⟨i, x, rfl, rfl, hi, HX⟩ := hrel
          by_cases hlt : i + 5 < k
          · have hx64 : x < 18446744073709551616 := by
              have := HX.out
              have := Nat.div_le_self v (2 ^ i)
              have := HV.out
              omega
            have q := quo2 x hx64
            obtain ⟨y, hy⟩ : ∃ y, x / 2 = y := ⟨_, rfl⟩
            rw [hy] at q
            have HY : Hid (y = v / 2 ^ (i + 1)) := by
              have : y = v / 2 ^ (i + 1) := by rw [← hy, HX.out, div2k]
              exact this
            clear hy hx64
            go_wp2
            go_round
            case rel => exact ⟨i + 1, y, by go_num, by first | rfl | rw [q], by omega, HY⟩
            case measure => simp [intOf]; omega
          · have hik : i + 5 = k := by omega
            have hx6 : x < 64 := by
              have := HX.out
              have h5 := H5.out
              rw [show k - 5 = i by omega, ← this] at h5
              exact h5
            have HR : Hid (idxN v = 32 * (k - 6) + 32 + x) := by
              have := HI.out
              rw [show k - 5 = i by omega, ← HX.out] at this
              exact this
            clear HI HX HV H5
            go_wp2
            go_ret
            refine ⟨ret_i64 ?_, rfl⟩
            rw [HR.out]
            omega

theorem refPlus_any (a b : Nat) (w : World) (ha : a ≤ 18446744073709551615) (hb : b ≤ 18446744073709551615) :
    Calls Tryz.prog 66 #[.int .u64 (a : Int), .int .u64 (b : Int)] w fun e w' => e = .returned (.int .u64 ((min (a + b) 18446744073709551615 : Nat) : Int)) ∧ w' = w := by
  have h0 : (0 : Int) ≤ (a : Int) := by omega
  have h1 : (0 : Int) ≤ (b : Int) := by omega
  have h2 : (b : Int) ≤ 18446744073709551615 := by omega
  have h3 : (a : Int) ≤ 18446744073709551615 := by omega
  by_cases h : (18446744073709551615 : Int) - (b : Int) < (a : Int)
  · go_enter Tryz.func66, Tryz.ntmps66
    go_wp2
    go_ret
    refine ⟨?_, rfl⟩
    rw [show min (a + b) 18446744073709551615 = 18446744073709551615 by omega]
    rfl
  · go_enter Tryz.func66, Tryz.ntmps66
    go_wp2
    go_ret
    refine ⟨?_, rfl⟩
    rw [show min (a + b) 18446744073709551615 = a + b by omega]
    rw [Int.natCast_add]
    rfl
theorem mul2 (a : Nat) (h : 2 * a < 18446744073709551616) : IntKind.u64.wrap (2 * (a : Int)) = ((2 * a : Nat) : Int) := by rw [IntKind.wrap_u64]; omega
/-- Where doubling stands. -/
def Dbl (m k x y : Nat) : Prop := x = (32 + m) * 2 ^ k ∧ y = 2 ^ k
theorem Dbl.lt {m k K x y : Nat} (h : Dbl m k x y) (hk : k ≤ K) (hm : (32 + m) * 2 ^ K < 18446744073709551616) : x < 18446744073709551616 ∧ y ≤ x ∧ 1 ≤ y := by
  obtain ⟨rfl, rfl⟩ := h
  have a := Nat.mul_le_mul_left (32 + m) (Nat.pow_le_pow_right (n := 2) (by omega) hk)
  have b := Nat.mul_le_mul_right (2 ^ k) (show 1 ≤ 32 + m by omega)
  rw [Nat.one_mul] at b
  exact ⟨Nat.lt_of_le_of_lt a hm, b, two_pos k⟩
theorem Dbl.next {m k x y : Nat} (h : Dbl m k x y) : Dbl m (k + 1) (2 * x) (2 * y) := by
  obtain ⟨rfl, rfl⟩ := h
  unfold Dbl
  rw [Nat.pow_succ]
  refine ⟨?_, by omega⟩
  rw [Nat.mul_comm 2, Nat.mul_assoc]
end Go.Proofs.YtkpkdikogoalkaaGreatDoor.sk

namespace Go.Proofs.YtkpkdikogoalkaaGreatDoor.sk
open Go.RowKit
set_option maxRecDepth 100000

/-- The last bar's number, or -1. -/
def preI (l : List (Int × Int)) (k : Nat) : Int := if h : 0 < k ∧ k - 1 < l.length then l[k - 1].1 else -1
theorem preI_zero (l : List (Int × Int)) : preI l 0 = -1 := by unfold preI; rw [dif_neg (by omega)]
theorem preI_succ (l : List (Int × Int)) {k : Nat} (h : k < l.length) : preI l (k + 1) = l[k].1 := by
  unfold preI
  rw [dif_pos (by omega)]
  rfl
set_option maxHeartbeats 2000000 in
theorem refCheck_any (ad : Option Addr) (n c : Nat) (l : List (Int × Int)) (w : World) (hA : BarAt w ad n l) (hn : n ≤ maxLen) (hi : Bin l) :
    Calls Tryz.prog 39 #[.slice ad n c] w fun e w' => e = .returned (.int .i64 (chkE l)) ∧ ∃ q, w' = w.drewN q := by
  unfold maxLen at hn
  have HL : Hid (l.length = n) := hA.len
  go_enter Tryz.func39, Tryz.ntmps39
  go_wp2
  go_loopw [3] (fun t wr => ∃ (k q : Nat), t = .int .i64 k ∧ k ≤ n ∧ Hid (chkF (-1) l = chkF (preI l k) (l.drop k)) ∧ Hid (-1 ≤ preI l k) ∧ wr = w.drewN q) (fun t _ => n - (intOf t).toNat)
  case atStart => exact ⟨0, 0, rfl, by omega, by rw [preI_zero]; exact rfl, by rw [preI_zero]; exact Int.le_refl _, rfl⟩
  case round =>
    obtain ⟨k, q, rfl, hk, HC, HP, rfl⟩ := hrel
    by_cases hlt : k < n
    · obtain ⟨b, off, rfl, hc⟩ := hA.lies (by omega)
      have hkl : k < l.length := by rw [HL.out]; exact hlt
      obtain ⟨c0, c1⟩ := hc k hkl
      have hik := hi l[k] (List.getElem_mem hkl)
      have HD : Hid _ := chk_drop hkl HC.out
      have HN1 : Hid _ := preI_succ l hkl
      obtain ⟨x, hx⟩ : ∃ x, l[k] = x := ⟨_, rfl⟩
      rw [hx] at c0 c1 hik HD HN1
      obtain ⟨i, m⟩ := x
      simp only at c0 c1 hik HD HN1
      obtain ⟨i1, i2, m1, m2⟩ := hik
      clear hx HC
      by_cases hk0 : k = 0
      · subst hk0
        clear hc
        rw [preI_zero] at HD
        clear HP hkl
        simp only [Nat.zero_mul, Nat.add_zero] at c0 c1
        by_cases t1 : i < 0
        · have t1' : decide (i < 0) = true := by simpa using t1
          have HN : Hid (chkE l = 131) := chkE_no (by rw [HD.out]; simp [show i ≤ -1 by omega])
          clear HD HN1
          go_wp2
          go_quiet (fail)
          go_wp2
          go_ret
          exact ⟨ret_chk HN.out, q + nq, by first | rfl | rw [World.drewN_drewN]⟩
        · have t1' : decide (i < 0) = false := by simpa using t1
          by_cases t2 : 1920 ≤ i
          · have t2' : decide (1920 ≤ i) = true := by simpa using t2
            have HN : Hid (chkE l = 131) := chkE_no (by rw [HD.out]; simp [t2])
            clear HD HN1
            go_wp2
            go_quiet (fail)
            go_wp2
            go_ret
            exact ⟨ret_chk HN.out, q + nq, by first | rfl | rw [World.drewN_drewN]⟩
          · have t2' : decide (1920 ≤ i) = false := by simpa using t2
            by_cases t3 : m = 0
            · subst t3
              have HN : Hid (chkE l = 131) := chkE_no (by rw [HD.out]; simp)
              clear HD HN1
              go_wp2
              go_quiet (fail)
              go_wp2
              go_ret
              exact ⟨ret_chk HN.out, q + nq, by first | rfl | rw [World.drewN_drewN]⟩
            · have t3' : (m == 0) = false := by simpa using t3
              clear t3
              have HE : Hid (chkF (-1) l = chkF (preI l (0 + 1)) (l.drop (0 + 1))) := by
                have e1 : decide (i ≤ -1) = false := by simp; omega
                have := HD.out
                rw [e1, t2', t3'] at this
                rw [HN1.out]
                have h' : chkF (-1) l = chkF i (l.drop (0 + 1)) := by simpa using this
                exact h'
              have HE2 : Hid (-1 ≤ preI l (0 + 1)) := by
                have : -1 ≤ preI l (0 + 1) := by rw [HN1.out]; omega
                exact this
              clear HD HN1
              go_wp2
              go_quiet (fail)
              go_wp2
              go_roundw
              case rel => exact ⟨0 + 1, q + nq, by go_num, by omega, HE, HE2, by first | rfl | rw [World.drewN_drewN]⟩
              case measure => simp [intOf]; omega
      · obtain ⟨j, rfl⟩ : ∃ j, k = j + 1 := ⟨k - 1, by omega⟩
        have hjl : j < l.length := by omega
        have d0 := (hc j hjl).1
        have hp := preI_succ l hjl
        rw [hp] at HD HP
        obtain ⟨p, hpp⟩ : ∃ p, l[j].1 = p := ⟨_, rfl⟩
        rw [hpp] at HD HP d0
        have hp1 := HP.out
        have hk1 : decide ((0 : Int) < ((j + 1 : Nat) : Int)) = true := by simp
        clear hc hp hpp HP hk0
        by_cases t1 : i < 0
        · have t1' : decide (i < 0) = true := by simpa using t1
          have HN : Hid (chkE l = 131) := chkE_no (by rw [HD.out]; simp [show i ≤ p by omega])
          clear HD HN1
          go_wp2
          go_quiet (fail)
          go_wp2
          go_ret
          exact ⟨ret_chk HN.out, q + nq, by first | rfl | rw [World.drewN_drewN]⟩
        · have t1' : decide (i < 0) = false := by simpa using t1
          by_cases t2 : 1920 ≤ i
          · have t2' : decide (1920 ≤ i) = true := by simpa using t2
            have HN : Hid (chkE l = 131) := chkE_no (by rw [HD.out]; simp [t2])
            clear HD HN1
            go_wp2
            go_quiet (fail)
            go_wp2
            go_ret
            exact ⟨ret_chk HN.out, q + nq, by first | rfl | rw [World.drewN_drewN]⟩
          · have t2' : decide (1920 ≤ i) = false := by simpa using t2
            by_cases t3 : m = 0
            · subst t3
              have HN : Hid (chkE l = 131) := chkE_no (by rw [HD.out]; simp)
              clear HD HN1
              go_wp2
              go_quiet (fail)
              go_wp2
              go_ret
              exact ⟨ret_chk HN.out, q + nq, by first | rfl | rw [World.drewN_drewN]⟩
            · have t3' : (m == 0) = false := by simpa using t3
              clear t3
              by_cases t4 : i ≤ p
              · have t4' : decide (i ≤ p) = true := by simpa using t4
                have HN : Hid (chkE l = 131) := chkE_no (by rw [HD.out]; simp [t4])
                clear HD HN1
                go_wp2
                go_quiet (fail)
                go_wp2
                go_ret
                exact ⟨ret_chk HN.out, q + nq, by first | rfl | rw [World.drewN_drewN]⟩
              · have t4' : decide (i ≤ p) = false := by simpa using t4
                have HE : Hid (chkF (-1) l = chkF (preI l (j + 1 + 1)) (l.drop (j + 1 + 1))) := by
                  have e1 : decide (i ≤ p) = false := by simp; omega
                  have := HD.out
                  rw [e1, t2', t3'] at this
                  rw [HN1.out]
                  have h' : chkF (-1) l = chkF i (l.drop (j + 1 + 1)) := by simpa using this
                  exact h'
                have HE2 : Hid (-1 ≤ preI l (j + 1 + 1)) := by
                  have : -1 ≤ preI l (j + 1 + 1) := by rw [HN1.out]; omega
                  exact this
                clear HD HN1
                go_wp2
                go_quiet (fail)
                go_wp2
                go_roundw
                case rel => exact ⟨j + 1 + 1, q + nq, by go_num, by omega, HE, HE2, by first | rfl | rw [World.drewN_drewN]⟩
                case measure => simp [intOf]; omega
    · have HN : Hid (chkE l = 0) := chkE_ok (by rw [HC.out, List.drop_eq_nil_of_le (by rw [HL.out]; omega)]; rfl)
      go_wp2
      go_ret
      exact ⟨ret_chk HN.out, q, rfl⟩
end Go.Proofs.YtkpkdikogoalkaaGreatDoor.sk

namespace Go.Proofs.YtkpkdikogoalkaaGreatDoor.sk
open Go.RowKit
set_option maxRecDepth 100000

/-- Both together, bar by bar. -/
def mLf : Nat → List (Int × Int) → List (Int × Int) → List (Int × Int)
  | 0, _, _ => []
  | _ + 1, [], b => b
  | _ + 1, x :: a, [] => x :: a
  | n + 1, x :: a, y :: b => if x.1 < y.1 then x :: mLf n a (y :: b) else if y.1 < x.1 then y :: mLf n (x :: a) b else (x.1, ((min (x.2.toNat + y.2.toNat) topC : Nat) : Int)) :: mLf n a b
theorem mLf_more : ∀ (n m : Nat) (a b : List (Int × Int)), a.length + b.length < n → a.length + b.length < m → mLf n a b = mLf m a b
  | 0, _, _, _, h, _ => by omega
  | _, 0, _, _, _, h => by omega
  | _ + 1, _ + 1, [], b, _, _ => by simp only [mLf]
  | _ + 1, _ + 1, x :: a, [], _, _ => by simp only [mLf]
  | n + 1, m + 1, x :: a, y :: b, h1, h2 => by
    simp only [List.length_cons] at h1 h2
    simp only [mLf]
    rw [mLf_more n m a (y :: b) (by simp only [List.length_cons]; omega) (by simp only [List.length_cons]; omega), mLf_more n m (x :: a) b (by simp only [List.length_cons]; omega) (by simp only [List.length_cons]; omega), mLf_more n m a b (by omega) (by omega)]
def mL (a b : List (Int × Int)) : List (Int × Int) := mLf (a.length + b.length + 1) a b
theorem mL_nil (b : List (Int × Int)) : mL [] b = b := by simp only [mL, mLf]
theorem mL_right (a : List (Int × Int)) : mL a [] = a := by cases a <;> simp only [mL, mLf]
theorem mL_cons (x y : Int × Int) (a b : List (Int × Int)) : mL (x :: a) (y :: b) = if x.1 < y.1 then x :: mL a (y :: b) else if y.1 < x.1 then y :: mL (x :: a) b else (x.1, ((min (x.2.toNat + y.2.toNat) topC : Nat) : Int)) :: mL a b := by
  have e : mL (x :: a) (y :: b) = mLf ((x :: a).length + (y :: b).length + 1) (x :: a) (y :: b) := rfl
  rw [e]
  simp only [mLf]
  unfold mL
  rw [mLf_more ((x :: a).length + (y :: b).length) (a.length + (y :: b).length + 1) a (y :: b) (by simp only [List.length_cons]; omega) (by omega), mLf_more ((x :: a).length + (y :: b).length) ((x :: a).length + b.length + 1) (x :: a) b (by simp only [List.length_cons]; omega) (by omega), mLf_more ((x :: a).length + (y :: b).length) (a.length + b.length + 1) a b (by simp only [List.length_cons]; omega) (by omega)]
theorem chk_tail {a : Int} {b : Int × Int} {l : List (Int × Int)} (h : chkF a (b :: l) = true) : chkF b.1 l = true := by
  rw [chkF_cons, Bool.and_eq_true] at h
  exact h.2
theorem chk_head {a : Int} {b : Int × Int} {l : List (Int × Int)} (h : chkF a (b :: l) = true) : a < b.1 ∧ b.1 < 1920 ∧ b.2 ≠ 0 := (chkF_iff.mp h).1 b (List.mem_cons_self ..)
theorem chk_cons {a : Int} {b : Int × Int} {l : List (Int × Int)} (h1 : a < b.1) (h2 : b.1 < 1920) (h3 : b.2 ≠ 0) (h : chkF b.1 l = true) : chkF a (b :: l) = true := by
  rw [chkF_cons, h]
  have e1 : decide (b.1 ≤ a) = false := by simp; omega
  have e2 : decide (1920 ≤ b.1) = false := by simp; omega
  have e3 : (b.2 == 0) = false := by simpa using h3
  rw [e1, e2, e3]
  rfl
theorem chk_from {a a' : Int} {b : Int × Int} {l : List (Int × Int)} (h : chkF a (b :: l) = true) (h1 : a' < b.1) : chkF a' (b :: l) = true := chk_cons h1 (chk_head h).2.1 (chk_head h).2.2 (chk_tail h)
theorem cnt_low : ∀ {l : List (Int × Int)} {a : Int} {i : Nat}, chkF a l = true → (i : Int) ≤ a → cntF l i = 0 := fun {l a i} h hi => cntF_none fun b hb => by
  have := ((chkF_iff.mp h).1 b hb).1
  omega
theorem cnt_top {l : List (Int × Int)} (h : ∀ x ∈ l, 0 ≤ x.2 ∧ x.2 ≤ 18446744073709551615) (i : Nat) : cntF l i ≤ topC := by
  induction l with
  | nil => exact Nat.zero_le _
  | cons b l ih =>
    rw [cntF_cons]
    split
    · have := h b (List.mem_cons_self ..)
      rw [topC_eq]
      omega
    · exact ih fun y hy => h y (List.mem_cons_of_mem _ hy)
theorem mL_all : ∀ (N : Nat) (a b : List (Int × Int)) (c : Int), a.length + b.length ≤ N → -1 ≤ c → chkF c a = true → chkF c b = true → (∀ x ∈ a, 0 ≤ x.2 ∧ x.2 ≤ 18446744073709551615) → (∀ x ∈ b, 0 ≤ x.2 ∧ x.2 ≤ 18446744073709551615) →
    chkF c (mL a b) = true ∧ (∀ x ∈ mL a b, 0 ≤ x.2) ∧ ∀ i : Nat, c < (i : Int) → cntF (mL a b) i = min (cntF a i + cntF b i) topC
  | N, [], b, c, _, _, _, hb, _, pb => by
    rw [mL_nil]
    refine ⟨hb, fun x hx => (pb x hx).1, fun i _ => ?_⟩
    have h0 : cntF [] i = 0 := rfl
    have := cnt_top pb i
    rw [h0]
    omega
  | N, x :: a, [], c, _, _, ha, _, pa, _ => by
    rw [mL_right]
    refine ⟨ha, fun x hx => (pa x hx).1, fun i _ => ?_⟩
    have h0 : cntF [] i = 0 := rfl
    have := cnt_top pa i
    rw [h0]
    omega
  | 0, x :: a, y :: b, c, hN, _, _, _, _, _ => by simp at hN
  | N + 1, x :: a, y :: b, c, hN, hc, ha, hb, pa, pb => by
    rw [mL_cons]
    have hx := chk_head ha
    have hy := chk_head hb
    have ta := chk_tail ha
    have tb := chk_tail hb
    have px := pa x (List.mem_cons_self ..)
    have py := pb y (List.mem_cons_self ..)
    have pa' : ∀ z ∈ a, 0 ≤ z.2 ∧ z.2 ≤ 18446744073709551615 := fun z hz => pa z (List.mem_cons_of_mem _ hz)
    have pb' : ∀ z ∈ b, 0 ≤ z.2 ∧ z.2 ≤ 18446744073709551615 := fun z hz => pb z (List.mem_cons_of_mem _ hz)
    have tc := topC_eq
    simp only [List.length_cons] at hN
    by_cases h1 : x.1 < y.1
    · rw [if_pos h1]
      have hb' := chk_from hb h1
      obtain ⟨k1, k2, k3⟩ := mL_all N a (y :: b) x.1 (by simp only [List.length_cons]; omega) (by omega) ta hb' pa' pb
      refine ⟨chk_cons hx.1 hx.2.1 hx.2.2 k1, ?_, fun i hi => ?_⟩
      · intro z hz
        rcases List.mem_cons.mp hz with rfl | hz
        · exact px.1
        · exact k2 z hz
      · rw [cntF_cons, cntF_cons x a]
        split
        · rename_i e
          rw [cnt_low hb' (by omega)]
          omega
        · rename_i e
          rcases Int.lt_trichotomy x.1 i with h | h | h
          · exact k3 i h
          · exact absurd h e
          · rw [cnt_low k1 (by omega), cnt_low ta (by omega), cnt_low hb' (by omega)]
            rfl
    · rw [if_neg h1]
      by_cases h2 : y.1 < x.1
      · rw [if_pos h2]
        have ha' := chk_from ha h2
        obtain ⟨k1, k2, k3⟩ := mL_all N (x :: a) b y.1 (by simp only [List.length_cons]; omega) (by omega) ha' tb pa pb'
        refine ⟨chk_cons hy.1 hy.2.1 hy.2.2 k1, ?_, fun i hi => ?_⟩
        · intro z hz
          rcases List.mem_cons.mp hz with rfl | hz
          · exact py.1
          · exact k2 z hz
        · rw [cntF_cons, cntF_cons y b]
          split
          · rename_i e
            rw [cnt_low ha' (by omega)]
            omega
          · rename_i e
            rcases Int.lt_trichotomy y.1 i with h | h | h
            · exact k3 i h
            · exact absurd h e
            · rw [cnt_low k1 (by omega), cnt_low tb (by omega), cnt_low ha' (by omega)]
              rfl
      · rw [if_neg h2]
        have e : y.1 = x.1 := by omega
        rw [e] at tb
        obtain ⟨k1, k2, k3⟩ := mL_all N a b x.1 (by omega) (by omega) ta tb pa' pb'
        refine ⟨chk_cons hx.1 hx.2.1 (by simp only; omega) k1, ?_, fun i hi => ?_⟩
        · intro z hz
          rcases List.mem_cons.mp hz with rfl | hz
          · simp only; omega
          · exact k2 z hz
        · rw [cntF_cons, cntF_cons x a, cntF_cons y b, e]
          simp only
          split
          · omega
          · rename_i e'
            rcases Int.lt_trichotomy x.1 i with h | h | h
            · exact k3 i h
            · exact absurd h e'
            · rw [cnt_low k1 (by omega), cnt_low ta (by omega), cnt_low tb (by omega)]
              rfl
theorem Bin.pos {l : List (Int × Int)} (h : Bin l) : ∀ x ∈ l, 0 ≤ x.2 ∧ x.2 ≤ 18446744073709551615 := fun x hx => ⟨(h x hx).2.2.1, (h x hx).2.2.2⟩
theorem mL_eq {a b : List (Int × Int)} (ha : chkF (-1) a = true) (hb : chkF (-1) b = true) (ia : Bin a) (ib : Bin b) : mL a b = barsF (mergeF a b) := by
  obtain ⟨k1, k2, k3⟩ := mL_all _ a b (-1) (Nat.le_refl _) (by omega) ha hb ia.pos ib.pos
  refine bars_ext (by omega) k1 (barsF_chk _) k2 (barsF_pos _) fun i h1 h2 => ?_
  rw [k3 i h2, barsF_cnt _ h1]
  rfl
/-- What is left, bar by bar. -/
def lL : List (Int × Int) → List (Int × Int) → Option (List (Int × Int))
  | [], [] => some []
  | [], _ :: _ => none
  | x :: a, [] => (lL a []).map (x :: ·)
  | x :: a, y :: b => if y.1 = x.1 then (if x.2 < y.2 then none else if x.2 - y.2 = 0 then lL a b else (lL a b).map ((x.1, x.2 - y.2) :: ·)) else (lL a (y :: b)).map (x :: ·)
end Go.Proofs.YtkpkdikogoalkaaGreatDoor.sk

namespace Go.Proofs.YtkpkdikogoalkaaGreatDoor.sk
open Go.RowKit
set_option maxRecDepth 100000

theorem bar_src (w : World) (x y : Int) : Src Tryz.prog 2 37 (.slice (some ⟨w.heap.size, 0, none⟩) 1 1) 1 [.int .i64 x, .int .u64 y] (w.alloc (.cells #[.int .i64 x, .int .u64 y] 50)) := by
  refine Src.ofSlice _ Tryz.underlying37 _ 1 1 _ rfl ?_ ?_
  · intro j u hj
    match j, hj with
    | 0, hj => simp at hj; subst hj; simp [Addr.add]
    | 1, hj => simp at hj; subst hj; simp [Addr.add]
  · intro u hu; simp at hu; rcases hu with rfl | rfl <;> rfl
theorem bar_own {base : Nat} {w : World} {ao : Option Addr} {L cc : Nat} {S : List (Int × Int)} (h : OwnBar base w (.slice ao L cc) S) (hL : S.length = L) (o : Obj) : (w.alloc o).ownsRow base 50 2 (.slice ao L cc) L (S.flatMap barC) := by
  have := ownsRow_upd h ((Upd.refl (fun _ => False) w).alloc o) (fun _ _ h => h)
  rw [hL] at this
  exact this
theorem bar_app {base : Nat} {w1 : World} {v1 : Value} {L : Nat} {S : List (Int × Int)} {x y : Int} (hL : S.length = L) (o : w1.ownsRow base 50 2 v1 (L + 1) (S.flatMap barC ++ [.int .i64 x, .int .u64 y])) : OwnBar base w1 v1 (S ++ [(x, y)]) := by
  unfold OwnBar
  rw [List.length_append, hL, List.flatMap_append]
  exact o
theorem mL_step_a {a b : List (Int × Int)} {i k : Nat} {S T : List (Int × Int)} (hi : i < a.length) (h : S ++ mL (a.drop i) (b.drop k) = T) (hc : b.length ≤ k ∨ ∃ hk : k < b.length, a[i].1 < b[k].1) : (S ++ [(a[i].1, a[i].2)]) ++ mL (a.drop (i + 1)) (b.drop k) = T := by
  rw [← h, List.append_assoc, List.drop_eq_getElem_cons hi]
  congr 1
  rcases hc with hc | ⟨hk, hlt⟩
  · rw [List.drop_eq_nil_of_le hc, mL_right, mL_right]
    rfl
  · rw [List.drop_eq_getElem_cons hk, mL_cons, if_pos hlt]
    rfl
theorem mL_step_b {a b : List (Int × Int)} {i k : Nat} {S T : List (Int × Int)} (hk : k < b.length) (h : S ++ mL (a.drop i) (b.drop k) = T) (hc : a.length ≤ i ∨ ∃ hi : i < a.length, b[k].1 < a[i].1) : (S ++ [(b[k].1, b[k].2)]) ++ mL (a.drop i) (b.drop (k + 1)) = T := by
  rw [← h, List.append_assoc, List.drop_eq_getElem_cons hk]
  congr 1
  rcases hc with hc | ⟨hi, hlt⟩
  · rw [List.drop_eq_nil_of_le hc, mL_nil, mL_nil]
    rfl
  · rw [List.drop_eq_getElem_cons hi, mL_cons, if_neg (by omega), if_pos hlt]
    rfl
theorem mL_step_c {a b : List (Int × Int)} {i k : Nat} {S T : List (Int × Int)} (hi : i < a.length) (hk : k < b.length) (h : S ++ mL (a.drop i) (b.drop k) = T) (e : a[i].1 = b[k].1) : (S ++ [(a[i].1, ((min (a[i].2.toNat + b[k].2.toNat) topC : Nat) : Int))]) ++ mL (a.drop (i + 1)) (b.drop (k + 1)) = T := by
  rw [← h, List.append_assoc, List.drop_eq_getElem_cons hi, List.drop_eq_getElem_cons hk]
  congr 1
  rw [mL_cons, if_neg (by omega), if_neg (by omega)]
  rfl
/-- Where merging stands. -/
structure MgAt (a b : List (Int × Int)) (base : Nat) (w : World) (wr : World) (v : Value) (i k : Nat) (S : List (Int × Int)) : Prop where
  own : OwnBar base wr v S
  eq : S ++ mL (a.drop i) (b.drop k) = mL a b
  below : Below w.heap.size w wr
  len : S.length ≤ i + k
theorem MgAt.drewN {a b : List (Int × Int)} {base : Nat} {w wr : World} {v : Value} {i k : Nat} {S : List (Int × Int)} (h : MgAt a b base w wr v i k S) (q : Nat) : MgAt a b base w (wr.drewN q) v i k S :=
  ⟨ownsRow_upd h.own ((Upd.refl (fun _ => False) wr).drewN q) (fun _ _ h => h), h.eq, h.below.trans (((Upd.refl (fun _ => False) wr).drewN q).below (B := w.heap.size) h.below.size (fun _ _ h => h)), h.len⟩
theorem MgAt.step {a b : List (Int × Int)} {w wz w1 : World} {ao : Option Addr} {L cc : Nat} {v1 : Value} {i k i' k' : Nat} {S : List (Int × Int)} {x y : Int} {o : Obj} (h : MgAt a b w.heap.size w wz (.slice ao L cc) i k S) (hL : S.length = L)
    (o1 : w1.ownsRow w.heap.size 50 2 v1 (L + 1) (S.flatMap barC ++ [.int .i64 x, .int .u64 y])) (g1 : (wz.alloc o).grownBy w1 (Value.slice ao L cc).ownBlock)
    (he : (S ++ [(x, y)]) ++ mL (a.drop i') (b.drop k') = mL a b) (hl : i + k + 1 ≤ i' + k') : MgAt a b w.heap.size w w1 v1 i' k' (S ++ [(x, y)]) := by
  refine ⟨bar_app hL o1, he, ?_, by have := h.len; rw [List.length_append]; simp; omega⟩
  exact (((Upd.ofBelow (S := fun k => w.heap.size ≤ k) h.below (fun _ _ h => h)).alloc o).grown g1 (fun k _ e => (own_block h.own e).1)).below (Nat.le_refl _) (fun k hk h => by omega)
theorem MgAt.stepB {a b : List (Int × Int)} {w wz u2 w1 : World} {ao : Option Addr} {L cc : Nat} {v1 : Value} {i k i' k' : Nat} {S : List (Int × Int)} {x y : Int} (h : MgAt a b w.heap.size w wz (.slice ao L cc) i k S) (hL : S.length = L) (hb : Below wz.heap.size wz u2)
    (o1 : w1.ownsRow w.heap.size 50 2 v1 (L + 1) (S.flatMap barC ++ [.int .i64 x, .int .u64 y])) (g1 : u2.grownBy w1 (Value.slice ao L cc).ownBlock)
    (he : (S ++ [(x, y)]) ++ mL (a.drop i') (b.drop k') = mL a b) (hl : i + k + 1 ≤ i' + k') : MgAt a b w.heap.size w w1 v1 i' k' (S ++ [(x, y)]) := by
  refine ⟨bar_app hL o1, he, ?_, by have := h.len; rw [List.length_append]; simp; omega⟩
  exact ((Upd.ofBelow (S := fun k => w.heap.size ≤ k) (h.below.trans (hb.mono h.below.size)) (fun _ _ h => h)).grown g1 (fun k _ e => (own_block h.own e).1)).below (Nat.le_refl _) (fun k hk h => by omega)
theorem bar_src_at {u : World} {g : Nat} {x y : Int} (h : u.heap[g]? = some (.cells #[.int .i64 x, .int .u64 y] 50 (0, 0))) : Src Tryz.prog 2 37 (.slice (some ⟨g, 0, none⟩) 1 1) 1 [.int .i64 x, .int .u64 y] u := by
  refine Src.ofSlice _ Tryz.underlying37 _ 1 1 _ rfl ?_ ?_
  · exact World.news_of_block (cs := #[.int .i64 x, .int .u64 y]) (t := 50) (fr := (0, 0)) h
  · intro u hu; simp at hu; rcases hu with rfl | rfl <;> rfl
theorem plusI {x y : Int} (hx : 0 ≤ x ∧ x ≤ 18446744073709551615) (hy : 0 ≤ y ∧ y ≤ 18446744073709551615) (W : World) : Calls Tryz.prog 66 #[.int .u64 x, .int .u64 y] W fun e w' => e = .returned (.int .u64 ((min (x.toNat + y.toNat) topC : Nat) : Int)) ∧ w' = W := by
  obtain ⟨p, rfl⟩ := Int.eq_ofNat_of_zero_le hx.1
  obtain ⟨q, rfl⟩ := Int.eq_ofNat_of_zero_le hy.1
  exact refPlus_any p q W (by omega) (by omega)
/-- An append to a row of one's own whose elements have several cells, at a step of a region that draws its order. -/
theorem step_appB {P : Program} (w : World) {ops : Array Oper} {o : Oper} {a : Act} {K : Act → World → Prop} {Q : Exit → Act → World → Prop} {E : Prop} (hgd : o.guard = none) (s x : Operand) (t tx : TypeId)
    (ho : o.op = .call { callee := .builtin .append, args := #[s, x], argTypes := #[t, tx] })
    (base : Nat) (e : TypeId) (i : TypeInfo) (z : Value) (size bytes : Nat) (ht : P.underlying t = some (.slice e)) (hi : P.info? e = some i) (hz : i.zero = some z) (hsize : i.size = size) (hby : i.bytes = bytes) (hzs : z.cells.size = size)
    (v : Value) (n : Nat) (xs : List Value) (hv : a.eval s = v) (hown : w.ownsRow base e size v n xs) (y : Value) (m : Nat) (news : List Value) (hx : a.eval x = y) (hs : Src P size tx y m news w)
    (h63 : n + m ≤ maxLen) (hbytes : (n + m + (n + m) / 4 + 192) * bytes ≤ 281474976710656) (hbase : base ≤ w.heap.size)
    (h : ∀ v' w', w'.ownsRow base e size v' (n + m) (xs ++ news) → w.grownBy w' v.ownBlock → Moved w v v' → K (a.put o.dst v') w') : if Region.wanted o (yielded ops a.tmps) = true then Oper.wp P o a w K Q else E := by
  subst hby
  have hw : Region.wanted o (yielded ops a.tmps) = true := by simp [Region.wanted, hgd]
  rw [if_pos hw]
  obtain ⟨v', w', hr, h2, h3, h4⟩ := run_appW (P := P) w base t tx o.type e i z size ht hi hz hsize hzs v n xs hown y m news hs h63 hbytes hbase
  unfold Oper.wp execOp
  simp only [ho, resolve, invoke, builtin, Sem.run_bind, Sem.run_pure, Result.andThen_ok, List.map_toArray, List.map_cons, List.map_nil, hv, hx, hr]
  exact h v' w' h2 h3 h4
set_option maxHeartbeats 2000000 in
theorem refMerge_ok (ad bd : Option Addr) (n m ca cb : Nat) (a b : List (Int × Int)) (w : World) (hA : InAt w ad n a) (hB : InAt w bd m b) (ha : chkF (-1) a = true) (hb : chkF (-1) b = true) :
    Calls Tryz.prog 37 #[.slice ad n ca, .slice bd m cb] w (MadeP (some (mergeF a b)) 0 w) := by
  obtain ⟨i0, hi, hz0, hz1, hz2⟩ := info_parts Tryz.info50
  have n1 : n ≤ 1920 := by have := chk_len (by omega) ha; have := hA.at_.len; omega
  have m1 : m ≤ 1920 := by have := chk_len (by omega) hb; have := hB.at_.len; omega
  have HLA : Hid (a.length = n) := hA.at_.len
  have HLB : Hid (b.length = m) := hB.at_.len
  have KA := refCheck_any ad n ca a w hA.at_ hA.len hA.bin
  have KB := fun q => refCheck_any bd m cb b (w.drewN q) (hB.at_.drewN q) hB.len hB.bin
  simp only [chkE_ok ha] at KA
  simp only [chkE_ok hb] at KB
  have HE : Hid (mL a b = barsF (mergeF a b)) := mL_eq ha hb hA.bin hB.bin
  have HA : Hid _ := hA
  have HB : Hid _ := hB
  clear hA hB ha hb
  go_enter Tryz.func37, Tryz.ntmps37
  go_wp2_with (first
    | (go_at_call 39; (with_reducible refine KA.mono ?_); clear KA; rintro e w' ⟨rfl, q1, rfl⟩)
    | (go_at_call 39; (with_reducible refine (KB q1).mono ?_); clear KB; rintro e w' ⟨rfl, q2, rfl⟩))
  go_loopw [6, 7, 8] (fun o ti tk wr => ∃ (i k : Nat) (S : List (Int × Int)), ti = .int .i64 i ∧ tk = .int .i64 k ∧ i ≤ n ∧ k ≤ m ∧ Hid (MgAt a b w.heap.size w wr o i k S)) (fun _ ti tk _ => n + m - (intOf ti).toNat - (intOf tk).toNat)
  case atStart => exact ⟨0, 0, [], rfl, rfl, by omega, by omega, ⟨World.ownsRow_nil _ _ _ _, rfl, ((Upd.refl (fun _ => False) w).drewN (q1 + q2)).below (Nat.le_refl _) (fun _ _ h => h), Nat.le_refl _⟩⟩
  case round =>
    obtain ⟨i, k, S, rfl, rfl, hin, hkm, HM⟩ := hrel
    obtain ⟨ao, L, cc, rfl⟩ := row_shape HM.out.own
    obtain ⟨hL, -, -⟩ := own_cap HM.out.own
    have HL : Hid (S.length = L) := hL.symm
    have hLb : L ≤ 3840 := by have := HM.out.len; omega
    clear hL
    by_cases hk : k < m
    · have t1 : ((k : Int) == (m : Int)) = false := by simp; omega
      by_cases hi' : i < n
      · have t2 : decide ((i : Int) < (n : Int)) = true := by simp; omega
        have t4 : ((i : Int) == (n : Int)) = false := by simp; omega
        obtain ⟨bb, off, rfl, hc⟩ := (HA.out.below HM.out.below).at_.lies (by omega)
        have hil : i < a.length := by rw [HLA.out]; exact hi'
        obtain ⟨cx0, cx1⟩ := hc i hil
        clear hc
        obtain ⟨bc, of2, rfl, hc⟩ := (HB.out.below HM.out.below).at_.lies (by omega)
        have hkl : k < b.length := by rw [HLB.out]; exact hk
        obtain ⟨cy0, cy1⟩ := hc k hkl
        clear hc
        have HX : Hid _ := (HA.out.bin a[i] (List.getElem_mem hil)).2.2
        have HY : Hid _ := (HB.out.bin b[k] (List.getElem_mem hkl)).2.2
        have SA : a[i].1 < b[k].1 → _ := fun h => mL_step_a hil HM.out.eq (Or.inr ⟨hkl, h⟩)
        have SB : b[k].1 < a[i].1 → _ := fun h => mL_step_b hkl HM.out.eq (Or.inr ⟨hil, h⟩)
        have SC : a[i].1 = b[k].1 → _ := fun h => mL_step_c hil hkl HM.out.eq h
        obtain ⟨x, hx⟩ : ∃ x, a[i] = x := ⟨_, rfl⟩
        rw [hx] at cx0 cx1 HX SA SB SC
        obtain ⟨x1, x2⟩ := x
        simp only at cx0 cx1 HX SA SB SC
        clear hx
        obtain ⟨y, hy⟩ : ∃ x, b[k] = x := ⟨_, rfl⟩
        rw [hy] at cy0 cy1 HY SA SB SC
        obtain ⟨y1, y2⟩ := y
        simp only at cy0 cy1 HY SA SB SC
        clear hy
        clear hil hkl
        by_cases h1 : x1 < y1
        · have t3 : decide (x1 < y1) = true := by simpa using h1
          have HS : Hid _ := SA h1
          clear SA SB SC HX HY
          go_wp2
          go_quiet (fail)
          obtain ⟨wz, hwz⟩ : ∃ W, wr.drewN nq = W := ⟨_, rfl⟩
          have HZ : Hid _ := HM.out.drewN nq
          rw [hwz] at HZ
          have dx0 : wz.cell? ⟨bb, off + i * 2, none⟩ = some (.int .i64 x1) := by rw [← hwz]; exact cx0
          have dx1 : wz.cell? ⟨bb, off + i * 2 + 1, none⟩ = some (.int .u64 x2) := by rw [← hwz]; exact cx1
          have dy0 : wz.cell? ⟨bc, of2 + k * 2, none⟩ = some (.int .i64 y1) := by rw [← hwz]; exact cy0
          have dy1 : wz.cell? ⟨bc, of2 + k * 2 + 1, none⟩ = some (.int .u64 y2) := by rw [← hwz]; exact cy1
          rw [hwz]
          clear hwz HM cx0 cx1 cy0 cy1
          have hsz := HZ.out.below.size
          have OW := bar_own HZ.out.own HL.out (.cells #[.int .i64 x1, .int .u64 x2] 50)
          have SR := bar_src wz x1 x2
          go_wp2_with (first | (at_builtin; refine wpList_appW _ rfl _ _ 37 37 rfl w.heap.size 50 i0 _ 2 16 Tryz.underlying37 hi hz0 hz1 hz2 rfl (.slice ao L cc) L _ rfl OW _ 1 _ rfl SR (by unfold maxLen; omega) (by omega) (by simp; omega) ?_; clear OW SR; intro v1 w1 o1 g1 m1))
          go_roundw
          case rel => exact ⟨i + 1, k, S ++ [(x1, x2)], by go_num, by go_num, by omega, by omega, HZ.out.step HL.out o1 g1 HS.out (by omega)⟩
          case measure => simp [intOf]; omega
        · have t3 : decide (x1 < y1) = false := by simpa using h1
          by_cases h2 : y1 < x1
          · have t5 : decide (y1 < x1) = true := by simpa using h2
            have HS : Hid _ := SB h2
            clear SA SB SC HX HY
            go_wp2
            go_quiet (fail)
            obtain ⟨wz, hwz⟩ : ∃ W, wr.drewN nq = W := ⟨_, rfl⟩
            have HZ : Hid _ := HM.out.drewN nq
            rw [hwz] at HZ
            have dx0 : wz.cell? ⟨bb, off + i * 2, none⟩ = some (.int .i64 x1) := by rw [← hwz]; exact cx0
            have dx1 : wz.cell? ⟨bb, off + i * 2 + 1, none⟩ = some (.int .u64 x2) := by rw [← hwz]; exact cx1
            have dy0 : wz.cell? ⟨bc, of2 + k * 2, none⟩ = some (.int .i64 y1) := by rw [← hwz]; exact cy0
            have dy1 : wz.cell? ⟨bc, of2 + k * 2 + 1, none⟩ = some (.int .u64 y2) := by rw [← hwz]; exact cy1
            rw [hwz]
            clear hwz HM cx0 cx1 cy0 cy1
            go_wp2
            go_quiet (fail)
            obtain ⟨wu, hwz⟩ : ∃ W, wz.drewN nq = W := ⟨_, rfl⟩
            have HU : Hid _ := HZ.out.drewN nq
            rw [hwz] at HU
            have ex0 : wu.cell? ⟨bb, off + i * 2, none⟩ = some (.int .i64 x1) := by rw [← hwz]; exact dx0
            have ex1 : wu.cell? ⟨bb, off + i * 2 + 1, none⟩ = some (.int .u64 x2) := by rw [← hwz]; exact dx1
            have ey0 : wu.cell? ⟨bc, of2 + k * 2, none⟩ = some (.int .i64 y1) := by rw [← hwz]; exact dy0
            have ey1 : wu.cell? ⟨bc, of2 + k * 2 + 1, none⟩ = some (.int .u64 y2) := by rw [← hwz]; exact dy1
            rw [hwz]
            clear hwz HZ dx0 dx1 dy0 dy1
            have hsz := HU.out.below.size
            have OW := bar_own HU.out.own HL.out (.cells #[.int .i64 y1, .int .u64 y2] 50)
            have SR := bar_src wu y1 y2
            go_wp2_with (first | (at_builtin; refine wpList_appW _ rfl _ _ 37 37 rfl w.heap.size 50 i0 _ 2 16 Tryz.underlying37 hi hz0 hz1 hz2 rfl (.slice ao L cc) L _ rfl OW _ 1 _ rfl SR (by unfold maxLen; omega) (by omega) (by simp; omega) ?_; clear OW SR; intro v1 w1 o1 g1 m1))
            go_roundw
            case rel => exact ⟨i, k + 1, S ++ [(y1, y2)], by go_num, by go_num, by omega, by omega, HU.out.step HL.out o1 g1 HS.out (by omega)⟩
            case measure => simp [intOf]; omega
          · have h3 : x1 = y1 := by omega
            subst h3
            have t5 : decide (x1 < x1) = false := by simp
            have HS : Hid _ := SC rfl
            clear SA SB SC h1 h2
            go_wp2
            go_quiet (fail)
            obtain ⟨wz, hwz⟩ : ∃ W, wr.drewN nq = W := ⟨_, rfl⟩
            have HZ : Hid _ := HM.out.drewN nq
            rw [hwz] at HZ
            have dx0 : wz.cell? ⟨bb, off + i * 2, none⟩ = some (.int .i64 x1) := by rw [← hwz]; exact cx0
            have dx1 : wz.cell? ⟨bb, off + i * 2 + 1, none⟩ = some (.int .u64 x2) := by rw [← hwz]; exact cx1
            have dy0 : wz.cell? ⟨bc, of2 + k * 2, none⟩ = some (.int .i64 x1) := by rw [← hwz]; exact cy0
            have dy1 : wz.cell? ⟨bc, of2 + k * 2 + 1, none⟩ = some (.int .u64 y2) := by rw [← hwz]; exact cy1
            rw [hwz]
            clear hwz HM cx0 cx1 cy0 cy1
            go_wp2
            go_quiet (fail)
            obtain ⟨wu, hwz⟩ : ∃ W, wz.drewN nq = W := ⟨_, rfl⟩
            have HU : Hid _ := HZ.out.drewN nq
            rw [hwz] at HU
            have ex0 : wu.cell? ⟨bb, off + i * 2, none⟩ = some (.int .i64 x1) := by rw [← hwz]; exact dx0
            have ex1 : wu.cell? ⟨bb, off + i * 2 + 1, none⟩ = some (.int .u64 x2) := by rw [← hwz]; exact dx1
            have ey0 : wu.cell? ⟨bc, of2 + k * 2, none⟩ = some (.int .i64 x1) := by rw [← hwz]; exact dy0
            have ey1 : wu.cell? ⟨bc, of2 + k * 2 + 1, none⟩ = some (.int .u64 y2) := by rw [← hwz]; exact dy1
            rw [hwz]
            clear hwz HZ dx0 dx1 dy0 dy1
            have PL : ∀ W, Calls Tryz.prog 66 #[.int .u64 x2, .int .u64 y2] W fun e w' => e = .returned (.int .u64 ((min (x2.toNat + y2.toNat) topC : Nat) : Int)) ∧ w' = W := plusI HX.out HY.out
            generalize ((min (x2.toNat + y2.toNat) topC : Nat) : Int) = z at PL HS
            clear HX HY
            have hsz := HU.out.below.size
            have HOK : Hid (∀ u, Below wu.heap.size wu u → u.ownsRow w.heap.size 50 2 (.slice ao L cc) L (S.flatMap barC)) := fun u h => by
              have := ownsRow_upd HU.out.own (Upd.ofBelow (S := fun _ => False) h (fun k hk hk' => by omega)) (fun _ _ h => h)
              rw [HL.out] at this
              exact this
            have HAD : Hid (∀ u2 u3 v1, Below wu.heap.size wu u2 → u3.ownsRow w.heap.size 50 2 v1 (L + 1) (S.flatMap barC ++ [.int .i64 x1, .int .u64 z]) → u2.grownBy u3 (Value.slice ao L cc).ownBlock → MgAt a b w.heap.size w u3 v1 (i + 1) (k + 1) (S ++ [(x1, z)])) := fun u2 u3 v1 hb o1 g1 => HU.out.stepB HL.out hb o1 g1 HS.out (by omega)
            go_wp2
            go_region_law (first
              | (go_simp; go_at_call 66; (with_reducible refine (PL _).mono ?_); rintro e w5 ⟨rfl, hw5⟩; obtain rfl := hw5.symm)
              | (refine step_appB _ (by rfl) _ _ 37 37 (by rfl) w.heap.size 50 i0 _ 2 16 Tryz.underlying37 hi hz0 hz1 hz2 rfl (.slice ao L cc) L (S.flatMap barC) (by rfl) (HOK.out _ (by repeat' first | exact Below.refl _ _ | refine Below.alloc ?_ (by first | omega | (simp; omega) | (simp; done)) _ | refine Below.drew ?_)) (.slice (some ⟨wu.heap.size, 0, none⟩) 1 1) 1 [.int .i64 x1, .int .u64 z] (by rfl) (bar_src_at (by first | exact heap_alloc_new _ _ | exact heap_alloc_new wu.drew _)) (by unfold maxLen; omega) (by omega) (by first | (simp; omega) | omega) ?_; intro v1 w1 o1 g1 m1; have HF : Hid _ := HAD.out _ _ _ (by repeat' first | exact Below.refl _ _ | refine Below.alloc ?_ (by first | omega | (simp; omega) | (simp; done)) _ | refine Below.drew ?_) o1 g1; obtain ⟨ao1, L1, c1', rfl⟩ := row_shape HF.out.own; clear o1 g1 m1 HOK HAD HU))
            all_goals
              go_wp2
              go_roundw
              case rel => exact ⟨i + 1, k + 1, S ++ [(x1, z)], by go_num, by go_num, by omega, by omega, HF⟩
              case measure => simp [intOf]; omega
      · have t2 : decide ((i : Int) < (n : Int)) = false := by simp; omega
        have hin2 : i = n := by omega
        have t4 : ((i : Int) == (n : Int)) = true := by simp; omega
        obtain ⟨bc, of2, rfl, hc⟩ := (HB.out.below HM.out.below).at_.lies (by omega)
        have hkl : k < b.length := by rw [HLB.out]; exact hk
        obtain ⟨cy0, cy1⟩ := hc k hkl
        clear hc
        have HS : Hid _ := mL_step_b hkl HM.out.eq (Or.inl (by rw [HLA.out]; omega))
        obtain ⟨y, hy⟩ : ∃ x, b[k] = x := ⟨_, rfl⟩
        rw [hy] at cy0 cy1 HS
        obtain ⟨y1, y2⟩ := y
        simp only at cy0 cy1 HS
        clear hy
        clear hkl
        go_wp2
        go_quiet (fail)
        obtain ⟨wz, hwz⟩ : ∃ W, wr.drewN nq = W := ⟨_, rfl⟩
        have HZ : Hid _ := HM.out.drewN nq
        rw [hwz] at HZ
        have dy0 : wz.cell? ⟨bc, of2 + k * 2, none⟩ = some (.int .i64 y1) := by rw [← hwz]; exact cy0
        have dy1 : wz.cell? ⟨bc, of2 + k * 2 + 1, none⟩ = some (.int .u64 y2) := by rw [← hwz]; exact cy1
        rw [hwz]
        clear hwz HM cy0 cy1
        go_wp2
        go_quiet (fail)
        obtain ⟨wu, hwz⟩ : ∃ W, wz.drewN nq = W := ⟨_, rfl⟩
        have HU : Hid _ := HZ.out.drewN nq
        rw [hwz] at HU
        have ey0 : wu.cell? ⟨bc, of2 + k * 2, none⟩ = some (.int .i64 y1) := by rw [← hwz]; exact dy0
        have ey1 : wu.cell? ⟨bc, of2 + k * 2 + 1, none⟩ = some (.int .u64 y2) := by rw [← hwz]; exact dy1
        rw [hwz]
        clear hwz HZ dy0 dy1
        have hsz := HU.out.below.size
        have OW := bar_own HU.out.own HL.out (.cells #[.int .i64 y1, .int .u64 y2] 50)
        have SR := bar_src wu y1 y2
        go_wp2_with (first | (at_builtin; refine wpList_appW _ rfl _ _ 37 37 rfl w.heap.size 50 i0 _ 2 16 Tryz.underlying37 hi hz0 hz1 hz2 rfl (.slice ao L cc) L _ rfl OW _ 1 _ rfl SR (by unfold maxLen; omega) (by omega) (by simp; omega) ?_; clear OW SR; intro v1 w1 o1 g1 m1))
        go_roundw
        case rel => exact ⟨i, k + 1, S ++ [(y1, y2)], by go_num, by go_num, by omega, by omega, HU.out.step HL.out o1 g1 HS.out (by omega)⟩
        case measure => simp [intOf]; omega
    · obtain rfl : k = m := by omega
      by_cases hi' : i < n
      · have t1 : ((k : Int) == (k : Int)) = true := by simp
        obtain ⟨bb, off, rfl, hc⟩ := (HA.out.below HM.out.below).at_.lies (by omega)
        have hil : i < a.length := by rw [HLA.out]; exact hi'
        obtain ⟨cx0, cx1⟩ := hc i hil
        clear hc
        have HS : Hid _ := mL_step_a hil HM.out.eq (Or.inl (by rw [HLB.out]; omega))
        obtain ⟨x, hx⟩ : ∃ x, a[i] = x := ⟨_, rfl⟩
        rw [hx] at cx0 cx1 HS
        obtain ⟨x1, x2⟩ := x
        simp only at cx0 cx1 HS
        clear hx
        clear hil hkm hk
        go_wp2
        go_quiet (fail)
        obtain ⟨wz, hwz⟩ : ∃ W, wr.drewN nq = W := ⟨_, rfl⟩
        have HZ : Hid _ := HM.out.drewN nq
        rw [hwz] at HZ
        have dx0 : wz.cell? ⟨bb, off + i * 2, none⟩ = some (.int .i64 x1) := by rw [← hwz]; exact cx0
        have dx1 : wz.cell? ⟨bb, off + i * 2 + 1, none⟩ = some (.int .u64 x2) := by rw [← hwz]; exact cx1
        rw [hwz]
        clear hwz HM cx0 cx1
        have hsz := HZ.out.below.size
        have OW := bar_own HZ.out.own HL.out (.cells #[.int .i64 x1, .int .u64 x2] 50)
        have SR := bar_src wz x1 x2
        go_wp2_with (first | (at_builtin; refine wpList_appW _ rfl _ _ 37 37 rfl w.heap.size 50 i0 _ 2 16 Tryz.underlying37 hi hz0 hz1 hz2 rfl (.slice ao L cc) L _ rfl OW _ 1 _ rfl SR (by unfold maxLen; omega) (by omega) (by simp; omega) ?_; clear OW SR; intro v1 w1 o1 g1 m1))
        go_roundw
        case rel => exact ⟨i + 1, k, S ++ [(x1, x2)], by go_num, by go_num, by omega, by omega, HZ.out.step HL.out o1 g1 HS.out (by omega)⟩
        case measure => simp [intOf]; omega
      · have HR : Hid (MadeP (some (mergeF a b)) 0 w (.returned (.tuple #[.slice ao L cc, .int .i64 0])) wr) := by
          have e := HM.out.eq
          rw [List.drop_eq_nil_of_le (by rw [HLA.out]; omega), mL_nil, List.drop_eq_nil_of_le (by rw [HLB.out]; omega), List.append_nil, HE.out] at e
          have o := HM.out.own
          rw [e] at o
          exact ⟨HM.out.below, _, rfl, o⟩
        clear HM
        go_wp2
        go_returns
        exact HR.out

end Go.Proofs.YtkpkdikogoalkaaGreatDoor.sk

namespace Go.Proofs.YtkpkdikogoalkaaGreatDoor.sk
open Go.RowKit
set_option maxRecDepth 100000

theorem lL_nil : lL [] [] = some [] := by unfold lL; rfl
theorem lL_none (y : Int × Int) (b : List (Int × Int)) : lL [] (y :: b) = none := by unfold lL; rfl
theorem lL_right (x : Int × Int) (a : List (Int × Int)) : lL (x :: a) [] = (lL a []).map (x :: ·) := by rw [lL]
theorem lL_cons (x y : Int × Int) (a b : List (Int × Int)) : lL (x :: a) (y :: b) = if y.1 = x.1 then (if x.2 < y.2 then none else if x.2 - y.2 = 0 then lL a b else (lL a b).map ((x.1, x.2 - y.2) :: ·)) else (lL a (y :: b)).map (x :: ·) := by rw [lL]
/-- What Less tells, by functions: nothing where b has more. -/
def LsOk (c : Int) (a b : List (Int × Int)) : Option (List (Int × Int)) → Prop
  | some l => chkF c l = true ∧ (∀ x ∈ l, 0 ≤ x.2) ∧ ∀ i : Nat, c < (i : Int) → cntF b i ≤ cntF a i ∧ cntF l i = cntF a i - cntF b i
  | none => ∃ i : Nat, c < (i : Int) ∧ i < 1920 ∧ cntF a i < cntF b i
theorem LsOk.keep {c : Int} {x : Int × Int} {a b : List (Int × Int)} {r : Option (List (Int × Int))} (hx : c < x.1 ∧ x.1 < 1920 ∧ x.2 ≠ 0) (px : 0 ≤ x.2) (ta : chkF x.1 a = true) (hb : chkF x.1 b = true) (h : LsOk x.1 a b r) : LsOk c (x :: a) b (r.map (x :: ·)) := by
  cases r with
  | none =>
    obtain ⟨i, h1, h2, h3⟩ := h
    refine ⟨i, by omega, h2, ?_⟩
    rw [cntF_cons, if_neg (by omega)]
    exact h3
  | some l =>
    obtain ⟨k1, k2, k3⟩ := h
    refine ⟨chk_cons hx.1 hx.2.1 hx.2.2 k1, ?_, fun i hi => ?_⟩
    · intro z hz
      rcases List.mem_cons.mp hz with rfl | hz
      · exact px
      · exact k2 z hz
    · simp only [cntF_cons]
      by_cases e : x.1 = (i : Int)
      · simp only [if_pos e]
        rw [cnt_low hb (by omega)]
        omega
      · simp only [if_neg e]
        rcases Int.lt_trichotomy x.1 i with h | h | h
        · exact k3 i h
        · exact absurd h e
        · rw [cnt_low k1 (by omega), cnt_low ta (by omega), cnt_low hb (by omega)]
          omega
theorem LsOk.both {c : Int} {x y : Int × Int} {a b : List (Int × Int)} {r : Option (List (Int × Int))} (hx : c < x.1 ∧ x.1 < 1920 ∧ x.2 ≠ 0) (e : y.1 = x.1) (py : 0 ≤ y.2) (hle : y.2 ≤ x.2) (ta : chkF x.1 a = true) (tb : chkF x.1 b = true) (h : LsOk x.1 a b r) : LsOk c (x :: a) (y :: b) (if x.2 - y.2 = 0 then r else r.map ((x.1, x.2 - y.2) :: ·)) := by
  cases r with
  | none =>
    obtain ⟨i, h1, h2, h3⟩ := h
    have : LsOk c (x :: a) (y :: b) none := by
      refine ⟨i, by omega, h2, ?_⟩
      rw [cntF_cons, if_neg (by omega), cntF_cons, if_neg (by omega)]
      exact h3
    split
    · exact this
    · exact this
  | some l =>
    obtain ⟨k1, k2, k3⟩ := h
    have hcnt : ∀ i : Nat, x.1 ≠ (i : Int) → cntF b i ≤ cntF a i ∧ cntF l i = cntF a i - cntF b i := fun i hi => by
      rcases Int.lt_trichotomy x.1 i with h | h | h
      · exact k3 i h
      · exact absurd h hi
      · rw [cnt_low k1 (by omega), cnt_low ta (by omega), cnt_low tb (by omega)]
        omega
    split
    · rename_i h0
      refine ⟨?_, k2, fun i hi => ?_⟩
      · cases l with
        | nil => rfl
        | cons z l => exact chk_from k1 (by have := (chk_head k1).1; omega)
      · simp only [cntF_cons, e]
        by_cases e' : x.1 = (i : Int)
        · simp only [if_pos e']
          rw [cnt_low k1 (by omega)]
          omega
        · simp only [if_neg e']
          exact hcnt i e'
    · rename_i h0
      refine ⟨chk_cons hx.1 hx.2.1 h0 k1, ?_, fun i hi => ?_⟩
      · intro z hz
        rcases List.mem_cons.mp hz with rfl | hz
        · simp only; omega
        · exact k2 z hz
      · simp only [cntF_cons, e]
        by_cases e' : x.1 = (i : Int)
        · simp only [if_pos e']
          omega
        · simp only [if_neg e']
          exact hcnt i e'
theorem cnt_head {c : Int} {y : Int × Int} {b : List (Int × Int)} (hb : chkF c (y :: b) = true) (hc : -1 ≤ c) : cntF (y :: b) y.1.toNat = y.2.toNat := by
  have := (chk_head hb).1
  rw [cntF_cons, if_pos (by omega)]
theorem lL_stuck : ∀ (a b : List (Int × Int)) (y : Int × Int), chkF y.1 a = true → lL a (y :: b) = none
  | [], b, y, _ => lL_none y b
  | x :: a, b, y, h => by
    have hx := chk_head h
    rw [lL_cons, if_neg (by omega), lL_stuck a b y ?_]
    · rfl
    · cases a with
      | nil => rfl
      | cons z a => exact chk_from (chk_tail h) (by have := (chk_head (chk_tail h)).1; omega)
theorem lL_all : ∀ (a b : List (Int × Int)) (c : Int), -1 ≤ c → chkF c a = true → chkF c b = true → (∀ x ∈ a, 0 ≤ x.2) → (∀ x ∈ b, 0 ≤ x.2) → LsOk c a b (lL a b)
  | [], [], c, _, _, _, _, _ => by
    rw [lL_nil]
    exact ⟨rfl, (fun x hx => by cases hx), fun i _ => ⟨Nat.le_refl _, rfl⟩⟩
  | [], y :: b, c, hc, _, hb, _, pb => by
    rw [lL_none]
    have hy := chk_head hb
    have := pb y (List.mem_cons_self ..)
    refine ⟨y.1.toNat, by omega, by omega, ?_⟩
    rw [cnt_head hb hc]
    show 0 < _
    omega
  | x :: a, [], c, hc, ha, _, pa, _ => by
    rw [lL_right]
    exact LsOk.keep (chk_head ha) (pa x (List.mem_cons_self ..)) (chk_tail ha) rfl (lL_all a [] x.1 (by have := (chk_head ha).1; omega) (chk_tail ha) rfl (fun z hz => pa z (List.mem_cons_of_mem _ hz)) (fun z hz => by cases hz))
  | x :: a, y :: b, c, hc, ha, hb, pa, pb => by
    have hx := chk_head ha
    have hy := chk_head hb
    have py := pb y (List.mem_cons_self ..)
    rw [lL_cons]
    by_cases e : y.1 = x.1
    · rw [if_pos e]
      have tb := chk_tail hb
      rw [e] at tb
      by_cases h1 : x.2 < y.2
      · rw [if_pos h1]
        have px := pa x (List.mem_cons_self ..)
        refine ⟨y.1.toNat, by omega, by omega, ?_⟩
        rw [cnt_head hb hc, e, cnt_head ha hc]
        omega
      · rw [if_neg h1]
        exact LsOk.both hx e py (by omega) (chk_tail ha) tb (lL_all a b x.1 (by omega) (chk_tail ha) tb (fun z hz => pa z (List.mem_cons_of_mem _ hz)) (fun z hz => pb z (List.mem_cons_of_mem _ hz)))
    · rw [if_neg e]
      rcases Int.lt_trichotomy x.1 y.1 with h | h | h
      · exact LsOk.keep hx (pa x (List.mem_cons_self ..)) (chk_tail ha) (chk_from hb h) (lL_all a (y :: b) x.1 (by omega) (chk_tail ha) (chk_from hb h) (fun z hz => pa z (List.mem_cons_of_mem _ hz)) pb)
      · exact absurd h.symm e
      · have ha' : chkF y.1 (x :: a) = true := chk_from ha h
        have hs := lL_stuck (x :: a) b y ha'
        rw [lL_cons, if_neg e] at hs
        rw [hs]
        refine ⟨y.1.toNat, by omega, by omega, ?_⟩
        rw [cnt_head hb hc, cnt_low ha' (by omega)]
        omega
/-- What Less tells. -/
theorem lL_eq {a b : List (Int × Int)} (ha : chkF (-1) a = true) (hb : chkF (-1) b = true) (ia : Bin a) (ib : Bin b) : (∃ l, lL a b = some l ∧ l = barsF (lessF a b) ∧ ∃ g, lessR a b = some g ∧ barsF g = barsF (lessF a b)) ∨ (lL a b = none ∧ lessR a b = none) := by
  have h := lL_all a b (-1) (by omega) ha hb (fun x hx => (ia.pos x hx).1) (fun x hx => (ib.pos x hx).1)
  cases hl : lL a b with
  | none =>
    rw [hl] at h
    obtain ⟨i, h1, h2, h3⟩ := h
    exact Or.inr ⟨rfl, takeL_none (by omega) hb ⟨i, h3⟩⟩
  | some l =>
    rw [hl] at h
    obtain ⟨k1, k2, k3⟩ := h
    refine Or.inl ⟨l, rfl, ?_, ?_⟩
    · refine bars_ext (by omega) k1 (barsF_chk _) k2 (barsF_pos _) fun i h1 h2 => ?_
      rw [(k3 i h2).2, barsF_cnt _ h1]
      rfl
    · obtain ⟨g, hg, he⟩ := takeL_some (f := cntF a) (by omega) hb (fun j => (k3 j (by omega)).1)
      exact ⟨g, hg, barsF_congr fun i _ => by rw [he i]; rfl⟩
end Go.Proofs.YtkpkdikogoalkaaGreatDoor.sk

namespace Go.Proofs.YtkpkdikogoalkaaGreatDoor.sk
open Go.RowKit
set_option maxRecDepth 100000

set_option maxHeartbeats 400000 in
theorem refMerge_no (ad bd : Option Addr) (n m ca cb : Nat) (a b : List (Int × Int)) (w : World) (hA : InAt w ad n a) (hB : InAt w bd m b) (hc : (chkF (-1) a && chkF (-1) b) = false) :
    Calls Tryz.prog 37 #[.slice ad n ca, .slice bd m cb] w (MadeP none 131 w) := by
  have KA := refCheck_any ad n ca a w hA.at_ hA.len hA.bin
  have KB := fun q => refCheck_any bd m cb b (w.drewN q) (hB.at_.drewN q) hB.len hB.bin
  have hu : ∀ q, Below w.heap.size w (w.drewN q) := fun q => ((Upd.refl (fun _ => False) w).drewN q).below (Nat.le_refl _) (fun _ _ h => h)
  cases ha : chkF (-1) a with
  | false =>
    simp only [chkE_no ha] at KA
    clear KB hA hB hc ha
    go_enter Tryz.func37, Tryz.ntmps37
    go_wp2_with (go_at_call 39; (with_reducible refine KA.mono ?_); clear KA; rintro e w' ⟨rfl, q1, rfl⟩)
    go_returns
    exact ⟨hu _, rfl⟩
  | true =>
    have hb : chkF (-1) b = false := by rw [ha] at hc; simpa using hc
    simp only [chkE_ok ha] at KA
    simp only [chkE_no hb] at KB
    clear hA hB hc ha hb
    go_enter Tryz.func37, Tryz.ntmps37
    go_wp2_with (first
      | (go_at_call 39; (with_reducible refine KA.mono ?_); clear KA; rintro e w' ⟨rfl, q1, rfl⟩)
      | (go_at_call 39; (with_reducible refine (KB q1).mono ?_); clear KB; rintro e w' ⟨rfl, q2, rfl⟩))
    go_returns
    exact ⟨hu _, rfl⟩
/-- What Merge tells, whatever the lists are. -/
def mergeR (a b : List (Int × Int)) : Option (Nat → Nat) := if (chkF (-1) a && chkF (-1) b) = true then some (mergeF a b) else none
theorem refMerge_any (ad bd : Option Addr) (n m ca cb : Nat) (a b : List (Int × Int)) (w : World) (hA : InAt w ad n a) (hB : InAt w bd m b) :
    Calls Tryz.prog 37 #[.slice ad n ca, .slice bd m cb] w (MadeP (mergeR a b) 131 w) := by
  unfold mergeR
  cases h : chkF (-1) a && chkF (-1) b with
  | true =>
    rw [if_pos rfl]
    rw [Bool.and_eq_true] at h
    exact (refMerge_ok ad bd n m ca cb a b w hA hB h.1 h.2).mono fun e w' h => h
  | false =>
    rw [if_neg (by decide)]
    exact refMerge_no ad bd n m ca cb a b w hA hB h
theorem merge_any (ad bd : Option Addr) (n m ca cb : Nat) (a b : List (Int × Int)) (w : World) (hA : InAt w ad n a) (hB : InAt w bd m b) :
    Calls Tryz.prog 32 #[.slice ad n ca, .slice bd m cb] w (MadeP (mergeR a b) 131 w) := by
  unfold mergeR
  cases h : chkF (-1) a && chkF (-1) b with
  | true =>
    rw [if_pos rfl]
    rw [Bool.and_eq_true] at h
    exact (merge_ok ad bd n m ca cb a b w hA hB h.1 h.2).mono fun e w' h => h
  | false =>
    rw [if_neg (by decide)]
    exact merge_no ad bd n m ca cb a b w hA hB h
theorem MadeP.weaken {r : Option (Nat → Nat)} {e : Int} {w w1 : World} {x : Ending} {w2 : World} (hb : Below w.heap.size w w1) (h : MadeP r e w1 x w2) : MadeP r e w x w2 := by
  unfold MadeP at *
  refine ⟨hb.trans (h.1.mono hb.size), ?_⟩
  cases r with
  | none => exact h.2
  | some f =>
    obtain ⟨v, h1, h2⟩ := h.2
    exact ⟨v, h1, own_base h2 hb.size⟩
/-- What Add tells. -/
def addR (l : List (Int × Int)) (v t : Nat) : Option (Nat → Nat) := if chkF (-1) l = true then some (addF l v t) else none
theorem MadeP.same {r s : Option (Nat → Nat)} {e : Int} {w : World} {x : Ending} {w2 : World} (h : MadeP r e w x w2) (hrs : r.map barsF = s.map barsF) : MadeP s e w x w2 := by
  cases r with
  | none => cases s with
    | none => exact h
    | some g => simp at hrs
  | some f => cases s with
    | none => simp at hrs
    | some g =>
      have e1 : barsF f = barsF g := by simpa using hrs
      obtain ⟨h0, v, h1, h2⟩ := h
      rw [e1] at h2
      exact ⟨h0, v, h1, h2⟩
theorem chk_one {i t : Nat} (hi : i < 1920) (ht : t ≠ 0) : chkF (-1) [((i : Int), (t : Int))] = true := chk_cons (by simp only; omega) (by simp only; omega) (by simp only; omega) rfl
theorem addR_zero {l : List (Int × Int)} (hi : Bin l) (v : Nat) : (mergeR l []).map barsF = (addR l v 0).map barsF := by
  unfold mergeR addR
  have h0 : chkF (-1) [] = true := rfl
  rw [h0, Bool.and_true]
  split
  · rw [Option.map_some, Option.map_some, barsF_congr (g := addF l v 0) fun i _ => ?_]
    have := cntF_le hi i
    have h1 : cntF [] i = 0 := rfl
    unfold mergeF addF putF setF
    rw [h1]
    split
    · rename_i h
      subst h
      rfl
    · omega
  · rfl
theorem addR_one {l : List (Int × Int)} (hi : Bin l) {v t : Nat} (hv : v < 18446744073709551616) (ht : t ≠ 0) : (mergeR l [((idxN v : Int), (t : Int))]).map barsF = (addR l v t).map barsF := by
  unfold mergeR addR
  rw [chk_one (idxN_lt hv) ht, Bool.and_true]
  split
  · rw [Option.map_some, Option.map_some, barsF_congr (g := addF l v t) fun i _ => ?_]
    have := cntF_le hi i
    unfold mergeF addF putF setF
    rw [cntF_cons]
    simp only
    split
    · rename_i h
      obtain rfl : i = idxN v := by omega
      rw [if_pos rfl, Int.toNat_natCast]
    · rename_i h
      rw [if_neg (by omega)]
      have h1 : cntF [] i = 0 := rfl
      rw [h1]
      omega
  · rfl
theorem MadeP.shape {r : Option (Nat → Nat)} {x : Int} {w : World} {e : Ending} {w2 : World} (h : MadeP r x w e w2) : ∃ v y, e = .returned (.tuple #[v, .int .i64 y]) ∧ Hid (MadeP r x w (.returned (.tuple #[v, .int .i64 y])) w2) := by
  have h' := h
  unfold MadeP at h
  cases r with
  | none => exact ⟨_, _, h.2, by have := h.2; subst this; exact h'⟩
  | some f =>
    obtain ⟨v, h1, h2⟩ := h.2
    exact ⟨v, 0, h1, by subst h1; exact h'⟩
end Go.Proofs.YtkpkdikogoalkaaGreatDoor.sk
