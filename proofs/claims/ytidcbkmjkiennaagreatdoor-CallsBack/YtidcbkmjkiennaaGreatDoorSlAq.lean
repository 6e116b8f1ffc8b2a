/-
  Merged: SlA, SlB, SlC, SlD.
-/
import Derived.Test.YtidcbkmjkiennaaGreatDoorSkHq
namespace Go.Proofs.YtidcbkmjkiennaaGreatDoor.sk
open Go.RowKit
set_option maxRecDepth 100000

theorem addr (a b : Nat) : IntKind.u64.wrap ((a : Int) + (b : Int)) = (((a + b) % 18446744073709551616 : Nat) : Int) := by
  rw [← Int.natCast_add, IntKind.wrap_u64]; omega
theorem subr {a b r : Nat} (hr : r < 18446744073709551616) (h : (r + b) % 18446744073709551616 = a % 18446744073709551616) : IntKind.u64.wrap ((a : Int) - (b : Int)) = (r : Int) := by
  rw [IntKind.wrap_u64]; omega
theorem powN (a s : Nat) : (a : Int) * 2 ^ s = ((a * 2 ^ s : Nat) : Int) := by rw [Int.natCast_mul, Int.natCast_pow]; rfl
theorem divP (a s : Nat) : (a : Int) / 2 ^ s = ((a / 2 ^ s : Nat) : Int) := by rw [Int.natCast_ediv, Int.natCast_pow]; rfl
theorem or_sum {a b s : Nat} (h : b < 2 ^ s) (ha : a * 2 ^ s + b < 18446744073709551616) : bits .or .u64 ((a * 2 ^ s : Nat) : Int) (b : Int) = ((a * 2 ^ s + b : Nat) : Int) := by
  have e : a * 2 ^ s ||| b = a * 2 ^ s + b := by
    have := Nat.shiftLeft_add_eq_or_of_lt h a
    rw [Nat.shiftLeft_eq] at this
    exact this.symm
  have := bits_or_u64_nat (a * 2 ^ s) b (by omega) (by omega)
  rw [e] at this
  exact this
theorem len_small {y : Nat} (h0 : 0 < y) (h : y ≤ 1000000) : lenN y ≤ 20 ∧ 1 ≤ lenN y ∧ y < 2 ^ lenN y := by
  rw [lenN_log (by omega)]
  obtain ⟨l1, l2⟩ := log2_le (v := y) (by omega)
  refine ⟨?_, by omega, l2⟩
  rcases Nat.lt_or_ge y.log2 20 with h6 | h6
  · omega
  · have := Nat.pow_le_pow_right (n := 2) (by omega) h6
    omega
theorem wrapv {a : Int} {n : Nat} (h : a = (n : Int)) (hn : n < 18446744073709551616) : IntKind.u64.wrap a = (n : Int) := by
  rw [h, IntKind.wrap_u64]; omega
theorem rem_part {X Z R y p : Nat} (hp : 1 ≤ p) (h : X * p = Z * p + R) (hR : R < y * p) : ∃ r, R = r * p ∧ X = Z + r ∧ r < y := by
  have hZX : Z ≤ X := by
    rcases Nat.lt_or_ge X Z with h' | h'
    · have := Nat.mul_le_mul_right p (show X + 1 ≤ Z by omega)
      rw [Nat.add_mul] at this
      omega
    · exact h'
  refine ⟨X - Z, ?_, by omega, ?_⟩
  · rw [Nat.sub_mul]; omega
  · have : (X - Z) * p < y * p := by rw [Nat.sub_mul]; omega
    exact Nat.lt_of_mul_lt_mul_right this
theorem fin_sum {m1 rh un1 un0 m2 r0 un21 : Nat} (hd2 : m2 + r0 = un21) (h21 : un21 = rh * 4294967296 + un1) : (m1 + rh) * 18446744073709551616 + (4294967296 * un1 + un0) = m1 * 4294967296 * 4294967296 + m2 * 4294967296 + (r0 * 4294967296 + un0) := by omega
theorem wmulK {a : Nat} (h : a < 4294967296) : IntKind.u64.wrap (4294967296 * (a : Int)) = ((4294967296 * a : Nat) : Int) := wrapv (by omega) (by omega)
theorem wmulR {a : Nat} (h : a < 4294967296) : IntKind.u64.wrap ((a : Int) * 4294967296) = ((a * 4294967296 : Nat) : Int) := wrapv (by omega) (by omega)
theorem wmulM (a : Nat) : IntKind.u64.wrap ((a : Int) * 4294967296) = ((a * 4294967296 % 18446744073709551616 : Nat) : Int) := by rw [IntKind.wrap_u64]; omega
theorem quoN' {a b q : Nat} (h : a / b = q) (ha : a < 18446744073709551616) : IntKind.u64.wrap ((a : Int).tdiv (b : Int)) = (q : Int) := by
  rw [← h]; exact quoN a b ha
theorem r5_lt {r0 N1 un0 Y1 : Nat} (h1 : r0 < N1) (h2 : un0 < 4294967296) (h3 : Y1 = N1 * 4294967296) : r0 * 4294967296 + un0 < Y1 := by omega
theorem mods {a b c d : Nat} (h : a + b = c + d) : (a + b % 18446744073709551616) % 18446744073709551616 = (c % 18446744073709551616 + d) % 18446744073709551616 % 18446744073709551616 := by
  rw [Nat.add_mod_mod, Nat.mod_add_mod, Nat.mod_mod, h]
theorem L12 {U m1 rh : Nat} (h : m1 + rh = U) (hU : U < 18446744073709551616) : IntKind.u64.wrap ((U : Int) - (m1 : Int)) = (rh : Int) := subr (by omega) (by omega)
theorem L14 {rh un1 un21 : Nat} (h : un21 = rh * 4294967296 + un1) (hl : un21 < 18446744073709551616) : IntKind.u64.wrap (((4294967296 * rh : Nat) : Int) + (un1 : Int)) = (un21 : Int) := by
  rw [addw _ _ (by omega), h, Nat.mul_comm]
theorem L18 {U un1 m1 rh un21 : Nat} (hd1 : m1 + rh = U) (h : un21 = rh * 4294967296 + un1) (hl : un21 < 18446744073709551616) : IntKind.u64.wrap ((((U * 4294967296 % 18446744073709551616 + un1) % 18446744073709551616 : Nat) : Int) - ((m1 * 4294967296 % 18446744073709551616 : Nat) : Int)) = (un21 : Int) := subr hl (mods (by omega))
theorem L23 {r0 un0 : Nat} (h : r0 < 4294967296) (h2 : un0 < 4294967296) : IntKind.u64.wrap (((4294967296 * r0 : Nat) : Int) + (un0 : Int)) = ((4294967296 * r0 + un0 : Nat) : Int) := addw _ _ (by omega)
theorem L25 {q1 q0 : Nat} (h : q1 < 4294967296) (h2 : q0 < 4294967296) : IntKind.u64.wrap (((q1 * 4294967296 : Nat) : Int) + (q0 : Int)) = ((q1 * 4294967296 + q0 : Nat) : Int) := addw _ _ (by omega)
theorem L29 {un21 m2 r0 un0 : Nat} (hd2 : m2 + r0 = un21) (h : r0 < 4294967296) (h2 : un0 < 4294967296) : IntKind.u64.wrap ((((un21 * 4294967296 % 18446744073709551616 + un0) % 18446744073709551616 : Nat) : Int) - ((m2 * 4294967296 % 18446744073709551616 : Nat) : Int)) = ((r0 * 4294967296 + un0 : Nat) : Int) := subr (by omega) (mods (by omega))
theorem nat_nonneg (n : Nat) : ¬ (n : Int) < 0 := by omega
end Go.Proofs.YtidcbkmjkiennaaGreatDoor.sk

namespace Go.Proofs.YtidcbkmjkiennaaGreatDoor.sk
open Go.RowKit
set_option maxRecDepth 100000

theorem two_parts (m y : Nat) (hy : 0 < y) :
    lo64 (m / y) = ((hi64 m % y) * 18446744073709551616 + lo64 m) / y ∧ m % y = ((hi64 m % y) * 18446744073709551616 + lo64 m) % y := by
  have e1 : m = hi64 m * 18446744073709551616 + lo64 m := by unfold hi64 lo64; omega
  have e2 := Nat.div_add_mod (hi64 m) y
  have e3 : lo64 m < 18446744073709551616 := by unfold lo64; omega
  have e4 : hi64 m % y < y := Nat.mod_lt _ hy
  generalize hi64 m = H at *
  generalize lo64 m = L at *
  generalize H / y = k at *
  generalize H % y = r at *
  have e5 : m = r * 18446744073709551616 + L + y * (k * 18446744073709551616) := by
    rw [e1, ← e2, Nat.add_mul, Nat.mul_assoc]; omega
  have e6 : r * 18446744073709551616 + L < 18446744073709551616 * y := by
    have := Nat.mul_le_mul_right 18446744073709551616 (show r + 1 ≤ y by omega)
    rw [Nat.add_mul, Nat.one_mul, Nat.mul_comm y] at this
    omega
  have e7 : (r * 18446744073709551616 + L) / y < 18446744073709551616 := by
    rw [Nat.div_lt_iff_lt_mul hy]; exact e6
  clear e1 e2
  rw [e5]
  refine ⟨?_, by rw [Nat.add_mul_mod_self_left]⟩
  rw [Nat.add_mul_div_left _ _ hy]
  unfold lo64
  rw [Nat.add_mul_mod_self_right, Nat.mod_eq_of_lt e7]
end Go.Proofs.YtidcbkmjkiennaaGreatDoor.sk

namespace Go.Proofs.YtidcbkmjkiennaaGreatDoor.sk
open Go.RowKit
set_option maxRecDepth 100000

theorem quo2 (a : Nat) (h : a < 18446744073709551616) : IntKind.u64.wrap ((a : Int) / 2) = ((a / 2 : Nat) : Int) := by rw [IntKind.wrap_u64]; omega
theorem div2k (v k : Nat) : v / 2 ^ k / 2 = v / 2 ^ (k + 1) := by rw [Nat.div_div_eq_div_mul, Nat.pow_succ]
theorem log_one {v k : Nat} (h : v / 2 ^ k = 1) : v.log2 = k := by
  have hp := two_pos k
  have := Nat.div_add_mod v (2 ^ k)
  have := Nat.mod_lt v (show 2 ^ k > 0 by omega)
  rw [h] at *
  exact log2_of (by omega) (by rw [Nat.pow_succ]; omega)
theorem hid0 (v : Nat) : Hid (v = v / 2 ^ 0) := by
  have : v = v / 2 ^ 0 := by simp
  exact this
theorem five_lt (v : Nat) (h : 64 ≤ v) : v / 2 ^ (v.log2 - 5) < 64 := by
  obtain ⟨l1, l2⟩ := log2_le (v := v) (by omega)
  have e6 : 6 ≤ v.log2 := by
    rcases Nat.lt_or_ge v.log2 6 with h6 | h6
    · have := Nat.pow_le_pow_right (n := 2) (by omega) (show v.log2 + 1 ≤ 6 by omega)
      omega
    · exact h6
  have e7 : 2 ^ (v.log2 + 1) = 64 * 2 ^ (v.log2 - 5) := by rw [show v.log2 + 1 = (v.log2 - 5) + 6 by omega, Nat.pow_add]; omega
  exact (Nat.div_lt_iff_lt_mul (by have := two_pos (v.log2 - 5); omega)).mpr (by omega)
theorem ret_i64 {a b : Int} (h : a = b) : Ending.returned (.int .i64 a) = .returned (.int .i64 b) := by rw [h]
set_option maxHeartbeats 1000000 in
theorem refIndex (v : Nat) (hv : v < 18446744073709551616) (w : World) :
    Calls Tryz.prog 52 #[.int .u64 v] w fun e w' => e = .returned (.int .i64 (idxN v : Nat)) ∧ w' = w := by
  by_cases h : v < 64
  · have h1 : (v : Int) < 64 := by omega
    have e : idxN v = v := (idx_small h).1
    rw [e]
    clear e
    go_enter Tryz.func52, Tryz.ntmps52
    go_wp2
    go_ret
    exact ⟨rfl, rfl⟩
  · have h1 : ¬ (v : Int) < 64 := by omega
    obtain ⟨l1, l2⟩ := log2_le (v := v) (by omega)
    have e6 : 6 ≤ v.log2 := by
      rcases Nat.lt_or_ge v.log2 6 with h6 | h6
      · have := Nat.pow_le_pow_right (n := 2) (by omega) (show v.log2 + 1 ≤ 6 by omega)
        omega
      · exact h6
    have e64 : v.log2 < 64 := by
      rcases Nat.lt_or_ge v.log2 64 with h6 | h6
      · exact h6
      · have := Nat.pow_le_pow_right (n := 2) (by omega) h6
        omega
    have HI : Hid (idxN v = 32 * (v.log2 - 6) + 32 + v / 2 ^ (v.log2 - 5)) := by
      have : idxN v = 32 * (v.log2 - 6) + 32 + v / 2 ^ (v.log2 - 5) := by unfold idxN; rw [if_neg h]
      exact this
    have HV : Hid (v < 18446744073709551616) := hv
    have HL : Hid (∀ k, v / 2 ^ k = 1 → v.log2 = k) := fun k h => log_one h
    have H5 : Hid _ := five_lt v (by omega)
    clear l1 l2
    obtain ⟨e, he⟩ : ∃ e, v.log2 = e := ⟨_, rfl⟩
    rw [he] at HI e6 e64 H5
    have HE : Hid (v.log2 = e) := he
    have hv1 : 1 ≤ v := by omega
    clear he hv h
    go_enter Tryz.func52, Tryz.ntmps52
    go_wp2
    go_loop [3, 4] (fun a b => ∃ (k x : Nat), a = .int .i64 k ∧ b = .int .u64 (x : Int) ∧ k ≤ 64 ∧ 1 ≤ x ∧ Hid (x = v / 2 ^ k)) (fun _ b => (intOf b).toNat)
    case atStart => exact ⟨0, v, rfl, rfl, by omega, hv1, hid0 v⟩
    case round =>
      obtain ⟨k, x, rfl, rfl, hk, hx, HX⟩ := hrel
      by_cases hlt : 1 < x
      · have hx64 : x < 18446744073709551616 := by
          have := HX.out
          have := Nat.div_le_self v (2 ^ k)
          have := HV.out
          omega
        have hk2 : k + 1 ≤ 64 := by
          have : k ≠ 64 := by
            rintro rfl
            have := HX.out
            have := Nat.div_eq_of_lt (show v < 2 ^ 64 from HV.out)
            omega
          omega
        have hlt' : (1 : Int) < (x : Int) := by omega
        have q := quo2 x hx64
        obtain ⟨y, hy⟩ : ∃ y, x / 2 = y := ⟨_, rfl⟩
        rw [hy] at q
        have HY : Hid (y = v / 2 ^ (k + 1)) := by
          have : y = v / 2 ^ (k + 1) := by rw [← hy, HX.out, div2k]
          exact this
        have hy1 : 1 ≤ y := by omega
        have hy2 : y < x := by omega
        clear hy hlt hx64
        go_wp2
        go_round
        case rel => exact ⟨k + 1, y, by go_num, by first | rfl | rw [q], hk2, hy1, HY⟩
        case measure => simp [intOf]; omega
      · have hx1 : x = 1 := by omega
        subst hx1
        have hke : k = e := by rw [← HE.out]; exact (HL.out k HX.out.symm).symm
        subst hke
        clear hlt hx HX HL HE
        go_wp2
        go_loop [5, 6] (fun a b => ∃ (i x : Nat), b = .int .i64 i ∧ a = .int .u64 (x : Int) ∧ i + 5 ≤ k ∧ Hid (x = v / 2 ^ i)) (fun _ b => k - (intOf b).toNat)
        case atStart => exact ⟨0, v, rfl, rfl, by omega, hid0 v⟩
        case round =>
          obtain ⟨i, x, rfl, rfl, hi, HX⟩ := hrel
          by_cases hlt : i + 5 < k
          · have hx64 : x < 18446744073709551616 := by
              have := HX.out
              have := Nat.div_le_self v (2 ^ i)
              have := HV.out
              omega
            have q := quo2 x hx64
            obtain ⟨y, hy⟩ : ∃ y, x / 2 = y := ⟨_, rfl⟩
            rw [hy] at q
            have HY : Hid (y = v / 2 ^ (i + 1)) := by
              have : y = v / 2 ^ (i + 1) := by rw [← hy, HX.out, div2k]
              exact this
            clear hy hx64
            go_wp2
            go_round
            case rel => exact ⟨i + 1, y, by go_num, by first | rfl | rw [q], by omega, HY⟩
            case measure => simp [intOf]; omega
          · have hik : i + 5 = k := by omega
            have hx6 : x < 64 := by
              have := HX.out
              have h5 := H5.out
              rw [show k - 5 = i by omega, ← this] at h5
              exact h5
            have HR : Hid (idxN v = 32 * (k - 6) + 32 + x) := by
              have := HI.out
              rw [show k - 5 = i by omega, ← HX.out] at this
              exact this
            clear HI HX HV H5
            go_wp2
            go_ret
            refine ⟨ret_i64 ?_, rfl⟩
            rw [HR.out]
            omega

theorem refPlus_any (a b : Nat) (w : World) (ha : a ≤ 18446744073709551615) (hb : b ≤ 18446744073709551615) :
    Calls Tryz.prog 75 #[.int .u64 (a : Int), .int .u64 (b : Int)] w fun e w' => e = .returned (.int .u64 ((min (a + b) 18446744073709551615 : Nat) : Int)) ∧ w' = w := by
  have h0 : (0 : Int) ≤ (a : Int) := by omega
  have h1 : (0 : Int) ≤ (b : Int) := by omega
  have h2 : (b : Int) ≤ 18446744073709551615 := by omega
  have h3 : (a : Int) ≤ 18446744073709551615 := by omega
  by_cases h : (18446744073709551615 : Int) - (b : Int) < (a : Int)
  · go_enter Tryz.func75, Tryz.ntmps75
    go_wp2
    go_ret
    refine ⟨?_, rfl⟩
    rw [show min (a + b) 18446744073709551615 = 18446744073709551615 by omega]
    rfl
  · go_enter Tryz.func75, Tryz.ntmps75
    go_wp2
    go_ret
    refine ⟨?_, rfl⟩
    rw [show min (a + b) 18446744073709551615 = a + b by omega]
    rw [Int.natCast_add]
    rfl
theorem mul2 (a : Nat) (h : 2 * a < 18446744073709551616) : IntKind.u64.wrap (2 * (a : Int)) = ((2 * a : Nat) : Int) := by rw [IntKind.wrap_u64]; omega
/-- Where doubling stands. -/
def Dbl (m k x y : Nat) : Prop := x = (32 + m) * 2 ^ k ∧ y = 2 ^ k
theorem Dbl.lt {m k K x y : Nat} (h : Dbl m k x y) (hk : k ≤ K) (hm : (32 + m) * 2 ^ K < 18446744073709551616) : x < 18446744073709551616 ∧ y ≤ x ∧ 1 ≤ y := by
  obtain ⟨rfl, rfl⟩ := h
  have a := Nat.mul_le_mul_left (32 + m) (Nat.pow_le_pow_right (n := 2) (by omega) hk)
  have b := Nat.mul_le_mul_right (2 ^ k) (show 1 ≤ 32 + m by omega)
  rw [Nat.one_mul] at b
  exact ⟨Nat.lt_of_le_of_lt a hm, b, two_pos k⟩
theorem Dbl.next {m k x y : Nat} (h : Dbl m k x y) : Dbl m (k + 1) (2 * x) (2 * y) := by
  obtain ⟨rfl, rfl⟩ := h
  unfold Dbl
  rw [Nat.pow_succ]
  refine ⟨?_, by omega⟩
  rw [Nat.mul_comm 2, Nat.mul_assoc]
end Go.Proofs.YtidcbkmjkiennaaGreatDoor.sk

namespace Go.Proofs.YtidcbkmjkiennaaGreatDoor.sk
open Go.RowKit
set_option maxRecDepth 100000

/-- The last bar's number, or -1. -/
def preI (l : List (Int × Int)) (k : Nat) : Int := if h : 0 < k ∧ k - 1 < l.length then l[k - 1].1 else -1
theorem preI_zero (l : List (Int × Int)) : preI l 0 = -1 := by unfold preI; rw [dif_neg (by omega)]
theorem preI_succ (l : List (Int × Int)) {k : Nat} (h : k < l.length) : preI l (k + 1) = l[k].1 := by
  unfold preI
  rw [dif_pos (by omega)]
  rfl
set_option maxHeartbeats 2000000 in
theorem refCheck_any (ad : Option Addr) (n c : Nat) (l : List (Int × Int)) (w : World) (hA : BarAt w ad n l) (hn : n ≤ maxLen) (hi : Bin l) :
    Calls Tryz.prog 48 #[.slice ad n c] w fun e w' => e = .returned (.int .i64 (chkE l)) ∧ ∃ q, w' = w.drewN q := by
  unfold maxLen at hn
  have HL : Hid (l.length = n) := hA.len
  go_enter Tryz.func48, Tryz.ntmps48
  go_wp2
  go_loopw [3] (fun t wr => ∃ (k q : Nat), t = .int .i64 k ∧ k ≤ n ∧ Hid (chkF (-1) l = chkF (preI l k) (l.drop k)) ∧ Hid (-1 ≤ preI l k) ∧ wr = w.drewN q) (fun t _ => n - (intOf t).toNat)
  case atStart => exact ⟨0, 0, rfl, by omega, by rw [preI_zero]; exact rfl, by rw [preI_zero]; exact Int.le_refl _, rfl⟩
  case round =>
    obtain ⟨k, q, rfl, hk, HC, HP, rfl⟩ := hrel
    by_cases hlt : k < n
    · obtain ⟨b, off, rfl, hc⟩ := hA.lies (by omega)
      have hkl : k < l.length := by rw [HL.out]; exact hlt
      obtain ⟨c0, c1⟩ := hc k hkl
      have hik := hi l[k] (List.getElem_mem hkl)
      have HD : Hid _ := chk_drop hkl HC.out
      have HN1 : Hid _ := preI_succ l hkl
      obtain ⟨x, hx⟩ : ∃ x, l[k] = x := ⟨_, rfl⟩
      rw [hx] at c0 c1 hik HD HN1
      obtain ⟨i, m⟩ := x
      simp only at c0 c1 hik HD HN1
      obtain ⟨i1, i2, m1, m2⟩ := hik
      clear hx HC
      by_cases hk0 : k = 0
      · subst hk0
        clear hc
        rw [preI_zero] at HD
        clear HP hkl
        simp only [Nat.zero_mul, Nat.add_zero] at c0 c1
        by_cases t1 : i < 0
        · have t1' : decide (i < 0) = true := by simpa using t1
          have HN : Hid (chkE l = 131) := chkE_no (by rw [HD.out]; simp [show i ≤ -1 by omega])
          clear HD HN1
          go_wp2
          go_quiet (fail)
          go_wp2
          go_ret
          exact ⟨ret_chk HN.out, q + nq, by first | rfl | rw [World.drewN_drewN]⟩
        · have t1' : decide (i < 0) = false := by simpa using t1
          by_cases t2 : 1920 ≤ i
          · have t2' : decide (1920 ≤ i) = true := by simpa using t2
            have HN : Hid (chkE l = 131) := chkE_no (by rw [HD.out]; simp [t2])
            clear HD HN1
            go_wp2
            go_quiet (fail)
            go_wp2
            go_ret
            exact ⟨ret_chk HN.out, q + nq, by first | rfl | rw [World.drewN_drewN]⟩
          · have t2' : decide (1920 ≤ i) = false := by simpa using t2
            by_cases t3 : m = 0
            · subst t3
              have HN : Hid (chkE l = 131) := chkE_no (by rw [HD.out]; simp)
              clear HD HN1
              go_wp2
              go_quiet (fail)
              go_wp2
              go_ret
              exact ⟨ret_chk HN.out, q + nq, by first | rfl | rw [World.drewN_drewN]⟩
            · have t3' : (m == 0) = false := by simpa using t3
              clear t3
              have HE : Hid (chkF (-1) l = chkF (preI l (0 + 1)) (l.drop (0 + 1))) := by
                have e1 : decide (i ≤ -1) = false := by simp; omega
                have := HD.out
                rw [e1, t2', t3'] at this
                rw [HN1.out]
                have h' : chkF (-1) l = chkF i (l.drop (0 + 1)) := by simpa using this
                exact h'
              have HE2 : Hid (-1 ≤ preI l (0 + 1)) := by
                have : -1 ≤ preI l (0 + 1) := by rw [HN1.out]; omega
                exact this
              clear HD HN1
              go_wp2
              go_quiet (fail)
              go_wp2
              go_roundw
              case rel => exact ⟨0 + 1, q + nq, by go_num, by omega, HE, HE2, by first | rfl | rw [World.drewN_drewN]⟩
              case measure => simp [intOf]; omega
      · obtain ⟨j, rfl⟩ : ∃ j, k = j + 1 := ⟨k - 1, by omega⟩
        have hjl : j < l.length := by omega
        have d0 := (hc j hjl).1
        have hp := preI_succ l hjl
        rw [hp] at HD HP
        obtain ⟨p, hpp⟩ : ∃ p, l[j].1 = p := ⟨_, rfl⟩
        rw [hpp] at HD HP d0
        have hp1 := HP.out
        have hk1 : decide ((0 : Int) < ((j + 1 : Nat) : Int)) = true := by simp
        clear hc hp hpp HP hk0
        by_cases t1 : i < 0
        · have t1' : decide (i < 0) = true := by simpa using t1
          have HN : Hid (chkE l = 131) := chkE_no (by rw [HD.out]; simp [show i ≤ p by omega])
          clear HD HN1
          go_wp2
          go_quiet (fail)
          go_wp2
          go_ret
          exact ⟨ret_chk HN.out, q + nq, by first | rfl | rw [World.drewN_drewN]⟩
        · have t1' : decide (i < 0) = false := by simpa using t1
          by_cases t2 : 1920 ≤ i
          · have t2' : decide (1920 ≤ i) = true := by simpa using t2
            have HN : Hid (chkE l = 131) := chkE_no (by rw [HD.out]; simp [t2])
            clear HD HN1
            go_wp2
            go_quiet (fail)
            go_wp2
            go_ret
            exact ⟨ret_chk HN.out, q + nq, by first | rfl | rw [World.drewN_drewN]⟩
          · have t2' : decide (1920 ≤ i) = false := by simpa using t2
            by_cases t3 : m = 0
            · subst t3
              have HN : Hid (chkE l = 131) := chkE_no (by rw [HD.out]; simp)
              clear HD HN1
              go_wp2
              go_quiet (fail)
              go_wp2
              go_ret
              exact ⟨ret_chk HN.out, q + nq, by first | rfl | rw [World.drewN_drewN]⟩
            · have t3' : (m == 0) = false := by simpa using t3
              clear t3
              by_cases t4 : i ≤ p
              · have t4' : decide (i ≤ p) = true := by simpa using t4
                have HN : Hid (chkE l = 131) := chkE_no (by rw [HD.out]; simp [t4])
                clear HD HN1
                go_wp2
                go_quiet (fail)
                go_wp2
                go_ret
                exact ⟨ret_chk HN.out, q + nq, by first | rfl | rw [World.drewN_drewN]⟩
              · have t4' : decide (i ≤ p) = false := by simpa using t4
                have HE : Hid (chkF (-1) l = chkF (preI l (j + 1 + 1)) (l.drop (j + 1 + 1))) := by
                  have e1 : decide (i ≤ p) = false := by simp; omega
                  have := HD.out
                  rw [e1, t2', t3'] at this
                  rw [HN1.out]
                  have h' : chkF (-1) l = chkF i (l.drop (j + 1 + 1)) := by simpa using this
                  exact h'
                have HE2 : Hid (-1 ≤ preI l (j + 1 + 1)) := by
                  have : -1 ≤ preI l (j + 1 + 1) := by rw [HN1.out]; omega
                  exact this
                clear HD HN1
                go_wp2
                go_quiet (fail)
                go_wp2
                go_roundw
                case rel => exact ⟨j + 1 + 1, q + nq, by go_num, by omega, HE, HE2, by first | rfl | rw [World.drewN_drewN]⟩
                case measure => simp [intOf]; omega
    · have HN : Hid (chkE l = 0) := chkE_ok (by rw [HC.out, List.drop_eq_nil_of_le (by rw [HL.out]; omega)]; rfl)
      go_wp2
      go_ret
      exact ⟨ret_chk HN.out, q, rfl⟩
end Go.Proofs.YtidcbkmjkiennaaGreatDoor.sk
