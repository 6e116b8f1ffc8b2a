/-
  Contracts: numbers as bytes.
-/
import Derived.Test.YtgoafinbaiepmaaGreatDoorFrMo
namespace Go.Proofs.YtgoafinbaiepmaaGreatDoor.fr
open Go.RowKit
set_option maxRecDepth 100000

theorem and_ff00ff (n : Nat) : n &&& 16711935 = n % 256 + 65536 * (n / 65536 % 256) := by
  have h1 : (n &&& 16711935) % 2 ^ 16 = n % 256 := by
    rw [Nat.and_mod_two_pow, show 16711935 % 2 ^ 16 = 2 ^ 8 - 1 by decide, Nat.and_two_pow_sub_one_eq_mod]; omega
  have h2 : (n &&& 16711935) / 2 ^ 16 = n / 65536 % 256 := by
    rw [Nat.and_div_two_pow, show 16711935 / 2 ^ 16 = 2 ^ 8 - 1 by decide, Nat.and_two_pow_sub_one_eq_mod]
  have := Nat.div_add_mod (n &&& 16711935) (2 ^ 16)
  omega
theorem or_gap (a b c d : Nat) (ha : a < 256) (hb : b < 256) (hc : c < 256) : (a + 65536 * c) ||| (256 * b + 16777216 * d) = a + 256 * b + 65536 * c + 16777216 * d := by
  have h1 : ((a + 65536 * c) ||| (256 * b + 16777216 * d)) % 2 ^ 16 = 256 * b + a := by
    rw [Nat.or_mod_two_pow, show (a + 65536 * c) % 2 ^ 16 = a by omega, show (256 * b + 16777216 * d) % 2 ^ 16 = 2 ^ 8 * b by omega, Nat.or_comm, ← Nat.two_pow_add_eq_or_of_lt (i := 8) (by omega)]
  have h2 : ((a + 65536 * c) ||| (256 * b + 16777216 * d)) / 2 ^ 16 = 256 * d + c := by
    rw [Nat.or_div_two_pow, show (a + 65536 * c) / 2 ^ 16 = c by omega, show (256 * b + 16777216 * d) / 2 ^ 16 = 2 ^ 8 * d by omega, Nat.or_comm, ← Nat.two_pow_add_eq_or_of_lt (i := 8) (by omega)]
  have := Nat.div_add_mod ((a + 65536 * c) ||| (256 * b + 16777216 * d)) (2 ^ 16)
  omega
/-- The bytes of a number of 32 bits the other way round. -/
def revN (x : Nat) : Nat := x / 16777216 + 256 * (x / 65536 % 256) + 65536 * (x / 256 % 256) + 16777216 * (x % 256)

theorem rev_bits1 (x : Nat) (hx : x < 4294967296) : bits .or .u32 (bits .and .u32 ((x : Int) / 256) 16711935) (bits .and .u32 (x : Int) 16711935 * 256 % 4294967296) = ((x / 256 % 256 + 256 * (x % 256) + 65536 * (x / 16777216) + 16777216 * (x / 65536 % 256) : Nat) : Int) := by
  have e1 : bits .and .u32 ((x : Int) / 256) 16711935 = ((x / 256 % 256 + 65536 * (x / 16777216) : Nat) : Int) := by
    rw [show ((x : Int) / 256) = ((x / 256 : Nat) : Int) by omega, show (16711935 : Int) = ((16711935 : Nat) : Int) by rfl, u32_and_nat _ _ (by omega) (by omega), and_ff00ff _]
    omega
  have e2 : bits .and .u32 (x : Int) 16711935 = ((x % 256 + 65536 * (x / 65536 % 256) : Nat) : Int) := by
    rw [show (16711935 : Int) = ((16711935 : Nat) : Int) by rfl, u32_and_nat _ _ (by omega) (by omega), and_ff00ff _]
  rw [e1, e2, show (((x % 256 + 65536 * (x / 65536 % 256) : Nat) : Int) * 256 % 4294967296) = ((256 * (x % 256) + 16777216 * (x / 65536 % 256) : Nat) : Int) by omega, u32_or_nat _ _ (by omega) (by omega), or_gap _ _ _ _ (by omega) (by omega) (by omega)]
theorem rev_bits (x : Nat) (hx : x < 4294967296) : bits .or .u32 (bits .or .u32 (bits .and .u32 ((x : Int) / 256) 16711935) (bits .and .u32 (x : Int) 16711935 * 256 % 4294967296) / 65536) (bits .or .u32 (bits .and .u32 ((x : Int) / 256) 16711935) (bits .and .u32 (x : Int) 16711935 * 256 % 4294967296) * 65536 % 4294967296) = (revN x : Int) := by
  rw [rev_bits1 x hx]
  obtain ⟨y, hy⟩ : ∃ y, x / 256 % 256 + 256 * (x % 256) + 65536 * (x / 16777216) + 16777216 * (x / 65536 % 256) = y := ⟨_, rfl⟩
  rw [hy, show ((y : Int) / 65536) = ((y / 65536 : Nat) : Int) by omega, show ((y : Int) * 65536 % 4294967296) = ((2 ^ 16 * (y % 65536) : Nat) : Int) by omega, u32_or_nat _ _ (by omega) (by omega), Nat.or_comm, ← Nat.two_pow_add_eq_or_of_lt (i := 16) (by omega)]
  unfold revN
  omega
theorem rev_lt (x : Nat) (hx : x < 4294967296) : revN x < 4294967296 := by unfold revN; omega

theorem reverse_any (x : Nat) (hx : x < 4294967296) (w : World) :
    Calls Tryz.prog 171 #[.int .u32 (x : Int)] w fun e w' => e = .returned (.int .u32 (revN x : Int)) ∧ w' = w := by
  go_enter Tryz.func171, Tryz.ntmps171
  go_wp2
  go_ret
  refine ⟨?_, rfl⟩
  rw [← rev_bits x hx]
  rfl

/-- What bytes say, the highest first. -/
def numI (K : List Int) : Nat := K.foldl (fun v c => v * 256 + c.toNat) 0
theorem numI_snoc (K : List Int) (x : Int) : numI (K ++ [x]) = numI K * 256 + x.toNat := by unfold numI; rw [List.foldl_append]; rfl
theorem numI_lt (n : Nat) : ∀ K : List Int, K.length = n → ByteL K → numI K < 256 ^ n := by
  induction n with
  | zero => intro K h _; obtain rfl : K = [] := List.eq_nil_of_length_eq_zero h; decide
  | succ n ih =>
    intro K h hb
    obtain ⟨L, c, rfl⟩ : ∃ L c, K = L ++ [c] := ⟨K.dropLast, K.getLast (by intro e; subst e; simp at h), (List.dropLast_concat_getLast _).symm⟩
    have := ih L (by simpa using h) (fun x hx => hb x (by simp [hx]))
    have hc := hb c (by simp)
    rw [numI_snoc, Nat.pow_succ]
    omega
theorem ByteL.take {K : List Int} (h : ByteL K) (n : Nat) : ByteL (K.take n) := fun x hx => h x (List.mem_of_mem_take hx)
theorem ByteL.drop {K : List Int} (h : ByteL K) (n : Nat) : ByteL (K.drop n) := fun x hx => h x (List.mem_of_mem_drop hx)

theorem number_any (b o n cap : Nat) (K : List Int) (w : World) (h : Holds w (some ⟨b, o, none⟩) n K) (hK : ByteL K) (hn : n ≤ 8) :
    Calls Tryz.prog 239 #[.slice (some ⟨b, o, none⟩) n cap] w fun e w' => e = .returned (.int .u64 (numI K : Int)) ∧ w' = w := by
  have hl := h.len
  go_enter Tryz.func239, Tryz.ntmps239
  go_wp2
  go_loop [3, 8] (fun a b => ∃ j : Nat, b = .int .i64 j ∧ j ≤ n ∧ a = .int .u64 (numI (K.take j) : Int)) (fun _ b => n - (intOf b).toNat)
  case atStart => exact ⟨0, rfl, by omega, rfl⟩
  case round =>
    obtain ⟨j, rfl, hjn, rfl⟩ := hrel
    by_cases hlt : j < n
    · have hz : (j : Int) < (n : Int) := by omega
      obtain ⟨x, hx⟩ : ∃ x, K.getD j 0 = x := ⟨_, rfl⟩
      have hcx := h.at j (by omega)
      rw [hx, Addr.add_lit] at hcx
      have hjK : j < K.length := by omega
      have hxe : K[j] = x := by rw [← hx, List.getD, List.getElem?_eq_getElem hjK]; rfl
      obtain ⟨hx0, hx1⟩ := hK x (by rw [← hxe]; exact List.getElem_mem hjK)
      have hv := numI_lt j (K.take j) (by simp; omega) (hK.take j)
      have hv2 : 256 ^ j ≤ 256 ^ 7 := Nat.pow_le_pow_right (by omega) (by omega)
      have HS : Hid (numI (K.take (j + 1)) = numI (K.take j) * 256 + x.toNat) := by
        rw [List.take_succ_eq_append_getElem hjK, numI_snoc, hxe]; exact rfl
      obtain ⟨V, hV⟩ : ∃ V, numI (K.take j) = V := ⟨_, rfl⟩
      rw [hV] at hv HS ⊢
      have hv3 : V < 72057594037927936 := by omega
      have e1 : (V : Int) * 256 % 18446744073709551616 = (V : Int) * 256 := by omega
      have e2 : bits .or .u64 ((V : Int) * 256) x = ((V * 256 + x.toNat : Nat) : Int) := by
        rw [show (V : Int) * 256 = ((2 ^ 8 * V : Nat) : Int) by omega, show x = ((x.toNat : Nat) : Int) by omega, u64_or_nat _ _ (by omega) (by omega), ← Nat.two_pow_add_eq_or_of_lt (i := 8) (by omega)]
        omega
      obtain ⟨U, hU⟩ : ∃ U, V * 256 + x.toNat = U := ⟨_, rfl⟩
      rw [hU] at e2 HS
      clear hx hxe hV hv hv2 h hU
      go_wp2
      go_round
      case rel => exact ⟨j + 1, by go_num, by omega, by rw [HS.out]⟩
      case measure => simp [intOf]; omega
    · obtain rfl : j = n := by omega
      rw [List.take_of_length_le (by omega)]
      go_wp2
      go_ret
      exact ⟨rfl, rfl⟩
/-- What bytes say, the lowest first. -/
def sumI (K : List Int) : Nat := revN (numI K)
theorem readSum_any (b o cap : Nat) (K : List Int) (w : World) (h : Holds w (some ⟨b, o, none⟩) 4 K) (hK : ByteL K) :
    Calls Tryz.prog 240 #[.slice (some ⟨b, o, none⟩) (4 : Nat) cap] w fun e w' => e = .returned (.int .u32 (sumI K : Int)) ∧ w' = w := by
  have hv := numI_lt 4 K h.len hK
  have N := number_any b o 4 cap K w h hK (by omega)
  have R := reverse_any (numI K) (by omega) w
  unfold sumI
  generalize revN (numI K) = r at R ⊢
  generalize numI K = v at N R hv
  have hv2 : v < 4294967296 := by omega
  have e1 : (v : Int) % 4294967296 = v := by omega
  go_enter Tryz.func240, Tryz.ntmps240
  go_wp2_with (first
    | (go_at_call 239; refine N.mono ?_; rintro e w' ⟨rfl, hw⟩; obtain rfl := hw.symm)
    | (go_at_call 171; refine R.mono ?_; rintro e w' ⟨rfl, hw⟩; obtain rfl := hw.symm))
  go_ret
  exact ⟨rfl, rfl⟩
end Go.Proofs.YtgoafinbaiepmaaGreatDoor.fr