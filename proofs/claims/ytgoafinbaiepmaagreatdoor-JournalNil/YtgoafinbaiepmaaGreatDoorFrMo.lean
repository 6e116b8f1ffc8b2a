/-
  Contracts: More, Sum.
-/
import Derived.Test.YtgoafinbaiepmaaGreatDoorFrTb
namespace Go.Proofs.YtgoafinbaiepmaaGreatDoor.fr
open Go.RowKit
set_option maxRecDepth 100000

/-- A sum goes on. -/
def moreB (s : BitVec 32) (K : List Int) : BitVec 32 := ~~~ (crcL (~~~ s) K)
theorem moreB_nil (s : BitVec 32) : moreB s [] = s := by unfold moreB crcL; simp
theorem moreB_append (s : BitVec 32) (K L : List Int) : moreB s (K ++ L) = moreB (moreB s K) L := by unfold moreB; rw [crcL_append, BitVec.not_not]

theorem byte_low (s : BitVec 32) (x : Int) (h0 : 0 ≤ x) (h1 : x < 256) : bits .xor .u8 ((s.toNat : Int) % 256) x = (((s ^^^ bvI x) &&& 255#32).toNat : Int) := by
  obtain ⟨n, rfl⟩ : ∃ n : Nat, x = n := ⟨x.toNat, by omega⟩
  rw [show ((s.toNat : Int) % 256) = ((s.toNat % 256 : Nat) : Int) by omega, u8_xor_nat _ _ (by omega) (by omega)]
  congr 1
  have e : (bvI (n : Int)).toNat = n := by unfold bvI; simp; omega
  rw [BitVec.toNat_and, BitVec.toNat_xor, e, show (255#32).toNat = 2 ^ 8 - 1 by rfl, Nat.and_two_pow_sub_one_eq_mod, Nat.xor_mod_two_pow]
  congr 1
  exact (Nat.mod_eq_of_lt (by omega)).symm
theorem byte_step (s : BitVec 32) (x : Int) (h1 : x < 256) (k : Nat) (hk : ((s ^^^ bvI x) &&& 255#32).toNat = k) : bits .xor .u32 ((s.toNat : Int) / 256) ((tabN k).toNat : Int) = ((crcB s (bvI x)).toNat : Int) := by
  rw [crcB_tab s _ (bvI_high x h1), ← xor32]
  congr 1
  · simp [Nat.shiftRight_eq_div_pow]
  · unfold tabN; rw [← hk, BitVec.ofNat_toNat, BitVec.setWidth_eq]
theorem not32 (s : BitVec 32) : bits .xor .u32 4294967295 (s.toNat : Int) = ((~~~ s).toNat : Int) := by
  rw [show (4294967295 : Int) = ((4294967295#32).toNat : Int) by rfl, xor32]
  rw [show 4294967295#32 = BitVec.allOnes 32 by rfl, BitVec.allOnes_xor]

theorem more_any (T : Nat) (s : BitVec 32) (ad : Option Addr) (n cap : Nat) (K : List Int) (w : World) (hT : w.heap[T]? = some (.cells (tabAt 256) 220 (0, 0))) (h : Holds w ad n K) (hK : ByteL K) (hn : n ≤ 140737488355328) :
    Calls Tryz.prog 121 #[.pointer (some ⟨T, 0, none⟩), .int .u32 (s.toNat : Int), .slice ad n cap] w fun e w' => e = .returned (.int .u32 ((moreB s K).toNat : Int)) ∧ w' = w := by
  have hsg : IntKind.u32.signed = false := rfl
  have hmx : IntKind.u32.max = 4294967295 := rfl
  have hl := h.len
  obtain ⟨t0, ht0⟩ : ∃ t0, ~~~ s = t0 := ⟨_, rfl⟩
  have en := not32 s
  rw [ht0] at en
  have HR : Hid (moreB s K = ~~~ (crcL t0 K)) := by unfold moreB; rw [ht0]; exact rfl
  clear ht0
  generalize hR : ((moreB s K).toNat : Int) = R
  go_enter Tryz.func121, Tryz.ntmps121
  go_wp2
  go_loop [7, 14] (fun a b => ∃ j : Nat, b = .int .i64 j ∧ j ≤ n ∧ a = .int .u32 ((crcL t0 (K.take j)).toNat : Int)) (fun _ b => n - (intOf b).toNat)
  case atStart => exact ⟨0, rfl, by omega, rfl⟩
  case round =>
    obtain ⟨j, rfl, hjn, rfl⟩ := hrel
    by_cases hlt : j < n
    · have hz : (j : Int) < (n : Int) := by omega
      obtain ⟨b, o, rfl⟩ := h.some_of (by omega)
      obtain ⟨x, hx⟩ : ∃ x, K.getD j 0 = x := ⟨_, rfl⟩
      have hcx := h.at j (by omega)
      rw [hx, Addr.add_lit] at hcx
      have hjK : j < K.length := by omega
      have hxe : K[j] = x := by rw [← hx, List.getD, List.getElem?_eq_getElem hjK]; rfl
      obtain ⟨hx0, hx1⟩ := hK x (by rw [← hxe]; exact List.getElem_mem hjK)
      obtain ⟨c, hc⟩ : ∃ c, crcL t0 (K.take j) = c := ⟨_, rfl⟩
      have HS : Hid (crcL t0 (K.take (j + 1)) = crcB c (bvI x)) := by
        rw [List.take_succ_eq_append_getElem hjK, crcL_append, hc, hxe]; exact rfl
      rw [hc]
      obtain ⟨k, hk⟩ : ∃ k, ((c ^^^ bvI x) &&& 255#32).toNat = k := ⟨_, rfl⟩
      have e1 := byte_low c x hx0 hx1
      have e2 := byte_step c x hx1 k hk
      rw [hk] at e1
      have hk256 : k < 256 := by rw [← hk, BitVec.toNat_and]; exact Nat.lt_of_le_of_lt Nat.and_le_right (by decide)
      have hkz : (k : Int) < 256 := by omega
      have hct : w.cell? ⟨T, k, none⟩ = some (.int .u32 ((tabN k).toNat : Int)) := by
        rw [cell_of_row w T k _ _ _ hT]; exact tabAt_get k hk256
      have hc32 := lt32 c
      clear hx hxe hc hk h
      go_wp2
      go_round
      case rel => exact ⟨j + 1, by go_num, by omega, by rw [HS.out]⟩
      case measure => simp [intOf]; omega
    · obtain rfl : j = n := by omega
      rw [List.take_of_length_le (by omega)]
      obtain ⟨c, hc⟩ : ∃ c, crcL t0 K = c := ⟨_, rfl⟩
      have en2 := not32 c
      have hfin : ~~~ c = moreB s K := by rw [HR.out, hc]
      rw [hfin, hR] at en2
      rw [hc]
      clear hfin hc
      go_wp2
      go_ret
      exact ⟨rfl, rfl⟩

end Go.Proofs.YtgoafinbaiepmaaGreatDoor.fr