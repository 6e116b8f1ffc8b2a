/-
  Contracts: mark, full.
-/
import Derived.Test.YtkfefebjciolcaaFm
namespace Go.Proofs.Ytkfefebjciolcaa
open Go Go.RowKit
set_option maxRecDepth 100000

/-- The mark of a number. -/
def mkN (i : Nat) : Nat := 1 + i % 251
theorem mkN_lt (i : Nat) : mkN i < 256 := by unfold mkN; omega

theorem mark_any (i : Nat) (hi : i ≤ 1000) (w : World) :
    Calls Try.prog 20 #[.int .i64 (i : Int)] w fun e w' => e = .returned (.int .u8 (mkN i : Int)) ∧ w' = w := by
  have e1 : ((i : Int).tmod 251) = ((i % 251 : Nat) : Int) := by
    rw [Int.tmod_eq_emod_of_nonneg (by omega)]
    omega
  have e2 : (1 + ((i % 251 : Nat) : Int)) % 256 = 1 + ((i % 251 : Nat) : Int) := by omega
  go_enter Try.func20, Try.ntmps20
  go_wp2
  go_ret
  refine ⟨?_, rfl⟩
  congr 2

theorem full_any (ad : Option Addr) (l cap : Nat) (m : Int) (K : List Int) (w : World) (h : Holds w ad l K) (hK : ∀ x, x ∈ K → x = m) (hl : l ≤ 9223372036854775807) :
    Calls Try.prog 21 #[.slice ad l cap, .int .u8 m] w fun e w' => e = .returned (.bool true) ∧ w' = w := by
  have hlen := h.len
  go_enter Try.func21, Try.ntmps21
  go_wp2
  go_loopw [4, 5] (fun z a wr => ∃ i : Nat, z = .bool false ∧ a = .int .i64 i ∧ i ≤ l ∧ wr = w) (fun _ a _ => l - (intOf a).toNat)
  case atStart => exact ⟨0, rfl, rfl, by omega, rfl⟩
  case round =>
    obtain ⟨i, rfl, rfl, hi, rfl⟩ := hrel
    by_cases hlt : i < l
    · have hz : (i : Int) < (l : Int) := by omega
      obtain ⟨b, o, rfl⟩ := h.some_of (by omega)
      have hc := h.at i (by omega)
      have hx : K.getD i 0 = m := hK _ (by rw [List.getD, List.getElem?_eq_getElem (by omega)]; exact List.getElem_mem _)
      rw [hx, Addr.add_lit] at hc
      go_wp2
      go_roundw
      case rel => exact ⟨i + 1, rfl, by go_num, by omega, by first | rfl | trivial⟩
      case measure => simp [intOf]; omega
    · obtain rfl : i = l := by omega
      go_wp2
      go_ret
      exact ⟨rfl, rfl⟩
end Go.Proofs.Ytkfefebjciolcaa
