/-
  Contracts: spoorref01.Bad.
-/
import Derived.Test.YtdagoabapchniaaDoorCl
namespace Go.Proofs.YtdagoabapchniaaDoor
open Go.RowKit
set_option maxRecDepth 100000

/-- The first byte that belongs to no rune; -1: there is none. -/
def badL (K : List Int) : Int := if endL K < K.length then (endL K : Int) else -1

theorem bad_any (s : ByteArray) (hs : s.size ≤ 140737488355328) (w : World) :
    Calls Tryd.prog 46 #[.string s] w fun e w' => e = .returned (.int .i64 (badL (bytesI s))) ∧ w' = w := by
  have hl := bytesI_length s
  go_enter Tryd.func46, Tryd.ntmps46
  go_wp2
  go_loop [3] (fun a => ∃ k : Nat, a = .int .i64 k ∧ k ≤ s.size ∧ endL (bytesI s) = k + endL ((bytesI s).drop k)) (fun a => s.size - (intOf a).toNat)
  case atStart => exact ⟨0, rfl, by omega, by simp⟩
  case round =>
    obtain ⟨k, rfl, hk, hE⟩ := hrel
    have HE : Hid (endL (bytesI s) = k + endL ((bytesI s).drop k)) := hE
    clear hE
    by_cases hlt : k < s.size
    · have R := rune_any s k hs w
      have hle := rune_le ((bytesI s).drop k)
      rw [List.length_drop, hl] at hle
      by_cases hr : runeL ((bytesI s).drop k) = 0
      · have HZ : Hid (badL (bytesI s) = k) := by
          show badL (bytesI s) = k
          have : endL (bytesI s) = k := by rw [HE.out, endL_zero _ hr]; omega
          unfold badL; rw [this, if_pos (by omega)]
        rw [hr] at R
        clear hr HE hle
        go_wp2_with (go_at_call 59; refine R.mono ?_; rintro e w' ⟨rfl, hw⟩; obtain rfl := hw.symm)
        go_ret
        exact ⟨ret_int HZ.out.symm, rfl⟩
      · have HS : Hid (endL (bytesI s) = k + (runeL ((bytesI s).drop k) + endL (((bytesI s).drop k).drop (runeL ((bytesI s).drop k))))) := by
          show endL (bytesI s) = _
          rw [HE.out, endL_step _ (by omega)]
        obtain ⟨r, hrr⟩ : ∃ r, runeL ((bytesI s).drop k) = r := ⟨_, rfl⟩
        rw [hrr] at R hle hr HS
        have hne : ((r : Int) == 0) = false := by simp; omega
        clear hrr HE
        go_wp2_with (go_at_call 59; refine R.mono ?_; rintro e w' ⟨rfl, hw⟩; obtain rfl := hw.symm)
        go_round
        case rel => exact ⟨k + r, by go_num, by omega, by rw [HS.out, List.drop_drop]; omega⟩
        case measure => simp [intOf]; omega
    · have HZ : Hid (badL (bytesI s) = -1) := by
        show badL (bytesI s) = -1
        have : endL (bytesI s) = k := by rw [HE.out, List.drop_of_length_le (by omega), endL_zero [] rune_nil]; omega
        unfold badL; rw [this, if_neg (by omega)]
      clear HE
      go_wp2
      go_ret
      exact ⟨ret_int HZ.out.symm, rfl⟩
end Go.Proofs.YtdagoabapchniaaDoor
