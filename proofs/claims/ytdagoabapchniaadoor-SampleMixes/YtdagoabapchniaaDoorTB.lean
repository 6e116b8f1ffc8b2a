/-
  Contracts: spoorref04.Plain, Key, Value: they answer as the program's own.
-/
import Derived.Test.YtdagoabapchniaaDoorTA
import Derived.Test.YtdagoabapchniaaDoorBd
import Derived.Test.YtdagoabapchniaaDoorZl
namespace Go.Proofs.YtdagoabapchniaaDoor
open Go.Shelf Go.RowKit
set_option maxRecDepth 100000

theorem bad_valid (s : ByteArray) : (badL (bytesI s) = -1 ∧ Lib.validD s.data.toList = true) ∨ (0 ≤ badL (bytesI s) ∧ badL (bytesI s) ≤ s.size ∧ Lib.validD s.data.toList = false) := by
  have h1 := valid_iff s
  have h2 := endL_le _ (bytesI s) (Nat.le_refl _)
  rw [bytesI_length] at h2
  unfold badL
  rw [bytesI_length]
  by_cases h : endL (bytesI s) < s.size
  · refine Or.inr ?_
    rw [if_pos h]
    refine ⟨by omega, by omega, ?_⟩
    cases hv : Lib.validD s.data.toList with
    | false => rfl
    | true => have := h1.1 hv; omega
  · rw [if_neg h]
    exact Or.inl ⟨rfl, h1.2 (by omega)⟩
theorem rPlain_any (s : ByteArray) (most least : Int) (w : World) (hs : s.size ≤ 140737488355328) :
    Calls Tryd.prog 31 #[.string s, .int .i64 most, .int .u8 least] w fun e w' => e = .returned (.bool (plainB s most least)) ∧ w' = w := by
  have VA := bad_any s hs w
  have HV := bad_valid s
  unfold plainB
  generalize Lib.validD s.data.toList = vd at HV ⊢
  generalize badL (bytesI s) = b at VA HV
  by_cases h1 : s.size < 1
  · have h1' : decide (1 ≤ s.size) = false := decide_eq_false (by omega)
    have h1z : s.size = 0 := by omega
    clear VA HV
    go_enter Tryd.func31, Tryd.ntmps31
    go_wp2
    go_ret
    exact ⟨by simp [h1'], rfl⟩
  have h1' : decide (1 ≤ s.size) = true := decide_eq_true (by omega)
  have h1i : (1 : Int) ≤ (s.size : Int) := by omega
  by_cases h2 : most < (s.size : Int)
  · have h2' : decide ((s.size : Int) ≤ most) = false := by simp; omega
    clear VA HV
    go_enter Tryd.func31, Tryd.ntmps31
    go_wp2
    go_ret
    exact ⟨by simp [h2'], rfl⟩
  have h2' : decide ((s.size : Int) ≤ most) = true := by simp; omega
  rcases HV with ⟨rfl, rfl⟩ | ⟨hb1, hb2, rfl⟩
  · rw [h1', h2']
    simp only [Bool.true_and]
    obtain ⟨r, hr⟩ : ∃ r, (bytesI s).all (okB least) = r := ⟨_, rfl⟩
    rw [hr]
    have hl := bytesI_length s
    clear h1' h2'
    go_enter Tryd.func31, Tryd.ntmps31
    go_wp2_with (go_at_call 46; refine VA.mono ?_; rintro e w' ⟨rfl, hw⟩; obtain rfl := hw.symm; clear hw)
    go_loop [7] (fun a => ∃ k : Nat, a = .int .i64 k ∧ k ≤ s.size ∧ r = ((bytesI s).drop k).all (okB least)) (fun a => s.size - (intOf a).toNat)
    case atStart => exact ⟨0, rfl, by omega, by simp [hr]⟩
    case round =>
      obtain ⟨k, rfl, hk, ho⟩ := hrel
      have HO : Hid (r = ((bytesI s).drop k).all (okB least)) := ho
      clear ho hr
      by_cases hlt : k < s.size
      · have st := all_step (f := okB least) (K := bytesI s) (k := k) (by omega)
        have hx := bytesI_at s k hlt
        obtain ⟨x, hxx⟩ : ∃ x : Int, (s[k].toNat : Int) = x := ⟨_, rfl⟩
        rw [hx, hxx] at st
        have HS : Hid (r = (okB least x && ((bytesI s).drop (k + 1)).all (okB least))) := by show r = _; rw [HO.out, st]
        clear st hx HO
        by_cases h3 : x < least
        · have FIN : Hid (r = false) := by show r = false; rw [HS.out]; simp [okB]; intro h; omega
          go_wp2
          go_ret
          exact ⟨ret_bool FIN.out.symm, rfl⟩
        · by_cases h4 : x = 127
          · have FIN : Hid (r = false) := by show r = false; rw [HS.out]; simp [okB, h4]
            go_wp2
            go_ret
            exact ⟨ret_bool FIN.out.symm, rfl⟩
          · have FIN : Hid (r = ((bytesI s).drop (k + 1)).all (okB least)) := by show r = _; rw [HS.out]; simp [okB, h4]; intro _; omega
            have h4' : (x == 127) = false := by simpa using h4
            go_wp2
            go_round
            case rel => exact ⟨k + 1, by go_num, by omega, FIN.out⟩
            case measure => simp [intOf]; omega
      · have FIN : Hid (r = true) := by show r = true; rw [HO.out, List.drop_of_length_le (by omega)]; rfl
        go_wp2
        go_ret
        exact ⟨ret_bool FIN.out.symm, rfl⟩
  · go_enter Tryd.func31, Tryd.ntmps31
    go_wp2_with (go_at_call 46; refine VA.mono ?_; rintro e w' ⟨rfl, hw⟩; obtain rfl := hw.symm; clear hw)
    go_ret
    exact ⟨by simp, rfl⟩
end Go.Proofs.YtdagoabapchniaaDoor
