/-
  Layer 7 (disk): any name: mayStand, mayBe, refuse.
-/
import Derived.Test.YtgoafinbaiepmaaGreatDoorDf
namespace Go.Proofs.YtgoafinbaiepmaaGreatDoor
open Go Go.RowKit
set_option maxRecDepth 100000

theorem all_step {f : Int → Bool} {K : List Int} {k : Nat} (h : k < K.length) : (K.drop k).all f = (f K[k] && (K.drop (k + 1)).all f) := by
  rw [List.drop_eq_getElem_cons h, List.all_cons]
theorem bytesI_at (s : ByteArray) (k : Nat) (h : k < s.size) : (bytesI s)[k]'(by rw [bytesI_length]; exact h) = (s[k].toNat : Int) := by
  simp [bytesI]; rfl
theorem ret_bool {b c : Bool} (h : b = c) : Ending.returned (.bool b) = .returned (.bool c) := by rw [h]
/-- A byte that may stand in a name. -/
def standB (x : Int) : Bool := (decide (97 ≤ x) && decide (x ≤ 122)) || (decide (48 ≤ x) && decide (x ≤ 57)) || decide (x = 45) || decide (x = 46)
theorem stand_no (x : Int) (a : ¬ (97 ≤ x ∧ x ≤ 122)) (b : ¬ (48 ≤ x ∧ x ≤ 57)) (c : ¬ x = 45) (d : ¬ x = 46) : standB x = (x == 45 || x == 46) := by
  have e : (x == 45 || x == 46) = false := by simp [c, d]
  have e1 : (decide (97 ≤ x) && decide (x ≤ 122)) = false := by rw [← Bool.decide_and]; exact decide_eq_false a
  have e2 : (decide (48 ≤ x) && decide (x ≤ 57)) = false := by rw [← Bool.decide_and]; exact decide_eq_false b
  rw [e]
  unfold standB
  rw [e1, e2, decide_eq_false c, decide_eq_false d]
  rfl
set_option maxHeartbeats 1000000 in
theorem stand_any (x : Int) (w : World) : Calls Tryz.prog 199 #[.int .u8 x] w fun e w' => e = .returned (.bool (standB x)) ∧ w' = w := by
  obtain ⟨r, hr⟩ : ∃ r, standB x = r := ⟨_, rfl⟩
  rw [hr]
  have HR : Hid (standB x = r) := hr
  clear hr
  have F : ∀ b : Bool, standB x = b → (Ending.returned (.bool b) = .returned (.bool r)) := fun b h => by rw [← h, HR.out]
  have HF : Hid (∀ b : Bool, standB x = b → (Ending.returned (.bool b) = .returned (.bool r))) := F
  clear F
  by_cases h1 : 97 ≤ x
  · by_cases h2 : x ≤ 122
    · go_enter Tryz.func199, Tryz.ntmps199
      go_wp2
      go_ret
      exact ⟨HF.out _ (by simp [standB]; omega), rfl⟩
    · have h3 : 48 ≤ x := by omega
      have h4 : ¬ x ≤ 57 := by omega
      have h5 : ¬ x = 45 := by omega
      have h6 : ¬ x = 46 := by omega
      go_enter Tryz.func199, Tryz.ntmps199
      go_wp2
      go_ret
      exact ⟨HF.out _ (stand_no x (by omega) (by omega) h5 h6), rfl⟩
  · by_cases h3 : 48 ≤ x
    · by_cases h4 : x ≤ 57
      · go_enter Tryz.func199, Tryz.ntmps199
        go_wp2
        go_ret
        exact ⟨HF.out _ (by simp [standB]; omega), rfl⟩
      · have h5 : ¬ x = 45 := by omega
        have h6 : ¬ x = 46 := by omega
        go_enter Tryz.func199, Tryz.ntmps199
        go_wp2
        go_ret
        exact ⟨HF.out _ (stand_no x (by omega) (by omega) h5 h6), rfl⟩
    · by_cases h5 : x = 45
      · go_enter Tryz.func199, Tryz.ntmps199
        go_wp2
        go_ret
        exact ⟨HF.out _ (by simp [standB]; omega), rfl⟩
      · by_cases h6 : x = 46
        · go_enter Tryz.func199, Tryz.ntmps199
          go_wp2
          go_ret
          exact ⟨HF.out _ (by simp [standB]; omega), rfl⟩
        · go_enter Tryz.func199, Tryz.ntmps199
          go_wp2
          go_ret
          exact ⟨HF.out _ (stand_no x (by omega) (by omega) h5 h6), rfl⟩
/-- A name that a file may have. -/
def nameB (s : ByteArray) : Bool := decide (1 ≤ s.size) && decide (s.size ≤ 40) && (bytesI s).all standB
set_option maxHeartbeats 1000000 in
theorem mayBe_any (s : ByteArray) (w : World) (hs : s.size ≤ 140737488355328) : Calls Tryz.prog 174 #[.string s] w fun e w' => e = .returned (.bool (nameB s)) ∧ w' = w := by
  unfold nameB
  by_cases h1 : s.size < 1
  · have h1' : decide (1 ≤ s.size) = false := decide_eq_false (by omega)
    have h1z : s.size = 0 := by omega
    go_enter Tryz.func174, Tryz.ntmps174
    go_wp2
    go_ret
    exact ⟨by simp [h1'], rfl⟩
  have h1' : decide (1 ≤ s.size) = true := decide_eq_true (by omega)
  have h1i : (1 : Int) ≤ (s.size : Int) := by omega
  by_cases h2 : (40 : Int) < (s.size : Int)
  · have h2' : decide (s.size ≤ 40) = false := by simp; omega
    go_enter Tryz.func174, Tryz.ntmps174
    go_wp2
    go_ret
    exact ⟨by simp [h2'], rfl⟩
  have h2' : decide (s.size ≤ 40) = true := by simp; omega
  rw [h1', h2']
  simp only [Bool.true_and]
  obtain ⟨r, hr⟩ : ∃ r, (bytesI s).all standB = r := ⟨_, rfl⟩
  rw [hr]
  have hl := bytesI_length s
  clear h1' h2'
  go_enter Tryz.func174, Tryz.ntmps174
  go_wp2
  go_loop [14] (fun a => ∃ k : Nat, a = .int .i64 k ∧ k ≤ s.size ∧ r = ((bytesI s).drop k).all standB) (fun a => s.size - (intOf a).toNat)
  case atStart => exact ⟨0, rfl, by omega, by simp [hr]⟩
  case round =>
    obtain ⟨k, rfl, hk, ho⟩ := hrel
    have HO : Hid (r = ((bytesI s).drop k).all standB) := ho
    clear ho hr
    by_cases hlt : k < s.size
    · have st := all_step (f := standB) (K := bytesI s) (k := k) (by omega)
      have hx := bytesI_at s k hlt
      obtain ⟨x, hxx⟩ : ∃ x : Int, (s[k].toNat : Int) = x := ⟨_, rfl⟩
      rw [hx, hxx] at st
      have HS : Hid (r = (standB x && ((bytesI s).drop (k + 1)).all standB)) := by show r = _; rw [HO.out, st]
      have ST := stand_any x w
      clear st hx HO
      cases hb : standB x with
      | false =>
        have FIN : Hid (r = false) := by show r = false; rw [HS.out, hb]; rfl
        rw [hb] at ST
        clear HS hb
        go_wp2_with (go_at_call 199; refine ST.mono ?_; rintro e w' ⟨rfl, hw⟩; obtain rfl := hw.symm)
        go_ret
        exact ⟨ret_bool FIN.out.symm, rfl⟩
      | true =>
        have NX : Hid (r = ((bytesI s).drop (k + 1)).all standB) := by show r = _; rw [HS.out, hb]; rfl
        rw [hb] at ST
        clear HS hb
        go_wp2_with (go_at_call 199; refine ST.mono ?_; rintro e w' ⟨rfl, hw⟩; obtain rfl := hw.symm)
        go_round
        case rel => exact ⟨k + 1, by go_num, by omega, NX.out⟩
        case measure => simp [intOf]; omega
    · obtain rfl : k = s.size := by omega
      have FIN : Hid (r = true) := by show r = true; rw [HO.out, List.drop_of_length_le (by omega)]; rfl
      clear HO
      go_wp2
      go_ret
      exact ⟨ret_bool FIN.out.symm, rfl⟩
/-- What refuse says of a name. -/
def refB (off : Bool) (s : ByteArray) : Int := if off then 75 else if nameB s then 0 else 71
theorem refuse_any (base d N : Nat) (K : Dk) (s : ByteArray) (w : World) (h : DiskAt base w d N K) (hs : s.size ≤ 140737488355328) :
    Calls Tryz.prog 136 #[.pointer (some ⟨d, 0, none⟩), .string s] w fun e w' => e = .returned (.int .i64 (refB K.off s)) ∧ w' = w := by
  have c8 := h.cells.c8
  have M := mayBe_any s w hs
  unfold refB
  clear h
  cases ho : K.off with
  | true =>
    rw [ho] at c8
    clear M
    go_enter Tryz.func136, Tryz.ntmps136
    go_wp2
    go_ret
    exact ⟨rfl, rfl⟩
  | false =>
    rw [ho] at c8
    cases hn : nameB s with
    | true =>
      rw [hn] at M
      go_enter Tryz.func136, Tryz.ntmps136
      go_wp2_with (go_at_call 174; refine M.mono ?_; rintro e w' ⟨rfl, hw⟩; obtain rfl := hw.symm)
      go_ret
      exact ⟨rfl, rfl⟩
    | false =>
      rw [hn] at M
      go_enter Tryz.func136, Tryz.ntmps136
      go_wp2_with (go_at_call 174; refine M.mono ?_; rintro e w' ⟨rfl, hw⟩; obtain rfl := hw.symm)
      go_ret
      exact ⟨rfl, rfl⟩
end Go.Proofs.YtgoafinbaiepmaaGreatDoor
