/-
  Contracts: spoorref01.between, spoorref01.Rune, by classes of the lead byte (written by gen_rn.py).
-/
import Derived.Test.YtdagoabapchniaaDoorStr
import Derived.Test.YtdagoabapchniaaDoorUtf
namespace Go.Proofs.YtdagoabapchniaaDoor
open Go.RowKit
set_option maxRecDepth 100000

/-- Is there a byte at a place, from lo to hi? -/
def betB (s : ByteArray) (i : Nat) (lo hi : Int) : Bool := decide (lo ≤ bt (bytesI s) i ∧ bt (bytesI s) i ≤ hi)
theorem bet_true {s : ByteArray} {i : Nat} {lo hi : Int} : betB s i lo hi = true ↔ lo ≤ bt (bytesI s) i ∧ bt (bytesI s) i ≤ hi := by simp [betB]
theorem bet_false {s : ByteArray} {i : Nat} {lo hi : Int} : betB s i lo hi = false ↔ ¬ (lo ≤ bt (bytesI s) i ∧ bt (bytesI s) i ≤ hi) := by simp [betB]

theorem between_any (s : ByteArray) (i : Nat) (lo hi : Int) (h0 : 0 ≤ lo) (w : World) :
    Calls Tryd.prog 80 #[.string s, .int .i64 i, .int .u8 lo, .int .u8 hi] w fun e w' => e = .returned (.bool (betB s i lo hi)) ∧ w' = w := by
  by_cases hi' : i < s.size
  · have hg := bytesI_get s i hi'
    obtain ⟨x, hx⟩ : ∃ x : Int, (s[i].toNat : Int) = x := ⟨_, rfl⟩
    rw [hx] at hg
    by_cases h1 : lo ≤ x
    · have hb : betB s i lo hi = decide (x ≤ hi) := by unfold betB; rw [hg]; simp [h1]
      have HB : Hid (betB s i lo hi = decide (x ≤ hi)) := hb
      clear hb hg
      go_enter Tryd.func80, Tryd.ntmps80
      go_wp2
      all_goals go_ret
      all_goals exact ⟨ret_bool (by rw [HB.out]; try simp [*]), rfl⟩
    · have hb : betB s i lo hi = false := by unfold betB; rw [hg]; simp [h1]
      have HB : Hid (betB s i lo hi = false) := hb
      clear hb hg
      go_enter Tryd.func80, Tryd.ntmps80
      go_wp2
      all_goals go_ret
      all_goals exact ⟨ret_bool (by rw [HB.out]; try simp [*]), rfl⟩
  · have hg := bytesI_out s i (by omega)
    have hb : betB s i lo hi = false := by unfold betB; rw [hg]; simp; omega
    have HB : Hid (betB s i lo hi = false) := hb
    clear hb hg
    go_enter Tryd.func80, Tryd.ntmps80
    go_wp2
    all_goals go_ret
    all_goals exact ⟨ret_bool (by rw [HB.out]; try simp [*]), rfl⟩

theorem rune_out (s : ByteArray) (i : Nat) (hi : s.size ≤ i) (w : World) :
    Calls Tryd.prog 59 #[.string s, .int .i64 i] w fun e w' => e = .returned (.int .i64 0) ∧ w' = w := by
  go_enter Tryd.func59, Tryd.ntmps59
  go_wp2
  all_goals go_ret
  all_goals exact ⟨rfl, rfl⟩
theorem rune_one (s : ByteArray) (i : Nat) (hi : i < s.size) (hx : (s[i].toNat : Int) < 128) (w : World) :
    Calls Tryd.prog 59 #[.string s, .int .i64 i] w fun e w' => e = .returned (.int .i64 1) ∧ w' = w := by
  go_enter Tryd.func59, Tryd.ntmps59
  go_wp2
  all_goals go_ret
  all_goals exact ⟨rfl, rfl⟩
theorem rune_bad (s : ByteArray) (i : Nat) (hi : i < s.size) (hx : (128 ≤ (s[i].toNat : Int) ∧ (s[i].toNat : Int) ≤ 193) ∨ 245 ≤ (s[i].toNat : Int)) (w : World) :
    Calls Tryd.prog 59 #[.string s, .int .i64 i] w fun e w' => e = .returned (.int .i64 0) ∧ w' = w := by
  rcases hx with ⟨h1, h2⟩ | h1
  all_goals
    go_enter Tryd.func59, Tryd.ntmps59
    go_wp2
    all_goals go_ret
    all_goals exact ⟨rfl, rfl⟩
/-- The checks of the bytes behind the first. -/
def loK (lo : Int) (k : Nat) : Int := if k = 1 then lo else 128
def hiK (hi : Int) (k : Nat) : Int := if k = 1 then hi else 191
def chkN (s : ByteArray) (i : Nat) (lo hi : Int) : Nat → Bool
  | 0 => true
  | n + 1 => chkN s i lo hi n && betB s (i + (n + 1)) (loK lo (n + 1)) (hiK hi (n + 1))
theorem loK_ge (lo : Int) (k : Nat) (h : 1 ≤ k) : loK lo (k + 1) = 128 := by unfold loK; rw [if_neg (by omega)]
theorem hiK_ge (hi : Int) (k : Nat) (h : 1 ≤ k) : hiK hi (k + 1) = 191 := by unfold hiK; rw [if_neg (by omega)]
theorem loK_nn (lo : Int) (k : Nat) (h : 0 ≤ lo) : 0 ≤ loK lo k := by unfold loK; split <;> omega
theorem chk_step (s : ByteArray) (i : Nat) (lo hi : Int) (k : Nat) (h1 : 1 ≤ k) (h : chkN s i lo hi (k - 1) = true) : chkN s i lo hi k = betB s (i + k) (loK lo k) (hiK hi k) := by
  obtain ⟨j, rfl⟩ : ∃ j, k = j + 1 := ⟨k - 1, by omega⟩
  rw [Nat.add_sub_cancel] at h
  simp [chkN, h]
theorem chk_false (s : ByteArray) (i : Nat) (lo hi : Int) (k : Nat) (h : chkN s i lo hi k = false) : ∀ m, k ≤ m → chkN s i lo hi m = false := by
  intro m
  induction m with
  | zero => intro hm; have : k = 0 := by omega
            subst this; exact h
  | succ m ih =>
    intro hm
    by_cases e : k = m + 1
    · subst e; exact h
    · simp [chkN, ih (by omega)]

set_option maxHeartbeats 1000000 in
theorem rune_c194 (s : ByteArray) (i : Nat) (hs : s.size ≤ 140737488355328) (hi : i < s.size) (hx : 194 ≤ (s[i].toNat : Int)) (hx2 : (s[i].toNat : Int) ≤ 223) (w : World) :
    Calls Tryd.prog 59 #[.string s, .int .i64 i] w fun e w' => e = .returned (.int .i64 (if chkN s i 128 191 1 = true then 2 else 0)) ∧ w' = w := by
  obtain ⟨R, hR⟩ : ∃ R : Int, (if chkN s i 128 191 1 = true then 2 else 0) = R := ⟨_, rfl⟩
  rw [hR]
  have HR : Hid ((if chkN s i 128 191 1 = true then 2 else 0) = R) := hR
  clear hR
  have d0 : decide ((i : Int) < 0) = false := by simp
  have c0 : decide (s.size ≤ i) = false := by simp; omega
  have q224 : ((s[i].toNat : Int) == 224) = false := by simp; omega
  have q237 : ((s[i].toNat : Int) == 237) = false := by simp; omega
  have q240 : ((s[i].toNat : Int) == 240) = false := by simp; omega
  have q244 : ((s[i].toNat : Int) == 244) = false := by simp; omega
  have d1 : decide ((s[i].toNat : Int) < 128) = false := by simp; omega
  have d2 : decide (194 ≤ (s[i].toNat : Int)) = true := by simp; omega
  have d3 : decide ((s[i].toNat : Int) ≤ 223) = true := by simp; omega
  have d4 : decide (224 ≤ (s[i].toNat : Int)) = false := by simp; omega
  have d5 : decide ((s[i].toNat : Int) ≤ 239) = true := by simp; omega
  have d6 : decide (240 ≤ (s[i].toNat : Int)) = false := by simp; omega
  have d7 : decide ((s[i].toNat : Int) ≤ 244) = true := by simp; omega
  go_enter Tryd.func59, Tryd.ntmps59
  go_wp2
  go_loopw [6, 7, 9] (fun a b c wr => wr = w ∧ ∃ k : Nat, 1 ≤ k ∧ k ≤ 1 + 1 ∧ a = .int .u8 (loK 128 k) ∧ b = .int .u8 (hiK 191 k) ∧ c = .int .i64 k ∧ chkN s i 128 191 (k - 1) = true) (fun _ _ c _ => 10 - (intOf c).toNat)
  case atStart => exact ⟨rfl, 1, by omega, by omega, rfl, rfl, rfl, rfl⟩
  case round =>
    obtain ⟨rfl, k, hk1, hk2, rfl, rfl, rfl, hk⟩ := hrel
    have HK : Hid (chkN s i 128 191 (k - 1) = true) := hk
    have HS : Hid (chkN s i 128 191 k = betB s (i + k) (loK 128 k) (hiK 191 k)) := chk_step s i _ _ k hk1 hk
    have B := between_any s (i + k) (loK 128 k) (hiK 191 k) (loK_nn _ _ (by omega))
    rw [Int.natCast_add] at B
    clear hk
    by_cases hle : k ≤ 1
    · by_cases hb : betB s (i + k) (loK 128 k) (hiK 191 k) = true
      · have HS2 : Hid (chkN s i 128 191 k = true) := HS.out.trans hb
        rw [hb] at B
        clear hb HS HK
        go_wp2_with (go_at_call 80; refine (B _).mono ?_; rintro e w' ⟨rfl, hw⟩; obtain rfl := hw.symm)
        go_roundw
        case rel => exact ⟨by first | trivial | rfl, k + 1, by omega, by omega, by rw [loK_ge _ _ hk1], by rw [hiK_ge _ _ hk1], by go_num, by rw [Nat.add_sub_cancel]; exact HS2.out⟩
        case measure => simp [intOf]; omega
      · have hb' : betB s (i + k) (loK 128 k) (hiK 191 k) = false := by simpa using hb
        have HB : Hid (chkN s i 128 191 1 = false) := chk_false s i _ _ k (HS.out.trans hb') 1 hle
        rw [hb'] at B
        clear hb hb' HS HK
        go_wp2_with (go_at_call 80; refine (B _).mono ?_; rintro e w' ⟨rfl, rfl⟩)
        go_ret
        refine ⟨ret_int ?_, rfl⟩
        rw [← HR.out, HB.out]; rfl
    · have hk3 : k = 1 + 1 := by omega
      subst hk3
      go_wp2
      go_ret
      refine ⟨ret_int ?_, rfl⟩
      have := HK.out
      rw [Nat.add_sub_cancel] at this
      rw [← HR.out, if_pos this]

set_option maxHeartbeats 1000000 in
theorem rune_c224 (s : ByteArray) (i : Nat) (hs : s.size ≤ 140737488355328) (hi : i < s.size) (hx : 224 ≤ (s[i].toNat : Int)) (hx2 : (s[i].toNat : Int) ≤ 224) (w : World) :
    Calls Tryd.prog 59 #[.string s, .int .i64 i] w fun e w' => e = .returned (.int .i64 (if chkN s i 160 191 2 = true then 3 else 0)) ∧ w' = w := by
  obtain ⟨R, hR⟩ : ∃ R : Int, (if chkN s i 160 191 2 = true then 3 else 0) = R := ⟨_, rfl⟩
  rw [hR]
  have HR : Hid ((if chkN s i 160 191 2 = true then 3 else 0) = R) := hR
  clear hR
  have d0 : decide ((i : Int) < 0) = false := by simp
  have c0 : decide (s.size ≤ i) = false := by simp; omega
  have q224 : ((s[i].toNat : Int) == 224) = true := by simp; omega
  have q237 : ((s[i].toNat : Int) == 237) = false := by simp; omega
  have q240 : ((s[i].toNat : Int) == 240) = false := by simp; omega
  have q244 : ((s[i].toNat : Int) == 244) = false := by simp; omega
  have d1 : decide ((s[i].toNat : Int) < 128) = false := by simp; omega
  have d2 : decide (194 ≤ (s[i].toNat : Int)) = true := by simp; omega
  have d3 : decide ((s[i].toNat : Int) ≤ 223) = false := by simp; omega
  have d4 : decide (224 ≤ (s[i].toNat : Int)) = true := by simp; omega
  have d5 : decide ((s[i].toNat : Int) ≤ 239) = true := by simp; omega
  have d6 : decide (240 ≤ (s[i].toNat : Int)) = false := by simp; omega
  have d7 : decide ((s[i].toNat : Int) ≤ 244) = true := by simp; omega
  go_enter Tryd.func59, Tryd.ntmps59
  go_wp2
  go_loopw [6, 7, 9] (fun a b c wr => wr = w ∧ ∃ k : Nat, 1 ≤ k ∧ k ≤ 2 + 1 ∧ a = .int .u8 (loK 160 k) ∧ b = .int .u8 (hiK 191 k) ∧ c = .int .i64 k ∧ chkN s i 160 191 (k - 1) = true) (fun _ _ c _ => 10 - (intOf c).toNat)
  case atStart => exact ⟨rfl, 1, by omega, by omega, rfl, rfl, rfl, rfl⟩
  case round =>
    obtain ⟨rfl, k, hk1, hk2, rfl, rfl, rfl, hk⟩ := hrel
    have HK : Hid (chkN s i 160 191 (k - 1) = true) := hk
    have HS : Hid (chkN s i 160 191 k = betB s (i + k) (loK 160 k) (hiK 191 k)) := chk_step s i _ _ k hk1 hk
    have B := between_any s (i + k) (loK 160 k) (hiK 191 k) (loK_nn _ _ (by omega))
    rw [Int.natCast_add] at B
    clear hk
    by_cases hle : k ≤ 2
    · by_cases hb : betB s (i + k) (loK 160 k) (hiK 191 k) = true
      · have HS2 : Hid (chkN s i 160 191 k = true) := HS.out.trans hb
        rw [hb] at B
        clear hb HS HK
        go_wp2_with (go_at_call 80; refine (B _).mono ?_; rintro e w' ⟨rfl, hw⟩; obtain rfl := hw.symm)
        go_roundw
        case rel => exact ⟨by first | trivial | rfl, k + 1, by omega, by omega, by rw [loK_ge _ _ hk1], by rw [hiK_ge _ _ hk1], by go_num, by rw [Nat.add_sub_cancel]; exact HS2.out⟩
        case measure => simp [intOf]; omega
      · have hb' : betB s (i + k) (loK 160 k) (hiK 191 k) = false := by simpa using hb
        have HB : Hid (chkN s i 160 191 2 = false) := chk_false s i _ _ k (HS.out.trans hb') 2 hle
        rw [hb'] at B
        clear hb hb' HS HK
        go_wp2_with (go_at_call 80; refine (B _).mono ?_; rintro e w' ⟨rfl, rfl⟩)
        go_ret
        refine ⟨ret_int ?_, rfl⟩
        rw [← HR.out, HB.out]; rfl
    · have hk3 : k = 2 + 1 := by omega
      subst hk3
      go_wp2
      go_ret
      refine ⟨ret_int ?_, rfl⟩
      have := HK.out
      rw [Nat.add_sub_cancel] at this
      rw [← HR.out, if_pos this]

set_option maxHeartbeats 1000000 in
theorem rune_c225 (s : ByteArray) (i : Nat) (hs : s.size ≤ 140737488355328) (hi : i < s.size) (hx : 225 ≤ (s[i].toNat : Int)) (hx2 : (s[i].toNat : Int) ≤ 236) (w : World) :
    Calls Tryd.prog 59 #[.string s, .int .i64 i] w fun e w' => e = .returned (.int .i64 (if chkN s i 128 191 2 = true then 3 else 0)) ∧ w' = w := by
  obtain ⟨R, hR⟩ : ∃ R : Int, (if chkN s i 128 191 2 = true then 3 else 0) = R := ⟨_, rfl⟩
  rw [hR]
  have HR : Hid ((if chkN s i 128 191 2 = true then 3 else 0) = R) := hR
  clear hR
  have d0 : decide ((i : Int) < 0) = false := by simp
  have c0 : decide (s.size ≤ i) = false := by simp; omega
  have q224 : ((s[i].toNat : Int) == 224) = false := by simp; omega
  have q237 : ((s[i].toNat : Int) == 237) = false := by simp; omega
  have q240 : ((s[i].toNat : Int) == 240) = false := by simp; omega
  have q244 : ((s[i].toNat : Int) == 244) = false := by simp; omega
  have d1 : decide ((s[i].toNat : Int) < 128) = false := by simp; omega
  have d2 : decide (194 ≤ (s[i].toNat : Int)) = true := by simp; omega
  have d3 : decide ((s[i].toNat : Int) ≤ 223) = false := by simp; omega
  have d4 : decide (224 ≤ (s[i].toNat : Int)) = true := by simp; omega
  have d5 : decide ((s[i].toNat : Int) ≤ 239) = true := by simp; omega
  have d6 : decide (240 ≤ (s[i].toNat : Int)) = false := by simp; omega
  have d7 : decide ((s[i].toNat : Int) ≤ 244) = true := by simp; omega
  go_enter Tryd.func59, Tryd.ntmps59
  go_wp2
  go_loopw [6, 7, 9] (fun a b c wr => wr = w ∧ ∃ k : Nat, 1 ≤ k ∧ k ≤ 2 + 1 ∧ a = .int .u8 (loK 128 k) ∧ b = .int .u8 (hiK 191 k) ∧ c = .int .i64 k ∧ chkN s i 128 191 (k - 1) = true) (fun _ _ c _ => 10 - (intOf c).toNat)
  case atStart => exact ⟨rfl, 1, by omega, by omega, rfl, rfl, rfl, rfl⟩
  case round =>
    obtain ⟨rfl, k, hk1, hk2, rfl, rfl, rfl, hk⟩ := hrel
    have HK : Hid (chkN s i 128 191 (k - 1) = true) := hk
    have HS : Hid (chkN s i 128 191 k = betB s (i + k) (loK 128 k) (hiK 191 k)) := chk_step s i _ _ k hk1 hk
    have B := between_any s (i + k) (loK 128 k) (hiK 191 k) (loK_nn _ _ (by omega))
    rw [Int.natCast_add] at B
    clear hk
    by_cases hle : k ≤ 2
    · by_cases hb : betB s (i + k) (loK 128 k) (hiK 191 k) = true
      · have HS2 : Hid (chkN s i 128 191 k = true) := HS.out.trans hb
        rw [hb] at B
        clear hb HS HK
        go_wp2_with (go_at_call 80; refine (B _).mono ?_; rintro e w' ⟨rfl, hw⟩; obtain rfl := hw.symm)
        go_roundw
        case rel => exact ⟨by first | trivial | rfl, k + 1, by omega, by omega, by rw [loK_ge _ _ hk1], by rw [hiK_ge _ _ hk1], by go_num, by rw [Nat.add_sub_cancel]; exact HS2.out⟩
        case measure => simp [intOf]; omega
      · have hb' : betB s (i + k) (loK 128 k) (hiK 191 k) = false := by simpa using hb
        have HB : Hid (chkN s i 128 191 2 = false) := chk_false s i _ _ k (HS.out.trans hb') 2 hle
        rw [hb'] at B
        clear hb hb' HS HK
        go_wp2_with (go_at_call 80; refine (B _).mono ?_; rintro e w' ⟨rfl, rfl⟩)
        go_ret
        refine ⟨ret_int ?_, rfl⟩
        rw [← HR.out, HB.out]; rfl
    · have hk3 : k = 2 + 1 := by omega
      subst hk3
      go_wp2
      go_ret
      refine ⟨ret_int ?_, rfl⟩
      have := HK.out
      rw [Nat.add_sub_cancel] at this
      rw [← HR.out, if_pos this]

set_option maxHeartbeats 1000000 in
theorem rune_c237 (s : ByteArray) (i : Nat) (hs : s.size ≤ 140737488355328) (hi : i < s.size) (hx : 237 ≤ (s[i].toNat : Int)) (hx2 : (s[i].toNat : Int) ≤ 237) (w : World) :
    Calls Tryd.prog 59 #[.string s, .int .i64 i] w fun e w' => e = .returned (.int .i64 (if chkN s i 128 159 2 = true then 3 else 0)) ∧ w' = w := by
  obtain ⟨R, hR⟩ : ∃ R : Int, (if chkN s i 128 159 2 = true then 3 else 0) = R := ⟨_, rfl⟩
  rw [hR]
  have HR : Hid ((if chkN s i 128 159 2 = true then 3 else 0) = R) := hR
  clear hR
  have d0 : decide ((i : Int) < 0) = false := by simp
  have c0 : decide (s.size ≤ i) = false := by simp; omega
  have q224 : ((s[i].toNat : Int) == 224) = false := by simp; omega
  have q237 : ((s[i].toNat : Int) == 237) = true := by simp; omega
  have q240 : ((s[i].toNat : Int) == 240) = false := by simp; omega
  have q244 : ((s[i].toNat : Int) == 244) = false := by simp; omega
  have d1 : decide ((s[i].toNat : Int) < 128) = false := by simp; omega
  have d2 : decide (194 ≤ (s[i].toNat : Int)) = true := by simp; omega
  have d3 : decide ((s[i].toNat : Int) ≤ 223) = false := by simp; omega
  have d4 : decide (224 ≤ (s[i].toNat : Int)) = true := by simp; omega
  have d5 : decide ((s[i].toNat : Int) ≤ 239) = true := by simp; omega
  have d6 : decide (240 ≤ (s[i].toNat : Int)) = false := by simp; omega
  have d7 : decide ((s[i].toNat : Int) ≤ 244) = true := by simp; omega
  go_enter Tryd.func59, Tryd.ntmps59
  go_wp2
  go_loopw [6, 7, 9] (fun a b c wr => wr = w ∧ ∃ k : Nat, 1 ≤ k ∧ k ≤ 2 + 1 ∧ a = .int .u8 (loK 128 k) ∧ b = .int .u8 (hiK 159 k) ∧ c = .int .i64 k ∧ chkN s i 128 159 (k - 1) = true) (fun _ _ c _ => 10 - (intOf c).toNat)
  case atStart => exact ⟨rfl, 1, by omega, by omega, rfl, rfl, rfl, rfl⟩
  case round =>
    obtain ⟨rfl, k, hk1, hk2, rfl, rfl, rfl, hk⟩ := hrel
    have HK : Hid (chkN s i 128 159 (k - 1) = true) := hk
    have HS : Hid (chkN s i 128 159 k = betB s (i + k) (loK 128 k) (hiK 159 k)) := chk_step s i _ _ k hk1 hk
    have B := between_any s (i + k) (loK 128 k) (hiK 159 k) (loK_nn _ _ (by omega))
    rw [Int.natCast_add] at B
    clear hk
    by_cases hle : k ≤ 2
    · by_cases hb : betB s (i + k) (loK 128 k) (hiK 159 k) = true
      · have HS2 : Hid (chkN s i 128 159 k = true) := HS.out.trans hb
        rw [hb] at B
        clear hb HS HK
        go_wp2_with (go_at_call 80; refine (B _).mono ?_; rintro e w' ⟨rfl, hw⟩; obtain rfl := hw.symm)
        go_roundw
        case rel => exact ⟨by first | trivial | rfl, k + 1, by omega, by omega, by rw [loK_ge _ _ hk1], by rw [hiK_ge _ _ hk1], by go_num, by rw [Nat.add_sub_cancel]; exact HS2.out⟩
        case measure => simp [intOf]; omega
      · have hb' : betB s (i + k) (loK 128 k) (hiK 159 k) = false := by simpa using hb
        have HB : Hid (chkN s i 128 159 2 = false) := chk_false s i _ _ k (HS.out.trans hb') 2 hle
        rw [hb'] at B
        clear hb hb' HS HK
        go_wp2_with (go_at_call 80; refine (B _).mono ?_; rintro e w' ⟨rfl, rfl⟩)
        go_ret
        refine ⟨ret_int ?_, rfl⟩
        rw [← HR.out, HB.out]; rfl
    · have hk3 : k = 2 + 1 := by omega
      subst hk3
      go_wp2
      go_ret
      refine ⟨ret_int ?_, rfl⟩
      have := HK.out
      rw [Nat.add_sub_cancel] at this
      rw [← HR.out, if_pos this]

set_option maxHeartbeats 1000000 in
theorem rune_c238 (s : ByteArray) (i : Nat) (hs : s.size ≤ 140737488355328) (hi : i < s.size) (hx : 238 ≤ (s[i].toNat : Int)) (hx2 : (s[i].toNat : Int) ≤ 239) (w : World) :
    Calls Tryd.prog 59 #[.string s, .int .i64 i] w fun e w' => e = .returned (.int .i64 (if chkN s i 128 191 2 = true then 3 else 0)) ∧ w' = w := by
  obtain ⟨R, hR⟩ : ∃ R : Int, (if chkN s i 128 191 2 = true then 3 else 0) = R := ⟨_, rfl⟩
  rw [hR]
  have HR : Hid ((if chkN s i 128 191 2 = true then 3 else 0) = R) := hR
  clear hR
  have d0 : decide ((i : Int) < 0) = false := by simp
  have c0 : decide (s.size ≤ i) = false := by simp; omega
  have q224 : ((s[i].toNat : Int) == 224) = false := by simp; omega
  have q237 : ((s[i].toNat : Int) == 237) = false := by simp; omega
  have q240 : ((s[i].toNat : Int) == 240) = false := by simp; omega
  have q244 : ((s[i].toNat : Int) == 244) = false := by simp; omega
  have d1 : decide ((s[i].toNat : Int) < 128) = false := by simp; omega
  have d2 : decide (194 ≤ (s[i].toNat : Int)) = true := by simp; omega
  have d3 : decide ((s[i].toNat : Int) ≤ 223) = false := by simp; omega
  have d4 : decide (224 ≤ (s[i].toNat : Int)) = true := by simp; omega
  have d5 : decide ((s[i].toNat : Int) ≤ 239) = true := by simp; omega
  have d6 : decide (240 ≤ (s[i].toNat : Int)) = false := by simp; omega
  have d7 : decide ((s[i].toNat : Int) ≤ 244) = true := by simp; omega
  go_enter Tryd.func59, Tryd.ntmps59
  go_wp2
  go_loopw [6, 7, 9] (fun a b c wr => wr = w ∧ ∃ k : Nat, 1 ≤ k ∧ k ≤ 2 + 1 ∧ a = .int .u8 (loK 128 k) ∧ b = .int .u8 (hiK 191 k) ∧ c = .int .i64 k ∧ chkN s i 128 191 (k - 1) = true) (fun _ _ c _ => 10 - (intOf c).toNat)
  case atStart => exact ⟨rfl, 1, by omega, by omega, rfl, rfl, rfl, rfl⟩
  case round =>
    obtain ⟨rfl, k, hk1, hk2, rfl, rfl, rfl, hk⟩ := hrel
    have HK : Hid (chkN s i 128 191 (k - 1) = true) := hk
    have HS : Hid (chkN s i 128 191 k = betB s (i + k) (loK 128 k) (hiK 191 k)) := chk_step s i _ _ k hk1 hk
    have B := between_any s (i + k) (loK 128 k) (hiK 191 k) (loK_nn _ _ (by omega))
    rw [Int.natCast_add] at B
    clear hk
    by_cases hle : k ≤ 2
    · by_cases hb : betB s (i + k) (loK 128 k) (hiK 191 k) = true
      · have HS2 : Hid (chkN s i 128 191 k = true) := HS.out.trans hb
        rw [hb] at B
        clear hb HS HK
        go_wp2_with (go_at_call 80; refine (B _).mono ?_; rintro e w' ⟨rfl, hw⟩; obtain rfl := hw.symm)
        go_roundw
        case rel => exact ⟨by first | trivial | rfl, k + 1, by omega, by omega, by rw [loK_ge _ _ hk1], by rw [hiK_ge _ _ hk1], by go_num, by rw [Nat.add_sub_cancel]; exact HS2.out⟩
        case measure => simp [intOf]; omega
      · have hb' : betB s (i + k) (loK 128 k) (hiK 191 k) = false := by simpa using hb
        have HB : Hid (chkN s i 128 191 2 = false) := chk_false s i _ _ k (HS.out.trans hb') 2 hle
        rw [hb'] at B
        clear hb hb' HS HK
        go_wp2_with (go_at_call 80; refine (B _).mono ?_; rintro e w' ⟨rfl, rfl⟩)
        go_ret
        refine ⟨ret_int ?_, rfl⟩
        rw [← HR.out, HB.out]; rfl
    · have hk3 : k = 2 + 1 := by omega
      subst hk3
      go_wp2
      go_ret
      refine ⟨ret_int ?_, rfl⟩
      have := HK.out
      rw [Nat.add_sub_cancel] at this
      rw [← HR.out, if_pos this]

set_option maxHeartbeats 1000000 in
theorem rune_c240 (s : ByteArray) (i : Nat) (hs : s.size ≤ 140737488355328) (hi : i < s.size) (hx : 240 ≤ (s[i].toNat : Int)) (hx2 : (s[i].toNat : Int) ≤ 240) (w : World) :
    Calls Tryd.prog 59 #[.string s, .int .i64 i] w fun e w' => e = .returned (.int .i64 (if chkN s i 144 191 3 = true then 4 else 0)) ∧ w' = w := by
  obtain ⟨R, hR⟩ : ∃ R : Int, (if chkN s i 144 191 3 = true then 4 else 0) = R := ⟨_, rfl⟩
  rw [hR]
  have HR : Hid ((if chkN s i 144 191 3 = true then 4 else 0) = R) := hR
  clear hR
  have d0 : decide ((i : Int) < 0) = false := by simp
  have c0 : decide (s.size ≤ i) = false := by simp; omega
  have q224 : ((s[i].toNat : Int) == 224) = false := by simp; omega
  have q237 : ((s[i].toNat : Int) == 237) = false := by simp; omega
  have q240 : ((s[i].toNat : Int) == 240) = true := by simp; omega
  have q244 : ((s[i].toNat : Int) == 244) = false := by simp; omega
  have d1 : decide ((s[i].toNat : Int) < 128) = false := by simp; omega
  have d2 : decide (194 ≤ (s[i].toNat : Int)) = true := by simp; omega
  have d3 : decide ((s[i].toNat : Int) ≤ 223) = false := by simp; omega
  have d4 : decide (224 ≤ (s[i].toNat : Int)) = true := by simp; omega
  have d5 : decide ((s[i].toNat : Int) ≤ 239) = false := by simp; omega
  have d6 : decide (240 ≤ (s[i].toNat : Int)) = true := by simp; omega
  have d7 : decide ((s[i].toNat : Int) ≤ 244) = true := by simp; omega
  go_enter Tryd.func59, Tryd.ntmps59
  go_wp2
  go_loopw [6, 7, 9] (fun a b c wr => wr = w ∧ ∃ k : Nat, 1 ≤ k ∧ k ≤ 3 + 1 ∧ a = .int .u8 (loK 144 k) ∧ b = .int .u8 (hiK 191 k) ∧ c = .int .i64 k ∧ chkN s i 144 191 (k - 1) = true) (fun _ _ c _ => 10 - (intOf c).toNat)
  case atStart => exact ⟨rfl, 1, by omega, by omega, rfl, rfl, rfl, rfl⟩
  case round =>
    obtain ⟨rfl, k, hk1, hk2, rfl, rfl, rfl, hk⟩ := hrel
    have HK : Hid (chkN s i 144 191 (k - 1) = true) := hk
    have HS : Hid (chkN s i 144 191 k = betB s (i + k) (loK 144 k) (hiK 191 k)) := chk_step s i _ _ k hk1 hk
    have B := between_any s (i + k) (loK 144 k) (hiK 191 k) (loK_nn _ _ (by omega))
    rw [Int.natCast_add] at B
    clear hk
    by_cases hle : k ≤ 3
    · by_cases hb : betB s (i + k) (loK 144 k) (hiK 191 k) = true
      · have HS2 : Hid (chkN s i 144 191 k = true) := HS.out.trans hb
        rw [hb] at B
        clear hb HS HK
        go_wp2_with (go_at_call 80; refine (B _).mono ?_; rintro e w' ⟨rfl, hw⟩; obtain rfl := hw.symm)
        go_roundw
        case rel => exact ⟨by first | trivial | rfl, k + 1, by omega, by omega, by rw [loK_ge _ _ hk1], by rw [hiK_ge _ _ hk1], by go_num, by rw [Nat.add_sub_cancel]; exact HS2.out⟩
        case measure => simp [intOf]; omega
      · have hb' : betB s (i + k) (loK 144 k) (hiK 191 k) = false := by simpa using hb
        have HB : Hid (chkN s i 144 191 3 = false) := chk_false s i _ _ k (HS.out.trans hb') 3 hle
        rw [hb'] at B
        clear hb hb' HS HK
        go_wp2_with (go_at_call 80; refine (B _).mono ?_; rintro e w' ⟨rfl, rfl⟩)
        go_ret
        refine ⟨ret_int ?_, rfl⟩
        rw [← HR.out, HB.out]; rfl
    · have hk3 : k = 3 + 1 := by omega
      subst hk3
      go_wp2
      go_ret
      refine ⟨ret_int ?_, rfl⟩
      have := HK.out
      rw [Nat.add_sub_cancel] at this
      rw [← HR.out, if_pos this]

set_option maxHeartbeats 1000000 in
theorem rune_c241 (s : ByteArray) (i : Nat) (hs : s.size ≤ 140737488355328) (hi : i < s.size) (hx : 241 ≤ (s[i].toNat : Int)) (hx2 : (s[i].toNat : Int) ≤ 243) (w : World) :
    Calls Tryd.prog 59 #[.string s, .int .i64 i] w fun e w' => e = .returned (.int .i64 (if chkN s i 128 191 3 = true then 4 else 0)) ∧ w' = w := by
  obtain ⟨R, hR⟩ : ∃ R : Int, (if chkN s i 128 191 3 = true then 4 else 0) = R := ⟨_, rfl⟩
  rw [hR]
  have HR : Hid ((if chkN s i 128 191 3 = true then 4 else 0) = R) := hR
  clear hR
  have d0 : decide ((i : Int) < 0) = false := by simp
  have c0 : decide (s.size ≤ i) = false := by simp; omega
  have q224 : ((s[i].toNat : Int) == 224) = false := by simp; omega
  have q237 : ((s[i].toNat : Int) == 237) = false := by simp; omega
  have q240 : ((s[i].toNat : Int) == 240) = false := by simp; omega
  have q244 : ((s[i].toNat : Int) == 244) = false := by simp; omega
  have d1 : decide ((s[i].toNat : Int) < 128) = false := by simp; omega
  have d2 : decide (194 ≤ (s[i].toNat : Int)) = true := by simp; omega
  have d3 : decide ((s[i].toNat : Int) ≤ 223) = false := by simp; omega
  have d4 : decide (224 ≤ (s[i].toNat : Int)) = true := by simp; omega
  have d5 : decide ((s[i].toNat : Int) ≤ 239) = false := by simp; omega
  have d6 : decide (240 ≤ (s[i].toNat : Int)) = true := by simp; omega
  have d7 : decide ((s[i].toNat : Int) ≤ 244) = true := by simp; omega
  go_enter Tryd.func59, Tryd.ntmps59
  go_wp2
  go_loopw [6, 7, 9] (fun a b c wr => wr = w ∧ ∃ k : Nat, 1 ≤ k ∧ k ≤ 3 + 1 ∧ a = .int .u8 (loK 128 k) ∧ b = .int .u8 (hiK 191 k) ∧ c = .int .i64 k ∧ chkN s i 128 191 (k - 1) = true) (fun _ _ c _ => 10 - (intOf c).toNat)
  case atStart => exact ⟨rfl, 1, by omega, by omega, rfl, rfl, rfl, rfl⟩
  case round =>
    obtain ⟨rfl, k, hk1, hk2, rfl, rfl, rfl, hk⟩ := hrel
    have HK : Hid (chkN s i 128 191 (k - 1) = true) := hk
    have HS : Hid (chkN s i 128 191 k = betB s (i + k) (loK 128 k) (hiK 191 k)) := chk_step s i _ _ k hk1 hk
    have B := between_any s (i + k) (loK 128 k) (hiK 191 k) (loK_nn _ _ (by omega))
    rw [Int.natCast_add] at B
    clear hk
    by_cases hle : k ≤ 3
    · by_cases hb : betB s (i + k) (loK 128 k) (hiK 191 k) = true
      · have HS2 : Hid (chkN s i 128 191 k = true) := HS.out.trans hb
        rw [hb] at B
        clear hb HS HK
        go_wp2_with (go_at_call 80; refine (B _).mono ?_; rintro e w' ⟨rfl, hw⟩; obtain rfl := hw.symm)
        go_roundw
        case rel => exact ⟨by first | trivial | rfl, k + 1, by omega, by omega, by rw [loK_ge _ _ hk1], by rw [hiK_ge _ _ hk1], by go_num, by rw [Nat.add_sub_cancel]; exact HS2.out⟩
        case measure => simp [intOf]; omega
      · have hb' : betB s (i + k) (loK 128 k) (hiK 191 k) = false := by simpa using hb
        have HB : Hid (chkN s i 128 191 3 = false) := chk_false s i _ _ k (HS.out.trans hb') 3 hle
        rw [hb'] at B
        clear hb hb' HS HK
        go_wp2_with (go_at_call 80; refine (B _).mono ?_; rintro e w' ⟨rfl, rfl⟩)
        go_ret
        refine ⟨ret_int ?_, rfl⟩
        rw [← HR.out, HB.out]; rfl
    · have hk3 : k = 3 + 1 := by omega
      subst hk3
      go_wp2
      go_ret
      refine ⟨ret_int ?_, rfl⟩
      have := HK.out
      rw [Nat.add_sub_cancel] at this
      rw [← HR.out, if_pos this]

set_option maxHeartbeats 1000000 in
theorem rune_c244 (s : ByteArray) (i : Nat) (hs : s.size ≤ 140737488355328) (hi : i < s.size) (hx : 244 ≤ (s[i].toNat : Int)) (hx2 : (s[i].toNat : Int) ≤ 244) (w : World) :
    Calls Tryd.prog 59 #[.string s, .int .i64 i] w fun e w' => e = .returned (.int .i64 (if chkN s i 128 143 3 = true then 4 else 0)) ∧ w' = w := by
  obtain ⟨R, hR⟩ : ∃ R : Int, (if chkN s i 128 143 3 = true then 4 else 0) = R := ⟨_, rfl⟩
  rw [hR]
  have HR : Hid ((if chkN s i 128 143 3 = true then 4 else 0) = R) := hR
  clear hR
  have d0 : decide ((i : Int) < 0) = false := by simp
  have c0 : decide (s.size ≤ i) = false := by simp; omega
  have q224 : ((s[i].toNat : Int) == 224) = false := by simp; omega
  have q237 : ((s[i].toNat : Int) == 237) = false := by simp; omega
  have q240 : ((s[i].toNat : Int) == 240) = false := by simp; omega
  have q244 : ((s[i].toNat : Int) == 244) = true := by simp; omega
  have d1 : decide ((s[i].toNat : Int) < 128) = false := by simp; omega
  have d2 : decide (194 ≤ (s[i].toNat : Int)) = true := by simp; omega
  have d3 : decide ((s[i].toNat : Int) ≤ 223) = false := by simp; omega
  have d4 : decide (224 ≤ (s[i].toNat : Int)) = true := by simp; omega
  have d5 : decide ((s[i].toNat : Int) ≤ 239) = false := by simp; omega
  have d6 : decide (240 ≤ (s[i].toNat : Int)) = true := by simp; omega
  have d7 : decide ((s[i].toNat : Int) ≤ 244) = true := by simp; omega
  go_enter Tryd.func59, Tryd.ntmps59
  go_wp2
  go_loopw [6, 7, 9] (fun a b c wr => wr = w ∧ ∃ k : Nat, 1 ≤ k ∧ k ≤ 3 + 1 ∧ a = .int .u8 (loK 128 k) ∧ b = .int .u8 (hiK 143 k) ∧ c = .int .i64 k ∧ chkN s i 128 143 (k - 1) = true) (fun _ _ c _ => 10 - (intOf c).toNat)
  case atStart => exact ⟨rfl, 1, by omega, by omega, rfl, rfl, rfl, rfl⟩
  case round =>
    obtain ⟨rfl, k, hk1, hk2, rfl, rfl, rfl, hk⟩ := hrel
    have HK : Hid (chkN s i 128 143 (k - 1) = true) := hk
    have HS : Hid (chkN s i 128 143 k = betB s (i + k) (loK 128 k) (hiK 143 k)) := chk_step s i _ _ k hk1 hk
    have B := between_any s (i + k) (loK 128 k) (hiK 143 k) (loK_nn _ _ (by omega))
    rw [Int.natCast_add] at B
    clear hk
    by_cases hle : k ≤ 3
    · by_cases hb : betB s (i + k) (loK 128 k) (hiK 143 k) = true
      · have HS2 : Hid (chkN s i 128 143 k = true) := HS.out.trans hb
        rw [hb] at B
        clear hb HS HK
        go_wp2_with (go_at_call 80; refine (B _).mono ?_; rintro e w' ⟨rfl, hw⟩; obtain rfl := hw.symm)
        go_roundw
        case rel => exact ⟨by first | trivial | rfl, k + 1, by omega, by omega, by rw [loK_ge _ _ hk1], by rw [hiK_ge _ _ hk1], by go_num, by rw [Nat.add_sub_cancel]; exact HS2.out⟩
        case measure => simp [intOf]; omega
      · have hb' : betB s (i + k) (loK 128 k) (hiK 143 k) = false := by simpa using hb
        have HB : Hid (chkN s i 128 143 3 = false) := chk_false s i _ _ k (HS.out.trans hb') 3 hle
        rw [hb'] at B
        clear hb hb' HS HK
        go_wp2_with (go_at_call 80; refine (B _).mono ?_; rintro e w' ⟨rfl, rfl⟩)
        go_ret
        refine ⟨ret_int ?_, rfl⟩
        rw [← HR.out, HB.out]; rfl
    · have hk3 : k = 3 + 1 := by omega
      subst hk3
      go_wp2
      go_ret
      refine ⟨ret_int ?_, rfl⟩
      have := HK.out
      rw [Nat.add_sub_cancel] at this
      rw [← HR.out, if_pos this]
end Go.Proofs.YtdagoabapchniaaDoor
