/-
  Merged: TA, Rn, Cl, Bd, TB, TE, TC, TD, TF.
-/
import Derived.Test.YtnffedmcblbkoaaGreatDoorZvq
import Derived.Test.YtnffedmcblbkoaaGreatDoorWaq
import Derived.Laws.BytesString
import Derived.Laws.Strings2
import Derived.Lib.IndexBytes
import Derived.Test.YtnffedmcblbkoaaGreatDoorUtf
import Derived.Test.YtnffedmcblbkoaaGreatDoorZhq
import Derived.Test.YtnffedmcblbkoaaGreatDoorZg
import Derived.BigQuiet
namespace Go.Proofs.YtnffedmcblbkoaaGreatDoor
open Go.Shelf Go.RowKit
set_option maxRecDepth 100000
def intsT (l : List UInt8) : List Int := l.map fun b => (b.toNat : Int)
theorem strI_intsT (l : List UInt8) : strI (intsT l) = ⟨l.toArray⟩ := by
 unfold strI intsT
 rw [List.map_map]
 have : ((fun n : Int => UInt8.ofNat n.toNat) ∘ fun b : UInt8 => (b.toNat : Int)) = id := by
  funext b
  simp
 rw [this, List.map_id]
theorem intsT_byte (l : List UInt8) : ∀ x ∈ intsT l, 0 ≤ x ∧ x < 256 := by
 intro x hx
 obtain ⟨b, _, rfl⟩ := List.mem_map.1 hx
 have := b.toNat_lt
 omega
theorem valid_endT : ∀ (n : Nat) (l : List UInt8), l.length ≤ n → (Lib.validGoD n l = true ↔ endL (intsT l) = l.length) := by
 intro n
 induction n with
 | zero => intro l hl; have : l = [] := List.eq_nil_of_length_eq_zero (by omega); subst this; exact ⟨fun _ => rfl, fun _ => rfl⟩
 | succ n ih =>
  intro l hl
  by_cases h0 : l = []
  ·subst h0; exact ⟨fun _ => rfl, fun _ => by simp [Lib.validGoD]⟩
  ·have hpos : 0 < l.length := List.length_pos_iff.2 h0
   have hd : Lib.decodeGo (strI (intsT l)) = Lib.decodeL l := by
    rw [strI_intsT]
    unfold Lib.decodeGo Lib.decodeL
    rw [if_neg (by show ¬ l.toArray.size = 0; simp; exact h0)]
   obtain ⟨q1, q2⟩ := decode_rune (intsT l) (by simpa [intsT] using hpos) (intsT_byte l)
   rw [hd] at q1 q2
   rw [Lib.validGoD, if_neg h0]
   have hll : (intsT l).length = l.length := by simp [intsT]
   by_cases hr : runeL (intsT l) = 0
   ·have e := q1 hr
    rw [if_pos ⟨by rw [e], by rw [e]⟩, endL_zero _ hr]
    simp; omega
   ·obtain ⟨q3, q4⟩ := q2 (by omega)
    have hle := rune_le (intsT l)
    rw [hll] at hle
    rw [if_neg (fun h => by have := q4 h.1; rw [q3] at h; omega), q3, endL_step _ (by omega)]
    have e : (intsT l).drop (runeL (intsT l)) = intsT (l.drop (runeL (intsT l))) := by simp [intsT, List.map_drop]
    rw [e, ih (l.drop (runeL (intsT l))) (by simp; omega), List.length_drop]
    omega
theorem valid_iff (s : ByteArray) : Lib.validD s.data.toList = true ↔ endL (bytesI s) = s.size := by
 have := valid_endT _ s.data.toList (Nat.le_refl _)
 have e : (s.data.toList).length = s.size := by rw [Array.length_toList]; rfl
 rw [e] at this
 have e2 : Lib.validD s.data.toList = Lib.validGoD s.size s.data.toList := by unfold Lib.validD; rw [e]
 rw [e2]
 exact this
end Go.Proofs.YtnffedmcblbkoaaGreatDoor
namespace Go.Proofs.YtnffedmcblbkoaaGreatDoor
open Go.RowKit
set_option maxRecDepth 100000
def betB (s : ByteArray) (i : Nat) (lo hi : Int) : Bool := decide (lo ≤ bt (bytesI s) i ∧ bt (bytesI s) i ≤ hi)
theorem between_any (s : ByteArray) (i : Nat) (lo hi : Int) (h0 : 0 ≤ lo) (w : World) :
    Calls Tryz.prog 240 #[.string s, .int .i64 i, .int .u8 lo, .int .u8 hi] w fun e w' => e = .returned (.bool (betB s i lo hi)) ∧ w' = w := by
  by_cases hi' : i < s.size
  · have hg := bytesI_get s i hi'
    obtain ⟨x, hx⟩ : ∃ x : Int, (s[i].toNat : Int) = x := ⟨_, rfl⟩
    rw [hx] at hg
    by_cases h1 : lo ≤ x
    · have hb : betB s i lo hi = decide (x ≤ hi) := by unfold betB; rw [hg]; simp [h1]
      have HB : Hid (betB s i lo hi = decide (x ≤ hi)) := hb
      clear hb hg
      go_enter Tryz.func240, Tryz.ntmps240
      go_wp2
      all_goals go_ret
      all_goals exact ⟨ret_bool (by rw [HB.out]; try simp [*]), rfl⟩
    · have hb : betB s i lo hi = false := by unfold betB; rw [hg]; simp [h1]
      have HB : Hid (betB s i lo hi = false) := hb
      clear hb hg
      go_enter Tryz.func240, Tryz.ntmps240
      go_wp2
      all_goals go_ret
      all_goals exact ⟨ret_bool (by rw [HB.out]; try simp [*]), rfl⟩
  · have hg := bytesI_out s i (by omega)
    have hb : betB s i lo hi = false := by unfold betB; rw [hg]; simp; omega
    have HB : Hid (betB s i lo hi = false) := hb
    clear hb hg
    go_enter Tryz.func240, Tryz.ntmps240
    go_wp2
    all_goals go_ret
    all_goals exact ⟨ret_bool (by rw [HB.out]; try simp [*]), rfl⟩
theorem rune_out (s : ByteArray) (i : Nat) (hi : s.size ≤ i) (w : World) :
    Calls Tryz.prog 227 #[.string s, .int .i64 i] w fun e w' => e = .returned (.int .i64 0) ∧ w' = w := by
  go_enter Tryz.func227, Tryz.ntmps227
  go_wp2
  all_goals go_ret
  all_goals exact ⟨rfl, rfl⟩
theorem rune_one (s : ByteArray) (i : Nat) (hi : i < s.size) (hx : (s[i].toNat : Int) < 128) (w : World) :
    Calls Tryz.prog 227 #[.string s, .int .i64 i] w fun e w' => e = .returned (.int .i64 1) ∧ w' = w := by
  go_enter Tryz.func227, Tryz.ntmps227
  go_wp2
  all_goals go_ret
  all_goals exact ⟨rfl, rfl⟩
theorem rune_bad (s : ByteArray) (i : Nat) (hi : i < s.size) (hx : (128 ≤ (s[i].toNat : Int) ∧ (s[i].toNat : Int) ≤ 193) ∨ 245 ≤ (s[i].toNat : Int)) (w : World) :
    Calls Tryz.prog 227 #[.string s, .int .i64 i] w fun e w' => e = .returned (.int .i64 0) ∧ w' = w := by
  rcases hx with ⟨h1, h2⟩ | h1
  all_goals
    go_enter Tryz.func227, Tryz.ntmps227
    go_wp2
    all_goals go_ret
    all_goals exact ⟨rfl, rfl⟩
def loK (lo : Int) (k : Nat) : Int := if k = 1 then lo else 128
def hiK (hi : Int) (k : Nat) : Int := if k = 1 then hi else 191
def chkN (s : ByteArray) (i : Nat) (lo hi : Int) : Nat → Bool
  | 0 => true
  | n + 1 => chkN s i lo hi n && betB s (i + (n + 1)) (loK lo (n + 1)) (hiK hi (n + 1))
theorem loK_ge (lo : Int) (k : Nat) (h : 1 ≤ k) : loK lo (k + 1) = 128 := by unfold loK; rw [if_neg (by omega)]
theorem hiK_ge (hi : Int) (k : Nat) (h : 1 ≤ k) : hiK hi (k + 1) = 191 := by unfold hiK; rw [if_neg (by omega)]
theorem loK_nn (lo : Int) (k : Nat) (h : 0 ≤ lo) : 0 ≤ loK lo k := by unfold loK; split <;> omega
theorem chk_step (s : ByteArray) (i : Nat) (lo hi : Int) (k : Nat) (h1 : 1 ≤ k) (h : chkN s i lo hi (k - 1) = true) : chkN s i lo hi k = betB s (i + k) (loK lo k) (hiK hi k) := by
  obtain ⟨j, rfl⟩ : ∃ j, k = j + 1 := ⟨k - 1, by omega⟩
  rw [Nat.add_sub_cancel] at h
  simp [chkN, h]
theorem chk_false (s : ByteArray) (i : Nat) (lo hi : Int) (k : Nat) (h : chkN s i lo hi k = false) : ∀ m, k ≤ m → chkN s i lo hi m = false := by
  intro m
  induction m with
  | zero => intro hm; have : k = 0 := by omega
            subst this; exact h
  | succ m ih =>
    intro hm
    by_cases e : k = m + 1
    · subst e; exact h
    · simp [chkN, ih (by omega)]
set_option maxHeartbeats 1000000 in
theorem rune_c194 (s : ByteArray) (i : Nat) (hs : s.size ≤ 140737488355328) (hi : i < s.size) (hx : 194 ≤ (s[i].toNat : Int)) (hx2 : (s[i].toNat : Int) ≤ 223) (w : World) :
    Calls Tryz.prog 227 #[.string s, .int .i64 i] w fun e w' => e = .returned (.int .i64 (if chkN s i 128 191 1 = true then 2 else 0)) ∧ w' = w := by
  obtain ⟨R, hR⟩ : ∃ R : Int, (if chkN s i 128 191 1 = true then 2 else 0) = R := ⟨_, rfl⟩
  rw [hR]
  have HR : Hid ((if chkN s i 128 191 1 = true then 2 else 0) = R) := hR
  clear hR
  have d0 : decide ((i : Int) < 0) = false := by simp
  have c0 : decide (s.size ≤ i) = false := by simp; omega
  have q224 : ((s[i].toNat : Int) == 224) = false := by simp; omega
  have q237 : ((s[i].toNat : Int) == 237) = false := by simp; omega
  have q240 : ((s[i].toNat : Int) == 240) = false := by simp; omega
  have q244 : ((s[i].toNat : Int) == 244) = false := by simp; omega
  have d1 : decide ((s[i].toNat : Int) < 128) = false := by simp; omega
  have d2 : decide (194 ≤ (s[i].toNat : Int)) = true := by simp; omega
  have d3 : decide ((s[i].toNat : Int) ≤ 223) = true := by simp; omega
  have d4 : decide (224 ≤ (s[i].toNat : Int)) = false := by simp; omega
  have d5 : decide ((s[i].toNat : Int) ≤ 239) = true := by simp; omega
  have d6 : decide (240 ≤ (s[i].toNat : Int)) = false := by simp; omega
  have d7 : decide ((s[i].toNat : Int) ≤ 244) = true := by simp; omega
  go_enter Tryz.func227, Tryz.ntmps227
  go_wp2
  go_loopw [6, 7, 9] (fun a b c wr => wr = w ∧ ∃ k : Nat, 1 ≤ k ∧ k ≤ 1 + 1 ∧ a = .int .u8 (loK 128 k) ∧ b = .int .u8 (hiK 191 k) ∧ c = .int .i64 k ∧ chkN s i 128 191 (k - 1) = true) (fun _ _ c _ => 10 - (intOf c).toNat)
  case atStart => exact ⟨rfl, 1, by omega, by omega, rfl, rfl, rfl, rfl⟩
  case round =>
    obtain ⟨rfl, k, hk1, hk2, rfl, rfl, rfl, hk⟩ := hrel
    have HK : Hid (chkN s i 128 191 (k - 1) = true) := hk
    have HS : Hid (chkN s i 128 191 k = betB s (i + k) (loK 128 k) (hiK 191 k)) := chk_step s i _ _ k hk1 hk
    have B := between_any s (i + k) (loK 128 k) (hiK 191 k) (loK_nn _ _ (by omega))
    rw [Int.natCast_add] at B
    clear hk
    by_cases hle : k ≤ 1
    · by_cases hb : betB s (i + k) (loK 128 k) (hiK 191 k) = true
      · have HS2 : Hid (chkN s i 128 191 k = true) := HS.out.trans hb
        rw [hb] at B
        clear hb HS HK
        go_wp2_with (go_at_call 240; refine (B _).mono ?_; rintro e w' ⟨rfl, hw⟩; obtain rfl := hw.symm)
        go_roundw
        case rel => exact ⟨by first | trivial | rfl, k + 1, by omega, by omega, by rw [loK_ge _ _ hk1], by rw [hiK_ge _ _ hk1], by go_num, by rw [Nat.add_sub_cancel]; exact HS2.out⟩
        case measure => simp [intOf]; omega
      · have hb' : betB s (i + k) (loK 128 k) (hiK 191 k) = false := by simpa using hb
        have HB : Hid (chkN s i 128 191 1 = false) := chk_false s i _ _ k (HS.out.trans hb') 1 hle
        rw [hb'] at B
        clear hb hb' HS HK
        go_wp2_with (go_at_call 240; refine (B _).mono ?_; rintro e w' ⟨rfl, rfl⟩)
        go_ret
        refine ⟨ret_int ?_, rfl⟩
        rw [← HR.out, HB.out]; rfl
    · have hk3 : k = 1 + 1 := by omega
      subst hk3
      go_wp2
      go_ret
      refine ⟨ret_int ?_, rfl⟩
      have := HK.out
      rw [Nat.add_sub_cancel] at this
      rw [← HR.out, if_pos this]
set_option maxHeartbeats 1000000 in
theorem rune_c224 (s : ByteArray) (i : Nat) (hs : s.size ≤ 140737488355328) (hi : i < s.size) (hx : 224 ≤ (s[i].toNat : Int)) (hx2 : (s[i].toNat : Int) ≤ 224) (w : World) :
    Calls Tryz.prog 227 #[.string s, .int .i64 i] w fun e w' => e = .returned (.int .i64 (if chkN s i 160 191 2 = true then 3 else 0)) ∧ w' = w := by
  obtain ⟨R, hR⟩ : ∃ R : Int, (if chkN s i 160 191 2 = true then 3 else 0) = R := ⟨_, rfl⟩
  rw [hR]
  have HR : Hid ((if chkN s i 160 191 2 = true then 3 else 0) = R) := hR
  clear hR
  have d0 : decide ((i : Int) < 0) = false := by simp
  have c0 : decide (s.size ≤ i) = false := by simp; omega
  have q224 : ((s[i].toNat : Int) == 224) = true := by simp; omega
  have q237 : ((s[i].toNat : Int) == 237) = false := by simp; omega
  have q240 : ((s[i].toNat : Int) == 240) = false := by simp; omega
  have q244 : ((s[i].toNat : Int) == 244) = false := by simp; omega
  have d1 : decide ((s[i].toNat : Int) < 128) = false := by simp; omega
  have d2 : decide (194 ≤ (s[i].toNat : Int)) = true := by simp; omega
  have d3 : decide ((s[i].toNat : Int) ≤ 223) = false := by simp; omega
  have d4 : decide (224 ≤ (s[i].toNat : Int)) = true := by simp; omega
  have d5 : decide ((s[i].toNat : Int) ≤ 239) = true := by simp; omega
  have d6 : decide (240 ≤ (s[i].toNat : Int)) = false := by simp; omega
  have d7 : decide ((s[i].toNat : Int) ≤ 244) = true := by simp; omega
  go_enter Tryz.func227, Tryz.ntmps227
  go_wp2
  go_loopw [6, 7, 9] (fun a b c wr => wr = w ∧ ∃ k : Nat, 1 ≤ k ∧ k ≤ 2 + 1 ∧ a = .int .u8 (loK 160 k) ∧ b = .int .u8 (hiK 191 k) ∧ c = .int .i64 k ∧ chkN s i 160 191 (k - 1) = true) (fun _ _ c _ => 10 - (intOf c).toNat)
  case atStart => exact ⟨rfl, 1, by omega, by omega, rfl, rfl, rfl, rfl⟩
  case round =>
    obtain ⟨rfl, k, hk1, hk2, rfl, rfl, rfl, hk⟩ := hrel
    have HK : Hid (chkN s i 160 191 (k - 1) = true) := hk
    have HS : Hid (chkN s i 160 191 k = betB s (i + k) (loK 160 k) (hiK 191 k)) := chk_step s i _ _ k hk1 hk
    have B := between_any s (i + k) (loK 160 k) (hiK 191 k) (loK_nn _ _ (by omega))
    rw [Int.natCast_add] at B
    clear hk
    by_cases hle : k ≤ 2
    · by_cases hb : betB s (i + k) (loK 160 k) (hiK 191 k) = true
      · have HS2 : Hid (chkN s i 160 191 k = true) := HS.out.trans hb
        rw [hb] at B
        clear hb HS HK
        go_wp2_with (go_at_call 240; refine (B _).mono ?_; rintro e w' ⟨rfl, hw⟩; obtain rfl := hw.symm)
        go_roundw
        case rel => exact ⟨by first | trivial | rfl, k + 1, by omega, by omega, by rw [loK_ge _ _ hk1], by rw [hiK_ge _ _ hk1], by go_num, by rw [Nat.add_sub_cancel]; exact HS2.out⟩
        case measure => simp [intOf]; omega
      · have hb' : betB s (i + k) (loK 160 k) (hiK 191 k) = false := by simpa using hb
        have HB : Hid (chkN s i 160 191 2 = false) := chk_false s i _ _ k (HS.out.trans hb') 2 hle
        rw [hb'] at B
        clear hb hb' HS HK
        go_wp2_with (go_at_call 240; refine (B _).mono ?_; rintro e w' ⟨rfl, rfl⟩)
        go_ret
        refine ⟨ret_int ?_, rfl⟩
        rw [← HR.out, HB.out]; rfl
    · have hk3 : k = 2 + 1 := by omega
      subst hk3
      go_wp2
      go_ret
      refine ⟨ret_int ?_, rfl⟩
      have := HK.out
      rw [Nat.add_sub_cancel] at this
      rw [← HR.out, if_pos this]
set_option maxHeartbeats 1000000 in
theorem rune_c225 (s : ByteArray) (i : Nat) (hs : s.size ≤ 140737488355328) (hi : i < s.size) (hx : 225 ≤ (s[i].toNat : Int)) (hx2 : (s[i].toNat : Int) ≤ 236) (w : World) :
    Calls Tryz.prog 227 #[.string s, .int .i64 i] w fun e w' => e = .returned (.int .i64 (if chkN s i 128 191 2 = true then 3 else 0)) ∧ w' = w := by
  obtain ⟨R, hR⟩ : ∃ R : Int, (if chkN s i 128 191 2 = true then 3 else 0) = R := ⟨_, rfl⟩
  rw [hR]
  have HR : Hid ((if chkN s i 128 191 2 = true then 3 else 0) = R) := hR
  clear hR
  have d0 : decide ((i : Int) < 0) = false := by simp
  have c0 : decide (s.size ≤ i) = false := by simp; omega
  have q224 : ((s[i].toNat : Int) == 224) = false := by simp; omega
  have q237 : ((s[i].toNat : Int) == 237) = false := by simp; omega
  have q240 : ((s[i].toNat : Int) == 240) = false := by simp; omega
  have q244 : ((s[i].toNat : Int) == 244) = false := by simp; omega
  have d1 : decide ((s[i].toNat : Int) < 128) = false := by simp; omega
  have d2 : decide (194 ≤ (s[i].toNat : Int)) = true := by simp; omega
  have d3 : decide ((s[i].toNat : Int) ≤ 223) = false := by simp; omega
  have d4 : decide (224 ≤ (s[i].toNat : Int)) = true := by simp; omega
  have d5 : decide ((s[i].toNat : Int) ≤ 239) = true := by simp; omega
  have d6 : decide (240 ≤ (s[i].toNat : Int)) = false := by simp; omega
  have d7 : decide ((s[i].toNat : Int) ≤ 244) = true := by simp; omega
  go_enter Tryz.func227, Tryz.ntmps227
  go_wp2
  go_loopw [6, 7, 9] (fun a b c wr => wr = w ∧ ∃ k : Nat, 1 ≤ k ∧ k ≤ 2 + 1 ∧ a = .int .u8 (loK 128 k) ∧ b = .int .u8 (hiK 191 k) ∧ c = .int .i64 k ∧ chkN s i 128 191 (k - 1) = true) (fun _ _ c _ => 10 - (intOf c).toNat)
  case atStart => exact ⟨rfl, 1, by omega, by omega, rfl, rfl, rfl, rfl⟩
  case round =>
    obtain ⟨rfl, k, hk1, hk2, rfl, rfl, rfl, hk⟩ := hrel
    have HK : Hid (chkN s i 128 191 (k - 1) = true) := hk
    have HS : Hid (chkN s i 128 191 k = betB s (i + k) (loK 128 k) (hiK 191 k)) := chk_step s i _ _ k hk1 hk
    have B := between_any s (i + k) (loK 128 k) (hiK 191 k) (loK_nn _ _ (by omega))
    rw [Int.natCast_add] at B
    clear hk
    by_cases hle : k ≤ 2
    · by_cases hb : betB s (i + k) (loK 128 k) (hiK 191 k) = true
      · have HS2 : Hid (chkN s i 128 191 k = true) := HS.out.trans hb
        rw [hb] at B
        clear hb HS HK
        go_wp2_with (go_at_call 240; refine (B _).mono ?_; rintro e w' ⟨rfl, hw⟩; obtain rfl := hw.symm)
        go_roundw
        case rel => exact ⟨by first | trivial | rfl, k + 1, by omega, by omega, by rw [loK_ge _ _ hk1], by rw [hiK_ge _ _ hk1], by go_num, by rw [Nat.add_sub_cancel]; exact HS2.out⟩
        case measure => simp [intOf]; omega
      · have hb' : betB s (i + k) (loK 128 k) (hiK 191 k) = false := by simpa using hb
        have HB : Hid (chkN s i 128 191 2 = false) := chk_false s i _ _ k (HS.out.trans hb') 2 hle
        rw [hb'] at B
        clear hb hb' HS HK
        go_wp2_with (go_at_call 240; refine (B _).mono ?_; rintro e w' ⟨rfl, rfl⟩)
        go_ret
        refine ⟨ret_int ?_, rfl⟩
        rw [← HR.out, HB.out]; rfl
    · have hk3 : k = 2 + 1 := by omega
      subst hk3
      go_wp2
      go_ret
      refine ⟨ret_int ?_, rfl⟩
      have := HK.out
      rw [Nat.add_sub_cancel] at this
      rw [← HR.out, if_pos this]
set_option maxHeartbeats 1000000 in
theorem rune_c237 (s : ByteArray) (i : Nat) (hs : s.size ≤ 140737488355328) (hi : i < s.size) (hx : 237 ≤ (s[i].toNat : Int)) (hx2 : (s[i].toNat : Int) ≤ 237) (w : World) :
    Calls Tryz.prog 227 #[.string s, .int .i64 i] w fun e w' => e = .returned (.int .i64 (if chkN s i 128 159 2 = true then 3 else 0)) ∧ w' = w := by
  obtain ⟨R, hR⟩ : ∃ R : Int, (if chkN s i 128 159 2 = true then 3 else 0) = R := ⟨_, rfl⟩
  rw [hR]
  have HR : Hid ((if chkN s i 128 159 2 = true then 3 else 0) = R) := hR
  clear hR
  have d0 : decide ((i : Int) < 0) = false := by simp
  have c0 : decide (s.size ≤ i) = false := by simp; omega
  have q224 : ((s[i].toNat : Int) == 224) = false := by simp; omega
  have q237 : ((s[i].toNat : Int) == 237) = true := by simp; omega
  have q240 : ((s[i].toNat : Int) == 240) = false := by simp; omega
  have q244 : ((s[i].toNat : Int) == 244) = false := by simp; omega
  have d1 : decide ((s[i].toNat : Int) < 128) = false := by simp; omega
  have d2 : decide (194 ≤ (s[i].toNat : Int)) = true := by simp; omega
  have d3 : decide ((s[i].toNat : Int) ≤ 223) = false := by simp; omega
  have d4 : decide (224 ≤ (s[i].toNat : Int)) = true := by simp; omega
  have d5 : decide ((s[i].toNat : Int) ≤ 239) = true := by simp; omega
  have d6 : decide (240 ≤ (s[i].toNat : Int)) = false := by simp; omega
  have d7 : decide ((s[i].toNat : Int) ≤ 244) = true := by simp; omega
  go_enter Tryz.func227, Tryz.ntmps227
  go_wp2
  go_loopw [6, 7, 9] (fun a b c wr => wr = w ∧ ∃ k : Nat, 1 ≤ k ∧ k ≤ 2 + 1 ∧ a = .int .u8 (loK 128 k) ∧ b = .int .u8 (hiK 159 k) ∧ c = .int .i64 k ∧ chkN s i 128 159 (k - 1) = true) (fun _ _ c _ => 10 - (intOf c).toNat)
  case atStart => exact ⟨rfl, 1, by omega, by omega, rfl, rfl, rfl, rfl⟩
  case round =>
    obtain ⟨rfl, k, hk1, hk2, rfl, rfl, rfl, hk⟩ := hrel
    have HK : Hid (chkN s i 128 159 (k - 1) = true) := hk
    have HS : Hid (chkN s i 128 159 k = betB s (i + k) (loK 128 k) (hiK 159 k)) := chk_step s i _ _ k hk1 hk
    have B := between_any s (i + k) (loK 128 k) (hiK 159 k) (loK_nn _ _ (by omega))
    rw [Int.natCast_add] at B
    clear hk
    by_cases hle : k ≤ 2
    · by_cases hb : betB s (i + k) (loK 128 k) (hiK 159 k) = true
      · have HS2 : Hid (chkN s i 128 159 k = true) := HS.out.trans hb
        rw [hb] at B
        clear hb HS HK
        go_wp2_with (go_at_call 240; refine (B _).mono ?_; rintro e w' ⟨rfl, hw⟩; obtain rfl := hw.symm)
        go_roundw
        case rel => exact ⟨by first | trivial | rfl, k + 1, by omega, by omega, by rw [loK_ge _ _ hk1], by rw [hiK_ge _ _ hk1], by go_num, by rw [Nat.add_sub_cancel]; exact HS2.out⟩
        case measure => simp [intOf]; omega
      · have hb' : betB s (i + k) (loK 128 k) (hiK 159 k) = false := by simpa using hb
        have HB : Hid (chkN s i 128 159 2 = false) := chk_false s i _ _ k (HS.out.trans hb') 2 hle
        rw [hb'] at B
        clear hb hb' HS HK
        go_wp2_with (go_at_call 240; refine (B _).mono ?_; rintro e w' ⟨rfl, rfl⟩)
        go_ret
        refine ⟨ret_int ?_, rfl⟩
        rw [← HR.out, HB.out]; rfl
    · have hk3 : k = 2 + 1 := by omega
      subst hk3
      go_wp2
      go_ret
      refine ⟨ret_int ?_, rfl⟩
      have := HK.out
      rw [Nat.add_sub_cancel] at this
      rw [← HR.out, if_pos this]
set_option maxHeartbeats 1000000 in
theorem rune_c238 (s : ByteArray) (i : Nat) (hs : s.size ≤ 140737488355328) (hi : i < s.size) (hx : 238 ≤ (s[i].toNat : Int)) (hx2 : (s[i].toNat : Int) ≤ 239) (w : World) :
    Calls Tryz.prog 227 #[.string s, .int .i64 i] w fun e w' => e = .returned (.int .i64 (if chkN s i 128 191 2 = true then 3 else 0)) ∧ w' = w := by
  obtain ⟨R, hR⟩ : ∃ R : Int, (if chkN s i 128 191 2 = true then 3 else 0) = R := ⟨_, rfl⟩
  rw [hR]
  have HR : Hid ((if chkN s i 128 191 2 = true then 3 else 0) = R) := hR
  clear hR
  have d0 : decide ((i : Int) < 0) = false := by simp
  have c0 : decide (s.size ≤ i) = false := by simp; omega
  have q224 : ((s[i].toNat : Int) == 224) = false := by simp; omega
  have q237 : ((s[i].toNat : Int) == 237) = false := by simp; omega
  have q240 : ((s[i].toNat : Int) == 240) = false := by simp; omega
  have q244 : ((s[i].toNat : Int) == 244) = false := by simp; omega
  have d1 : decide ((s[i].toNat : Int) < 128) = false := by simp; omega
  have d2 : decide (194 ≤ (s[i].toNat : Int)) = true := by simp; omega
  have d3 : decide ((s[i].toNat : Int) ≤ 223) = false := by simp; omega
  have d4 : decide (224 ≤ (s[i].toNat : Int)) = true := by simp; omega
  have d5 : decide ((s[i].toNat : Int) ≤ 239) = true := by simp; omega
  have d6 : decide (240 ≤ (s[i].toNat : Int)) = false := by simp; omega
  have d7 : decide ((s[i].toNat : Int) ≤ 244) = true := by simp; omega
  go_enter Tryz.func227, Tryz.ntmps227
  go_wp2
  go_loopw [6, 7, 9] (fun a b c wr => wr = w ∧ ∃ k : Nat, 1 ≤ k ∧ k ≤ 2 + 1 ∧ a = .int .u8 (loK 128 k) ∧ b = .int .u8 (hiK 191 k) ∧ c = .int .i64 k ∧ chkN s i 128 191 (k - 1) = true) (fun _ _ c _ => 10 - (intOf c).toNat)
  case atStart => exact ⟨rfl, 1, by omega, by omega, rfl, rfl, rfl, rfl⟩
  case round =>
    obtain ⟨rfl, k, hk1, hk2, rfl, rfl, rfl, hk⟩ := hrel
    have HK : Hid (chkN s i 128 191 (k - 1) = true) := hk
    have HS : Hid (chkN s i 128 191 k = betB s (i + k) (loK 128 k) (hiK 191 k)) := chk_step s i _ _ k hk1 hk
    have B := between_any s (i + k) (loK 128 k) (hiK 191 k) (loK_nn _ _ (by omega))
    rw [Int.natCast_add] at B
    clear hk
    by_cases hle : k ≤ 2
    · by_cases hb : betB s (i + k) (loK 128 k) (hiK 191 k) = true
      · have HS2 : Hid (chkN s i 128 191 k = true) := HS.out.trans hb
        rw [hb] at B
        clear hb HS HK
        go_wp2_with (go_at_call 240; refine (B _).mono ?_; rintro e w' ⟨rfl, hw⟩; obtain rfl := hw.symm)
        go_roundw
        case rel => exact ⟨by first | trivial | rfl, k + 1, by omega, by omega, by rw [loK_ge _ _ hk1], by rw [hiK_ge _ _ hk1], by go_num, by rw [Nat.add_sub_cancel]; exact HS2.out⟩
        case measure => simp [intOf]; omega
      · have hb' : betB s (i + k) (loK 128 k) (hiK 191 k) = false := by simpa using hb
        have HB : Hid (chkN s i 128 191 2 = false) := chk_false s i _ _ k (HS.out.trans hb') 2 hle
        rw [hb'] at B
        clear hb hb' HS HK
        go_wp2_with (go_at_call 240; refine (B _).mono ?_; rintro e w' ⟨rfl, rfl⟩)
        go_ret
        refine ⟨ret_int ?_, rfl⟩
        rw [← HR.out, HB.out]; rfl
    · have hk3 : k = 2 + 1 := by omega
      subst hk3
      go_wp2
      go_ret
      refine ⟨ret_int ?_, rfl⟩
      have := HK.out
      rw [Nat.add_sub_cancel] at this
      rw [← HR.out, if_pos this]
set_option maxHeartbeats 1000000 in
theorem rune_c240 (s : ByteArray) (i : Nat) (hs : s.size ≤ 140737488355328) (hi : i < s.size) (hx : 240 ≤ (s[i].toNat : Int)) (hx2 : (s[i].toNat : Int) ≤ 240) (w : World) :
    Calls Tryz.prog 227 #[.string s, .int .i64 i] w fun e w' => e = .returned (.int .i64 (if chkN s i 144 191 3 = true then 4 else 0)) ∧ w' = w := by
  obtain ⟨R, hR⟩ : ∃ R : Int, (if chkN s i 144 191 3 = true then 4 else 0) = R := ⟨_, rfl⟩
  rw [hR]
  have HR : Hid ((if chkN s i 144 191 3 = true then 4 else 0) = R) := hR
  clear hR
  have d0 : decide ((i : Int) < 0) = false := by simp
  have c0 : decide (s.size ≤ i) = false := by simp; omega
  have q224 : ((s[i].toNat : Int) == 224) = false := by simp; omega
  have q237 : ((s[i].toNat : Int) == 237) = false := by simp; omega
  have q240 : ((s[i].toNat : Int) == 240) = true := by simp; omega
  have q244 : ((s[i].toNat : Int) == 244) = false := by simp; omega
  have d1 : decide ((s[i].toNat : Int) < 128) = false := by simp; omega
  have d2 : decide (194 ≤ (s[i].toNat : Int)) = true := by simp; omega
  have d3 : decide ((s[i].toNat : Int) ≤ 223) = false := by simp; omega
  have d4 : decide (224 ≤ (s[i].toNat : Int)) = true := by simp; omega
  have d5 : decide ((s[i].toNat : Int) ≤ 239) = false := by simp; omega
  have d6 : decide (240 ≤ (s[i].toNat : Int)) = true := by simp; omega
  have d7 : decide ((s[i].toNat : Int) ≤ 244) = true := by simp; omega
  go_enter Tryz.func227, Tryz.ntmps227
  go_wp2
  go_loopw [6, 7, 9] (fun a b c wr => wr = w ∧ ∃ k : Nat, 1 ≤ k ∧ k ≤ 3 + 1 ∧ a = .int .u8 (loK 144 k) ∧ b = .int .u8 (hiK 191 k) ∧ c = .int .i64 k ∧ chkN s i 144 191 (k - 1) = true) (fun _ _ c _ => 10 - (intOf c).toNat)
  case atStart => exact ⟨rfl, 1, by omega, by omega, rfl, rfl, rfl, rfl⟩
  case round =>
    obtain ⟨rfl, k, hk1, hk2, rfl, rfl, rfl, hk⟩ := hrel
    have HK : Hid (chkN s i 144 191 (k - 1) = true) := hk
    have HS : Hid (chkN s i 144 191 k = betB s (i + k) (loK 144 k) (hiK 191 k)) := chk_step s i _ _ k hk1 hk
    have B := between_any s (i + k) (loK 144 k) (hiK 191 k) (loK_nn _ _ (by omega))
    rw [Int.natCast_add] at B
    clear hk
    by_cases hle : k ≤ 3
    · by_cases hb : betB s (i + k) (loK 144 k) (hiK 191 k) = true
      · have HS2 : Hid (chkN s i 144 191 k = true) := HS.out.trans hb
        rw [hb] at B
        clear hb HS HK
        go_wp2_with (go_at_call 240; refine (B _).mono ?_; rintro e w' ⟨rfl, hw⟩; obtain rfl := hw.symm)
        go_roundw
        case rel => exact ⟨by first | trivial | rfl, k + 1, by omega, by omega, by rw [loK_ge _ _ hk1], by rw [hiK_ge _ _ hk1], by go_num, by rw [Nat.add_sub_cancel]; exact HS2.out⟩
        case measure => simp [intOf]; omega
      · have hb' : betB s (i + k) (loK 144 k) (hiK 191 k) = false := by simpa using hb
        have HB : Hid (chkN s i 144 191 3 = false) := chk_false s i _ _ k (HS.out.trans hb') 3 hle
        rw [hb'] at B
        clear hb hb' HS HK
        go_wp2_with (go_at_call 240; refine (B _).mono ?_; rintro e w' ⟨rfl, rfl⟩)
        go_ret
        refine ⟨ret_int ?_, rfl⟩
        rw [← HR.out, HB.out]; rfl
    · have hk3 : k = 3 + 1 := by omega
      subst hk3
      go_wp2
      go_ret
      refine ⟨ret_int ?_, rfl⟩
      have := HK.out
      rw [Nat.add_sub_cancel] at this
      rw [← HR.out, if_pos this]
set_option maxHeartbeats 1000000 in
theorem rune_c241 (s : ByteArray) (i : Nat) (hs : s.size ≤ 140737488355328) (hi : i < s.size) (hx : 241 ≤ (s[i].toNat : Int)) (hx2 : (s[i].toNat : Int) ≤ 243) (w : World) :
    Calls Tryz.prog 227 #[.string s, .int .i64 i] w fun e w' => e = .returned (.int .i64 (if chkN s i 128 191 3 = true then 4 else 0)) ∧ w' = w := by
  obtain ⟨R, hR⟩ : ∃ R : Int, (if chkN s i 128 191 3 = true then 4 else 0) = R := ⟨_, rfl⟩
  rw [hR]
  have HR : Hid ((if chkN s i 128 191 3 = true then 4 else 0) = R) := hR
  clear hR
  have d0 : decide ((i : Int) < 0) = false := by simp
  have c0 : decide (s.size ≤ i) = false := by simp; omega
  have q224 : ((s[i].toNat : Int) == 224) = false := by simp; omega
  have q237 : ((s[i].toNat : Int) == 237) = false := by simp; omega
  have q240 : ((s[i].toNat : Int) == 240) = false := by simp; omega
  have q244 : ((s[i].toNat : Int) == 244) = false := by simp; omega
  have d1 : decide ((s[i].toNat : Int) < 128) = false := by simp; omega
  have d2 : decide (194 ≤ (s[i].toNat : Int)) = true := by simp; omega
  have d3 : decide ((s[i].toNat : Int) ≤ 223) = false := by simp; omega
  have d4 : decide (224 ≤ (s[i].toNat : Int)) = true := by simp; omega
  have d5 : decide ((s[i].toNat : Int) ≤ 239) = false := by simp; omega
  have d6 : decide (240 ≤ (s[i].toNat : Int)) = true := by simp; omega
  have d7 : decide ((s[i].toNat : Int) ≤ 244) = true := by simp; omega
  go_enter Tryz.func227, Tryz.ntmps227
  go_wp2
  go_loopw [6, 7, 9] (fun a b c wr => wr = w ∧ ∃ k : Nat, 1 ≤ k ∧ k ≤ 3 + 1 ∧ a = .int .u8 (loK 128 k) ∧ b = .int .u8 (hiK 191 k) ∧ c = .int .i64 k ∧ chkN s i 128 191 (k - 1) = true) (fun _ _ c _ => 10 - (intOf c).toNat)
  case atStart => exact ⟨rfl, 1, by omega, by omega, rfl, rfl, rfl, rfl⟩
  case round =>
    obtain ⟨rfl, k, hk1, hk2, rfl, rfl, rfl, hk⟩ := hrel
    have HK : Hid (chkN s i 128 191 (k - 1) = true) := hk
    have HS : Hid (chkN s i 128 191 k = betB s (i + k) (loK 128 k) (hiK 191 k)) := chk_step s i _ _ k hk1 hk
    have B := between_any s (i + k) (loK 128 k) (hiK 191 k) (loK_nn _ _ (by omega))
    rw [Int.natCast_add] at B
    clear hk
    by_cases hle : k ≤ 3
    · by_cases hb : betB s (i + k) (loK 128 k) (hiK 191 k) = true
      · have HS2 : Hid (chkN s i 128 191 k = true) := HS.out.trans hb
        rw [hb] at B
        clear hb HS HK
        go_wp2_with (go_at_call 240; refine (B _).mono ?_; rintro e w' ⟨rfl, hw⟩; obtain rfl := hw.symm)
        go_roundw
        case rel => exact ⟨by first | trivial | rfl, k + 1, by omega, by omega, by rw [loK_ge _ _ hk1], by rw [hiK_ge _ _ hk1], by go_num, by rw [Nat.add_sub_cancel]; exact HS2.out⟩
        case measure => simp [intOf]; omega
      · have hb' : betB s (i + k) (loK 128 k) (hiK 191 k) = false := by simpa using hb
        have HB : Hid (chkN s i 128 191 3 = false) := chk_false s i _ _ k (HS.out.trans hb') 3 hle
        rw [hb'] at B
        clear hb hb' HS HK
        go_wp2_with (go_at_call 240; refine (B _).mono ?_; rintro e w' ⟨rfl, rfl⟩)
        go_ret
        refine ⟨ret_int ?_, rfl⟩
        rw [← HR.out, HB.out]; rfl
    · have hk3 : k = 3 + 1 := by omega
      subst hk3
      go_wp2
      go_ret
      refine ⟨ret_int ?_, rfl⟩
      have := HK.out
      rw [Nat.add_sub_cancel] at this
      rw [← HR.out, if_pos this]
set_option maxHeartbeats 1000000 in
theorem rune_c244 (s : ByteArray) (i : Nat) (hs : s.size ≤ 140737488355328) (hi : i < s.size) (hx : 244 ≤ (s[i].toNat : Int)) (hx2 : (s[i].toNat : Int) ≤ 244) (w : World) :
    Calls Tryz.prog 227 #[.string s, .int .i64 i] w fun e w' => e = .returned (.int .i64 (if chkN s i 128 143 3 = true then 4 else 0)) ∧ w' = w := by
  obtain ⟨R, hR⟩ : ∃ R : Int, (if chkN s i 128 143 3 = true then 4 else 0) = R := ⟨_, rfl⟩
  rw [hR]
  have HR : Hid ((if chkN s i 128 143 3 = true then 4 else 0) = R) := hR
  clear hR
  have d0 : decide ((i : Int) < 0) = false := by simp
  have c0 : decide (s.size ≤ i) = false := by simp; omega
  have q224 : ((s[i].toNat : Int) == 224) = false := by simp; omega
  have q237 : ((s[i].toNat : Int) == 237) = false := by simp; omega
  have q240 : ((s[i].toNat : Int) == 240) = false := by simp; omega
  have q244 : ((s[i].toNat : Int) == 244) = true := by simp; omega
  have d1 : decide ((s[i].toNat : Int) < 128) = false := by simp; omega
  have d2 : decide (194 ≤ (s[i].toNat : Int)) = true := by simp; omega
  have d3 : decide ((s[i].toNat : Int) ≤ 223) = false := by simp; omega
  have d4 : decide (224 ≤ (s[i].toNat : Int)) = true := by simp; omega
  have d5 : decide ((s[i].toNat : Int) ≤ 239) = false := by simp; omega
  have d6 : decide (240 ≤ (s[i].toNat : Int)) = true := by simp; omega
  have d7 : decide ((s[i].toNat : Int) ≤ 244) = true := by simp; omega
  go_enter Tryz.func227, Tryz.ntmps227
  go_wp2
  go_loopw [6, 7, 9] (fun a b c wr => wr = w ∧ ∃ k : Nat, 1 ≤ k ∧ k ≤ 3 + 1 ∧ a = .int .u8 (loK 128 k) ∧ b = .int .u8 (hiK 143 k) ∧ c = .int .i64 k ∧ chkN s i 128 143 (k - 1) = true) (fun _ _ c _ => 10 - (intOf c).toNat)
  case atStart => exact ⟨rfl, 1, by omega, by omega, rfl, rfl, rfl, rfl⟩
  case round =>
    obtain ⟨rfl, k, hk1, hk2, rfl, rfl, rfl, hk⟩ := hrel
    have HK : Hid (chkN s i 128 143 (k - 1) = true) := hk
    have HS : Hid (chkN s i 128 143 k = betB s (i + k) (loK 128 k) (hiK 143 k)) := chk_step s i _ _ k hk1 hk
    have B := between_any s (i + k) (loK 128 k) (hiK 143 k) (loK_nn _ _ (by omega))
    rw [Int.natCast_add] at B
    clear hk
    by_cases hle : k ≤ 3
    · by_cases hb : betB s (i + k) (loK 128 k) (hiK 143 k) = true
      · have HS2 : Hid (chkN s i 128 143 k = true) := HS.out.trans hb
        rw [hb] at B
        clear hb HS HK
        go_wp2_with (go_at_call 240; refine (B _).mono ?_; rintro e w' ⟨rfl, hw⟩; obtain rfl := hw.symm)
        go_roundw
        case rel => exact ⟨by first | trivial | rfl, k + 1, by omega, by omega, by rw [loK_ge _ _ hk1], by rw [hiK_ge _ _ hk1], by go_num, by rw [Nat.add_sub_cancel]; exact HS2.out⟩
        case measure => simp [intOf]; omega
      · have hb' : betB s (i + k) (loK 128 k) (hiK 143 k) = false := by simpa using hb
        have HB : Hid (chkN s i 128 143 3 = false) := chk_false s i _ _ k (HS.out.trans hb') 3 hle
        rw [hb'] at B
        clear hb hb' HS HK
        go_wp2_with (go_at_call 240; refine (B _).mono ?_; rintro e w' ⟨rfl, rfl⟩)
        go_ret
        refine ⟨ret_int ?_, rfl⟩
        rw [← HR.out, HB.out]; rfl
    · have hk3 : k = 3 + 1 := by omega
      subst hk3
      go_wp2
      go_ret
      refine ⟨ret_int ?_, rfl⟩
      have := HK.out
      rw [Nat.add_sub_cancel] at this
      rw [← HR.out, if_pos this]
theorem rune_any (s : ByteArray) (i : Nat) (hs : s.size ≤ 140737488355328) (w : World) :
  Calls Tryz.prog 227 #[.string s, .int .i64 i] w fun e w' => e = .returned (.int .i64 (runeL ((bytesI s).drop i))) ∧ w' = w := by
 have e : runeL ((bytesI s).drop i) = runeOf (bt (bytesI s) i) (bt (bytesI s) (i + 1)) (bt (bytesI s) (i + 2)) (bt (bytesI s) (i + 3)) := by
  unfold runeL; rw [bt_drop, bt_drop, bt_drop, bt_drop]; rfl
 by_cases hi : i < s.size
 ·have hx := bytesI_get s i hi
  have hlt : s[i].toNat < 256 := s[i].toNat_lt
  obtain ⟨x, hxx⟩ : ∃ x : Nat, s[i].toNat = x := ⟨_, rfl⟩
  rw [hx, hxx] at e
  rw [hxx] at hlt
  have fin : ∀ (lo hi : Int) (more : Nat), (more = 1 ∨ more = 2 ∨ more = 3) → loB x = lo → hiB x = hi → (more = 1 → 194 ≤ x ∧ x ≤ 223) → (more = 2 → 224 ≤ x ∧ x ≤ 239) → (more = 3 → 240 ≤ x ∧ x ≤ 244) →
    (if chkN s i lo hi more = true then ((more + 1 : Nat) : Int) else 0) = ((runeL ((bytesI s).drop i) : Nat) : Int) := by
   intro lo hi more hm hlo hhi m1 m2 m3
   have cast : ∀ (p : Prop) [Decidable p] (m : Nat), (((if p then m else 0 : Nat)) : Int) = if p then (m : Int) else 0 := by intro p _ m; split <;> rfl
   rw [e]
   rcases hm with rfl | rfl | rfl
   ·have := m1 rfl
    have hl : lo = 128 := by rw [← hlo]; unfold loB; rw [if_neg (by omega), if_neg (by omega)]
    have hh : hi = 191 := by rw [← hhi]; unfold hiB; rw [if_neg (by omega), if_neg (by omega)]
    have r : ∀ b1 b2 b3 : Int, runeOf x b1 b2 b3 = if 128 ≤ b1 ∧ b1 ≤ 191 then 2 else 0 := by
     intro b1 b2 b3; unfold runeOf; rw [if_neg (by omega), if_neg (by omega), if_pos (by omega)]
    rw [r, cast]
    simp [chkN, betB, loK, hiK, hl, hh]
   ·have := m2 rfl
    have r : ∀ b1 b2 b3 : Int, runeOf x b1 b2 b3 = if (lo ≤ b1 ∧ b1 ≤ hi) ∧ (128 ≤ b2 ∧ b2 ≤ 191) then 3 else 0 := by
     intro b1 b2 b3; unfold runeOf; rw [if_neg (by omega), if_neg (by omega), if_neg (by omega), if_pos (by omega), hlo, hhi]
    rw [r, cast]
    simp [chkN, betB, loK, hiK]
   ·have := m3 rfl
    have r : ∀ b1 b2 b3 : Int, runeOf x b1 b2 b3 = if (lo ≤ b1 ∧ b1 ≤ hi) ∧ (128 ≤ b2 ∧ b2 ≤ 191) ∧ (128 ≤ b3 ∧ b3 ≤ 191) then 4 else 0 := by
     intro b1 b2 b3; unfold runeOf; rw [if_neg (by omega), if_neg (by omega), if_neg (by omega), if_neg (by omega), if_pos (by omega), hlo, hhi]
    rw [r, cast]
    simp [chkN, betB, loK, hiK, and_assoc]
  by_cases q0 : x < 128
  ·have r : runeL ((bytesI s).drop i) = 1 := by rw [e]; unfold runeOf; rw [if_neg (by omega), if_pos (by omega)]
   rw [r]; exact rune_one s i hi (by rw [hxx]; omega) w
  by_cases q1 : x ≤ 193 ∨ 245 ≤ x
  ·have r : runeL ((bytesI s).drop i) = 0 := by rw [e]; unfold runeOf; rw [if_neg (by omega), if_neg (by omega), if_neg (by omega), if_neg (by omega), if_neg (by omega)]
   rw [r]; exact rune_bad s i hi (by rw [hxx]; omega) w
  rcases (by omega : (194 ≤ x ∧ x ≤ 223) ∨ x = 224 ∨ (225 ≤ x ∧ x ≤ 236) ∨ x = 237 ∨ (238 ≤ x ∧ x ≤ 239) ∨ x = 240 ∨ (241 ≤ x ∧ x ≤ 243) ∨ x = 244) with h | h | h | h | h | h | h | h
  ·rw [← fin 128 191 1 (by omega) (by unfold loB; rw [if_neg (by omega), if_neg (by omega)]) (by unfold hiB; rw [if_neg (by omega), if_neg (by omega)]) (by omega) (by omega) (by omega)]
   exact rune_c194 s i hs hi (by rw [hxx]; omega) (by rw [hxx]; omega) w
  ·rw [← fin 160 191 2 (by omega) (by rw [h]; rfl) (by rw [h]; rfl) (by omega) (by omega) (by omega)]
   exact rune_c224 s i hs hi (by rw [hxx]; omega) (by rw [hxx]; omega) w
  ·rw [← fin 128 191 2 (by omega) (by unfold loB; rw [if_neg (by omega), if_neg (by omega)]) (by unfold hiB; rw [if_neg (by omega), if_neg (by omega)]) (by omega) (by omega) (by omega)]
   exact rune_c225 s i hs hi (by rw [hxx]; omega) (by rw [hxx]; omega) w
  ·rw [← fin 128 159 2 (by omega) (by rw [h]; rfl) (by rw [h]; rfl) (by omega) (by omega) (by omega)]
   exact rune_c237 s i hs hi (by rw [hxx]; omega) (by rw [hxx]; omega) w
  ·rw [← fin 128 191 2 (by omega) (by unfold loB; rw [if_neg (by omega), if_neg (by omega)]) (by unfold hiB; rw [if_neg (by omega), if_neg (by omega)]) (by omega) (by omega) (by omega)]
   exact rune_c238 s i hs hi (by rw [hxx]; omega) (by rw [hxx]; omega) w
  ·rw [← fin 144 191 3 (by omega) (by rw [h]; rfl) (by rw [h]; rfl) (by omega) (by omega) (by omega)]
   exact rune_c240 s i hs hi (by rw [hxx]; omega) (by rw [hxx]; omega) w
  ·rw [← fin 128 191 3 (by omega) (by unfold loB; rw [if_neg (by omega), if_neg (by omega)]) (by unfold hiB; rw [if_neg (by omega), if_neg (by omega)]) (by omega) (by omega) (by omega)]
   exact rune_c241 s i hs hi (by rw [hxx]; omega) (by rw [hxx]; omega) w
  ·rw [← fin 128 143 3 (by omega) (by rw [h]; rfl) (by rw [h]; rfl) (by omega) (by omega) (by omega)]
   exact rune_c244 s i hs hi (by rw [hxx]; omega) (by rw [hxx]; omega) w
 ·have hx := bytesI_out s i (by omega)
  have r : runeL ((bytesI s).drop i) = 0 := by rw [e, hx]; rfl
  rw [r]; exact rune_out s i (by omega) w
def badL (K : List Int) : Int := if endL K < K.length then (endL K : Int) else -1
theorem bad_any (s : ByteArray) (hs : s.size ≤ 140737488355328) (w : World) :
  Calls Tryz.prog 194 #[.string s] w fun e w' => e = .returned (.int .i64 (badL (bytesI s))) ∧ w' = w := by
 have hl := bytesI_length s
 go_enter Tryz.func194, Tryz.ntmps194
 go_wp2
 go_loop [3] (fun a => ∃ k : Nat, a = .int .i64 k ∧ k ≤ s.size ∧ endL (bytesI s) = k + endL ((bytesI s).drop k)) (fun a => s.size - (intOf a).toNat)
 case atStart => exact ⟨0, rfl, by omega, by simp⟩
 case round =>
  obtain ⟨k, rfl, hk, hE⟩ := hrel
  have HE : Hid (endL (bytesI s) = k + endL ((bytesI s).drop k)) := hE
  clear hE
  by_cases hlt : k < s.size
  ·have R := rune_any s k hs w
   have hle := rune_le ((bytesI s).drop k)
   rw [List.length_drop, hl] at hle
   by_cases hr : runeL ((bytesI s).drop k) = 0
   ·have HZ : Hid (badL (bytesI s) = k) := by
     show badL (bytesI s) = k
     have : endL (bytesI s) = k := by rw [HE.out, endL_zero _ hr]; omega
     unfold badL; rw [this, if_pos (by omega)]
    rw [hr] at R
    clear hr HE hle
    go_wp2_with (go_at_call 227; refine R.mono ?_; rintro e w' ⟨rfl, hw⟩; obtain rfl := hw.symm)
    go_ret
    exact ⟨ret_int HZ.out.symm, rfl⟩
   ·have HS : Hid (endL (bytesI s) = k + (runeL ((bytesI s).drop k) + endL (((bytesI s).drop k).drop (runeL ((bytesI s).drop k))))) := by
     show endL (bytesI s) = _
     rw [HE.out, endL_step _ (by omega)]
    obtain ⟨r, hrr⟩ : ∃ r, runeL ((bytesI s).drop k) = r := ⟨_, rfl⟩
    rw [hrr] at R hle hr HS
    have hne : ((r : Int) == 0) = false := by simp; omega
    clear hrr HE
    go_wp2_with (go_at_call 227; refine R.mono ?_; rintro e w' ⟨rfl, hw⟩; obtain rfl := hw.symm)
    go_round
    case rel => exact ⟨k + r, by go_num, by omega, by rw [HS.out, List.drop_drop]; omega⟩
    case measure => simp [intOf]; omega
  ·have HZ : Hid (badL (bytesI s) = -1) := by
    show badL (bytesI s) = -1
    have : endL (bytesI s) = k := by rw [HE.out, List.drop_of_length_le (by omega), endL_zero [] rune_nil]; omega
    unfold badL; rw [this, if_neg (by omega)]
   clear HE
   go_wp2
   go_ret
   exact ⟨ret_int HZ.out.symm, rfl⟩
end Go.Proofs.YtnffedmcblbkoaaGreatDoor
namespace Go.Proofs.YtnffedmcblbkoaaGreatDoor
open Go.Shelf Go.RowKit
set_option maxRecDepth 100000
theorem bad_valid (s : ByteArray) : (badL (bytesI s) = -1 ∧ Lib.validD s.data.toList = true) ∨ (0 ≤ badL (bytesI s) ∧ badL (bytesI s) ≤ s.size ∧ Lib.validD s.data.toList = false) := by
 have h1 := valid_iff s
 have h2 := endL_le _ (bytesI s) (Nat.le_refl _)
 rw [bytesI_length] at h2
 unfold badL
 rw [bytesI_length]
 by_cases h : endL (bytesI s) < s.size
 ·refine Or.inr ?_
  rw [if_pos h]
  refine ⟨by omega, by omega, ?_⟩
  cases hv : Lib.validD s.data.toList with
  | false => rfl
  | true => have := h1.1 hv; omega
 ·rw [if_neg h]
  exact Or.inl ⟨rfl, h1.2 (by omega)⟩
theorem rPlain_any (s : ByteArray) (most least : Int) (w : World) (hs : s.size ≤ 140737488355328) :
  Calls Tryz.prog 140 #[.string s, .int .i64 most, .int .u8 least] w fun e w' => e = .returned (.bool (plainB s most least)) ∧ w' = w := by
 have VA := bad_any s hs w
 have HV := bad_valid s
 unfold plainB
 generalize Lib.validD s.data.toList = vd at HV ⊢
 generalize badL (bytesI s) = b at VA HV
 by_cases h1 : s.size < 1
 ·have h1' : decide (1 ≤ s.size) = false := decide_eq_false (by omega)
  have h1z : s.size = 0 := by omega
  clear VA HV
  go_enter Tryz.func140, Tryz.ntmps140
  go_wp2
  go_ret
  exact ⟨by simp [h1'], rfl⟩
 have h1' : decide (1 ≤ s.size) = true := decide_eq_true (by omega)
 have h1i : (1 : Int) ≤ (s.size : Int) := by omega
 by_cases h2 : most < (s.size : Int)
 ·have h2' : decide ((s.size : Int) ≤ most) = false := by simp; omega
  clear VA HV
  go_enter Tryz.func140, Tryz.ntmps140
  go_wp2
  go_ret
  exact ⟨by simp [h2'], rfl⟩
 have h2' : decide ((s.size : Int) ≤ most) = true := by simp; omega
 rcases HV with ⟨rfl, rfl⟩ | ⟨hb1, hb2, rfl⟩
 ·rw [h1', h2']
  simp only [Bool.true_and]
  obtain ⟨r, hr⟩ : ∃ r, (bytesI s).all (okB least) = r := ⟨_, rfl⟩
  rw [hr]
  have hl := bytesI_length s
  clear h1' h2'
  go_enter Tryz.func140, Tryz.ntmps140
  go_wp2_with (go_at_call 194; refine VA.mono ?_; rintro e w' ⟨rfl, hw⟩; obtain rfl := hw.symm; clear hw)
  go_loop [7] (fun a => ∃ k : Nat, a = .int .i64 k ∧ k ≤ s.size ∧ r = ((bytesI s).drop k).all (okB least)) (fun a => s.size - (intOf a).toNat)
  case atStart => exact ⟨0, rfl, by omega, by simp [hr]⟩
  case round =>
   obtain ⟨k, rfl, hk, ho⟩ := hrel
   have HO : Hid (r = ((bytesI s).drop k).all (okB least)) := ho
   clear ho hr
   by_cases hlt : k < s.size
   ·have st := all_step (f := okB least) (K := bytesI s) (k := k) (by omega)
    have hx := bytesI_at s k hlt
    obtain ⟨x, hxx⟩ : ∃ x : Int, (s[k].toNat : Int) = x := ⟨_, rfl⟩
    rw [hx, hxx] at st
    have HS : Hid (r = (okB least x && ((bytesI s).drop (k + 1)).all (okB least))) := by show r = _; rw [HO.out, st]
    clear st hx HO
    by_cases h3 : x < least
    ·have FIN : Hid (r = false) := by show r = false; rw [HS.out]; simp [okB]; intro h; omega
     go_wp2
     go_ret
     exact ⟨ret_bool FIN.out.symm, rfl⟩
    ·by_cases h4 : x = 127
     ·have FIN : Hid (r = false) := by show r = false; rw [HS.out]; simp [okB, h4]
      go_wp2
      go_ret
      exact ⟨ret_bool FIN.out.symm, rfl⟩
     ·have FIN : Hid (r = ((bytesI s).drop (k + 1)).all (okB least)) := by show r = _; rw [HS.out]; simp [okB, h4]; intro _; omega
      have h4' : (x == 127) = false := by simpa using h4
      go_wp2
      go_round
      case rel => exact ⟨k + 1, by go_num, by omega, FIN.out⟩
      case measure => simp [intOf]; omega
   ·have FIN : Hid (r = true) := by show r = true; rw [HO.out, List.drop_of_length_le (by omega)]; rfl
    go_wp2
    go_ret
    exact ⟨ret_bool FIN.out.symm, rfl⟩
 ·go_enter Tryz.func140, Tryz.ntmps140
  go_wp2_with (go_at_call 194; refine VA.mono ?_; rintro e w' ⟨rfl, hw⟩; obtain rfl := hw.symm; clear hw)
  go_ret
  exact ⟨by simp, rfl⟩
theorem rValue_any (k : Int) (s : ByteArray) (n : Int) (w : World) (hs : s.size ≤ 140737488355328) :
  Calls Tryz.prog 196 #[.agg #[.int .i64 k, .string s, .int .i64 n]] w fun e w' => e = .returned (.bool (valB k s n)) ∧ Below w.heap.size w w' := by
 have B1 : ∀ o : Obj, Below w.heap.size w (w.alloc o) := fun o => (Below.refl _ _).alloc (Nat.le_refl _) o
 have VA := fun o => bad_any s hs (w.alloc o)
 have HV := bad_valid s
 have ES := empty_str s
 unfold valB
 generalize Lib.validD s.data.toList = vd at HV ⊢
 generalize badL (bytesI s) = b at VA HV
 by_cases k0 : k = 0
 ·subst k0
  rw [if_pos rfl]
  by_cases n0 : n = 0
  ·subst n0
   by_cases h2 : s.size ≤ 200
   ·have h2i : (s.size : Int) ≤ 200 := by omega
    rcases HV with ⟨rfl, rfl⟩ | ⟨hb1, hb2, rfl⟩
    ·go_enter Tryz.func196, Tryz.ntmps196
     go_wp2_with (go_at_call 194; refine (VA _).mono ?_; rintro e w' ⟨rfl, hw⟩; obtain rfl := hw.symm; clear hw)
     go_ret
     exact ⟨ret_bool (by simp [h2]), B1 _⟩
    ·have hb3 : ¬ b < 0 := by omega
     go_enter Tryz.func196, Tryz.ntmps196
     go_wp2_with (go_at_call 194; refine (VA _).mono ?_; rintro e w' ⟨rfl, hw⟩; obtain rfl := hw.symm; clear hw)
     go_ret
     exact ⟨ret_bool (by simp; omega), B1 _⟩
   ·have h2i : ¬ (s.size : Int) ≤ 200 := by omega
    clear VA HV
    go_enter Tryz.func196, Tryz.ntmps196
    go_wp2
    go_ret
    exact ⟨ret_bool (by simp), B1 _⟩
  ·have n0' : (n == 0) = false := by simpa using n0
   clear VA HV
   go_enter Tryz.func196, Tryz.ntmps196
   go_wp2
   go_ret
   exact ⟨ret_bool (by simp [n0]), B1 _⟩
 rw [if_neg k0]
 have k0' : (k == 0) = false := by simpa using k0
 clear VA HV
 by_cases k1 : k = 1
 ·subst k1
  rw [if_pos rfl]
  by_cases h : s.size = 0
  ·have ES2 : (s.toList == ([] : List UInt8)) = true := by rw [ES]; simp [h]
   go_enter Tryz.func196, Tryz.ntmps196
   go_wp2
   go_ret
   exact ⟨ret_bool (by simp [h]), B1 _⟩
  ·have ES2 : (s.toList == ([] : List UInt8)) = false := by rw [ES]; exact decide_eq_false h
   go_enter Tryz.func196, Tryz.ntmps196
   go_wp2
   go_ret
   exact ⟨ret_bool (by rw [decide_eq_false h]), B1 _⟩
 rw [if_neg k1]
 have k1' : (k == 1) = false := by simpa using k1
 by_cases k2 : k = 2
 ·subst k2
  rw [if_pos rfl]
  by_cases h : s.size = 0
  ·have ES2 : (s.toList == ([] : List UInt8)) = true := by rw [ES]; simp [h]
   by_cases n0 : n < 0
   ·have n1 : ¬ 0 ≤ n := by omega
    go_enter Tryz.func196, Tryz.ntmps196
    go_wp2
    go_ret
    exact ⟨ret_bool (by simp; omega), B1 _⟩
   ·have n1 : 0 ≤ n := by omega
    by_cases n2 : n ≤ 1
    ·go_enter Tryz.func196, Tryz.ntmps196
     go_wp2
     go_ret
     exact ⟨ret_bool (by simp; omega), B1 _⟩
    ·go_enter Tryz.func196, Tryz.ntmps196
     go_wp2
     go_ret
     exact ⟨ret_bool (by simp; omega), B1 _⟩
  ·have ES2 : (s.toList == ([] : List UInt8)) = false := by rw [ES]; exact decide_eq_false h
   go_enter Tryz.func196, Tryz.ntmps196
   go_wp2
   go_ret
   exact ⟨ret_bool (by rw [decide_eq_false h]; rfl), B1 _⟩
 ·rw [if_neg k2]
  have k2' : (k == 2) = false := by simpa using k2
  go_enter Tryz.func196, Tryz.ntmps196
  go_wp2
  go_ret
  exact ⟨rfl, B1 _⟩
theorem keyF_iff (x : Int) (h0 : 0 ≤ x) (h1 : x < 256) : inL keyF x = (decide (97 ≤ x) && decide (x ≤ 122)) := by
 have key : ∀ n : Fin 256, inL keyF ((n.val : Nat) : Int) = (decide (97 ≤ ((n.val : Nat) : Int)) && decide (((n.val : Nat) : Int) ≤ 122)) := by decide +kernel
 have := key ⟨x.toNat, by omega⟩
 have e : ((x.toNat : Nat) : Int) = x := by omega
 simp only [e] at this
 exact this
theorem keyR_iff (x : Int) (h0 : 0 ≤ x) (h1 : x < 256) : (inL keyR x = true ∧ ((97 ≤ x ∧ x ≤ 122) ∨ (x < 97 ∧ 48 ≤ x ∧ x ≤ 57) ∨ x = 46 ∨ x = 95 ∨ x = 45)) ∨ (inL keyR x = false ∧ ((122 < x) ∨ (57 < x ∧ x < 97 ∧ x ≠ 95) ∨ (x < 48 ∧ x ≠ 46 ∧ x ≠ 45))) := by
 have key : ∀ n : Fin 256, inL keyR ((n.val : Nat) : Int) = ((decide (97 ≤ ((n.val : Nat) : Int)) && decide (((n.val : Nat) : Int) ≤ 122)) || (decide (48 ≤ ((n.val : Nat) : Int)) && decide (((n.val : Nat) : Int) ≤ 57)) || decide (((n.val : Nat) : Int) = 46) || decide (((n.val : Nat) : Int) = 95) || decide (((n.val : Nat) : Int) = 45)) := by decide +kernel
 have := key ⟨x.toNat, by omega⟩
 have e : ((x.toNat : Nat) : Int) = x := by omega
 simp only [e] at this
 rw [this]
 by_cases a1 : 97 ≤ x <;> by_cases a2 : x ≤ 122 <;> by_cases a3 : 48 ≤ x <;> by_cases a4 : x ≤ 57 <;> by_cases a5 : x = 46 <;> by_cases a6 : x = 95 <;> by_cases a7 : x = 45 <;> simp [a1, a2, a3, a4, a5, a6, a7] <;> omega
theorem rKey_any (s : ByteArray) (w : World) (hs : s.size ≤ 140737488355328) :
  Calls Tryz.prog 195 #[.string s] w fun e w' => e = .returned (.bool (keyB s)) ∧ w' = w := by
 unfold keyB
 by_cases h1 : s.size < 1
 ·have h1' : decide (1 ≤ s.size) = false := decide_eq_false (by omega)
  have h1z : s.size = 0 := by omega
  go_enter Tryz.func195, Tryz.ntmps195
  go_wp2
  go_ret
  exact ⟨by simp [h1'], rfl⟩
 have h1' : decide (1 ≤ s.size) = true := decide_eq_true (by omega)
 have h1i : (1 : Int) ≤ (s.size : Int) := by omega
 by_cases h2 : 40 < s.size
 ·have h2' : decide (s.size ≤ 40) = false := decide_eq_false (by omega)
  have h2i : (40 : Int) < (s.size : Int) := by omega
  go_enter Tryz.func195, Tryz.ntmps195
  go_wp2
  go_ret
  exact ⟨by simp [h2'], rfl⟩
 have h2' : decide (s.size ≤ 40) = true := decide_eq_true (by omega)
 have h2i : (s.size : Int) ≤ 40 := by omega
 have hl := bytesI_length s
 have hall : ((bytesI s).all (inL keyR)) = (inL keyR (s[0].toNat : Int) && ((bytesI s).drop 1).all (inL keyR)) := by
  have := all_step (f := inL keyR) (K := bytesI s) (k := 0) (by omega)
  rw [bytesI_at s 0 (by omega)] at this
  simpa using this
 rw [h1', h2', bytesI_get s 0 (by omega)]
 simp only [Bool.true_and]
 have hb0 : (0 : Int) ≤ (s[0].toNat : Int) ∧ (s[0].toNat : Int) < 256 := by have := s[0].toNat_lt; omega
 obtain ⟨x, hx⟩ : ∃ x : Int, (s[0].toNat : Int) = x := ⟨_, rfl⟩
 rw [hx] at hall hb0 ⊢
 rw [keyF_iff x hb0.1 hb0.2]
 have kr := keyR_iff x hb0.1 hb0.2
 clear h1' h2' hb0
 by_cases h3 : x < 97
 ·have e1 : decide (97 ≤ x) = false := decide_eq_false (by omega)
  clear kr hall
  go_enter Tryz.func195, Tryz.ntmps195
  go_wp2
  go_ret
  exact ⟨by first | rfl | (rw [e1]; rfl), rfl⟩
 by_cases h4 : 122 < x
 ·have e1 : decide (x ≤ 122) = false := decide_eq_false (by omega)
  clear kr hall
  go_enter Tryz.func195, Tryz.ntmps195
  go_wp2
  go_ret
  exact ⟨by first | rfl | (rw [e1]; simp), rfl⟩
 have e0 : inL keyR x = true := by
  rcases kr with ⟨h, _⟩ | ⟨_, h⟩
  ·exact h
  ·omega
 rw [decide_eq_true (show 97 ≤ x by omega), decide_eq_true (show x ≤ 122 by omega)]
 rw [e0, Bool.true_and] at hall
 simp only [Bool.true_and]
 rw [← hall]
 obtain ⟨r, hr⟩ : ∃ r, (bytesI s).all (inL keyR) = r := ⟨_, rfl⟩
 rw [hr]
 clear kr e0 hall
 go_enter Tryz.func195, Tryz.ntmps195
 go_wp2
 clear hx
 go_loop [3] (fun a => ∃ k : Nat, a = .int .i64 k ∧ k ≤ s.size ∧ r = ((bytesI s).drop k).all (inL keyR)) (fun a => s.size - (intOf a).toNat)
 case atStart => exact ⟨0, rfl, by omega, by simp [hr]⟩
 case round =>
  obtain ⟨k, rfl, hk, ho⟩ := hrel
  have HO : Hid (r = ((bytesI s).drop k).all (inL keyR)) := ho
  clear ho hr h3 h4
  by_cases hlt : k < s.size
  ·have st := all_step (f := inL keyR) (K := bytesI s) (k := k) (by omega)
   have hx := bytesI_at s k hlt
   have hb : (0 : Int) ≤ (s[k].toNat : Int) ∧ (s[k].toNat : Int) < 256 := by have := s[k].toNat_lt; omega
   obtain ⟨y, hyy⟩ : ∃ y : Int, (s[k].toNat : Int) = y := ⟨_, rfl⟩
   rw [hyy] at hb
   rw [hx, hyy] at st
   have HS : Hid (r = (inL keyR y && ((bytesI s).drop (k + 1)).all (inL keyR))) := by show r = _; rw [HO.out, st]
   have kr := keyR_iff y hb.1 hb.2
   clear st hx HO hb
   rcases kr with ⟨e2, kr⟩ | ⟨e2, kr⟩
   ·have FIN : Hid (r = ((bytesI s).drop (k + 1)).all (inL keyR)) := by show r = _; rw [HS.out, e2]; rfl
    clear HS e2
    rcases kr with ⟨a1, a2⟩ | ⟨a1, a2, a3⟩ | a1 | a1 | a1
    ·go_wp2
     go_round
     case rel => exact ⟨k + 1, by go_num, by omega, FIN.out⟩
     case measure => simp [intOf]; omega
    ·have b1 : ¬ 97 ≤ y := by omega
     go_wp2
     go_round
     case rel => exact ⟨k + 1, by go_num, by omega, FIN.out⟩
     case measure => simp [intOf]; omega
    ·rw [a1] at hyy
     clear a1 
     go_wp2
     go_round
     case rel => exact ⟨k + 1, by go_num, by omega, FIN.out⟩
     case measure => simp [intOf]; omega
    ·rw [a1] at hyy
     clear a1 
     go_wp2
     go_round
     case rel => exact ⟨k + 1, by go_num, by omega, FIN.out⟩
     case measure => simp [intOf]; omega
    ·rw [a1] at hyy
     clear a1 
     go_wp2
     go_round
     case rel => exact ⟨k + 1, by go_num, by omega, FIN.out⟩
     case measure => simp [intOf]; omega
   ·have FIN : Hid (r = false) := by show r = _; rw [HS.out, e2]; rfl
    clear HS e2
    rcases kr with a1 | ⟨a1, a2, a3⟩ | ⟨a1, a2, a3⟩
    ·have b1 : 97 ≤ y := by omega
     have b2 : ¬ y ≤ 122 := by omega
     have b3 : 48 ≤ y := by omega
     have b4 : ¬ y ≤ 57 := by omega
     have c1 : (y == 46) = false := by simp; omega
     have c2 : (y == 95) = false := by simp; omega
     have c3 : (y == 45) = false := by simp; omega
     clear a1
     go_wp2
     go_ret
     exact ⟨ret_bool FIN.out.symm, rfl⟩
    ·have b1 : ¬ 97 ≤ y := by omega
     have b3 : 48 ≤ y := by omega
     have b4 : ¬ y ≤ 57 := by omega
     have c1 : (y == 46) = false := by simp; omega
     have c2 : (y == 95) = false := by simp; omega
     have c3 : (y == 45) = false := by simp; omega
     clear a1 a2 a3
     go_wp2
     go_ret
     exact ⟨ret_bool FIN.out.symm, rfl⟩
    ·have b1 : ¬ 97 ≤ y := by omega
     have b3 : ¬ 48 ≤ y := by omega
     have c1 : (y == 46) = false := by simp; omega
     have c2 : (y == 95) = false := by simp; omega
     have c3 : (y == 45) = false := by simp; omega
     clear a1 a2 a3
     go_wp2
     go_ret
     exact ⟨ret_bool FIN.out.symm, rfl⟩
  ·have FIN : Hid (r = true) := by show r = true; rw [HO.out, List.drop_of_length_le (by omega)]; rfl
   go_wp2
   go_ret
   exact ⟨ret_bool FIN.out.symm, rfl⟩
end Go.Proofs.YtnffedmcblbkoaaGreatDoor
namespace Go.Proofs.YtnffedmcblbkoaaGreatDoor
open Go.RowKit
set_option maxRecDepth 100000
theorem rise_all {α : Type} (c : α → α → Int) : ∀ X : List α, (∀ i (h : i + 1 < X.length), c (X[i]'(by omega)) X[i + 1] < 0) → riseB c X = true
 | [], _ => rfl
 | [_], _ => rfl
 | a :: b :: r, h => by
  have h0 := h 0 (by simp)
  have := rise_all c (b :: r) (fun i hi => h (i + 1) (by simpa using hi))
  unfold riseB
  rw [this]
  simpa using h0
theorem rise_not {α : Type} (c : α → α → Int) : ∀ (X : List α) (i : Nat) (h : i + 1 < X.length), ¬ c (X[i]'(by omega)) X[i + 1] < 0 → riseB c X = false
 | [], i, h, _ => by simp at h
 | [_], i, h, _ => by simp at h
 | a :: b :: r, 0, h, hn => by
  unfold riseB
  have : decide (c a b < 0) = false := decide_eq_false hn
  rw [this]; rfl
 | a :: b :: r, i + 1, h, hn => by
  unfold riseB
  rw [rise_not c (b :: r) i (by simpa using h) hn]
  simp
theorem all_yes {α : Type} (f : α → Bool) (X : List α) (h : ∀ i (hi : i < X.length), f X[i] = true) : X.all f = true := by
 rw [List.all_eq_true]
 intro x hx
 obtain ⟨i, hi, rfl⟩ := List.mem_iff_getElem.1 hx
 exact h i hi
theorem all_not {α : Type} (f : α → Bool) (X : List α) (i : Nat) (hi : i < X.length) (h : f X[i] = false) : X.all f = false := by
 cases hx : X.all f with
 | false => rfl
 | true => rw [List.all_eq_true.1 hx _ (List.getElem_mem hi)] at h; cases h
theorem list_yes {α : Type} (c : α → α → Int) (f : α → Bool) (X : List α) (h : ∀ i (hi : i < X.length), f X[i] = true ∧ (∀ hp : 0 < i, c (X[i - 1]'(by omega)) X[i] < 0)) : (riseB c X && X.all f) = true := by
 rw [all_yes f X (fun i hi => (h i hi).1), rise_all c X (fun i hi => (h (i + 1) hi).2 (by omega))]
 rfl
theorem list_no1 {α : Type} (c : α → α → Int) (f : α → Bool) (X : List α) (i : Nat) (hi : i < X.length) (h : f X[i] = false) : (riseB c X && X.all f) = false := by
 rw [all_not f X i hi h, Bool.and_false]
theorem list_no2 {α : Type} (c : α → α → Int) (f : α → Bool) (X : List α) (i : Nat) (hi : i < X.length) (hp : 0 < i) (h : ¬ c (X[i - 1]'(by omega)) X[i] < 0) : (riseB c X && X.all f) = false := by
 obtain ⟨j, rfl⟩ : ∃ j, i = j + 1 := ⟨i - 1, by omega⟩
 rw [rise_not c X j hi h, Bool.false_and]
end Go.Proofs.YtnffedmcblbkoaaGreatDoor
namespace Go.Proofs.YtnffedmcblbkoaaGreatDoor
open Go Go.RowKit
set_option maxRecDepth 100000
structure RlI {α : Type} (c : α → α → Int) (f : α → Bool) (X : List α) (w wr : World) (a : Sp) (p : Pl) (k : Nat) : Prop where
 ok : ∀ i (hi : i < X.length), i < k → f X[i] = true ∧ (∀ _ : 0 < i, c (X[i - 1]'(by omega)) X[i] < 0)
 bel : Below (w.heap.size + 1) (w.alloc (.cells (spC a p) 102)) wr
theorem RlI.below {α : Type} {c : α → α → Int} {f : α → Bool} {X : List α} {w wr : World} {a : Sp} {p : Pl} {k : Nat} (h : RlI c f X w wr a p k) : Below w.heap.size w wr :=
 ((Below.refl _ w).alloc (Nat.le_refl _) _).trans (h.bel.mono (by omega))
theorem RlI.drew {α : Type} {c : α → α → Int} {f : α → Bool} {X : List α} {w wr : World} {a : Sp} {p : Pl} {k : Nat} (h : RlI c f X w wr a p k) (q : Nat) : RlI c f X w (wr.drewN q) a p k :=
 ⟨h.ok, h.bel.trans ⟨rfl, rfl, rfl, Nat.le_refl _, fun _ _ => rfl⟩⟩
theorem RlI.next {α : Type} {c : α → α → Int} {f : α → Bool} {X : List α} {w wr : World} {a : Sp} {p : Pl} {k : Nat} (h : RlI c f X w wr a p k) (hk : k < X.length) (h1 : f X[k] = true) (h2 : ∀ _ : 0 < k, c (X[k - 1]'(by omega)) X[k] < 0) : RlI c f X w wr a p (k + 1) :=
 ⟨fun i hi hik => by
  by_cases e : i < k
  ·exact h.ok i hi e
  ·obtain rfl : i = k := by omega
   exact ⟨h1, h2⟩, h.bel⟩
theorem cmpI_lt (x y : Int) : cmpI x y < 0 ↔ x < y := by
 unfold cmpI
 split
 ·simp; omega
 ·split
  ·simp; omega
  ·simp; omega
set_option maxHeartbeats 2000000 in
theorem rLinks_any (a : Sp) (p : Pl) (w : World) (ha : SpAt w a p) :
  Calls Tryz.prog 141 #[spV a p] w fun e w' => e = .returned (.bool (linksB a.id a.links)) ∧ Below w.heap.size w w' := by
 obtain ⟨n, hn⟩ : ∃ n, a.links.length = n := ⟨_, rfl⟩
 have hsl := ha.sl
 rw [hn] at hsl
 have HX : Hid (HoldsV w p.la a.links.length (intsV .u64 a.links)) := ha.links
 have HN : Hid (a.links.length = n) := hn
 have HR : Hid (linksB a.id a.links = (decide (n ≤ 16) && (riseB cmpI a.links && a.links.all (linkB a.id)))) := by
  show linksB _ _ = _
  unfold linksB
  rw [hn, Bool.and_assoc]
 obtain ⟨R, hR⟩ : ∃ R, linksB a.id a.links = R := ⟨_, rfl⟩
 rw [hR] at HR ⊢
 have HB := fun w' (h : Below (w.heap.size + 1) (w.alloc (.cells (spC a p) 102)) w') => (@box1 w w' a p h)
 have HBX : Hid (∀ w', Below (w.heap.size + 1) (w.alloc (.cells (spC a p) 102)) w' → w'.cell? ⟨w.heap.size, 2, none⟩ = some (.int .u64 a.id) ∧ w'.cell? ⟨w.heap.size, 4, none⟩ = some (.slice p.la n p.lc)) := fun w' h => ⟨(HB w' h).2.2.1, by rw [← hn]; exact (HB w' h).2.2.2.2.1⟩
 have H0 : Hid (RlI cmpI (linkB a.id) a.links w (w.alloc (.cells (spC a p) 102)) a p 0) := ⟨fun i _ h => by omega, Below.refl _ _⟩
 clear ha hn hR HB
 unfold spC at H0
 unfold spV spC
 go_enter Tryz.func141, Tryz.ntmps141
 go_wp2
 go_loopw [3] (fun v wr => ∃ k : Nat, v = .int .i64 k ∧ k ≤ n ∧ Hid (RlI cmpI (linkB a.id) a.links w wr a p k)) (fun v _ => n - (intOf v).toNat)
 case atStart => exact ⟨0, rfl, by omega, H0⟩
 case round =>
  obtain ⟨k, rfl, hk, HI⟩ := hrel
  obtain ⟨c2, c4⟩ := HBX.out wr HI.out.bel
  by_cases hlt : k < n
  ·have hlt' : (k : Int) < (n : Int) := by omega
   have hkX : k < a.links.length := by rw [HN.out]; exact hlt
   obtain ⟨b1, o1, hla, hc1⟩ := (HX.out.below HI.out.below).plain (intsV_get (k := .u64) hkX)
   have cx := hc1 k _ (intsV_get (k := .u64) hkX)
   rw [hla] at c4
   obtain ⟨x, hx⟩ : ∃ x, a.links[k] = x := ⟨_, rfl⟩
   have N1 : Hid (linkB a.id x = false → R = false) := fun h => by rw [HR.out, list_no1 cmpI (linkB a.id) a.links k hkX (by rw [hx]; exact h), Bool.and_false]
   have N3 : Hid (linkB a.id x = true → (∀ hp : 0 < k, a.links[k - 1]'(by omega) < x) → RlI cmpI (linkB a.id) a.links w wr a p (k + 1)) := fun h1 h2 => HI.out.next hkX (by rw [hx]; exact h1) (fun hp => by rw [cmpI_lt, hx]; exact h2 hp)
   have BE : Hid (Below w.heap.size w wr) := HI.out.below
   by_cases h3 : x = 0
   ·have FIN : Hid (R = false) := N1.out (by simp [linkB, h3])
    rw [hx, h3] at cx
    clear N1 N3 hc1 hla h3 hx
    go_wp2
    go_quiet (fail)
    go_wp2
    go_ret
    exact ⟨ret_bool FIN.out.symm, BE.out.trans ⟨rfl, rfl, rfl, Nat.le_refl _, fun _ _ => rfl⟩⟩
   ·have h3' : (x == 0) = false := by simpa using h3
    by_cases h4 : x = a.id
    ·have FIN : Hid (R = false) := N1.out (by simp [linkB, h4])
     rw [hx] at cx
     rw [← h4] at c2
     have hxx : (x == x) = true := by simp
     clear N1 N3 hc1 hla h3 hx h4
     go_wp2
     go_quiet (fail)
     go_wp2
     go_ret
     exact ⟨ret_bool FIN.out.symm, BE.out.trans ⟨rfl, rfl, rfl, Nat.le_refl _, fun _ _ => rfl⟩⟩
    ·have h4' : (x == a.id) = false := by simpa using h4
     have hl : linkB a.id x = true := by simp [linkB, h3, h4]
     rw [hx] at cx
     by_cases h5 : k = 0
     ·have FIN : Hid (∀ q, Hid (RlI cmpI (linkB a.id) a.links w (wr.drewN q) a p (k + 1))) := fun q => (N3.out hl (fun hp => by omega)).drew q
      have hk0 : decide (0 < k) = false := decide_eq_false (by omega)
      have hk1 : ¬ 0 < k := by omega
      clear N1 N3 hc1 hla h3 hx h4 hl h5
      go_wp2
      go_quiet (fail)
      go_wp2
      go_roundw
      case rel => exact ⟨k + 1, by go_num, by omega, FIN.out nq⟩
      case measure => simp [intOf]; omega
     ·obtain ⟨j, rfl⟩ : ∃ j, k = j + 1 := ⟨k - 1, by omega⟩
      have cy := hc1 j _ (intsV_get (k := .u64) (by omega : j < a.links.length))
      obtain ⟨y, hy⟩ : ∃ y, a.links[j]'(by omega) = y := ⟨_, rfl⟩
      rw [hy] at cy
      have hj0 : (0 : Int) < ((j + 1 : Nat) : Int) := by omega
      have hjw : IntKind.i64.wrap (((j + 1 : Nat) : Int) - 1) = (j : Int) := by rw [IntKind.wrap_i64]; omega
      have hjn : (j : Int) < (n : Int) := by omega
      by_cases h6 : x ≤ y
      ·have FIN : Hid (R = false) := by
        show R = false
        rw [HR.out, list_no2 cmpI (linkB a.id) a.links (j + 1) hkX (by omega) (by rw [cmpI_lt, hx]; simp only [Nat.add_sub_cancel]; rw [hy]; omega), Bool.and_false]
       clear N1 N3 hc1 hla h3 hx hy h4 hl h5
       go_wp2
       go_quiet (fail)
       go_wp2
       go_ret
       exact ⟨ret_bool FIN.out.symm, BE.out.trans ⟨rfl, rfl, rfl, Nat.le_refl _, fun _ _ => rfl⟩⟩
      ·have FIN : Hid (∀ q, Hid (RlI cmpI (linkB a.id) a.links w (wr.drewN q) a p (j + 1 + 1))) := fun q => (N3.out hl (fun hp => by simp only [Nat.add_sub_cancel]; rw [hy]; omega)).drew q
       clear N1 N3 hc1 hla h3 hx hy h4 hl h5
       go_wp2
       go_quiet (fail)
       go_wp2
       go_roundw
       case rel => exact ⟨j + 1 + 1, by go_num, by omega, FIN.out nq⟩
       case measure => simp [intOf]; omega
  ·have hlt' : ¬ (k : Int) < (n : Int) := by omega
   have FIN : Hid (R = decide (n ≤ 16)) := by
    show R = _
    rw [HR.out, list_yes cmpI (linkB a.id) a.links (fun i hi => HI.out.ok i hi (by have := HN.out; omega)), Bool.and_true]
   have BE : Hid (Below w.heap.size w wr) := HI.out.below
   by_cases h16 : n ≤ 16
   ·have h16' : (n : Int) ≤ 16 := by omega
    go_wp2
    go_ret
    exact ⟨ret_bool (by rw [FIN.out, decide_eq_true h16]), BE.out⟩
   ·have h16' : ¬ (n : Int) ≤ 16 := by omega
    go_wp2
    go_ret
    exact ⟨ret_bool (by rw [FIN.out, decide_eq_false h16]), BE.out⟩
end Go.Proofs.YtnffedmcblbkoaaGreatDoor
