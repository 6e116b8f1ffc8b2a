/-
  The reference of layer 13: Check.
-/
import Derived.Test.YtmegmjhkjaejgaaSlC
namespace Go.Proofs.Ytmegmjhkjaejgaa.sk
open Go.RowKit
set_option maxRecDepth 100000

/-- The last bar's number, or -1. -/
def preI (l : List (Int × Int)) (k : Nat) : Int := if h : 0 < k ∧ k - 1 < l.length then l[k - 1].1 else -1
theorem preI_zero (l : List (Int × Int)) : preI l 0 = -1 := by unfold preI; rw [dif_neg (by omega)]
theorem preI_succ (l : List (Int × Int)) {k : Nat} (h : k < l.length) : preI l (k + 1) = l[k].1 := by
  unfold preI
  rw [dif_pos (by omega)]
  rfl
set_option maxHeartbeats 2000000 in
theorem refCheck_any (ad : Option Addr) (n c : Nat) (l : List (Int × Int)) (w : World) (hA : BarAt w ad n l) (hn : n ≤ maxLen) (hi : Bin l) :
    Calls Try.prog 18 #[.slice ad n c] w fun e w' => e = .returned (.int .i64 (chkE l)) ∧ ∃ q, w' = w.drewN q := by
  unfold maxLen at hn
  have HL : Hid (l.length = n) := hA.len
  go_enter Try.func18, Try.ntmps18
  go_wp2
  go_loopw [3] (fun t wr => ∃ (k q : Nat), t = .int .i64 k ∧ k ≤ n ∧ Hid (chkF (-1) l = chkF (preI l k) (l.drop k)) ∧ Hid (-1 ≤ preI l k) ∧ wr = w.drewN q) (fun t _ => n - (intOf t).toNat)
  case atStart => exact ⟨0, 0, rfl, by omega, by rw [preI_zero]; exact rfl, by rw [preI_zero]; exact Int.le_refl _, rfl⟩
  case round =>
    obtain ⟨k, q, rfl, hk, HC, HP, rfl⟩ := hrel
    by_cases hlt : k < n
    · obtain ⟨b, off, rfl, hc⟩ := hA.lies (by omega)
      have hkl : k < l.length := by rw [HL.out]; exact hlt
      obtain ⟨c0, c1⟩ := hc k hkl
      have hik := hi l[k] (List.getElem_mem hkl)
      have HD : Hid _ := chk_drop hkl HC.out
      have HN1 : Hid _ := preI_succ l hkl
      obtain ⟨x, hx⟩ : ∃ x, l[k] = x := ⟨_, rfl⟩
      rw [hx] at c0 c1 hik HD HN1
      obtain ⟨i, m⟩ := x
      simp only at c0 c1 hik HD HN1
      obtain ⟨i1, i2, m1, m2⟩ := hik
      clear hx HC
      by_cases hk0 : k = 0
      · subst hk0
        clear hc
        rw [preI_zero] at HD
        clear HP hkl
        simp only [Nat.zero_mul, Nat.add_zero] at c0 c1
        by_cases t1 : i < 0
        · have t1' : decide (i < 0) = true := by simpa using t1
          have HN : Hid (chkE l = 131) := chkE_no (by rw [HD.out]; simp [show i ≤ -1 by omega])
          clear HD HN1
          go_wp2
          go_quiet (fail)
          go_wp2
          go_ret
          exact ⟨ret_chk HN.out, q + nq, by first | rfl | rw [World.drewN_drewN]⟩
        · have t1' : decide (i < 0) = false := by simpa using t1
          by_cases t2 : 1920 ≤ i
          · have t2' : decide (1920 ≤ i) = true := by simpa using t2
            have HN : Hid (chkE l = 131) := chkE_no (by rw [HD.out]; simp [t2])
            clear HD HN1
            go_wp2
            go_quiet (fail)
            go_wp2
            go_ret
            exact ⟨ret_chk HN.out, q + nq, by first | rfl | rw [World.drewN_drewN]⟩
          · have t2' : decide (1920 ≤ i) = false := by simpa using t2
            by_cases t3 : m = 0
            · subst t3
              have HN : Hid (chkE l = 131) := chkE_no (by rw [HD.out]; simp)
              clear HD HN1
              go_wp2
              go_quiet (fail)
              go_wp2
              go_ret
              exact ⟨ret_chk HN.out, q + nq, by first | rfl | rw [World.drewN_drewN]⟩
            · have t3' : (m == 0) = false := by simpa using t3
              clear t3
              have HE : Hid (chkF (-1) l = chkF (preI l (0 + 1)) (l.drop (0 + 1))) := by
                have e1 : decide (i ≤ -1) = false := by simp; omega
                have := HD.out
                rw [e1, t2', t3'] at this
                rw [HN1.out]
                have h' : chkF (-1) l = chkF i (l.drop (0 + 1)) := by simpa using this
                exact h'
              have HE2 : Hid (-1 ≤ preI l (0 + 1)) := by
                have : -1 ≤ preI l (0 + 1) := by rw [HN1.out]; omega
                exact this
              clear HD HN1
              go_wp2
              go_quiet (fail)
              go_wp2
              go_roundw
              case rel => exact ⟨0 + 1, q + nq, by go_num, by omega, HE, HE2, by first | rfl | rw [World.drewN_drewN]⟩
              case measure => simp [intOf]; omega
      · obtain ⟨j, rfl⟩ : ∃ j, k = j + 1 := ⟨k - 1, by omega⟩
        have hjl : j < l.length := by omega
        have d0 := (hc j hjl).1
        have hp := preI_succ l hjl
        rw [hp] at HD HP
        obtain ⟨p, hpp⟩ : ∃ p, l[j].1 = p := ⟨_, rfl⟩
        rw [hpp] at HD HP d0
        have hp1 := HP.out
        have hk1 : decide ((0 : Int) < ((j + 1 : Nat) : Int)) = true := by simp
        clear hc hp hpp HP hk0
        by_cases t1 : i < 0
        · have t1' : decide (i < 0) = true := by simpa using t1
          have HN : Hid (chkE l = 131) := chkE_no (by rw [HD.out]; simp [show i ≤ p by omega])
          clear HD HN1
          go_wp2
          go_quiet (fail)
          go_wp2
          go_ret
          exact ⟨ret_chk HN.out, q + nq, by first | rfl | rw [World.drewN_drewN]⟩
        · have t1' : decide (i < 0) = false := by simpa using t1
          by_cases t2 : 1920 ≤ i
          · have t2' : decide (1920 ≤ i) = true := by simpa using t2
            have HN : Hid (chkE l = 131) := chkE_no (by rw [HD.out]; simp [t2])
            clear HD HN1
            go_wp2
            go_quiet (fail)
            go_wp2
            go_ret
            exact ⟨ret_chk HN.out, q + nq, by first | rfl | rw [World.drewN_drewN]⟩
          · have t2' : decide (1920 ≤ i) = false := by simpa using t2
            by_cases t3 : m = 0
            · subst t3
              have HN : Hid (chkE l = 131) := chkE_no (by rw [HD.out]; simp)
              clear HD HN1
              go_wp2
              go_quiet (fail)
              go_wp2
              go_ret
              exact ⟨ret_chk HN.out, q + nq, by first | rfl | rw [World.drewN_drewN]⟩
            · have t3' : (m == 0) = false := by simpa using t3
              clear t3
              by_cases t4 : i ≤ p
              · have t4' : decide (i ≤ p) = true := by simpa using t4
                have HN : Hid (chkE l = 131) := chkE_no (by rw [HD.out]; simp [t4])
                clear HD HN1
                go_wp2
                go_quiet (fail)
                go_wp2
                go_ret
                exact ⟨ret_chk HN.out, q + nq, by first | rfl | rw [World.drewN_drewN]⟩
              · have t4' : decide (i ≤ p) = false := by simpa using t4
                have HE : Hid (chkF (-1) l = chkF (preI l (j + 1 + 1)) (l.drop (j + 1 + 1))) := by
                  have e1 : decide (i ≤ p) = false := by simp; omega
                  have := HD.out
                  rw [e1, t2', t3'] at this
                  rw [HN1.out]
                  have h' : chkF (-1) l = chkF i (l.drop (j + 1 + 1)) := by simpa using this
                  exact h'
                have HE2 : Hid (-1 ≤ preI l (j + 1 + 1)) := by
                  have : -1 ≤ preI l (j + 1 + 1) := by rw [HN1.out]; omega
                  exact this
                clear HD HN1
                go_wp2
                go_quiet (fail)
                go_wp2
                go_roundw
                case rel => exact ⟨j + 1 + 1, q + nq, by go_num, by omega, HE, HE2, by first | rfl | rw [World.drewN_drewN]⟩
                case measure => simp [intOf]; omega
    · have HN : Hid (chkE l = 0) := chkE_ok (by rw [HC.out, List.drop_eq_nil_of_le (by rw [HL.out]; omega)]; rfl)
      go_wp2
      go_ret
      exact ⟨ret_chk HN.out, q, rfl⟩
end Go.Proofs.Ytmegmjhkjaejgaa.sk
