/-
  PD.
-/
import Derived.Test.YtbbonnbcenhkeaaGreatDoorPAq
import Derived.Test.YtbbonnbcenhkeaaGreatDoorVb
import Derived.Deep.RegionHeld3
import Derived.Deep.RegionLaw
namespace Go.Proofs.YtbbonnbcenhkeaaGreatDoor
open Go Go.RowKit
set_option maxRecDepth 100000

theorem until_any (b : Nat) (til to : Int) (w : World) (h : w.cell? ⟨b, 13 + 1, none⟩ = some (.int .i64 til)) :
    Calls Tryz.prog 97 #[.pointer (some ⟨b, 13, none⟩), .int .i64 to] w fun e w' => e = .returned (.int .i64 (min til to)) ∧ w' = w := by
  go_enter Tryz.func97, Tryz.ntmps97
  go_wp2
  all_goals go_ret
  all_goals refine ⟨?_, rfl⟩
  all_goals (show Ending.returned (Value.int _ _) = _; congr 2; try omega)
theorem outlasts_any (b1 b2 : Nat) (i1 t1 i2 t2 to : Int) (w : World) (h1 : w.cell? ⟨b1, 13 + 1, none⟩ = some (.int .i64 t1)) (h2 : w.cell? ⟨b2, 13 + 1, none⟩ = some (.int .i64 t2)) (h3 : w.cell? ⟨b1, 2, none⟩ = some (.int .u64 i1)) (h4 : w.cell? ⟨b2, 2, none⟩ = some (.int .u64 i2)) :
    Calls Tryz.prog 115 #[.pointer (some ⟨b1, 0, none⟩), .pointer (some ⟨b2, 0, none⟩), .int .i64 to] w fun e w' => e = .returned (.bool (decide (min t2 to < min t1 to) || (decide (min t1 to = min t2 to) && decide (i1 < i2)))) ∧ ∃ m, w' = w.drewN m := by
  have U1 := fun n => until_any b1 t1 to (w.drewN n) h1
  have U2 := fun n => until_any b2 t2 to (w.drewN n) h2
  obtain ⟨m1, hm1⟩ : ∃ m1, min t1 to = m1 := ⟨_, rfl⟩
  obtain ⟨m2, hm2⟩ : ∃ m2, min t2 to = m2 := ⟨_, rfl⟩
  rw [hm1] at U1 ⊢
  rw [hm2] at U2 ⊢
  clear hm1 hm2 h1 h2
  by_cases k1 : m2 < m1
  · have d1 : decide (m2 < m1) = true := decide_eq_true k1
    go_enter Tryz.func115, Tryz.ntmps115
    go_wp2
    go_quiet (first | (go_at_call 97; (with_reducible refine Calls.quiet_of_same (U1 _))) | (go_at_call 97; (with_reducible refine Calls.quiet_of_same (U2 _))))
    go_wp2
    go_quiet (fail)
    go_wp2
    go_ret
    exact ⟨by rw [d1]; rfl, _, World.drewN_drewN _ _ _⟩
  · have d1 : decide (m2 < m1) = false := decide_eq_false k1
    by_cases k2 : m1 = m2
    · have d2 : decide (m1 = m2) = true := decide_eq_true k2
      go_enter Tryz.func115, Tryz.ntmps115
      go_wp2
      go_quiet (first | (go_at_call 97; (with_reducible refine Calls.quiet_of_same (U1 _))) | (go_at_call 97; (with_reducible refine Calls.quiet_of_same (U2 _))))
      go_wp2
      go_quiet (fail)
      go_wp2
      go_ret
      exact ⟨by rw [d1, d2]; rfl, _, World.drewN_drewN _ _ _⟩
    · have d2 : decide (m1 = m2) = false := decide_eq_false k2
      have d3 : (m1 == m2) = false := by simp [k2]
      go_enter Tryz.func115, Tryz.ntmps115
      go_wp2
      go_quiet (first | (go_at_call 97; (with_reducible refine Calls.quiet_of_same (U1 _))) | (go_at_call 97; (with_reducible refine Calls.quiet_of_same (U2 _))))
      go_wp2
      go_quiet (fail)
      go_wp2
      go_ret
      exact ⟨by rw [d1, d2]; rfl, _, World.drewN_drewN _ _ _⟩
def ptrO (B : Nat → Nat) : Option Nat → Value
  | none => .pointer none
  | some c => .pointer (some ⟨B c, 0, none⟩)
/-- What awaited reads. -/
structure AwR (W : World) (b g : Nat) (kv : Value) (Cs : List Nat) (B : Nat → Nat) (fin : Nat → Nod) : Prop where
  head : W.cell? ⟨b, 13 + 2, none⟩ = some kv
  row : ∃ ad cap, kv = .slice ad Cs.length cap ∧ ∀ i (h : i < Cs.length), ad = some ⟨g, 0, none⟩ ∧ W.cell? ⟨g, i, none⟩ = some (.pointer (some ⟨B Cs[i], 0, none⟩))
  each : ∀ c ∈ Cs, W.cell? ⟨B c, 2, none⟩ = some (.int .u64 (fin c).id) ∧ W.cell? ⟨B c, 13, none⟩ = some (.int .i64 (fin c).fr) ∧ W.cell? ⟨B c, 13 + 1, none⟩ = some (.int .i64 (fin c).til)
  len : Cs.length ≤ 1000
set_option maxHeartbeats 4000000 in
theorem awaited_any (b g : Nat) (kv : Value) (Cs : List Nat) (B : Nat → Nat) (fin : Nat → Nod) (to : Int) (w : World) (h : AwR w b g kv Cs B fin) :
    Calls Tryz.prog 95 #[.pointer (some ⟨b, 13, none⟩), .int .i64 to] w fun e w' => e = .returned (ptrO B (awaitM fin to Cs)) ∧ ∃ m, w' = w.drewN m := by
  obtain ⟨hh, ⟨ad, cap, rfl, hrow⟩, heach, hlen⟩ := h
  obtain ⟨n, hn⟩ : ∃ n, Cs.length = n := ⟨_, rfl⟩
  rw [hn] at hh
  have hn1 : (n : Int) ≤ 1000 := by omega
  go_enter Tryz.func95, Tryz.ntmps95
  go_wp2
  have NXT : Hid (∀ (i : Nat) (hi : i < n), ∃ c, c ∈ Cs ∧ ad = some ⟨g, 0, none⟩ ∧ w.cell? ⟨g, i, none⟩ = some (.pointer (some ⟨B c, 0, none⟩)) ∧ awaitM fin to (Cs.take (i + 1)) = pickA fin to (awaitM fin to (Cs.take i)) c) := fun i hi => by
    have hi' : i < Cs.length := by omega
    exact ⟨Cs[i], List.getElem_mem hi', (hrow i hi').1, (hrow i hi').2, awaitM_take fin to Cs i hi'⟩
  have HE : Hid (∀ c ∈ Cs, w.cell? ⟨B c, 2, none⟩ = some (.int .u64 (fin c).id) ∧ w.cell? ⟨B c, 13, none⟩ = some (.int .i64 (fin c).fr) ∧ w.cell? ⟨B c, 13 + 1, none⟩ = some (.int .i64 (fin c).til)) := heach
  have HEND : Hid (awaitM fin to (Cs.take n) = awaitM fin to Cs) := by
    have e : Cs.take n = Cs := List.take_of_length_le (by omega)
    show _ = _
    rw [e]
  have HIN : Hid (∀ i l, awaitM fin to (Cs.take i) = some l → l ∈ Cs) := fun i l hl => List.mem_of_mem_take (awaitM_some hl).1
  clear hn hlen hrow heach hh
  go_loopw [5, 13] (fun y5 y13 wr => ∃ (i m : Nat), y13 = .int .i64 i ∧ i ≤ n ∧ y5 = ptrO B (awaitM fin to (Cs.take i)) ∧ wr = w.drewN m) (fun _ y13 _ => n - (intOf y13).toNat)
  case atStart => exact ⟨0, 0, rfl, by omega, rfl, rfl⟩
  case round =>
    obtain ⟨i, m, rfl, hin, rfl, rfl⟩ := hrel
    by_cases hlt : i < n
    · obtain ⟨c, hc, rfl, cr, heq⟩ := NXT.out i hlt
      obtain ⟨q1, q2, q3⟩ := HE.out c hc
      have HEQ : Hid (awaitM fin to (Cs.take (i + 1)) = pickA fin to (awaitM fin to (Cs.take i)) c) := heq
      clear heq
      by_cases hf : (fin c).fr < to
      · have df : decide ((fin c).fr < to) = true := decide_eq_true hf
        cases hl : awaitM fin to (Cs.take i) with
        | none =>
          have HL : Hid (awaitM fin to (Cs.take i) = none) := hl
          simp only [ptrO]
          clear hl NXT HE
          go_wp2
          go_roundw
          case rel => exact ⟨i + 1, m, by simp, by omega, by rw [HEQ.out, HL.out]; unfold pickA; rw [if_pos hf], rfl⟩
          case measure => (simp [intOf]; try omega)
        | some l =>
          have HL : Hid (awaitM fin to (Cs.take i) = some l) := hl
          obtain ⟨r1, r2, r3⟩ := HE.out l (HIN.out i l hl)
          have OL := outlasts_any (B c) (B l) (fin c).id (fin c).til (fin l).id (fin l).til to (w.drewN m) q3 r3 q1 r1
          have HO : Hid (outM (fin c) (fin l) to = (decide (min (fin l).til to < min (fin c).til to) || (decide (min (fin c).til to = min (fin l).til to) && decide ((fin c).id < (fin l).id)))) := rfl
          obtain ⟨o, ho⟩ : ∃ o, (decide (min (fin l).til to < min (fin c).til to) || (decide (min (fin c).til to = min (fin l).til to) && decide ((fin c).id < (fin l).id))) = o := ⟨_, rfl⟩
          rw [ho] at OL HO
          simp only [ptrO]
          clear hl NXT HE r1 r2 r3 q1 q3 ho
          cases o with
          | true =>
            go_wp2_with (go_at_call 115; refine OL.mono ?_; clear OL; rintro e w1 ⟨rfl, m1, rfl⟩)
            go_roundw
            case rel => exact ⟨i + 1, _, by simp, by omega, by rw [HEQ.out, HL.out]; unfold pickA; rw [if_pos hf]; simp only; rw [if_pos HO.out], rfl⟩
            case measure => (simp [intOf]; try omega)
          | false =>
            go_wp2_with (go_at_call 115; refine OL.mono ?_; clear OL; rintro e w1 ⟨rfl, m1, rfl⟩)
            go_roundw
            case rel => exact ⟨i + 1, _, by simp, by omega, by rw [HEQ.out, HL.out]; unfold pickA; rw [if_pos hf]; simp only; rw [if_neg (by rw [HO.out]; simp)], rfl⟩
            case measure => (simp [intOf]; try omega)
      · have df : decide ((fin c).fr < to) = false := decide_eq_false hf
        clear NXT HE
        go_wp2
        go_roundw
        case rel => exact ⟨i + 1, m, by simp, by omega, by rw [HEQ.out]; unfold pickA; rw [if_neg hf], rfl⟩
        case measure => (simp [intOf]; try omega)
    · have hni : ¬ (i : Int) < (n : Int) := by omega
      have HI : Hid (i = n) := by have e : i = n := (by omega); exact e
      clear hin hlt
      go_wp2
      go_ret
      exact ⟨by rw [← HEND.out, ← HI.out]; rfl, m, rfl⟩
end Go.Proofs.YtbbonnbcenhkeaaGreatDoor
