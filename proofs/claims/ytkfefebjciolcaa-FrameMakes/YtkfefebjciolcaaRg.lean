/-
  Contracts: the reference's More and Sum.
-/
import Derived.Test.YtkfefebjciolcaaRb
namespace Go.Proofs.Ytkfefebjciolcaa
open Go.RowKit
set_option maxRecDepth 100000

theorem xor_bool (a b : Bool) : bits .xor .u32 (a.toNat : Int) (b.toNat : Int) = ((a ^^ b).toNat : Int) := by cases a <;> cases b <;> decide

theorem refMore_any (s : BitVec 32) (ad : Option Addr) (n cap : Nat) (K : List Int) (w : World) (h : Holds w ad n K) (hK : ByteL K) (hn : n ≤ 140737488355328) :
    Calls Try.prog 27 #[.int .u32 (s.toNat : Int), .slice ad n cap] w fun e w' => e = .returned (.int .u32 ((moreB s K).toNat : Int)) ∧ w' = w := by
  have hsg : IntKind.u32.signed = false := rfl
  have hmx : IntKind.u32.max = 4294967295 := rfl
  have hl := h.len
  obtain ⟨t0, ht0⟩ : ∃ t0, ~~~ s = t0 := ⟨_, rfl⟩
  have en := not32 s
  rw [ht0] at en
  have HR : Hid (moreB s K = ~~~ (turnR (restR (fun i => bitI K i ^^ (decide (i < 32) && t0.getLsbD i)) (8 * K.length + 32)) 32)) := by
    unfold moreB; rw [ht0, ref_more t0 K hK]; exact rfl
  clear ht0
  generalize hX : (fun i => bitI K i ^^ (decide (i < 32) && t0.getLsbD i)) = X at HR
  generalize hRv : ((moreB s K).toNat : Int) = R
  go_enter Try.func27, Try.ntmps27
  go_wp2
  go_loop [6, 7] (fun a b => ∃ j : Nat, b = .int .i64 j ∧ j ≤ 8 * n + 32 ∧ a = .int .u32 ((restR X j).toNat : Int)) (fun _ b => 8 * n + 32 - (intOf b).toNat)
  case atStart => exact ⟨0, rfl, by omega, rfl⟩
  case round =>
    obtain ⟨j, rfl, hj, rfl⟩ := hrel
    by_cases hlt : j < 8 * n + 32
    · have hz : (j : Int) < 8 * (n : Int) + 32 := by omega
      have B := bit_any ad n cap K j w h hK (by omega)
      have HS : Hid (restR X (j + 1) = stepR (restR X j) (X j)) := rfl
      obtain ⟨r, hr⟩ : ∃ r, restR X j = r := ⟨_, rfl⟩
      rw [hr] at HS ⊢
      obtain ⟨q, hq⟩ : ∃ q, bitI K j = q := ⟨_, rfl⟩
      rw [hq] at B
      by_cases h32 : j < 32
      · have hz32 : (j : Int) < 32 := by omega
        obtain ⟨u, hu⟩ : ∃ u, t0.getLsbD j = u := ⟨_, rfl⟩
        have hXj : X j = (q ^^ u) := by rw [← hX]; show (bitI K j ^^ (decide (j < 32) && t0.getLsbD j)) = _; rw [hq, hu]; simp [h32]
        have e0 : ((t0.toNat : Int) / 2 ^ j).tmod 2 = (u.toNat : Int) := by
          have hb := bit_num t0 j
          rw [Int.tmod_eq_emod_of_nonneg (Int.ediv_nonneg (by omega) (Int.pow_nonneg (by omega))), ← hu, ← hb, show (2 : Int) ^ j = ((2 ^ j : Nat) : Int) by rw [Int.natCast_pow]; rfl]
          omega
        have e1 := xor_bool q u
        have ST := step_any r (q ^^ u) w
        rw [hXj] at HS
        generalize (q ^^ u) = c at HS e1 ST
        obtain ⟨C, hC⟩ : ∃ C, c.toNat = C := ⟨_, rfl⟩
        rw [hC] at e1 ST
        obtain ⟨Q, hQ⟩ : ∃ Q, q.toNat = Q := ⟨_, rfl⟩
        rw [hQ] at e1 B
        obtain ⟨U, hU⟩ : ∃ U, u.toNat = U := ⟨_, rfl⟩
        rw [hU] at e1 e0
        clear hXj hu hr hq hC hQ hU
        go_wp2_with (first
          | (go_at_call 30; refine B.mono ?_; rintro e w' ⟨rfl, hw⟩; obtain rfl := hw.symm)
          | (go_at_call 31; refine ST.mono ?_; rintro e w' ⟨rfl, hw⟩; obtain rfl := hw.symm))
        go_round
        case rel => exact ⟨j + 1, by go_num, by omega, by rw [HS.out]⟩
        case measure => simp [intOf]; omega
      · have hz32 : ¬ ((j : Int) < 32) := by omega
        have hz32' : decide ((j : Int) < 32) = false := by simpa using hz32
        have hXj : X j = q := by rw [← hX]; show (bitI K j ^^ (decide (j < 32) && t0.getLsbD j)) = _; rw [hq]; simp [h32]
        have ST := step_any r q w
        rw [hXj] at HS
        obtain ⟨Q, hQ⟩ : ∃ Q, q.toNat = Q := ⟨_, rfl⟩
        rw [hQ] at ST B
        clear hXj hr hq hQ
        go_wp2_with (first
          | (go_at_call 30; refine B.mono ?_; rintro e w' ⟨rfl, hw⟩; obtain rfl := hw.symm)
          | (go_at_call 31; refine ST.mono ?_; rintro e w' ⟨rfl, hw⟩; obtain rfl := hw.symm))
        go_round
        case rel => exact ⟨j + 1, by go_num, by omega, by rw [HS.out]⟩
        case measure => simp [intOf]; omega
    · obtain rfl : j = 8 * n + 32 := by omega
      have TU := turned_any (restR X (8 * n + 32)) w
      have hfin : ~~~ (turnR (restR X (8 * n + 32)) 32) = moreB s K := by rw [HR.out, hl]
      have en2 := not32 (turnR (restR X (8 * n + 32)) 32)
      rw [hfin, hRv] at en2
      generalize turnR (restR X (8 * n + 32)) 32 = T at TU en2
      generalize restR X (8 * n + 32) = r at TU ⊢
      clear hfin hX
      go_wp2_with (go_at_call 32; refine TU.mono ?_; rintro e w' ⟨rfl, hw⟩; obtain rfl := hw.symm)
      go_ret
      exact ⟨rfl, rfl⟩

theorem refSum_any (ad : Option Addr) (n cap : Nat) (K : List Int) (w : World) (h : Holds w ad n K) (hK : ByteL K) (hn : n ≤ 140737488355328) :
    Calls Try.prog 19 #[.slice ad n cap] w fun e w' => e = .returned (.int .u32 ((moreB 0#32 K).toNat : Int)) ∧ w' = w := by
  have M := refMore_any 0#32 ad n cap K w h hK hn
  generalize ((moreB 0#32 K).toNat : Int) = R at M ⊢
  go_enter Try.func19, Try.ntmps19
  go_wp2_with (go_at_call 27; refine M.mono ?_; rintro e w' ⟨rfl, hw⟩; obtain rfl := hw.symm)
  go_ret
  exact ⟨rfl, rfl⟩
end Go.Proofs.Ytkfefebjciolcaa
