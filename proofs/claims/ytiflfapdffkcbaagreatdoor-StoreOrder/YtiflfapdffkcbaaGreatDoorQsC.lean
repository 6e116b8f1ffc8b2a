/-
  QsC.
-/
import Derived.Test.YtiflfapdffkcbaaGreatDoorQsAq
namespace Go.Proofs.YtiflfapdffkcbaaGreatDoor.qs
open Go Go.RowKit
set_option maxRecDepth 100000

/-- All rises up to i but for the one at j, which moves down. -/
def InsI (a i j : Nat) (L : List Int) : Prop := ∀ p q, a ≤ p → p < q → q ≤ i → q ≠ j → atL L p ≤ atL L q
theorem InsI.start {a i : Nat} {L : List Int} (h : SortedOn a i L) : InsI a i i L := fun p q h1 h2 h3 h4 => h p q h1 h2 (by omega)
theorem InsI.bottom {a i : Nat} {L : List Int} (h : InsI a i a L) : SortedOn a (i + 1) L := fun p q h1 h2 h3 => h p q h1 h2 (by omega) (by omega)
theorem InsI.stop {a i j : Nat} {L : List Int} (h : InsI a i j L) (hj : a < j) (hji : j ≤ i) (hc : atL L (j - 1) ≤ atL L j) : SortedOn a (i + 1) L := fun p q h1 h2 h3 => by
  by_cases e : q = j
  · subst e
    by_cases e2 : p = q - 1
    · rw [e2]; exact hc
    · exact Int.le_trans (h p (q - 1) h1 (by omega) (by omega) (by omega)) hc
  · exact h p q h1 h2 (by omega) e
theorem InsI.step {a i j : Nat} {L : List Int} (h : InsI a i j L) (hj : a < j) (hji : j ≤ i) (hl : i < L.length) (hc : atL L j < atL L (j - 1)) : InsI a i (j - 1) (swapL L j (j - 1)) := fun p q h1 h2 h3 h4 => by
  rw [atL_swap L j (j - 1) p (by omega) (by omega), atL_swap L j (j - 1) q (by omega) (by omega), if_neg h4]
  by_cases e : q = j
  · rw [if_pos e]
    by_cases e2 : p = j - 1
    · rw [if_pos e2]; omega
    · rw [if_neg e2, if_neg (by omega)]
      exact h p (j - 1) h1 (by omega) (by omega) (by omega)
  · rw [if_neg e]
    by_cases e2 : p = j - 1
    · rw [if_pos e2]
      exact h j q (by omega) (by omega) h3 e
    · rw [if_neg e2]
      by_cases e3 : p = j
      · rw [if_pos e3]
        exact h (j - 1) q (by omega) (by omega) h3 e
      · rw [if_neg e3]
        exact h p q h1 h2 h3 e
set_option maxHeartbeats 8000000 in
theorem insertion_any (g n c a b : Nat) (L : List Int) (R : List Value) (w : World) (h : U64R w g L R) (hn : L.length = n) (hab : a ≤ b) (hb : b ≤ n) (hz : n ≤ 1099511627776) :
    Calls Tryz.prog 87 #[.slice (some ⟨g, 0, none⟩) n c, .int .i64 a, .int .i64 b] w fun e w' => ∃ L', e = .returned (.tuple #[]) ∧ PermOn a b L L' ∧ SortedOn a b L' ∧ TurnU w w' g R L' := by
  have HS : Hid (PermOn a b L L ∧ SortedOn a (a + 1) L ∧ TurnU w w g R L) := ⟨PermOn.refl _ _ _, fun p q h1 h2 h3 => absurd h3 (by omega), TurnU.refl h⟩
  have HN : Hid (L.length = n) := hn
  have hzI : (n : Int) ≤ 1099511627776 := by omega
  have hbI : (b : Int) ≤ (n : Int) := by omega
  have hw1 : IntKind.i64.wrap ((a : Int) + 1) = ((a + 1 : Nat) : Int) := by rw [IntKind.wrap_i64]; omega
  clear h hn
  go_enter Tryz.func87, Tryz.ntmps87
  go_wp2
  go_loopw [6] (fun z wr => ∃ (i : Nat) (L1 : List Int), z = .int .i64 i ∧ a + 1 ≤ i ∧ Hid (i ≤ b ∨ i = a + 1) ∧ Hid (PermOn a b L L1 ∧ SortedOn a i L1 ∧ TurnU w wr g R L1)) (fun z _ => b - (intOf z).toNat)
  case atStart => exact ⟨a + 1, L, by go_num, Nat.le_refl _, Or.inr rfl, HS⟩
  case round =>
    obtain ⟨i, L1, rfl, hai, hib, HI⟩ := hrel
    clear HS
    by_cases hlt : i < b
    · have hlt' : (i : Int) < (b : Int) := by omega
      have HJ0 : Hid (PermOn a b L L1 ∧ InsI a i i L1 ∧ TurnU w wr g R L1) := ⟨HI.out.1, InsI.start HI.out.2.1, HI.out.2.2⟩
      clear HI hib
      go_wp2
      go_loopw [7] (fun z wr => ∃ (j : Nat) (L2 : List Int), z = .int .i64 j ∧ a ≤ j ∧ j ≤ i ∧ Hid (PermOn a b L L2 ∧ InsI a i j L2 ∧ TurnU w wr g R L2)) (fun z _ => (intOf z).toNat)
      case atStart => exact ⟨i, L1, rfl, by omega, Nat.le_refl _, HJ0⟩
      case round =>
        obtain ⟨j, L2, rfl, haj, hji, HJ⟩ := hrel
        clear HJ0
        have hl2 : L2.length = n := HJ.out.1.len.trans HN.out
        by_cases hja : a < j
        · have hja' : (a : Int) < (j : Int) := by omega
          have hd : decide ((a : Int) < (j : Int)) = true := decide_eq_true hja'
          obtain ⟨k, hk⟩ : ∃ k, j = k + 1 := ⟨j - 1, by omega⟩
          have hwk : IntKind.i64.wrap ((j : Int) - 1) = (k : Int) := by rw [IntKind.wrap_i64]; omega
          have hk0 : (0 : Int) ≤ (k : Int) := by omega
          have hkn : (k : Int) < (n : Int) := by omega
          have hj0 : (0 : Int) ≤ (j : Int) := by omega
          have hjn : (j : Int) < (n : Int) := by omega
          have hjk : j - 1 = k := by omega
          have hkl : k < j := by omega
          have hkg : a ≤ k := by omega
          obtain ⟨x, hx⟩ : ∃ x, atL L2 j = x := ⟨_, rfl⟩
          obtain ⟨y, hy⟩ : ∃ y, atL L2 k = y := ⟨_, rfl⟩
          have LS : Hid (∀ W, Calls Tryz.prog 93 #[.int .u64 x, .int .u64 y] W fun e w' => e = .returned (.bool (decide (x < y))) ∧ Below W.heap.size W w') := fun W => less_any x y W
          have KB : ∀ W, Below wr.heap.size wr W → W.cell? ⟨g, j, none⟩ = some (.int .u64 x) ∧ W.cell? ⟨g, k, none⟩ = some (.int .u64 y) := fun W hW => by
            have h1 := HJ.out.2.2.1.below hW
            exact ⟨by rw [← hx]; exact h1.cell j (by omega), by rw [← hy]; exact h1.cell k (by omega)⟩
          have B0 : Below wr.heap.size wr wr.drew := (Below.refl _ _).drew
          have HX : Hid (atL L2 j = x ∧ atL L2 k = y ∧ j < L2.length ∧ k < L2.length ∧ j - 1 = k ∧ a < j ∧ j ≤ i ∧ i < b ∧ L2.length = n) := ⟨hx, hy, by omega, by omega, hjk, hja, hji, hlt, hl2⟩
          by_cases hc : x < y
          · have hdc : decide (x < y) = true := decide_eq_true hc
            rw [hdc] at LS
            clear hdc hx hy hk hjk hl2
            go_upto_region 4 with fail
            go_region_held3 (fun W => W.cell? ⟨g, j, none⟩ = some (.int .u64 x) ∧ W.cell? ⟨g, k, none⟩ = some (.int .u64 y)) (first | exact KB _ B0 | exact KB _ B1) (first
              | (go_at_call 93; (with_reducible refine (LS.out _).mono ?_); clear LS; rintro e w1 ⟨rfl, hb1⟩; have B1 : Below wr.heap.size wr w1 := B0.trans (hb1.mono B0.size); clear hb1)
              | fail)
            all_goals
              have HT1 : Hid (TurnU w w1 g R L2) := HJ.out.2.2.below B1
              have y1 := (KB _ B1).1
              have y2 := (KB _ B1).2
              obtain ⟨⟨u, y3⟩, f2, f1⟩ := HT1.out.1.swapF HX.out.2.2.1 HX.out.2.2.2.1 y
              have HN2 : Hid (∀ q, PermOn a b L (swapL L2 j k) ∧ InsI a i k (swapL L2 j k) ∧ TurnU w (((w1.setCell ⟨g, j, none⟩ (.int .u64 y)).setCell ⟨g, k, none⟩ (.int .u64 x)).drewN q) g R (swapL L2 j k)) := fun q => by
                obtain ⟨h1, h2, h3, h4, h5, h6, h7, h8, h9⟩ := HX.out
                refine ⟨HJ.out.1.swap (by omega) (by omega) (by omega) (by omega), ?_, ?_⟩
                · have := InsI.step HJ.out.2.1 h6 h7 (by omega) (by rw [h5, h1, h2]; exact hc)
                  rw [h5] at this
                  exact this
                · have := HT1.out.swap h3 h4
                  rw [h1, h2] at this
                  exact this.below ⟨rfl, rfl, rfl, Nat.le_refl _, fun _ _ => rfl⟩
              clear KB B0 B1 HJ HT1 HX
              go_upto_region 6 with fail
              go_region
              go_wp2
              go_roundw
              case rel => exact ⟨k, swapL L2 j k, rfl, by omega, by omega, HN2.out _⟩
              case measure => (simp [intOf]; omega)
          · have hdc : decide (x < y) = false := decide_eq_false hc
            rw [hdc] at LS
            clear hdc hx hy hk hjk hl2
            go_upto_region 4 with fail
            go_region_held3 (fun W => W.cell? ⟨g, j, none⟩ = some (.int .u64 x) ∧ W.cell? ⟨g, k, none⟩ = some (.int .u64 y)) (first | exact KB _ B0 | exact KB _ B1) (first
              | (go_at_call 93; (with_reducible refine (LS.out _).mono ?_); clear LS; rintro e w1 ⟨rfl, hb1⟩; have B1 : Below wr.heap.size wr w1 := B0.trans (hb1.mono B0.size); clear hb1)
              | fail)
            all_goals
              have HN2 : Hid (PermOn a b L L2 ∧ SortedOn a (i + 1) L2 ∧ TurnU w w1 g R L2) := by
                obtain ⟨h1, h2, h3, h4, h5, h6, h7, h8, h9⟩ := HX.out
                exact ⟨HJ.out.1, InsI.stop HJ.out.2.1 h6 h7 (by rw [h5, h1, h2]; omega), HJ.out.2.2.below B1⟩
              clear KB B0 B1 HJ HX
              go_wp2
              go_roundw
              case rel => exact ⟨i + 1, L2, by go_num, by omega, Or.inl (by omega), HN2⟩
              case measure => (simp [intOf]; omega)
        · have hja' : ¬ (a : Int) < (j : Int) := by omega
          have hd : decide ((a : Int) < (j : Int)) = false := decide_eq_false hja'
          have HN2 : Hid (∀ q, PermOn a b L L2 ∧ SortedOn a (i + 1) L2 ∧ TurnU w (wr.drewN q) g R L2) := fun q => by
            have h2 := HJ.out.2.1
            rw [show j = a by omega] at h2
            exact ⟨HJ.out.1, InsI.bottom h2, HJ.out.2.2.below ⟨rfl, rfl, rfl, Nat.le_refl _, fun _ _ => rfl⟩⟩
          clear HJ hl2
          go_upto_region 4 with fail
          go_quiet (fail)
          go_wp2
          go_roundw
          case rel => exact ⟨i + 1, L2, by go_num, by omega, Or.inl (by omega), HN2.out _⟩
          case measure => (simp [intOf]; omega)
    · have hlt' : ¬ (i : Int) < (b : Int) := by omega
      have HE : Hid (PermOn a b L L1 ∧ SortedOn a b L1 ∧ TurnU w wr g R L1) := ⟨HI.out.1, fun p q h1 h2 h3 => HI.out.2.1 p q h1 h2 (by omega), HI.out.2.2⟩
      clear HI hib
      go_wp2
      go_end0
      exact ⟨rfl, L1, HE.out⟩
end Go.Proofs.YtiflfapdffkcbaaGreatDoor.qs
