/-
  QsK.
-/
import Derived.Test.YtiflfapdffkcbaaGreatDoorQsC
namespace Go.Proofs.YtiflfapdffkcbaaGreatDoor.qs
open Go Go.RowKit
set_option maxRecDepth 100000

theorem SortedOn.keep {a i j k : Nat} {L : List Int} (h : SortedOn a i L) (hj : j < L.length) (hk : k < L.length) (h1 : i ≤ j) (h2 : i ≤ k) : SortedOn a i (swapL L j k) := fun p q h3 h4 h5 => by
  rw [atL_swap L j k p hj hk, atL_swap L j k q hj hk, if_neg (by omega), if_neg (by omega), if_neg (by omega), if_neg (by omega)]
  exact h p q h3 h4 h5
/-- The one ahead of a part is not greater than any of it. -/
def PreU (a b : Nat) (L : List Int) : Prop := 0 < a → ∀ k, a ≤ k → k < b → atL L (a - 1) ≤ atL L k
theorem PreU.after {a b : Nat} {L L' : List Int} (h : PreU a b L) (hp : PermOn a b L L') (hb : b ≤ L.length) (ha : 0 < a) : ∀ k, a ≤ k → k < b → atL L' (a - 1) ≤ atL L' k := fun k h1 h2 => by
  rw [hp.out hb (a - 1) (Or.inl (by omega))]
  exact hp.all hb (fun x => atL L (a - 1) ≤ x) (h ha) k h1 h2
def PartialP (w : World) (g a b : Nat) (L : List Int) (R : List Value) (e : Ending) (w' : World) : Prop := ∃ (t : Bool) (L' : List Int), e = .returned (.bool t) ∧ PermOn a b L L' ∧ (t = true → SortedOn a b L') ∧ TurnU w w' g R L'
set_option maxHeartbeats 32000000 in
theorem partial_any (g n c a b : Nat) (L : List Int) (R : List Value) (w : World) (h : U64R w g L R) (hn : L.length = n) (hab : a < b) (hb : b ≤ n) (hz : n ≤ 1099511627776) (hpre : PreU a b L) :
    Calls Tryz.prog 92 #[.slice (some ⟨g, 0, none⟩) n c, .int .i64 a, .int .i64 b] w (PartialP w g a b L R) := by
  have HR : Hid (a < b ∧ b ≤ n ∧ n ≤ 1099511627776) := ⟨hab, hb, hz⟩
  have HPre : Hid (PreU a b L) := hpre
  have HL0 : Hid (L.length = n) := hn
  have HP : Hid (PermOn a b L L) := PermOn.refl _ _ _
  have HS : Hid (SortedOn a (a + 1) L) := fun p q h1 h2 h3 => absurd h3 (by omega)
  have HT : Hid (TurnU w w g R L) := TurnU.refl h
  have wa : IntKind.i64.wrap ((a : Int) + 1) = (a : Int) + 1 := by rw [IntKind.wrap_i64]; omega
  obtain ⟨ba, hba⟩ : ∃ ba, b - a = ba := ⟨_, rfl⟩
  have wba : IntKind.i64.wrap ((b : Int) - (a : Int)) = (ba : Int) := by rw [IntKind.wrap_i64]; omega
  have hzI : (n : Int) ≤ 1099511627776 := by omega
  have hbI : (b : Int) ≤ (n : Int) := by omega
  clear h hn hpre hba
  go_enter Tryz.func92, Tryz.ntmps92
  go_wp2
  go_loopw [7, 8] (fun z y wr => ∃ (i tt : Nat) (L1 : List Int), z = .int .i64 i ∧ y = .int .i64 tt ∧ a + 1 ≤ i ∧ i ≤ b ∧ tt ≤ 5 ∧ Hid (PermOn a b L L1) ∧ Hid (SortedOn a i L1) ∧ Hid (TurnU w wr g R L1)) (fun _ y _ => 5 - (intOf y).toNat)
  case atStart => exact ⟨a + 1, 0, L, by go_num, rfl, by omega, by omega, by omega, HP, HS, HT⟩
  case round =>
    obtain ⟨i0, tt, L1, rfl, rfl, hi1, hi2, htt, HP', HS', HT'⟩ := hrel
    clear HP HS HT
    have HP := HP'
    have HS := HS'
    have HT := HT'
    clear HP' HS' HT'
    by_cases ht5 : tt < 5
    · have ht5' : (tt : Int) < 5 := by omega
      go_wp2
      go_loopw [7] (fun z wr => ∃ (i : Nat), z = .int .i64 i ∧ a + 1 ≤ i ∧ i ≤ b ∧ Hid (SortedOn a i L1) ∧ Hid (TurnU w wr g R L1)) (fun z _ => b - (intOf z).toNat)
      case atStart => exact ⟨i0, rfl, hi1, hi2, HS, HT⟩
      case round =>
        obtain ⟨i, rfl, hi3, hi4, HS', HT'⟩ := hrel
        clear HS HT
        have HS := HS'
        have HT := HT'
        clear HS' HT'
        by_cases hib : i < b
        · have hib' : (i : Int) < (b : Int) := by omega
          have hdb : decide ((i : Int) < (b : Int)) = true := decide_eq_true hib'
          have hne : ((i : Int) == (b : Int)) = false := by simp; omega
          obtain ⟨k, hk⟩ : ∃ k, i - 1 = k := ⟨_, rfl⟩
          have hk9 : Hid (k + 1 = i) := by show k + 1 = i; omega
          have hk8 : Hid (i - 1 = k) := hk
          have wk : IntKind.i64.wrap ((i : Int) - 1) = (k : Int) := by rw [IntKind.wrap_i64]; have := HR.out; omega
          have hin0 : (0 : Int) ≤ (i : Int) := by omega
          have hinn : (i : Int) < (n : Int) := by have := HR.out; omega
          have hk0 : (0 : Int) ≤ (k : Int) := by omega
          have hkn : (k : Int) < (n : Int) := by have := HR.out; omega
          have hki : k < i := by omega
          have hka : a ≤ k := by omega
          have hik : i ≤ k + 1 := by omega
          obtain ⟨ia, hia0⟩ : ∃ ia, i - a = ia := ⟨_, rfl⟩
          have wia : IntKind.i64.wrap ((i : Int) - (a : Int)) = (ia : Int) := by rw [IntKind.wrap_i64]; have := HR.out; omega
          obtain ⟨bi, hbi0⟩ : ∃ bi, b - i = bi := ⟨_, rfl⟩
          have wbi : IntKind.i64.wrap ((b : Int) - (i : Int)) = (bi : Int) := by rw [IntKind.wrap_i64]; have := HR.out; omega
          have hia1 : i ≤ a + ia := by omega
          have hia2 : a + ia ≤ i := by omega
          have hbi1 : b ≤ i + bi := by omega
          have hbi2 : i + bi ≤ b := by omega
          have wi : IntKind.i64.wrap ((i : Int) + 1) = (i : Int) + 1 := by rw [IntKind.wrap_i64]; have := HR.out; omega
          clear hk hia0 hbi0
          generalize hx : atL L1 i = x at *
          generalize hy : atL L1 k = y at *
          have KB : ∀ W, Below wr.heap.size wr W → W.cell? ⟨g, i, none⟩ = some (.int .u64 x) ∧ W.cell? ⟨g, k, none⟩ = some (.int .u64 y) := fun W hW => by
            have h1 := HT.out.1.below hW
            have h2 := HR.out
            have h3 := HP.out.len
            have h4 := HL0.out
            exact ⟨by rw [← hx]; exact h1.cell i (by omega), by rw [← hy]; exact h1.cell k (by omega)⟩
          have B0 : Below wr.heap.size wr wr.drew := (Below.refl _ _).drew
          have HXY : Hid (atL L1 i = x ∧ atL L1 k = y) := ⟨hx, hy⟩
          clear hx hy
          by_cases hc : x < y
          · have LS : Hid (∀ W, Calls Tryz.prog 93 #[.int .u64 x, .int .u64 y] W fun e w' => e = .returned (.bool true) ∧ Below W.heap.size W w') := fun W => by
              have h := less_any x y W
              rw [show decide (x < y) = true from decide_eq_true hc] at h
              exact h
            go_upto_region 5 with fail
            go_region_held3 (fun W => W.cell? ⟨g, i, none⟩ = some (.int .u64 x) ∧ W.cell? ⟨g, k, none⟩ = some (.int .u64 y)) (first | exact KB _ B0 | exact KB _ B1) (first
              | (go_at_call 93; (with_reducible refine (LS.out _).mono ?_); clear LS; rintro e w1 ⟨rfl, hb1⟩; have B1 : Below wr.heap.size wr w1 := B0.trans (hb1.mono B0.size); clear hb1)
              | fail)
            all_goals
              have HT1 : Hid (TurnU w w1 g R L1) := HT.out.below B1
              have HC : Hid (atL L1 i < atL L1 k) := by
                have h9 : x < y := by omega
                rw [HXY.out.1, HXY.out.2]
                exact h9
              have hx9 := HXY.out.1
              have hy9 := HXY.out.2
              clear HXY KB B0 B1 HT hc
              subst hx9 hy9
              have HT := HT1
              clear HT1
              generalize w1 = wr at *
              by_cases h50 : ba < 50
              · have h50' : (ba : Int) < 50 := by omega
                have HE : Hid (PartialP w g a b L R (.returned (.bool false)) wr) := ⟨false, L1, rfl, HP.out, (fun h => Bool.noConfusion h), HT.out⟩
                clear HP HS HC HT
                go_wp2
                go_ret
                exact HE.out
              · have h50' : ¬ (ba : Int) < 50 := by omega
                have HP1 : Hid (PermOn a b L (swapL L1 i k)) := HP.out.swap (by omega) (by omega) (by omega) (by omega)
                have HI : Hid (InsI a k k (swapL L1 i k)) := fun p q h1 h2 h3 h4 => by
                  have h5 := HP.out.len
                  have h6 := HL0.out
                  have h7 := HR.out
                  rw [atL_swap L1 i k p (by omega) (by omega), atL_swap L1 i k q (by omega) (by omega), if_neg (by omega), if_neg (by omega), if_neg (by omega), if_neg (by omega)]
                  exact HS.out p q h1 h2 (by omega)
                have hs1 : i < L1.length := by have h2 := HR.out; have h3 := HP.out.len; have h4 := HL0.out; omega
                have hs2 : k < L1.length := by have h2 := HR.out; have h3 := HP.out.len; have h4 := HL0.out; omega
                have y1 := HT.out.1.cell i hs1
                have y2 := HT.out.1.cell k hs2
                generalize hx : atL L1 i = x at *
                generalize hy : atL L1 k = y at *
                obtain ⟨⟨u, y3⟩, f2, f1⟩ := HT.out.1.swapF (i := i) (j := k) hs1 hs2 y
                have HTs : Hid (∀ q, TurnU w (((wr.setCell ⟨g, i, none⟩ (.int .u64 y)).setCell ⟨g, k, none⟩ (.int .u64 x)).drewN q) g R (swapL L1 i k)) := fun q => by
                  have h := HT.out.swap (i := i) (j := k) hs1 hs2
                  rw [hx, hy] at h
                  exact h.below ⟨rfl, rfl, rfl, Nat.le_refl _, fun _ _ => rfl⟩
                clear hx hy HT
                go_upto_region 11 with fail
                go_region
                obtain ⟨wX, hwX⟩ : ∃ W, ((wr.setCell ⟨g, i, none⟩ (.int .u64 y)).setCell ⟨g, k, none⟩ (.int .u64 x)).drew = W := ⟨_, rfl⟩
                have HT : Hid (TurnU w wX g R (swapL L1 i k)) := by rw [← hwX]; exact HTs.out 1
                rw [hwX]
                clear hwX HTs y1 y2 y3 f1 f2 hs1 hs2
                generalize wX = wr at *
                clear HP HS HC
                have HP := HP1
                clear HP1
                generalize swapL L1 i k = L1 at *
                by_cases hia : i < a + 2
                · have hia' : ¬ (2 : Int) ≤ (ia : Int) := by omega
                  have HS : Hid (SortedOn a i L1) := fun p q h1 h2 h3 => absurd h3 (by omega)
                  clear HI
                  by_cases hbi : b < i + 2
                  · have hbi' : ¬ (2 : Int) ≤ (bi : Int) := by omega
                    go_wp2
                    go_roundw
                    case rel => exact ⟨i, tt + 1, L1, rfl, by go_num, by omega, by omega, by omega, HP, HS, HT⟩
                    case measure => (simp [intOf]; omega)
                  · have hbi' : (2 : Int) ≤ (bi : Int) := by omega
                    go_wp2
                    go_loopw [10] (fun z wr => ∃ (j : Nat) (L1 : List Int), z = .int .i64 j ∧ i + 1 ≤ j ∧ j ≤ b ∧ Hid (PermOn a b L L1) ∧ Hid (SortedOn a i L1) ∧ Hid (TurnU w wr g R L1)) (fun z _ => b - (intOf z).toNat)
                    case atStart => exact ⟨i + 1, L1, by go_num, by omega, by omega, HP, HS, HT⟩
                    case round =>
                      obtain ⟨j, L1, rfl, hj1, hj2, HP', HS', HT'⟩ := hrel
                      clear HP HS HT
                      have HP := HP'
                      have HS := HS'
                      have HT := HT'
                      clear HP' HS' HT'
                      by_cases hjb : j < b
                      · have hjb' : (j : Int) < (b : Int) := by omega
                        obtain ⟨k, hk⟩ : ∃ k, j - 1 = k := ⟨_, rfl⟩
                        have wk : IntKind.i64.wrap ((j : Int) - 1) = (k : Int) := by rw [IntKind.wrap_i64]; have := HR.out; omega
                        have hj0 : (0 : Int) ≤ (j : Int) := by omega
                        have hjn : (j : Int) < (n : Int) := by have := HR.out; omega
                        have hk0 : (0 : Int) ≤ (k : Int) := by omega
                        have hkn : (k : Int) < (n : Int) := by have := HR.out; omega
                        have hki : i ≤ k := by omega
                        have hkj : k < j := by omega
                        clear hk
                        generalize hx : atL L1 j = x at *
                        generalize hy : atL L1 k = y at *
                        have KB : ∀ W, Below wr.heap.size wr W → W.cell? ⟨g, j, none⟩ = some (.int .u64 x) ∧ W.cell? ⟨g, k, none⟩ = some (.int .u64 y) := fun W hW => by
                          have h1 := HT.out.1.below hW
                          have h2 := HR.out
                          have h3 := HP.out.len
                          have h4 := HL0.out
                          exact ⟨by rw [← hx]; exact h1.cell j (by omega), by rw [← hy]; exact h1.cell k (by omega)⟩
                        have B0 : Below wr.heap.size wr wr.drew := (Below.refl _ _).drew
                        have HXY : Hid (atL L1 j = x ∧ atL L1 k = y) := ⟨hx, hy⟩
                        clear hx hy
                        by_cases hc : x < y
                        · have LS : Hid (∀ W, Calls Tryz.prog 93 #[.int .u64 x, .int .u64 y] W fun e w' => e = .returned (.bool true) ∧ Below W.heap.size W w') := fun W => by
                            have h := less_any x y W
                            rw [show decide (x < y) = true from decide_eq_true hc] at h
                            exact h
                          go_upto_region 22 with fail
                          go_region_held3 (fun W => W.cell? ⟨g, j, none⟩ = some (.int .u64 x) ∧ W.cell? ⟨g, k, none⟩ = some (.int .u64 y)) (first | exact KB _ B0 | exact KB _ B1) (first
                            | (go_at_call 93; (with_reducible refine (LS.out _).mono ?_); clear LS; rintro e w1 ⟨rfl, hb1⟩; have B1 : Below wr.heap.size wr w1 := B0.trans (hb1.mono B0.size); clear hb1)
                            | fail)
                          all_goals
                            have HT1 : Hid (TurnU w w1 g R L1) := HT.out.below B1
                            have HC : Hid (atL L1 j < atL L1 k) := by
                              have h9 : x < y := by omega
                              rw [HXY.out.1, HXY.out.2]
                              exact h9
                            have hx9 := HXY.out.1
                            have hy9 := HXY.out.2
                            clear HXY KB B0 B1 HT hc
                            subst hx9 hy9
                            have HT := HT1
                            clear HT1
                            generalize w1 = wr at *
                            have HP1 : Hid (PermOn a b L (swapL L1 j k)) := HP.out.swap (by omega) (by omega) (by omega) (by omega)
                            have HS1 : Hid (SortedOn a i (swapL L1 j k)) := HS.out.keep (by have h3 := HP.out.len; have h4 := HL0.out; have := HR.out; omega) (by have h3 := HP.out.len; have h4 := HL0.out; have := HR.out; omega) (by omega) (by omega)
                            have hjn0 : (0 : Int) ≤ (j : Int) := by omega
                            have hs1 : j < L1.length := by have h2 := HR.out; have h3 := HP.out.len; have h4 := HL0.out; omega
                            have hs2 : k < L1.length := by have h2 := HR.out; have h3 := HP.out.len; have h4 := HL0.out; omega
                            have y1 := HT.out.1.cell j hs1
                            have y2 := HT.out.1.cell k hs2
                            generalize hx : atL L1 j = x at *
                            generalize hy : atL L1 k = y at *
                            obtain ⟨⟨u, y3⟩, f2, f1⟩ := HT.out.1.swapF (i := j) (j := k) hs1 hs2 y
                            have HTs : Hid (∀ q, TurnU w (((wr.setCell ⟨g, j, none⟩ (.int .u64 y)).setCell ⟨g, k, none⟩ (.int .u64 x)).drewN q) g R (swapL L1 j k)) := fun q => by
                              have h := HT.out.swap (i := j) (j := k) hs1 hs2
                              rw [hx, hy] at h
                              exact h.below ⟨rfl, rfl, rfl, Nat.le_refl _, fun _ _ => rfl⟩
                            clear hx hy HT
                            go_upto_region 23 with fail
                            go_region
                            obtain ⟨wX, hwX⟩ : ∃ W, ((wr.setCell ⟨g, j, none⟩ (.int .u64 y)).setCell ⟨g, k, none⟩ (.int .u64 x)).drew = W := ⟨_, rfl⟩
                            have HT : Hid (TurnU w wX g R (swapL L1 j k)) := by rw [← hwX]; exact HTs.out 1
                            rw [hwX]
                            clear hwX HTs y1 y2 y3 f1 f2 hs1 hs2
                            generalize wX = wr at *
                            clear HP HS HC
                            have HP := HP1
                            have HS := HS1
                            clear HP1 HS1
                            generalize swapL L1 j k = L1 at *
                            go_wp2
                            go_roundw
                            case rel => exact ⟨j + 1, L1, by go_num, by omega, by omega, HP, HS, HT⟩
                            case measure => (simp [intOf]; omega)
                        · have LS : Hid (∀ W, Calls Tryz.prog 93 #[.int .u64 x, .int .u64 y] W fun e w' => e = .returned (.bool false) ∧ Below W.heap.size W w') := fun W => by
                            have h := less_any x y W
                            rw [show decide (x < y) = false from decide_eq_false hc] at h
                            exact h
                          go_upto_region 22 with fail
                          go_region_held3 (fun W => W.cell? ⟨g, j, none⟩ = some (.int .u64 x) ∧ W.cell? ⟨g, k, none⟩ = some (.int .u64 y)) (first | exact KB _ B0 | exact KB _ B1) (first
                            | (go_at_call 93; (with_reducible refine (LS.out _).mono ?_); clear LS; rintro e w1 ⟨rfl, hb1⟩; have B1 : Below wr.heap.size wr w1 := B0.trans (hb1.mono B0.size); clear hb1)
                            | fail)
                          all_goals
                            have HT1 : Hid (TurnU w w1 g R L1) := HT.out.below B1
                            have HC : Hid (¬ atL L1 j < atL L1 k) := by
                              have h9 : ¬ x < y := by omega
                              rw [HXY.out.1, HXY.out.2]
                              exact h9
                            have hx9 := HXY.out.1
                            have hy9 := HXY.out.2
                            clear HXY KB B0 B1 HT hc
                            subst hx9 hy9
                            have HT := HT1
                            clear HT1
                            generalize w1 = wr at *
                            go_wp2
                            go_roundw
                            case rel => exact ⟨i, tt + 1, L1, rfl, by go_num, by omega, by omega, by omega, HP, HS, HT⟩
                            case measure => (simp [intOf]; omega)
                      · have hjb' : ¬ (j : Int) < (b : Int) := by omega
                        go_wp2
                        go_roundw
                        case rel => exact ⟨i, tt + 1, L1, rfl, by go_num, by omega, by omega, by omega, HP, HS, HT⟩
                        case measure => (simp [intOf]; omega)
                · have hia' : (2 : Int) ≤ (ia : Int) := by omega
                  go_wp2
                  go_loopw [9] (fun z wr => ∃ (j : Nat) (L1 : List Int), z = .int .i64 j ∧ a ≤ j ∧ j ≤ k ∧ Hid (PermOn a b L L1) ∧ Hid (InsI a k j L1) ∧ Hid (TurnU w wr g R L1)) (fun z _ => (intOf z).toNat)
                  case atStart => exact ⟨k, L1, rfl, by omega, by omega, HP, HI, HT⟩
                  case round =>
                    obtain ⟨j, L1, rfl, hj1, hj2, HP', HI', HT'⟩ := hrel
                    clear HP HI HT
                    have HP := HP'
                    have HI := HI'
                    have HT := HT'
                    clear HP' HI' HT'
                    by_cases hj0 : 1 ≤ j
                    · have hj0' : (1 : Int) ≤ (j : Int) := by omega
                      obtain ⟨m, hm⟩ : ∃ m, j - 1 = m := ⟨_, rfl⟩
                      have hm9 : Hid (j - 1 = m) := hm
                      have wm : IntKind.i64.wrap ((j : Int) - 1) = (m : Int) := by rw [IntKind.wrap_i64]; have := HR.out; omega
                      have hjz : (0 : Int) ≤ (j : Int) := by omega
                      have hjn : (j : Int) < (n : Int) := by have := HR.out; omega
                      have hm0 : (0 : Int) ≤ (m : Int) := by omega
                      have hmn : (m : Int) < (n : Int) := by have := HR.out; omega
                      have hmj : m < j := by omega
                      have hjm : j ≤ m + 1 := by omega
                      clear hm
                      generalize hx : atL L1 j = x at *
                      generalize hy : atL L1 m = y at *
                      have KB : ∀ W, Below wr.heap.size wr W → W.cell? ⟨g, j, none⟩ = some (.int .u64 x) ∧ W.cell? ⟨g, m, none⟩ = some (.int .u64 y) := fun W hW => by
                        have h1 := HT.out.1.below hW
                        have h2 := HR.out
                        have h3 := HP.out.len
                        have h4 := HL0.out
                        exact ⟨by rw [← hx]; exact h1.cell j (by omega), by rw [← hy]; exact h1.cell m (by omega)⟩
                      have B0 : Below wr.heap.size wr wr.drew := (Below.refl _ _).drew
                      have HXY : Hid (atL L1 j = x ∧ atL L1 m = y) := ⟨hx, hy⟩
                      clear hx hy
                      by_cases hc : x < y
                      · have LS : Hid (∀ W, Calls Tryz.prog 93 #[.int .u64 x, .int .u64 y] W fun e w' => e = .returned (.bool true) ∧ Below W.heap.size W w') := fun W => by
                          have h := less_any x y W
                          rw [show decide (x < y) = true from decide_eq_true hc] at h
                          exact h
                        go_upto_region 16 with fail
                        go_region_held3 (fun W => W.cell? ⟨g, j, none⟩ = some (.int .u64 x) ∧ W.cell? ⟨g, m, none⟩ = some (.int .u64 y)) (first | exact KB _ B0 | exact KB _ B1) (first
                          | (go_at_call 93; (with_reducible refine (LS.out _).mono ?_); clear LS; rintro e w1 ⟨rfl, hb1⟩; have B1 : Below wr.heap.size wr w1 := B0.trans (hb1.mono B0.size); clear hb1)
                          | fail)
                        all_goals
                          have HT1 : Hid (TurnU w w1 g R L1) := HT.out.below B1
                          have HC : Hid (atL L1 j < atL L1 m) := by
                            have h9 : x < y := by omega
                            rw [HXY.out.1, HXY.out.2]
                            exact h9
                          have hx9 := HXY.out.1
                          have hy9 := HXY.out.2
                          clear HXY KB B0 B1 HT hc
                          subst hx9 hy9
                          have HT := HT1
                          clear HT1
                          generalize w1 = wr at *
                          by_cases hja : a < j
                          · have hma : a ≤ m := by omega
                            have HP1 : Hid (PermOn a b L (swapL L1 j m)) := HP.out.swap (by omega) (by omega) (by omega) (by omega)
                            have HI1 : Hid (InsI a k m (swapL L1 j m)) := by
                              have h3 := HP.out.len
                              have h4 := HL0.out
                              have h5 := HR.out
                              have := InsI.step HI.out (by omega) (by omega) (by omega) (by rw [hm9.out]; exact HC.out)
                              rw [hm9.out] at this
                              exact this
                            have hs1 : j < L1.length := by have h2 := HR.out; have h3 := HP.out.len; have h4 := HL0.out; omega
                            have hs2 : m < L1.length := by have h2 := HR.out; have h3 := HP.out.len; have h4 := HL0.out; omega
                            have y1 := HT.out.1.cell j hs1
                            have y2 := HT.out.1.cell m hs2
                            generalize hx : atL L1 j = x at *
                            generalize hy : atL L1 m = y at *
                            obtain ⟨⟨u, y3⟩, f2, f1⟩ := HT.out.1.swapF (i := j) (j := m) hs1 hs2 y
                            have HTs : Hid (∀ q, TurnU w (((wr.setCell ⟨g, j, none⟩ (.int .u64 y)).setCell ⟨g, m, none⟩ (.int .u64 x)).drewN q) g R (swapL L1 j m)) := fun q => by
                              have h := HT.out.swap (i := j) (j := m) hs1 hs2
                              rw [hx, hy] at h
                              exact h.below ⟨rfl, rfl, rfl, Nat.le_refl _, fun _ _ => rfl⟩
                            clear hx hy HT
                            go_upto_region 17 with fail
                            go_region
                            obtain ⟨wX, hwX⟩ : ∃ W, ((wr.setCell ⟨g, j, none⟩ (.int .u64 y)).setCell ⟨g, m, none⟩ (.int .u64 x)).drew = W := ⟨_, rfl⟩
                            have HT : Hid (TurnU w wX g R (swapL L1 j m)) := by rw [← hwX]; exact HTs.out 1
                            rw [hwX]
                            clear hwX HTs y1 y2 y3 f1 f2 hs1 hs2
                            generalize wX = wr at *
                            clear HP HI HC
                            have HP := HP1
                            have HI := HI1
                            clear HP1 HI1
                            generalize swapL L1 j m = L1 at *
                            go_wp2
                            go_roundw
                            case rel => exact ⟨m, L1, rfl, by omega, by omega, HP, HI, HT⟩
                            case measure => (simp [intOf]; omega)
                          · exact absurd HC.out (by
                              have h3 := HP.out.len
                              have h4 := HL0.out
                              have h5 := HR.out
                              have e1 : j = a := by omega
                              have e2 : m = a - 1 := by omega
                              rw [e1, e2]
                              have := HPre.out.after HP.out (by omega) (by omega) a (Nat.le_refl _) (by omega)
                              omega)
                      · have LS : Hid (∀ W, Calls Tryz.prog 93 #[.int .u64 x, .int .u64 y] W fun e w' => e = .returned (.bool false) ∧ Below W.heap.size W w') := fun W => by
                          have h := less_any x y W
                          rw [show decide (x < y) = false from decide_eq_false hc] at h
                          exact h
                        go_upto_region 16 with fail
                        go_region_held3 (fun W => W.cell? ⟨g, j, none⟩ = some (.int .u64 x) ∧ W.cell? ⟨g, m, none⟩ = some (.int .u64 y)) (first | exact KB _ B0 | exact KB _ B1) (first
                          | (go_at_call 93; (with_reducible refine (LS.out _).mono ?_); clear LS; rintro e w1 ⟨rfl, hb1⟩; have B1 : Below wr.heap.size wr w1 := B0.trans (hb1.mono B0.size); clear hb1)
                          | fail)
                        all_goals
                          have HT1 : Hid (TurnU w w1 g R L1) := HT.out.below B1
                          have HC : Hid (¬ atL L1 j < atL L1 m) := by
                            have h9 : ¬ x < y := by omega
                            rw [HXY.out.1, HXY.out.2]
                            exact h9
                          have hx9 := HXY.out.1
                          have hy9 := HXY.out.2
                          clear HXY KB B0 B1 HT hc
                          subst hx9 hy9
                          have HT := HT1
                          clear HT1
                          generalize w1 = wr at *
                          have HS : Hid (SortedOn a i L1) := by
                            by_cases hja : a < j
                            · have := InsI.stop HI.out hja (by omega) (by rw [hm9.out]; have := HC.out; omega)
                              rw [hk9.out] at this
                              exact this
                            · have h2 := HI.out
                              rw [show j = a by omega] at h2
                              have := InsI.bottom h2
                              rw [hk9.out] at this
                              exact this
                          clear HI HC
                          by_cases hbi : b < i + 2
                          · have hbi' : ¬ (2 : Int) ≤ (bi : Int) := by omega
                            go_wp2
                            go_roundw
                            case rel => exact ⟨i, tt + 1, L1, rfl, by go_num, by omega, by omega, by omega, HP, HS, HT⟩
                            case measure => (simp [intOf]; omega)
                          · have hbi' : (2 : Int) ≤ (bi : Int) := by omega
                            go_wp2
                            go_loopw [10] (fun z wr => ∃ (j : Nat) (L1 : List Int), z = .int .i64 j ∧ i + 1 ≤ j ∧ j ≤ b ∧ Hid (PermOn a b L L1) ∧ Hid (SortedOn a i L1) ∧ Hid (TurnU w wr g R L1)) (fun z _ => b - (intOf z).toNat)
                            case atStart => exact ⟨i + 1, L1, by go_num, by omega, by omega, HP, HS, HT⟩
                            case round =>
                              obtain ⟨j, L1, rfl, hj1, hj2, HP', HS', HT'⟩ := hrel
                              clear HP HS HT
                              have HP := HP'
                              have HS := HS'
                              have HT := HT'
                              clear HP' HS' HT'
                              by_cases hjb : j < b
                              · have hjb' : (j : Int) < (b : Int) := by omega
                                obtain ⟨k, hk⟩ : ∃ k, j - 1 = k := ⟨_, rfl⟩
                                have wk : IntKind.i64.wrap ((j : Int) - 1) = (k : Int) := by rw [IntKind.wrap_i64]; have := HR.out; omega
                                have hj0 : (0 : Int) ≤ (j : Int) := by omega
                                have hjn : (j : Int) < (n : Int) := by have := HR.out; omega
                                have hk0 : (0 : Int) ≤ (k : Int) := by omega
                                have hkn : (k : Int) < (n : Int) := by have := HR.out; omega
                                have hki : i ≤ k := by omega
                                have hkj : k < j := by omega
                                clear hk
                                generalize hx : atL L1 j = x at *
                                generalize hy : atL L1 k = y at *
                                have KB : ∀ W, Below wr.heap.size wr W → W.cell? ⟨g, j, none⟩ = some (.int .u64 x) ∧ W.cell? ⟨g, k, none⟩ = some (.int .u64 y) := fun W hW => by
                                  have h1 := HT.out.1.below hW
                                  have h2 := HR.out
                                  have h3 := HP.out.len
                                  have h4 := HL0.out
                                  exact ⟨by rw [← hx]; exact h1.cell j (by omega), by rw [← hy]; exact h1.cell k (by omega)⟩
                                have B0 : Below wr.heap.size wr wr.drew := (Below.refl _ _).drew
                                have HXY : Hid (atL L1 j = x ∧ atL L1 k = y) := ⟨hx, hy⟩
                                clear hx hy
                                by_cases hc : x < y
                                · have LS : Hid (∀ W, Calls Tryz.prog 93 #[.int .u64 x, .int .u64 y] W fun e w' => e = .returned (.bool true) ∧ Below W.heap.size W w') := fun W => by
                                    have h := less_any x y W
                                    rw [show decide (x < y) = true from decide_eq_true hc] at h
                                    exact h
                                  go_upto_region 22 with fail
                                  go_region_held3 (fun W => W.cell? ⟨g, j, none⟩ = some (.int .u64 x) ∧ W.cell? ⟨g, k, none⟩ = some (.int .u64 y)) (first | exact KB _ B0 | exact KB _ B1) (first
                                    | (go_at_call 93; (with_reducible refine (LS.out _).mono ?_); clear LS; rintro e w1 ⟨rfl, hb1⟩; have B1 : Below wr.heap.size wr w1 := B0.trans (hb1.mono B0.size); clear hb1)
                                    | fail)
                                  all_goals
                                    have HT1 : Hid (TurnU w w1 g R L1) := HT.out.below B1
                                    have HC : Hid (atL L1 j < atL L1 k) := by
                                      have h9 : x < y := by omega
                                      rw [HXY.out.1, HXY.out.2]
                                      exact h9
                                    have hx9 := HXY.out.1
                                    have hy9 := HXY.out.2
                                    clear HXY KB B0 B1 HT hc
                                    subst hx9 hy9
                                    have HT := HT1
                                    clear HT1
                                    generalize w1 = wr at *
                                    have HP1 : Hid (PermOn a b L (swapL L1 j k)) := HP.out.swap (by omega) (by omega) (by omega) (by omega)
                                    have HS1 : Hid (SortedOn a i (swapL L1 j k)) := HS.out.keep (by have h3 := HP.out.len; have h4 := HL0.out; have := HR.out; omega) (by have h3 := HP.out.len; have h4 := HL0.out; have := HR.out; omega) (by omega) (by omega)
                                    have hjn0 : (0 : Int) ≤ (j : Int) := by omega
                                    have hs1 : j < L1.length := by have h2 := HR.out; have h3 := HP.out.len; have h4 := HL0.out; omega
                                    have hs2 : k < L1.length := by have h2 := HR.out; have h3 := HP.out.len; have h4 := HL0.out; omega
                                    have y1 := HT.out.1.cell j hs1
                                    have y2 := HT.out.1.cell k hs2
                                    generalize hx : atL L1 j = x at *
                                    generalize hy : atL L1 k = y at *
                                    obtain ⟨⟨u, y3⟩, f2, f1⟩ := HT.out.1.swapF (i := j) (j := k) hs1 hs2 y
                                    have HTs : Hid (∀ q, TurnU w (((wr.setCell ⟨g, j, none⟩ (.int .u64 y)).setCell ⟨g, k, none⟩ (.int .u64 x)).drewN q) g R (swapL L1 j k)) := fun q => by
                                      have h := HT.out.swap (i := j) (j := k) hs1 hs2
                                      rw [hx, hy] at h
                                      exact h.below ⟨rfl, rfl, rfl, Nat.le_refl _, fun _ _ => rfl⟩
                                    clear hx hy HT
                                    go_upto_region 23 with fail
                                    go_region
                                    obtain ⟨wX, hwX⟩ : ∃ W, ((wr.setCell ⟨g, j, none⟩ (.int .u64 y)).setCell ⟨g, k, none⟩ (.int .u64 x)).drew = W := ⟨_, rfl⟩
                                    have HT : Hid (TurnU w wX g R (swapL L1 j k)) := by rw [← hwX]; exact HTs.out 1
                                    rw [hwX]
                                    clear hwX HTs y1 y2 y3 f1 f2 hs1 hs2
                                    generalize wX = wr at *
                                    clear HP HS HC
                                    have HP := HP1
                                    have HS := HS1
                                    clear HP1 HS1
                                    generalize swapL L1 j k = L1 at *
                                    go_wp2
                                    go_roundw
                                    case rel => exact ⟨j + 1, L1, by go_num, by omega, by omega, HP, HS, HT⟩
                                    case measure => (simp [intOf]; omega)
                                · have LS : Hid (∀ W, Calls Tryz.prog 93 #[.int .u64 x, .int .u64 y] W fun e w' => e = .returned (.bool false) ∧ Below W.heap.size W w') := fun W => by
                                    have h := less_any x y W
                                    rw [show decide (x < y) = false from decide_eq_false hc] at h
                                    exact h
                                  go_upto_region 22 with fail
                                  go_region_held3 (fun W => W.cell? ⟨g, j, none⟩ = some (.int .u64 x) ∧ W.cell? ⟨g, k, none⟩ = some (.int .u64 y)) (first | exact KB _ B0 | exact KB _ B1) (first
                                    | (go_at_call 93; (with_reducible refine (LS.out _).mono ?_); clear LS; rintro e w1 ⟨rfl, hb1⟩; have B1 : Below wr.heap.size wr w1 := B0.trans (hb1.mono B0.size); clear hb1)
                                    | fail)
                                  all_goals
                                    have HT1 : Hid (TurnU w w1 g R L1) := HT.out.below B1
                                    have HC : Hid (¬ atL L1 j < atL L1 k) := by
                                      have h9 : ¬ x < y := by omega
                                      rw [HXY.out.1, HXY.out.2]
                                      exact h9
                                    have hx9 := HXY.out.1
                                    have hy9 := HXY.out.2
                                    clear HXY KB B0 B1 HT hc
                                    subst hx9 hy9
                                    have HT := HT1
                                    clear HT1
                                    generalize w1 = wr at *
                                    go_wp2
                                    go_roundw
                                    case rel => exact ⟨i, tt + 1, L1, rfl, by go_num, by omega, by omega, by omega, HP, HS, HT⟩
                                    case measure => (simp [intOf]; omega)
                              · have hjb' : ¬ (j : Int) < (b : Int) := by omega
                                go_wp2
                                go_roundw
                                case rel => exact ⟨i, tt + 1, L1, rfl, by go_num, by omega, by omega, by omega, HP, HS, HT⟩
                                case measure => (simp [intOf]; omega)
                    · have hj0' : ¬ (1 : Int) ≤ (j : Int) := by omega
                      have HS : Hid (SortedOn a i L1) := by
                        have h2 := HI.out
                        rw [show j = a by omega] at h2
                        have := InsI.bottom h2
                        rw [hk9.out] at this
                        exact this
                      clear HI
                      by_cases hbi : b < i + 2
                      · have hbi' : ¬ (2 : Int) ≤ (bi : Int) := by omega
                        go_wp2
                        go_roundw
                        case rel => exact ⟨i, tt + 1, L1, rfl, by go_num, by omega, by omega, by omega, HP, HS, HT⟩
                        case measure => (simp [intOf]; omega)
                      · have hbi' : (2 : Int) ≤ (bi : Int) := by omega
                        go_wp2
                        go_loopw [10] (fun z wr => ∃ (j : Nat) (L1 : List Int), z = .int .i64 j ∧ i + 1 ≤ j ∧ j ≤ b ∧ Hid (PermOn a b L L1) ∧ Hid (SortedOn a i L1) ∧ Hid (TurnU w wr g R L1)) (fun z _ => b - (intOf z).toNat)
                        case atStart => exact ⟨i + 1, L1, by go_num, by omega, by omega, HP, HS, HT⟩
                        case round =>
                          obtain ⟨j, L1, rfl, hj1, hj2, HP', HS', HT'⟩ := hrel
                          clear HP HS HT
                          have HP := HP'
                          have HS := HS'
                          have HT := HT'
                          clear HP' HS' HT'
                          by_cases hjb : j < b
                          · have hjb' : (j : Int) < (b : Int) := by omega
                            obtain ⟨k, hk⟩ : ∃ k, j - 1 = k := ⟨_, rfl⟩
                            have wk : IntKind.i64.wrap ((j : Int) - 1) = (k : Int) := by rw [IntKind.wrap_i64]; have := HR.out; omega
                            have hj0 : (0 : Int) ≤ (j : Int) := by omega
                            have hjn : (j : Int) < (n : Int) := by have := HR.out; omega
                            have hk0 : (0 : Int) ≤ (k : Int) := by omega
                            have hkn : (k : Int) < (n : Int) := by have := HR.out; omega
                            have hki : i ≤ k := by omega
                            have hkj : k < j := by omega
                            clear hk
                            generalize hx : atL L1 j = x at *
                            generalize hy : atL L1 k = y at *
                            have KB : ∀ W, Below wr.heap.size wr W → W.cell? ⟨g, j, none⟩ = some (.int .u64 x) ∧ W.cell? ⟨g, k, none⟩ = some (.int .u64 y) := fun W hW => by
                              have h1 := HT.out.1.below hW
                              have h2 := HR.out
                              have h3 := HP.out.len
                              have h4 := HL0.out
                              exact ⟨by rw [← hx]; exact h1.cell j (by omega), by rw [← hy]; exact h1.cell k (by omega)⟩
                            have B0 : Below wr.heap.size wr wr.drew := (Below.refl _ _).drew
                            have HXY : Hid (atL L1 j = x ∧ atL L1 k = y) := ⟨hx, hy⟩
                            clear hx hy
                            by_cases hc : x < y
                            · have LS : Hid (∀ W, Calls Tryz.prog 93 #[.int .u64 x, .int .u64 y] W fun e w' => e = .returned (.bool true) ∧ Below W.heap.size W w') := fun W => by
                                have h := less_any x y W
                                rw [show decide (x < y) = true from decide_eq_true hc] at h
                                exact h
                              go_upto_region 22 with fail
                              go_region_held3 (fun W => W.cell? ⟨g, j, none⟩ = some (.int .u64 x) ∧ W.cell? ⟨g, k, none⟩ = some (.int .u64 y)) (first | exact KB _ B0 | exact KB _ B1) (first
                                | (go_at_call 93; (with_reducible refine (LS.out _).mono ?_); clear LS; rintro e w1 ⟨rfl, hb1⟩; have B1 : Below wr.heap.size wr w1 := B0.trans (hb1.mono B0.size); clear hb1)
                                | fail)
                              all_goals
                                have HT1 : Hid (TurnU w w1 g R L1) := HT.out.below B1
                                have HC : Hid (atL L1 j < atL L1 k) := by
                                  have h9 : x < y := by omega
                                  rw [HXY.out.1, HXY.out.2]
                                  exact h9
                                have hx9 := HXY.out.1
                                have hy9 := HXY.out.2
                                clear HXY KB B0 B1 HT hc
                                subst hx9 hy9
                                have HT := HT1
                                clear HT1
                                generalize w1 = wr at *
                                have HP1 : Hid (PermOn a b L (swapL L1 j k)) := HP.out.swap (by omega) (by omega) (by omega) (by omega)
                                have HS1 : Hid (SortedOn a i (swapL L1 j k)) := HS.out.keep (by have h3 := HP.out.len; have h4 := HL0.out; have := HR.out; omega) (by have h3 := HP.out.len; have h4 := HL0.out; have := HR.out; omega) (by omega) (by omega)
                                have hjn0 : (0 : Int) ≤ (j : Int) := by omega
                                have hs1 : j < L1.length := by have h2 := HR.out; have h3 := HP.out.len; have h4 := HL0.out; omega
                                have hs2 : k < L1.length := by have h2 := HR.out; have h3 := HP.out.len; have h4 := HL0.out; omega
                                have y1 := HT.out.1.cell j hs1
                                have y2 := HT.out.1.cell k hs2
                                generalize hx : atL L1 j = x at *
                                generalize hy : atL L1 k = y at *
                                obtain ⟨⟨u, y3⟩, f2, f1⟩ := HT.out.1.swapF (i := j) (j := k) hs1 hs2 y
                                have HTs : Hid (∀ q, TurnU w (((wr.setCell ⟨g, j, none⟩ (.int .u64 y)).setCell ⟨g, k, none⟩ (.int .u64 x)).drewN q) g R (swapL L1 j k)) := fun q => by
                                  have h := HT.out.swap (i := j) (j := k) hs1 hs2
                                  rw [hx, hy] at h
                                  exact h.below ⟨rfl, rfl, rfl, Nat.le_refl _, fun _ _ => rfl⟩
                                clear hx hy HT
                                go_upto_region 23 with fail
                                go_region
                                obtain ⟨wX, hwX⟩ : ∃ W, ((wr.setCell ⟨g, j, none⟩ (.int .u64 y)).setCell ⟨g, k, none⟩ (.int .u64 x)).drew = W := ⟨_, rfl⟩
                                have HT : Hid (TurnU w wX g R (swapL L1 j k)) := by rw [← hwX]; exact HTs.out 1
                                rw [hwX]
                                clear hwX HTs y1 y2 y3 f1 f2 hs1 hs2
                                generalize wX = wr at *
                                clear HP HS HC
                                have HP := HP1
                                have HS := HS1
                                clear HP1 HS1
                                generalize swapL L1 j k = L1 at *
                                go_wp2
                                go_roundw
                                case rel => exact ⟨j + 1, L1, by go_num, by omega, by omega, HP, HS, HT⟩
                                case measure => (simp [intOf]; omega)
                            · have LS : Hid (∀ W, Calls Tryz.prog 93 #[.int .u64 x, .int .u64 y] W fun e w' => e = .returned (.bool false) ∧ Below W.heap.size W w') := fun W => by
                                have h := less_any x y W
                                rw [show decide (x < y) = false from decide_eq_false hc] at h
                                exact h
                              go_upto_region 22 with fail
                              go_region_held3 (fun W => W.cell? ⟨g, j, none⟩ = some (.int .u64 x) ∧ W.cell? ⟨g, k, none⟩ = some (.int .u64 y)) (first | exact KB _ B0 | exact KB _ B1) (first
                                | (go_at_call 93; (with_reducible refine (LS.out _).mono ?_); clear LS; rintro e w1 ⟨rfl, hb1⟩; have B1 : Below wr.heap.size wr w1 := B0.trans (hb1.mono B0.size); clear hb1)
                                | fail)
                              all_goals
                                have HT1 : Hid (TurnU w w1 g R L1) := HT.out.below B1
                                have HC : Hid (¬ atL L1 j < atL L1 k) := by
                                  have h9 : ¬ x < y := by omega
                                  rw [HXY.out.1, HXY.out.2]
                                  exact h9
                                have hx9 := HXY.out.1
                                have hy9 := HXY.out.2
                                clear HXY KB B0 B1 HT hc
                                subst hx9 hy9
                                have HT := HT1
                                clear HT1
                                generalize w1 = wr at *
                                go_wp2
                                go_roundw
                                case rel => exact ⟨i, tt + 1, L1, rfl, by go_num, by omega, by omega, by omega, HP, HS, HT⟩
                                case measure => (simp [intOf]; omega)
                          · have hjb' : ¬ (j : Int) < (b : Int) := by omega
                            go_wp2
                            go_roundw
                            case rel => exact ⟨i, tt + 1, L1, rfl, by go_num, by omega, by omega, by omega, HP, HS, HT⟩
                            case measure => (simp [intOf]; omega)
          · have LS : Hid (∀ W, Calls Tryz.prog 93 #[.int .u64 x, .int .u64 y] W fun e w' => e = .returned (.bool false) ∧ Below W.heap.size W w') := fun W => by
              have h := less_any x y W
              rw [show decide (x < y) = false from decide_eq_false hc] at h
              exact h
            go_upto_region 5 with fail
            go_region_held3 (fun W => W.cell? ⟨g, i, none⟩ = some (.int .u64 x) ∧ W.cell? ⟨g, k, none⟩ = some (.int .u64 y)) (first | exact KB _ B0 | exact KB _ B1) (first
              | (go_at_call 93; (with_reducible refine (LS.out _).mono ?_); clear LS; rintro e w1 ⟨rfl, hb1⟩; have B1 : Below wr.heap.size wr w1 := B0.trans (hb1.mono B0.size); clear hb1)
              | fail)
            all_goals
              have HT1 : Hid (TurnU w w1 g R L1) := HT.out.below B1
              have HC : Hid (¬ atL L1 i < atL L1 k) := by
                have h9 : ¬ x < y := by omega
                rw [HXY.out.1, HXY.out.2]
                exact h9
              have hx9 := HXY.out.1
              have hy9 := HXY.out.2
              clear HXY KB B0 B1 HT hc
              subst hx9 hy9
              have HT := HT1
              clear HT1
              generalize w1 = wr at *
              have HS1 : Hid (SortedOn a (i + 1) L1) := fun p q h1 h2 h3 => by
                by_cases hq : q = i
                · subst hq
                  have hc := HC.out
                  by_cases hp : p = k
                  · subst hp; omega
                  · have := HS.out p k h1 (by omega) (by omega)
                    omega
                · exact HS.out p q h1 h2 (by omega)
              clear HS HC
              go_wp2
              go_roundw
              case rel => exact ⟨i + 1, by go_num, by omega, by omega, HS1, HT⟩
              case measure => (simp [intOf]; omega)
        · have hib' : ¬ (i : Int) < (b : Int) := by omega
          have hdb : decide ((i : Int) < (b : Int)) = false := decide_eq_false hib'
          have heq : ((i : Int) == (b : Int)) = true := by simp; omega
          have HE : Hid (∀ q, PartialP w g a b L R (.returned (.bool true)) (wr.drewN q)) := fun q => ⟨true, L1, rfl, HP.out, fun _ => by have h := HS.out; rw [show i = b by omega] at h; exact h, HT.out.below ⟨rfl, rfl, rfl, Nat.le_refl _, fun _ _ => rfl⟩⟩
          clear HS HT
          go_upto_region 5 with fail
          go_quiet (fail)
          go_wp2
          go_ret
          exact HE.out _
    · have ht5' : ¬ (tt : Int) < 5 := by omega
      have HE : Hid (PartialP w g a b L R (.returned (.bool false)) wr) := ⟨false, L1, rfl, HP.out, (fun h => Bool.noConfusion h), HT.out⟩
      clear HP HS HT
      go_wp2
      go_ret
      exact HE.out
end Go.Proofs.YtiflfapdffkcbaaGreatDoor.qs
