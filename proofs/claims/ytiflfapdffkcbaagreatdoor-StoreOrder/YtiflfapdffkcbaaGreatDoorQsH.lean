/-
  QsH.
-/
import Derived.Test.YtiflfapdffkcbaaGreatDoorQsC
namespace Go.Proofs.YtiflfapdffkcbaaGreatDoor.qs
open Go Go.RowKit
set_option maxRecDepth 100000

/-- While it is parted: what is below i is not greater, what is above j is. -/
def ParE (a b i j : Nat) (L : List Int) (v : Int) : Prop := atL L a = v ∧ (∀ k, a < k → k < i → ¬ v < atL L k) ∧ (∀ k, j < k → k < b → v < atL L k)
theorem ParE.incr {a b i j : Nat} {L : List Int} {v : Int} (h : ParE a b i j L v) (ha : a < i) (hc : ¬ v < atL L i) : ParE a b (i + 1) j L v := ⟨h.1, fun k h1 h2 => by
  rcases Nat.lt_or_ge k i with h3 | h3
  · exact h.2.1 k h1 h3
  · obtain rfl : k = i := by omega
    exact hc, h.2.2⟩
theorem ParE.decr {a b i j : Nat} {L : List Int} {v : Int} (h : ParE a b i j L v) (hj : 0 < j) (hc : v < atL L j) : ParE a b i (j - 1) L v := ⟨h.1, h.2.1, fun k h1 h2 => by
  rcases Nat.lt_or_ge j k with h3 | h3
  · exact h.2.2 k h3 h2
  · obtain rfl : k = j := by omega
    exact hc⟩
theorem ParE.swap {a b i j : Nat} {L : List Int} {v : Int} (h : ParE a b i j L v) (ha : a < i) (hij : i < j) (hb : j < b) (hl : b ≤ L.length) (h1 : v < atL L i) (h2 : ¬ v < atL L j) : ParE a b (i + 1) (j - 1) (swapL L i j) v := by
  have e : ∀ k, atL (swapL L i j) k = if k = j then atL L i else if k = i then atL L j else atL L k := fun k => atL_swap L i j k (by omega) (by omega)
  refine ⟨by rw [e, if_neg (by omega), if_neg (by omega)]; exact h.1, fun k h3 h4 => ?_, fun k h3 h4 => ?_⟩
  · rw [e, if_neg (by omega)]
    by_cases h5 : k = i
    · rw [if_pos h5]; exact h2
    · rw [if_neg h5]; exact h.2.1 k h3 (by omega)
  · rw [e]
    by_cases h5 : k = j
    · rw [if_pos h5]; exact h1
    · rw [if_neg h5, if_neg (by omega)]; exact h.2.2 k (by omega) h4
/-- What partitionEqual tells. -/
def PartE (w : World) (g a b : Nat) (v : Int) (L : List Int) (R : List Value) (e : Ending) (w' : World) : Prop := ∃ (m : Nat) (L' : List Int), e = .returned (.int .i64 m) ∧ PermOn a b L L' ∧ a < m ∧ m ≤ b ∧ (∀ k, a ≤ k → k < m → ¬ v < atL L' k) ∧ (∀ k, m ≤ k → k < b → v < atL L' k) ∧ TurnU w w' g R L'
theorem partE_mk {w w' : World} {g a b i j : Nat} {L L' : List Int} {R : List Value} {v : Int} (h1 : PermOn a b L L') (hp : ParE a b i j L' v) (ha : a < i) (hij : i = j + 1) (hb : j < b) (h3 : TurnU w w' g R L') : PartE w g a b v L R (.returned (.int .i64 i)) w' :=
  ⟨i, L', rfl, h1, ha, by omega, fun k h4 h5 => by
    rcases Nat.lt_or_eq_of_le h4 with h6 | h6
    · exact hp.2.1 k h6 h5
    · subst h6; rw [hp.1]; omega, fun k h4 h5 => hp.2.2 k (by omega) h5, h3⟩
set_option maxHeartbeats 32000000 in
theorem partEqual_any (g n c a b p : Nat) (L : List Int) (R : List Value) (w : World) (h : U64R w g L R) (hn : L.length = n) (hab : a + 1 < b) (hb : b ≤ n) (hz : n ≤ 1099511627776) (hp1 : a ≤ p) (hp2 : p < b) :
    Calls Tryz.prog 94 #[.slice (some ⟨g, 0, none⟩) n c, .int .i64 a, .int .i64 b, .int .i64 p] w (PartE w g a b (atL L p) L R) := by
  have HR : Hid (a + 1 < b ∧ b ≤ n ∧ n ≤ 1099511627776 ∧ a ≤ p ∧ p < b) := ⟨hab, hb, hz, hp1, hp2⟩
  have HT : Hid (TurnU w w g R L) := TurnU.refl h
  have HL0 : Hid (L.length = n) := hn
  have ha0 : (0 : Int) ≤ (a : Int) := by omega
  have han : (a : Int) < (n : Int) := by omega
  have hp0 : (0 : Int) ≤ (p : Int) := by omega
  have hpn : (p : Int) < (n : Int) := by omega
  have wa : IntKind.i64.wrap ((a : Int) + 1) = ((a + 1 : Nat) : Int) := by rw [IntKind.wrap_i64]; omega
  have wb : IntKind.i64.wrap ((b : Int) - 1) = ((b - 1 : Nat) : Int) := by rw [IntKind.wrap_i64]; omega
  obtain ⟨v, hv⟩ : ∃ v, atL L p = v := ⟨_, rfl⟩
  have HV : Hid (atL (swapL L a p) a = v) := by
    rw [atL_swap L a p a (by omega) (by omega)]
    split
    · rename_i e; rw [e]; exact hv
    · rw [if_pos rfl]; exact hv
  rw [hv]
  clear h hn hv
  go_enter Tryz.func94, Tryz.ntmps94
  have hs1 : a < L.length := (by have := HR.out; have := HL0.out; omega)
  have hs2 : p < L.length := (by have := HR.out; have := HL0.out; omega)
  have y1 := HT.out.1.cell a hs1
  have y2 := HT.out.1.cell p hs2
  generalize hx : atL L a = x at *
  generalize hy : atL L p = y at *
  obtain ⟨⟨u, y3⟩, f2, f1⟩ := HT.out.1.swapF (i := a) (j := p) hs1 hs2 y
  have HTs : Hid (∀ q, TurnU w (((w.setCell ⟨g, a, none⟩ (.int .u64 y)).setCell ⟨g, p, none⟩ (.int .u64 x)).drewN q) g R (swapL L a p)) := fun q => by
    have h := HT.out.swap (i := a) (j := p) hs1 hs2
    rw [hx, hy] at h
    exact h.below ⟨rfl, rfl, rfl, Nat.le_refl _, fun _ _ => rfl⟩
  clear hx hy HT
  go_upto_region 1 with fail
  go_region
  obtain ⟨wX, hwX⟩ : ∃ W, ((w.setCell ⟨g, a, none⟩ (.int .u64 y)).setCell ⟨g, p, none⟩ (.int .u64 x)).drew = W := ⟨_, rfl⟩
  have HT : Hid (TurnU w wX g R (swapL L a p)) := by rw [← hwX]; exact HTs.out 1
  rw [hwX]
  clear hwX HTs y1 y2 y3 f1 f2 hs1 hs2
  generalize wX = wr at *
  have HPm : Hid (PermOn a b L (swapL L a p)) := (PermOn.refl a b L).swap (by omega) (by omega) hp1 hp2
  have HLn : Hid ((swapL L a p).length = n) := by rw [swapL_len]; exact HL0.out
  have HP : Hid (ParE a b (a + 1) (b - 1) (swapL L a p) v) := ⟨HV.out, fun k h1 h2 => absurd h2 (by omega), fun k h1 h2 => absurd h2 (by omega)⟩
  have HB : Hid (a < a + 1 ∧ a + 1 ≤ (b - 1) + 1 ∧ b - 1 < b) := ⟨by omega, by omega, by omega⟩
  obtain ⟨i9, hi⟩ : ∃ i, a + 1 = i := ⟨_, rfl⟩
  obtain ⟨j9, hj⟩ : ∃ j, b - 1 = j := ⟨_, rfl⟩
  rw [hi] at HP HB wa
  rw [hj] at HP HB wb
  clear hi hj HV
  generalize swapL L a p = L1 at *
  go_wp2
  go_loopw [9, 10] (fun z y wr => ∃ (i j : Nat) (L1 : List Int), z = .int .i64 i ∧ y = .int .i64 j ∧ Hid (a < i ∧ i ≤ j + 1 ∧ j < b) ∧ Hid (PermOn a b L L1) ∧ Hid (L1.length = n) ∧ Hid (ParE a b i j L1 v) ∧ Hid (TurnU w wr g R L1)) (fun z y _ => (intOf y).toNat + 1 - (intOf z).toNat)
  case atStart => exact ⟨i9, j9, L1, rfl, rfl, HB, HPm, HLn, HP, HT⟩
  case round =>
    obtain ⟨i, j, L1, rfl, rfl, HB2, HPm2, HLn2, HP2, HT2⟩ := hrel
    clear HB HPm HLn HP HT
    have HB := HB2
    have HPm := HPm2
    have HLn := HLn2
    have HP := HP2
    have HT := HT2
    clear HB2 HPm2 HLn2 HP2 HT2
    go_wp2
    obtain ⟨is, hs0⟩ : ∃ x : Nat, x = i := ⟨_, rfl⟩
    have hside : is ≤ i := by omega
    have HSu : Hid (is = i) := hs0
    clear hs0
    go_loopw [9] (fun z wr => ∃ i : Nat, z = .int .i64 i ∧ is ≤ i ∧ Hid (a < i ∧ i ≤ j + 1 ∧ j < b) ∧ Hid (ParE a b i j L1 v) ∧ Hid (TurnU w wr g R L1) ∧ Hid True) (fun z _ => j + 1 - (intOf z).toNat)
    case atStart => exact ⟨_, rfl, hside, HB, HP, HT, True.intro⟩
    case round =>
      obtain ⟨i, rfl, hside', HB', HP', HT', HF'⟩ := hrel
      clear hside HB HP HT
      have HB := HB'
      have HP := HP'
      have HT := HT'
      have HF := HF'
      clear HB' HP' HT' HF'
      by_cases hij : i ≤ j
      · have hij' : (i : Int) ≤ (j : Int) := by omega
        have hd : decide ((i : Int) ≤ (j : Int)) = true := decide_eq_true hij'
        have hk0 : (0 : Int) ≤ (i : Int) := by omega
        have hkn : (i : Int) < (n : Int) := by have := HB.out; have := HR.out; omega
        obtain ⟨x, hx⟩ : ∃ x, atL L1 i = x := ⟨_, rfl⟩
        have KB : ∀ W, Below wr.heap.size wr W → W.cell? ⟨g, i, none⟩ = some (.int .u64 x) ∧ W.cell? ⟨g, a, none⟩ = some (.int .u64 v) := fun W hW => by
          have h1 := HT.out.1.below hW
          have h2 := HB.out
          have h3 := HR.out
          have h4 := HLn.out
          exact ⟨by rw [← hx]; exact h1.cell i (by omega), by rw [← HP.out.1]; exact h1.cell a (by omega)⟩
        have B0 : Below wr.heap.size wr wr.drew := (Below.refl _ _).drew
        have HX0 : Hid (atL L1 i = x) := hx
        by_cases hc : v < x
        · have LS : Hid (∀ W, Calls Tryz.prog 93 #[.int .u64 v, .int .u64 x] W fun e w' => e = .returned (.bool true) ∧ Below W.heap.size W w') := fun W => by
            have h := less_any v x W
            rw [show decide (v < x) = true from decide_eq_true hc] at h
            exact h
          clear hx
          go_upto_region 3 with fail
          go_region_held3 (fun W => W.cell? ⟨g, i, none⟩ = some (.int .u64 x) ∧ W.cell? ⟨g, a, none⟩ = some (.int .u64 v)) (first | exact KB _ B0 | exact KB _ B1) (first
            | (go_at_call 93; (with_reducible refine (LS.out _).mono ?_); clear LS; rintro e w1 ⟨rfl, hb1⟩; have B1 : Below wr.heap.size wr w1 := B0.trans (hb1.mono B0.size); clear hb1)
            | fail)
          all_goals
            have HT1 : Hid (TurnU w w1 g R L1) := HT.out.below B1
            have HF1 : Hid (j < i ∨ v < atL L1 i) := Or.inr (by rw [HX0.out]; omega)
            clear KB B0 B1 HT HF hc hd hk0 hkn
            have hx9 := HX0.out
            clear HX0
            subst hx9
            have HT := HT1
            have HF := HF1
            clear HT1 HF1
            generalize w1 = wr at *
            go_wp2
            obtain ⟨js, hs0⟩ : ∃ x : Nat, x = j := ⟨_, rfl⟩
            have hside : j ≤ js := by omega
            have HSd : Hid (js = j) := hs0
            clear hs0
            go_loopw [10] (fun z wr => ∃ j : Nat, z = .int .i64 j ∧ j ≤ js ∧ Hid (a < i ∧ i ≤ j + 1 ∧ j < b) ∧ Hid (ParE a b i j L1 v) ∧ Hid (TurnU w wr g R L1) ∧ Hid (j < i ∨ v < atL L1 i)) (fun z _ => (intOf z).toNat)
            case atStart => exact ⟨_, rfl, hside, HB, HP, HT, HF⟩
            case round =>
              obtain ⟨j, rfl, hside', HB', HP', HT', HF'⟩ := hrel
              clear hside HB HP HT HF
              have HB := HB'
              have HP := HP'
              have HT := HT'
              have HF := HF'
              clear HB' HP' HT' HF'
              by_cases hij : i ≤ j
              · have hij' : (i : Int) ≤ (j : Int) := by omega
                have hd : decide ((i : Int) ≤ (j : Int)) = true := decide_eq_true hij'
                have hk0 : (0 : Int) ≤ (j : Int) := by omega
                have hkn : (j : Int) < (n : Int) := by have := HB.out; have := HR.out; omega
                obtain ⟨x, hx⟩ : ∃ x, atL L1 j = x := ⟨_, rfl⟩
                have KB : ∀ W, Below wr.heap.size wr W → W.cell? ⟨g, j, none⟩ = some (.int .u64 x) ∧ W.cell? ⟨g, a, none⟩ = some (.int .u64 v) := fun W hW => by
                  have h1 := HT.out.1.below hW
                  have h2 := HB.out
                  have h3 := HR.out
                  have h4 := HLn.out
                  exact ⟨by rw [← hx]; exact h1.cell j (by omega), by rw [← HP.out.1]; exact h1.cell a (by omega)⟩
                have B0 : Below wr.heap.size wr wr.drew := (Below.refl _ _).drew
                have HX0 : Hid (atL L1 j = x) := hx
                by_cases hc : v < x
                · have LS : Hid (∀ W, Calls Tryz.prog 93 #[.int .u64 v, .int .u64 x] W fun e w' => e = .returned (.bool true) ∧ Below W.heap.size W w') := fun W => by
                    have h := less_any v x W
                    rw [show decide (v < x) = true from decide_eq_true hc] at h
                    exact h
                  clear hx
                  go_upto_region 5 with fail
                  go_region_held3 (fun W => W.cell? ⟨g, j, none⟩ = some (.int .u64 x) ∧ W.cell? ⟨g, a, none⟩ = some (.int .u64 v)) (first | exact KB _ B0 | exact KB _ B1) (first
                    | (go_at_call 93; (with_reducible refine (LS.out _).mono ?_); clear LS; rintro e w1 ⟨rfl, hb1⟩; have B1 : Below wr.heap.size wr w1 := B0.trans (hb1.mono B0.size); clear hb1)
                    | fail)
                  all_goals
                    have HT1 : Hid (TurnU w w1 g R L1) := HT.out.below B1
                    have HP1 : Hid (ParE a b i (j - 1) L1 v) := HP.out.decr (by have := HB.out; omega) (by rw [HX0.out]; exact hc)
                    have HB1 : Hid (a < i ∧ i ≤ (j - 1) + 1 ∧ j - 1 < b) := ⟨by have := HB.out; omega, by have := HB.out; omega, by have := HB.out; omega⟩
                    have HF1 : Hid (j - 1 < i ∨ v < atL L1 i) := by rcases HF.out with h | h; exact Or.inl (by omega); exact Or.inr h
                    have wj : IntKind.i64.wrap ((j : Int) - 1) = ((j - 1 : Nat) : Int) := by rw [IntKind.wrap_i64]; have := HB.out; have := HR.out; omega
                    obtain ⟨k1, hk1⟩ : ∃ k1, j - 1 = k1 := ⟨_, rfl⟩
                    have hlt1 : k1 < j := by have := HB.out; omega
                    rw [hk1] at HP1 HB1 HF1 wj
                    clear KB B0 B1 HT HP HB HF HX0 hc hk1
                    go_wp2
                    go_roundw
                    case rel => exact ⟨k1, rfl, by omega, HB1, HP1, HT1, HF1⟩
                    case measure => (simp [intOf]; omega)
                · have LS : Hid (∀ W, Calls Tryz.prog 93 #[.int .u64 v, .int .u64 x] W fun e w' => e = .returned (.bool false) ∧ Below W.heap.size W w') := fun W => by
                    have h := less_any v x W
                    rw [show decide (v < x) = false from decide_eq_false hc] at h
                    exact h
                  clear hx
                  go_upto_region 5 with fail
                  go_region_held3 (fun W => W.cell? ⟨g, j, none⟩ = some (.int .u64 x) ∧ W.cell? ⟨g, a, none⟩ = some (.int .u64 v)) (first | exact KB _ B0 | exact KB _ B1) (first
                    | (go_at_call 93; (with_reducible refine (LS.out _).mono ?_); clear LS; rintro e w1 ⟨rfl, hb1⟩; have B1 : Below wr.heap.size wr w1 := B0.trans (hb1.mono B0.size); clear hb1)
                    | fail)
                  all_goals
                    have HT1 : Hid (TurnU w w1 g R L1) := HT.out.below B1
                    have HG1 : Hid (i ≤ j ∧ ¬ v < atL L1 j) := ⟨hij, by rw [HX0.out]; omega⟩
                    clear KB B0 B1 HT  hc hd hk0 hkn
                    have hx9 := HX0.out
                    clear HX0
                    subst hx9
                    have HT := HT1
                    have HG := HG1
                    clear HT1 HG1
                    generalize w1 = wr at *
                    have hij2 : i < j := by
                      rcases HF.out with h | h
                      · have := HG.out.1; omega
                      · have h2 := HG.out; rcases Nat.lt_or_eq_of_le h2.1 with h3 | h3
                        · exact h3
                        · rw [h3] at h; omega
                    have HQ : Hid (PermOn a b L (swapL L1 i j) ∧ ParE a b (i + 1) (j - 1) (swapL L1 i j) v ∧ (swapL L1 i j).length = n ∧ (a < i + 1 ∧ i + 1 ≤ (j - 1) + 1 ∧ j - 1 < b)) := by
                      have hb := HB.out
                      have hr := HR.out
                      have hl := HLn.out
                      refine ⟨HPm.out.swap (by omega) (by omega) (by omega) (by omega), HP.out.swap (by omega) hij2 (by omega) (by omega) ?_ HG.out.2, by rw [swapL_len]; exact hl, by omega, by omega, by omega⟩
                      rcases HF.out with h | h
                      · omega
                      · exact h
                    have hi0 : (0 : Int) ≤ (i : Int) := by omega
                    have hin : (i : Int) < (n : Int) := by have := HB.out; have := HR.out; omega
                    have hj0 : (0 : Int) ≤ (j : Int) := by omega
                    have hjn : (j : Int) < (n : Int) := by have := HB.out; have := HR.out; omega
                    have hij3 : ¬ (j : Int) < (i : Int) := by omega
                    have wi : IntKind.i64.wrap ((i : Int) + 1) = ((i + 1 : Nat) : Int) := by rw [IntKind.wrap_i64]; have := HB.out; have := HR.out; omega
                    have wj : IntKind.i64.wrap ((j : Int) - 1) = ((j - 1 : Nat) : Int) := by rw [IntKind.wrap_i64]; have := HB.out; have := HR.out; omega
                    have hs1 : i < L1.length := (by have := HB.out; have := HR.out; have := HLn.out; omega)
                    have hs2 : j < L1.length := (by have := HB.out; have := HR.out; have := HLn.out; omega)
                    have y1 := HT.out.1.cell i hs1
                    have y2 := HT.out.1.cell j hs2
                    generalize hx : atL L1 i = x at *
                    generalize hy : atL L1 j = y at *
                    obtain ⟨⟨u, y3⟩, f2, f1⟩ := HT.out.1.swapF (i := i) (j := j) hs1 hs2 y
                    have HTs : Hid (∀ q, TurnU w (((wr.setCell ⟨g, i, none⟩ (.int .u64 y)).setCell ⟨g, j, none⟩ (.int .u64 x)).drewN q) g R (swapL L1 i j)) := fun q => by
                      have h := HT.out.swap (i := i) (j := j) hs1 hs2
                      rw [hx, hy] at h
                      exact h.below ⟨rfl, rfl, rfl, Nat.le_refl _, fun _ _ => rfl⟩
                    clear hx hy HT
                    go_upto_region 8 with fail
                    go_region
                    obtain ⟨wX, hwX⟩ : ∃ W, ((wr.setCell ⟨g, i, none⟩ (.int .u64 y)).setCell ⟨g, j, none⟩ (.int .u64 x)).drew = W := ⟨_, rfl⟩
                    have HT : Hid (TurnU w wX g R (swapL L1 i j)) := by rw [← hwX]; exact HTs.out 1
                    rw [hwX]
                    clear hwX HTs y1 y2 y3 f1 f2 hs1 hs2
                    generalize wX = wr at *
                    obtain ⟨i9, hi9⟩ : ∃ i9, i + 1 = i9 := ⟨_, rfl⟩
                    obtain ⟨j9, hj9⟩ : ∃ j9, j - 1 = j9 := ⟨_, rfl⟩
                    have hm9 : j9 + 1 - i9 < j + 1 - i := by omega
                    rw [hi9, hj9] at HQ
                    rw [hi9] at wi
                    rw [hj9] at wj
                    clear hi9 hj9 HP HPm HLn HF HG HB hij2
                    have HPm : Hid (PermOn a b L (swapL L1 i j)) := HQ.out.1
                    have HP : Hid (ParE a b i9 j9 (swapL L1 i j) v) := HQ.out.2.1
                    have HLn : Hid ((swapL L1 i j).length = n) := HQ.out.2.2.1
                    have HB : Hid (a < i9 ∧ i9 ≤ j9 + 1 ∧ j9 < b) := HQ.out.2.2.2
                    clear HQ
                    generalize swapL L1 i j = L1 at *
                    go_wp2
                    go_roundw
                    case rel => exact ⟨i9, j9, L1, rfl, rfl, HB, HPm, HLn, HP, HT⟩
                    case measure => (have h1 := HSu.out; have h2 := HSd.out; simp [intOf]; omega)
              · have hij' : ¬ (i : Int) ≤ (j : Int) := by omega
                have hd : decide ((i : Int) ≤ (j : Int)) = false := decide_eq_false hij'
                have HTn : Hid (∀ q, TurnU w (wr.drewN q) g R L1) := fun q => HT.out.below ⟨rfl, rfl, rfl, Nat.le_refl _, fun _ _ => rfl⟩
                clear HT
                go_upto_region 5 with fail
                go_quiet (fail)
                obtain ⟨wX, hwX⟩ : ∃ W, wr.drewN nq = W := ⟨_, rfl⟩
                have HT : Hid (TurnU w wX g R L1) := by rw [← hwX]; exact HTn.out nq
                rw [hwX]
                clear hwX HTn
                generalize wX = wr at *
                have HF : Hid (j < i ∨ v < atL L1 i) := Or.inl (by omega)
                have hi1 : i = j + 1 := by have := HB.out; omega
                have HE1 : Hid (PartE w g a b v L R (.returned (.int .i64 i)) wr) := partE_mk HPm.out HP.out HB.out.1 hi1 HB.out.2.2 HT.out
                have hij2 : (j : Int) < (i : Int) := by omega
                clear hi1
                go_wp2
                go_ret
                exact HE1.out
        · have LS : Hid (∀ W, Calls Tryz.prog 93 #[.int .u64 v, .int .u64 x] W fun e w' => e = .returned (.bool false) ∧ Below W.heap.size W w') := fun W => by
            have h := less_any v x W
            rw [show decide (v < x) = false from decide_eq_false hc] at h
            exact h
          clear hx
          go_upto_region 3 with fail
          go_region_held3 (fun W => W.cell? ⟨g, i, none⟩ = some (.int .u64 x) ∧ W.cell? ⟨g, a, none⟩ = some (.int .u64 v)) (first | exact KB _ B0 | exact KB _ B1) (first
            | (go_at_call 93; (with_reducible refine (LS.out _).mono ?_); clear LS; rintro e w1 ⟨rfl, hb1⟩; have B1 : Below wr.heap.size wr w1 := B0.trans (hb1.mono B0.size); clear hb1)
            | fail)
          all_goals
            have HT1 : Hid (TurnU w w1 g R L1) := HT.out.below B1
            have HP1 : Hid (ParE a b (i + 1) j L1 v) := HP.out.incr (by have := HB.out; omega) (by rw [HX0.out]; omega)
            have HB1 : Hid (a < i + 1 ∧ i + 1 ≤ j + 1 ∧ j < b) := ⟨by have := HB.out; omega, by have := HB.out; omega, by have := HB.out; omega⟩
            
            have wi : IntKind.i64.wrap ((i : Int) + 1) = ((i + 1 : Nat) : Int) := by rw [IntKind.wrap_i64]; have := HB.out; have := HR.out; omega
            obtain ⟨k1, hk1⟩ : ∃ k1, i + 1 = k1 := ⟨_, rfl⟩
            have hlt1 : i < k1 := by omega
            rw [hk1] at HP1 HB1 wi
            clear KB B0 B1 HT HP HB HF HX0 hc hk1
            go_wp2
            go_roundw
            case rel => exact ⟨k1, rfl, by omega, HB1, HP1, HT1, True.intro⟩
            case measure => (simp [intOf]; omega)
      · have hij' : ¬ (i : Int) ≤ (j : Int) := by omega
        have hd : decide ((i : Int) ≤ (j : Int)) = false := decide_eq_false hij'
        have HTn : Hid (∀ q, TurnU w (wr.drewN q) g R L1) := fun q => HT.out.below ⟨rfl, rfl, rfl, Nat.le_refl _, fun _ _ => rfl⟩
        clear HT
        go_upto_region 3 with fail
        go_quiet (fail)
        obtain ⟨wX, hwX⟩ : ∃ W, wr.drewN nq = W := ⟨_, rfl⟩
        have HT : Hid (TurnU w wX g R L1) := by rw [← hwX]; exact HTn.out nq
        rw [hwX]
        clear hwX HTn
        generalize wX = wr at *
        have HF : Hid (j < i ∨ v < atL L1 i) := Or.inl (by omega)
        go_wp2
        go_loopw [10] (fun z wr => z = .int .i64 j ∧ Hid (TurnU w wr g R L1)) (fun _ _ => 0)
        case atStart => exact ⟨rfl, HT⟩
        case round =>
          obtain ⟨rfl, HT'⟩ := hrel
          clear HT
          have HTn : Hid (∀ q, TurnU w (wr.drewN q) g R L1) := fun q => HT'.out.below ⟨rfl, rfl, rfl, Nat.le_refl _, fun _ _ => rfl⟩
          clear HT'
          go_upto_region 5 with fail
          go_quiet (fail)
          obtain ⟨wX, hwX⟩ : ∃ W, wr.drewN nq = W := ⟨_, rfl⟩
          have HT : Hid (TurnU w wX g R L1) := by rw [← hwX]; exact HTn.out nq
          rw [hwX]
          clear hwX HTn
          generalize wX = wr at *
          have hi1 : i = j + 1 := by have := HB.out; omega
          have HE1 : Hid (PartE w g a b v L R (.returned (.int .i64 i)) wr) := partE_mk HPm.out HP.out HB.out.1 hi1 HB.out.2.2 HT.out
          have hij2 : (j : Int) < (i : Int) := by omega
          clear hi1
          go_wp2
          go_ret
          exact HE1.out
end Go.Proofs.YtiflfapdffkcbaaGreatDoor.qs
