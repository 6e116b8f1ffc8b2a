/-
  Merged: QsI, QsJ.
-/
import Derived.Test.YtiflfapdffkcbaaGreatDoorQsC
namespace Go.Proofs.YtiflfapdffkcbaaGreatDoor.qs
open Go Go.RowKit
set_option maxRecDepth 100000

/-- A heap from lo on, of hi numbers from f on. -/
def HeapF (f lo hi : Nat) (L : List Int) : Prop := ∀ i c, lo ≤ i → (c = 2 * i + 1 ∨ c = 2 * i + 2) → c < hi → atL L (f + c) ≤ atL L (f + i)
/-- But for the one at r, which moves down. -/
def HeapX (f lo hi r : Nat) (L : List Int) : Prop := (∀ i c, lo ≤ i → i ≠ r → (c = 2 * i + 1 ∨ c = 2 * i + 2) → c < hi → atL L (f + c) ≤ atL L (f + i)) ∧ (∀ p c, lo ≤ p → (r = 2 * p + 1 ∨ r = 2 * p + 2) → (c = 2 * r + 1 ∨ c = 2 * r + 2) → c < hi → atL L (f + c) ≤ atL L (f + p))
theorem HeapX.start {f lo hi : Nat} {L : List Int} (h : HeapF f (lo + 1) hi L) : HeapX f lo hi lo L :=
  ⟨fun i c h1 h2 h3 h4 => h i c (by omega) h3 h4, fun p c h1 h2 h3 h4 => absurd h2 (by omega)⟩
theorem HeapX.leaf {f lo hi r : Nat} {L : List Int} (h : HeapX f lo hi r L) (hr : hi ≤ 2 * r + 1) : HeapF f lo hi L := fun i c h1 h2 h3 => by
  by_cases e : i = r
  · subst e; omega
  · exact h.1 i c h1 e h2 h3
theorem HeapX.stop {f lo hi r c : Nat} {L : List Int} (h : HeapX f lo hi r L) (hmax : ∀ d, (d = 2 * r + 1 ∨ d = 2 * r + 2) → d < hi → atL L (f + d) ≤ atL L (f + c)) (hc : atL L (f + c) ≤ atL L (f + r)) : HeapF f lo hi L := fun i d h1 h2 h3 => by
  by_cases e : i = r
  · subst e; exact Int.le_trans (hmax d h2 h3) hc
  · exact h.1 i d h1 e h2 h3
theorem HeapX.step {f lo hi r c : Nat} {L : List Int} (h : HeapX f lo hi r L) (hl : f + hi ≤ L.length) (hlo : lo ≤ r) (hcr : c = 2 * r + 1 ∨ c = 2 * r + 2) (hch : c < hi) (hmax : ∀ d, (d = 2 * r + 1 ∨ d = 2 * r + 2) → d < hi → atL L (f + d) ≤ atL L (f + c)) (hc : atL L (f + r) < atL L (f + c)) : HeapX f lo hi c (swapL L (f + r) (f + c)) := by
  have e : ∀ k, atL (swapL L (f + r) (f + c)) (f + k) = if k = c then atL L (f + r) else if k = r then atL L (f + c) else atL L (f + k) := fun k => by
    rw [atL_swap L (f + r) (f + c) (f + k) (by omega) (by omega)]
    by_cases h1 : k = c
    · rw [if_pos (by omega), if_pos h1]
    · rw [if_neg (by omega), if_neg h1]
      by_cases h2 : k = r
      · rw [if_pos (by omega), if_pos h2]
      · rw [if_neg (by omega), if_neg h2]
  refine ⟨fun i d h1 h2 h3 h4 => ?_, fun p d h1 h2 h3 h4 => ?_⟩
  · rw [e, e, if_neg h2]
    by_cases h5 : i = r
    · subst h5
      rw [if_pos rfl]
      by_cases h6 : d = c
      · rw [if_pos h6]; omega
      · rw [if_neg h6, if_neg (by omega)]
        exact hmax d h3 h4
    · rw [if_neg h5, if_neg (by omega)]
      by_cases h6 : d = r
      · rw [if_pos h6]
        subst h6
        exact h.2 i c h1 h3 hcr hch
      · rw [if_neg h6]
        exact h.1 i d h1 h5 h3 h4
  · have h5 : p = r := by omega
    subst h5
    rw [e, e, if_neg (by omega), if_neg (by omega), if_neg (by omega), if_pos rfl]
    exact h.1 c d (by omega) (by omega) h3 h4
def SiftP (w : World) (g f lo hi : Nat) (L : List Int) (R : List Value) (e : Ending) (w' : World) : Prop := e = .returned (.tuple #[]) ∧ ∃ L', PermOn (f + lo) (f + hi) L L' ∧ HeapF f lo hi L' ∧ TurnU w w' g R L'
set_option maxHeartbeats 16000000 in
theorem sift_any (g n c f lo hi : Nat) (L : List Int) (R : List Value) (w : World) (h : U64R w g L R) (hn : L.length = n) (hb : f + hi ≤ n) (hz : n ≤ 1099511627776) (hlo : lo ≤ n) (hH : HeapF f (lo + 1) hi L) :
    Calls Tryz.prog 107 #[.slice (some ⟨g, 0, none⟩) n c, .int .i64 lo, .int .i64 hi, .int .i64 f] w (SiftP w g f lo hi L R) := by
  have HR : Hid (f + hi ≤ n ∧ n ≤ 1099511627776) := ⟨hb, hz⟩
  have HS : Hid (PermOn (f + lo) (f + hi) L L ∧ HeapX f lo hi lo L ∧ TurnU w w g R L) := ⟨PermOn.refl _ _ _, HeapX.start hH, TurnU.refl h⟩
  have HL0 : Hid (L.length = n) := hn
  clear h hn hH
  go_enter Tryz.func107, Tryz.ntmps107
  go_wp2
  go_loopw [8] (fun z wr => ∃ (r : Nat) (L1 : List Int), z = .int .i64 r ∧ lo ≤ r ∧ Hid (r < hi ∨ r = lo) ∧ Hid (PermOn (f + lo) (f + hi) L L1 ∧ HeapX f lo hi r L1 ∧ TurnU w wr g R L1)) (fun z _ => hi - (intOf z).toNat)
  case atStart => exact ⟨lo, L, rfl, Nat.le_refl _, Or.inr rfl, HS⟩
  case round =>
    obtain ⟨r, L1, rfl, hlr, hrh, HI⟩ := hrel
    clear HS
    have HP : Hid (PermOn (f + lo) (f + hi) L L1) := HI.out.1
    have HX : Hid (HeapX f lo hi r L1) := HI.out.2.1
    have HT : Hid (TurnU w wr g R L1) := HI.out.2.2
    have hl1 : L1.length = n := HP.out.len.trans HL0.out
    clear HI
    have hrb : r ≤ n := by have h1 := hrh.out; have h2 := HR.out; omega
    obtain ⟨d, hd⟩ : ∃ d, 2 * r = d := ⟨_, rfl⟩
    have wd : IntKind.i64.wrap (2 * (r : Int)) = (d : Int) := by rw [IntKind.wrap_i64]; have := HR.out; omega
    obtain ⟨c1, hc1⟩ : ∃ c1, d + 1 = c1 := ⟨_, rfl⟩
    have wc : IntKind.i64.wrap ((d : Int) + 1) = (c1 : Int) := by rw [IntKind.wrap_i64]; have := HR.out; omega
    by_cases hb1 : hi ≤ c1
    · have hb1' : (hi : Int) ≤ (c1 : Int) := by omega
      have HE : Hid (SiftP w g f lo hi L R (.returned (.tuple #[])) wr) := ⟨rfl, L1, HP.out, HX.out.leaf (by omega), HT.out⟩
      clear HP HX HT hl1 hd hc1 hrh
      go_wp2
      go_end0
      exact HE.out
    · have hb1' : ¬ (hi : Int) ≤ (c1 : Int) := by omega
      obtain ⟨c2, hc2⟩ : ∃ c2, c1 + 1 = c2 := ⟨_, rfl⟩
      have wc2 : IntKind.i64.wrap ((c1 : Int) + 1) = (c2 : Int) := by rw [IntKind.wrap_i64]; have := HR.out; omega
      obtain ⟨fr, hfr⟩ : ∃ fr, f + r = fr := ⟨_, rfl⟩
      have wfr : IntKind.i64.wrap ((f : Int) + (r : Int)) = (fr : Int) := by rw [IntKind.wrap_i64]; have := HR.out; omega
      obtain ⟨f1, hf1⟩ : ∃ f1, f + c1 = f1 := ⟨_, rfl⟩
      have wf1 : IntKind.i64.wrap ((f : Int) + (c1 : Int)) = (f1 : Int) := by rw [IntKind.wrap_i64]; have := HR.out; omega
      have hfr0 : (0 : Int) ≤ (fr : Int) := by omega
      have hfrn : (fr : Int) < (n : Int) := by have := HR.out; omega
      have hf10 : (0 : Int) ≤ (f1 : Int) := by omega
      have hf1n : (f1 : Int) < (n : Int) := by have := HR.out; omega
      by_cases hb2 : c2 < hi
      · have hb2' : (c2 : Int) < (hi : Int) := by omega
        have hdb : decide ((c2 : Int) < (hi : Int)) = true := decide_eq_true hb2'
        obtain ⟨f2, hf2⟩ : ∃ f2, f1 + 1 = f2 := ⟨_, rfl⟩
        have wf2 : IntKind.i64.wrap ((f1 : Int) + 1) = (f2 : Int) := by rw [IntKind.wrap_i64]; have := HR.out; omega
        have wf3 : IntKind.i64.wrap ((f : Int) + (c2 : Int)) = (f2 : Int) := by rw [IntKind.wrap_i64]; have := HR.out; omega
        have hf20 : (0 : Int) ≤ (f2 : Int) := by omega
        have hf2n : (f2 : Int) < (n : Int) := by have := HR.out; omega
        have HN : Hid (L1.length = n ∧ fr < n ∧ f1 < n ∧ f2 < n ∧ f + hi ≤ n ∧ lo ≤ r ∧ r < hi ∧ f + r = fr ∧ f + c1 = f1 ∧ f + c2 = f2 ∧ 2 * r + 1 = c1 ∧ c1 + 1 = c2 ∧ c2 < hi) := ⟨hl1, by omega, by omega, by omega, HR.out.1, hlr, by omega, hfr, hf1, by omega, by omega, hc2, hb2⟩
        clear hl1 hd hc1 hc2 hfr hf1 hf2 hrh hrb
        generalize hx : atL L1 f1 = x at *
        generalize hy : atL L1 f2 = y at *
        have KB : ∀ W, Below wr.heap.size wr W → W.cell? ⟨g, f1, none⟩ = some (.int .u64 x) ∧ W.cell? ⟨g, f2, none⟩ = some (.int .u64 y) := fun W hW => by
          have h1 := HT.out.1.below hW
          have h2 := HN.out
          exact ⟨by rw [← hx]; exact h1.cell f1 (by omega), by rw [← hy]; exact h1.cell f2 (by omega)⟩
        have B0 : Below wr.heap.size wr wr.drew := (Below.refl _ _).drew
        have HXY : Hid (atL L1 f1 = x ∧ atL L1 f2 = y) := ⟨hx, hy⟩
        clear hx hy
        by_cases hc : x < y
        · have LS : Hid (∀ W, Calls Tryz.prog 93 #[.int .u64 x, .int .u64 y] W fun e w' => e = .returned (.bool true) ∧ Below W.heap.size W w') := fun W => by
            have h := less_any x y W
            rw [show decide (x < y) = true from decide_eq_true hc] at h
            exact h
          go_upto_region 3 with fail
          go_region_held3 (fun W => W.cell? ⟨g, f1, none⟩ = some (.int .u64 x) ∧ W.cell? ⟨g, f2, none⟩ = some (.int .u64 y)) (first | exact KB _ B0 | exact KB _ B1) (first
            | (go_at_call 93; (with_reducible refine (LS.out _).mono ?_); clear LS; rintro e w1 ⟨rfl, hb1⟩; have B1 : Below wr.heap.size wr w1 := B0.trans (hb1.mono B0.size); clear hb1)
            | fail)
          all_goals
            have HT1 : Hid (TurnU w w1 g R L1) := HT.out.below B1
            have HC : Hid ((c2 = 2 * r + 1 ∨ c2 = 2 * r + 2) ∧ c2 < hi ∧ (∀ d, (d = 2 * r + 1 ∨ d = 2 * r + 2) → d < hi → atL L1 (f + d) ≤ atL L1 (f + c2)) ∧ fr = f + r ∧ f2 = f + c2) := by
              obtain ⟨h1, h2, h3, h4, h5, h6, h7, h8, h9, h10, h11, h12, h13⟩ := HN.out
              have e1 : atL L1 (f + c1) = x := by rw [h9]; exact HXY.out.1
              have e2 : atL L1 (f + c2) = y := by rw [h10]; exact HXY.out.2
              refine ⟨by omega, by omega, fun d hd hdh => ?_, by omega, by omega⟩
              rw [e2]
              rcases hd with hd | hd
              · rw [show d = c1 by omega, e1]; omega
              · rw [show d = c2 by omega, e2]; omega
            have hx9 := HXY.out.1
            have hy9 := HXY.out.2
            clear HXY KB B0 B1 HT hc
            subst hx9 hy9
            have HT := HT1
            clear HT1
            generalize w1 = wr at *
            generalize hx : atL L1 fr = x at *
            generalize hy : atL L1 f2 = y at *
            have KB : ∀ W, Below wr.heap.size wr W → W.cell? ⟨g, fr, none⟩ = some (.int .u64 x) ∧ W.cell? ⟨g, f2, none⟩ = some (.int .u64 y) := fun W hW => by
              have h1 := HT.out.1.below hW
              have h2 := HN.out
              exact ⟨by rw [← hx]; exact h1.cell fr (by omega), by rw [← hy]; exact h1.cell f2 (by omega)⟩
            have B0 : Below wr.heap.size wr wr.drew := (Below.refl _ _).drew
            have HXY : Hid (atL L1 fr = x ∧ atL L1 f2 = y) := ⟨hx, hy⟩
            clear hx hy
            by_cases hc : x < y
            · have LS : Hid (∀ W, Calls Tryz.prog 93 #[.int .u64 x, .int .u64 y] W fun e w' => e = .returned (.bool true) ∧ Below W.heap.size W w') := fun W => by
                have h := less_any x y W
                rw [show decide (x < y) = true from decide_eq_true hc] at h
                exact h
              go_upto_region 5 with fail
              go_region_held3 (fun W => W.cell? ⟨g, fr, none⟩ = some (.int .u64 x) ∧ W.cell? ⟨g, f2, none⟩ = some (.int .u64 y)) (first | exact KB _ B0 | exact KB _ B1) (first
                | (go_at_call 93; (with_reducible refine (LS.out _).mono ?_); clear LS; rintro e w1 ⟨rfl, hb1⟩; have B1 : Below wr.heap.size wr w1 := B0.trans (hb1.mono B0.size); clear hb1)
                | fail)
              all_goals
                have HT1 : Hid (TurnU w w1 g R L1) := HT.out.below B1
                have hx9 := HXY.out.1
                have hy9 := HXY.out.2
                have HQ : Hid (PermOn (f + lo) (f + hi) L (swapL L1 fr f2) ∧ HeapX f lo hi c2 (swapL L1 fr f2) ∧ c2 < hi ∧ lo ≤ c2 ∧ r < c2) := by
                  obtain ⟨k1, k2, k3, k4, k5⟩ := HC.out
                  have hn := HN.out
                  have hp : PermOn (f + lo) (f + hi) L (swapL L1 fr f2) := HP.out.swap (by omega) (by omega) (by omega) (by omega)
                  refine ⟨hp, ?_, k2, by omega, by omega⟩
                  have := HX.out.step (c := c2) (by omega) hlr k1 k2 k3 (by rw [← k4, ← k5, hx9, hy9]; exact hc)
                  rw [← k4, ← k5] at this
                  exact this
                have hs1 : fr < L1.length := by have := HN.out; omega
                have hs2 : f2 < L1.length := by have := HN.out; omega
                have y1 := (KB _ B1).1
                have y2 := (KB _ B1).2
                obtain ⟨⟨u, y3⟩, g2, g1⟩ := HT1.out.1.swapF (i := fr) (j := f2) hs1 hs2 y
                have HTs : Hid (∀ q, TurnU w (((w1.setCell ⟨g, fr, none⟩ (.int .u64 y)).setCell ⟨g, f2, none⟩ (.int .u64 x)).drewN q) g R (swapL L1 fr f2)) := fun q => by
                  have h := HT1.out.swap (i := fr) (j := f2) hs1 hs2
                  rw [hx9, hy9] at h
                  exact h.below ⟨rfl, rfl, rfl, Nat.le_refl _, fun _ _ => rfl⟩
                clear hx9 hy9 HXY KB B0 B1 HT HT1 HP HX HC hs1 hs2 hc
                go_upto_region 6 with fail
                go_region
                go_wp2
                go_roundw
                case rel => exact ⟨c2, swapL L1 fr f2, rfl, HQ.out.2.2.2.1, Or.inl HQ.out.2.2.1, HQ.out.1, HQ.out.2.1, HTs.out _⟩
                case measure => (have := HQ.out.2.2.2.2; have := HQ.out.2.2.1; simp [intOf]; omega)
            · have LS : Hid (∀ W, Calls Tryz.prog 93 #[.int .u64 x, .int .u64 y] W fun e w' => e = .returned (.bool false) ∧ Below W.heap.size W w') := fun W => by
                have h := less_any x y W
                rw [show decide (x < y) = false from decide_eq_false hc] at h
                exact h
              go_upto_region 5 with fail
              go_region_held3 (fun W => W.cell? ⟨g, fr, none⟩ = some (.int .u64 x) ∧ W.cell? ⟨g, f2, none⟩ = some (.int .u64 y)) (first | exact KB _ B0 | exact KB _ B1) (first
                | (go_at_call 93; (with_reducible refine (LS.out _).mono ?_); clear LS; rintro e w1 ⟨rfl, hb1⟩; have B1 : Below wr.heap.size wr w1 := B0.trans (hb1.mono B0.size); clear hb1)
                | fail)
              all_goals
                have HE : Hid (SiftP w g f lo hi L R (.returned (.tuple #[])) w1) := by
                  obtain ⟨k1, k2, k3, k4, k5⟩ := HC.out
                  refine ⟨rfl, L1, HP.out, HX.out.stop (c := c2) k3 ?_, HT.out.below B1⟩
                  rw [← k4, ← k5, HXY.out.1, HXY.out.2]
                  omega
                clear HXY KB B0 B1 HT HP HX HC hc
                go_wp2
                go_end0
                exact HE.out
        · have LS : Hid (∀ W, Calls Tryz.prog 93 #[.int .u64 x, .int .u64 y] W fun e w' => e = .returned (.bool false) ∧ Below W.heap.size W w') := fun W => by
            have h := less_any x y W
            rw [show decide (x < y) = false from decide_eq_false hc] at h
            exact h
          go_upto_region 3 with fail
          go_region_held3 (fun W => W.cell? ⟨g, f1, none⟩ = some (.int .u64 x) ∧ W.cell? ⟨g, f2, none⟩ = some (.int .u64 y)) (first | exact KB _ B0 | exact KB _ B1) (first
            | (go_at_call 93; (with_reducible refine (LS.out _).mono ?_); clear LS; rintro e w1 ⟨rfl, hb1⟩; have B1 : Below wr.heap.size wr w1 := B0.trans (hb1.mono B0.size); clear hb1)
            | fail)
          all_goals
            have HT1 : Hid (TurnU w w1 g R L1) := HT.out.below B1
            have HC : Hid ((c1 = 2 * r + 1 ∨ c1 = 2 * r + 2) ∧ c1 < hi ∧ (∀ d, (d = 2 * r + 1 ∨ d = 2 * r + 2) → d < hi → atL L1 (f + d) ≤ atL L1 (f + c1)) ∧ fr = f + r ∧ f1 = f + c1) := by
              obtain ⟨h1, h2, h3, h4, h5, h6, h7, h8, h9, h10, h11, h12, h13⟩ := HN.out
              have e1 : atL L1 (f + c1) = x := by rw [h9]; exact HXY.out.1
              have e2 : atL L1 (f + c2) = y := by rw [h10]; exact HXY.out.2
              refine ⟨by omega, by omega, fun d hd hdh => ?_, by omega, by omega⟩
              rw [e1]
              rcases hd with hd | hd
              · rw [show d = c1 by omega, e1]; omega
              · rw [show d = c2 by omega, e2]; omega
            have hx9 := HXY.out.1
            have hy9 := HXY.out.2
            clear HXY KB B0 B1 HT hc
            subst hx9 hy9
            have HT := HT1
            clear HT1
            generalize w1 = wr at *
            generalize hx : atL L1 fr = x at *
            generalize hy : atL L1 f1 = y at *
            have KB : ∀ W, Below wr.heap.size wr W → W.cell? ⟨g, fr, none⟩ = some (.int .u64 x) ∧ W.cell? ⟨g, f1, none⟩ = some (.int .u64 y) := fun W hW => by
              have h1 := HT.out.1.below hW
              have h2 := HN.out
              exact ⟨by rw [← hx]; exact h1.cell fr (by omega), by rw [← hy]; exact h1.cell f1 (by omega)⟩
            have B0 : Below wr.heap.size wr wr.drew := (Below.refl _ _).drew
            have HXY : Hid (atL L1 fr = x ∧ atL L1 f1 = y) := ⟨hx, hy⟩
            clear hx hy
            by_cases hc : x < y
            · have LS : Hid (∀ W, Calls Tryz.prog 93 #[.int .u64 x, .int .u64 y] W fun e w' => e = .returned (.bool true) ∧ Below W.heap.size W w') := fun W => by
                have h := less_any x y W
                rw [show decide (x < y) = true from decide_eq_true hc] at h
                exact h
              go_upto_region 5 with fail
              go_region_held3 (fun W => W.cell? ⟨g, fr, none⟩ = some (.int .u64 x) ∧ W.cell? ⟨g, f1, none⟩ = some (.int .u64 y)) (first | exact KB _ B0 | exact KB _ B1) (first
                | (go_at_call 93; (with_reducible refine (LS.out _).mono ?_); clear LS; rintro e w1 ⟨rfl, hb1⟩; have B1 : Below wr.heap.size wr w1 := B0.trans (hb1.mono B0.size); clear hb1)
                | fail)
              all_goals
                have HT1 : Hid (TurnU w w1 g R L1) := HT.out.below B1
                have hx9 := HXY.out.1
                have hy9 := HXY.out.2
                have HQ : Hid (PermOn (f + lo) (f + hi) L (swapL L1 fr f1) ∧ HeapX f lo hi c1 (swapL L1 fr f1) ∧ c1 < hi ∧ lo ≤ c1 ∧ r < c1) := by
                  obtain ⟨k1, k2, k3, k4, k5⟩ := HC.out
                  have hn := HN.out
                  have hp : PermOn (f + lo) (f + hi) L (swapL L1 fr f1) := HP.out.swap (by omega) (by omega) (by omega) (by omega)
                  refine ⟨hp, ?_, k2, by omega, by omega⟩
                  have := HX.out.step (c := c1) (by omega) hlr k1 k2 k3 (by rw [← k4, ← k5, hx9, hy9]; exact hc)
                  rw [← k4, ← k5] at this
                  exact this
                have hs1 : fr < L1.length := by have := HN.out; omega
                have hs2 : f1 < L1.length := by have := HN.out; omega
                have y1 := (KB _ B1).1
                have y2 := (KB _ B1).2
                obtain ⟨⟨u, y3⟩, g2, g1⟩ := HT1.out.1.swapF (i := fr) (j := f1) hs1 hs2 y
                have HTs : Hid (∀ q, TurnU w (((w1.setCell ⟨g, fr, none⟩ (.int .u64 y)).setCell ⟨g, f1, none⟩ (.int .u64 x)).drewN q) g R (swapL L1 fr f1)) := fun q => by
                  have h := HT1.out.swap (i := fr) (j := f1) hs1 hs2
                  rw [hx9, hy9] at h
                  exact h.below ⟨rfl, rfl, rfl, Nat.le_refl _, fun _ _ => rfl⟩
                clear hx9 hy9 HXY KB B0 B1 HT HT1 HP HX HC hs1 hs2 hc
                go_upto_region 6 with fail
                go_region
                go_wp2
                go_roundw
                case rel => exact ⟨c1, swapL L1 fr f1, rfl, HQ.out.2.2.2.1, Or.inl HQ.out.2.2.1, HQ.out.1, HQ.out.2.1, HTs.out _⟩
                case measure => (have := HQ.out.2.2.2.2; have := HQ.out.2.2.1; simp [intOf]; omega)
            · have LS : Hid (∀ W, Calls Tryz.prog 93 #[.int .u64 x, .int .u64 y] W fun e w' => e = .returned (.bool false) ∧ Below W.heap.size W w') := fun W => by
                have h := less_any x y W
                rw [show decide (x < y) = false from decide_eq_false hc] at h
                exact h
              go_upto_region 5 with fail
              go_region_held3 (fun W => W.cell? ⟨g, fr, none⟩ = some (.int .u64 x) ∧ W.cell? ⟨g, f1, none⟩ = some (.int .u64 y)) (first | exact KB _ B0 | exact KB _ B1) (first
                | (go_at_call 93; (with_reducible refine (LS.out _).mono ?_); clear LS; rintro e w1 ⟨rfl, hb1⟩; have B1 : Below wr.heap.size wr w1 := B0.trans (hb1.mono B0.size); clear hb1)
                | fail)
              all_goals
                have HE : Hid (SiftP w g f lo hi L R (.returned (.tuple #[])) w1) := by
                  obtain ⟨k1, k2, k3, k4, k5⟩ := HC.out
                  refine ⟨rfl, L1, HP.out, HX.out.stop (c := c1) k3 ?_, HT.out.below B1⟩
                  rw [← k4, ← k5, HXY.out.1, HXY.out.2]
                  omega
                clear HXY KB B0 B1 HT HP HX HC hc
                go_wp2
                go_end0
                exact HE.out
      · have hb2' : ¬ (c2 : Int) < (hi : Int) := by omega
        have hdb : decide ((c2 : Int) < (hi : Int)) = false := decide_eq_false hb2'
        have HN : Hid (L1.length = n ∧ fr < n ∧ f1 < n ∧ f + hi ≤ n ∧ lo ≤ r ∧ r < hi ∧ f + r = fr ∧ f + c1 = f1 ∧ 2 * r + 1 = c1 ∧ c1 < hi) := ⟨hl1, by omega, by omega, HR.out.1, hlr, by omega, hfr, hf1, by omega, by omega⟩
        have HC : Hid ((c1 = 2 * r + 1 ∨ c1 = 2 * r + 2) ∧ c1 < hi ∧ (∀ d, (d = 2 * r + 1 ∨ d = 2 * r + 2) → d < hi → atL L1 (f + d) ≤ atL L1 (f + c1)) ∧ fr = f + r ∧ f1 = f + c1) := ⟨by omega, by omega, fun d hd hdh => by rw [show d = c1 by omega]; exact Int.le_refl _, hfr.symm, hf1.symm⟩
        have HTn : Hid (∀ q, TurnU w (wr.drewN q) g R L1) := fun q => HT.out.below ⟨rfl, rfl, rfl, Nat.le_refl _, fun _ _ => rfl⟩
        clear hl1 hd hc1 hc2 hfr hf1 hrh hrb HT
        go_upto_region 3 with fail
        go_quiet (fail)
        obtain ⟨wX, hwX⟩ : ∃ W, wr.drewN nq = W := ⟨_, rfl⟩
        have HT : Hid (TurnU w wX g R L1) := by rw [← hwX]; exact HTn.out nq
        rw [hwX]
        clear hwX HTn
        generalize wX = wr at *
        generalize hx : atL L1 fr = x at *
        generalize hy : atL L1 f1 = y at *
        have KB : ∀ W, Below wr.heap.size wr W → W.cell? ⟨g, fr, none⟩ = some (.int .u64 x) ∧ W.cell? ⟨g, f1, none⟩ = some (.int .u64 y) := fun W hW => by
          have h1 := HT.out.1.below hW
          have h2 := HN.out
          exact ⟨by rw [← hx]; exact h1.cell fr (by omega), by rw [← hy]; exact h1.cell f1 (by omega)⟩
        have B0 : Below wr.heap.size wr wr.drew := (Below.refl _ _).drew
        have HXY : Hid (atL L1 fr = x ∧ atL L1 f1 = y) := ⟨hx, hy⟩
        clear hx hy
        by_cases hc : x < y
        · have LS : Hid (∀ W, Calls Tryz.prog 93 #[.int .u64 x, .int .u64 y] W fun e w' => e = .returned (.bool true) ∧ Below W.heap.size W w') := fun W => by
            have h := less_any x y W
            rw [show decide (x < y) = true from decide_eq_true hc] at h
            exact h
          go_upto_region 5 with fail
          go_region_held3 (fun W => W.cell? ⟨g, fr, none⟩ = some (.int .u64 x) ∧ W.cell? ⟨g, f1, none⟩ = some (.int .u64 y)) (first | exact KB _ B0 | exact KB _ B1) (first
            | (go_at_call 93; (with_reducible refine (LS.out _).mono ?_); clear LS; rintro e w1 ⟨rfl, hb1⟩; have B1 : Below wr.heap.size wr w1 := B0.trans (hb1.mono B0.size); clear hb1)
            | fail)
          all_goals
            have HT1 : Hid (TurnU w w1 g R L1) := HT.out.below B1
            have hx9 := HXY.out.1
            have hy9 := HXY.out.2
            have HQ : Hid (PermOn (f + lo) (f + hi) L (swapL L1 fr f1) ∧ HeapX f lo hi c1 (swapL L1 fr f1) ∧ c1 < hi ∧ lo ≤ c1 ∧ r < c1) := by
              obtain ⟨k1, k2, k3, k4, k5⟩ := HC.out
              have hn := HN.out
              have hp : PermOn (f + lo) (f + hi) L (swapL L1 fr f1) := HP.out.swap (by omega) (by omega) (by omega) (by omega)
              refine ⟨hp, ?_, k2, by omega, by omega⟩
              have := HX.out.step (c := c1) (by omega) hlr k1 k2 k3 (by rw [← k4, ← k5, hx9, hy9]; exact hc)
              rw [← k4, ← k5] at this
              exact this
            have hs1 : fr < L1.length := by have := HN.out; omega
            have hs2 : f1 < L1.length := by have := HN.out; omega
            have y1 := (KB _ B1).1
            have y2 := (KB _ B1).2
            obtain ⟨⟨u, y3⟩, g2, g1⟩ := HT1.out.1.swapF (i := fr) (j := f1) hs1 hs2 y
            have HTs : Hid (∀ q, TurnU w (((w1.setCell ⟨g, fr, none⟩ (.int .u64 y)).setCell ⟨g, f1, none⟩ (.int .u64 x)).drewN q) g R (swapL L1 fr f1)) := fun q => by
              have h := HT1.out.swap (i := fr) (j := f1) hs1 hs2
              rw [hx9, hy9] at h
              exact h.below ⟨rfl, rfl, rfl, Nat.le_refl _, fun _ _ => rfl⟩
            clear hx9 hy9 HXY KB B0 B1 HT HT1 HP HX HC hs1 hs2 hc
            go_upto_region 6 with fail
            go_region
            go_wp2
            go_roundw
            case rel => exact ⟨c1, swapL L1 fr f1, rfl, HQ.out.2.2.2.1, Or.inl HQ.out.2.2.1, HQ.out.1, HQ.out.2.1, HTs.out _⟩
            case measure => (have := HQ.out.2.2.2.2; have := HQ.out.2.2.1; simp [intOf]; omega)
        · have LS : Hid (∀ W, Calls Tryz.prog 93 #[.int .u64 x, .int .u64 y] W fun e w' => e = .returned (.bool false) ∧ Below W.heap.size W w') := fun W => by
            have h := less_any x y W
            rw [show decide (x < y) = false from decide_eq_false hc] at h
            exact h
          go_upto_region 5 with fail
          go_region_held3 (fun W => W.cell? ⟨g, fr, none⟩ = some (.int .u64 x) ∧ W.cell? ⟨g, f1, none⟩ = some (.int .u64 y)) (first | exact KB _ B0 | exact KB _ B1) (first
            | (go_at_call 93; (with_reducible refine (LS.out _).mono ?_); clear LS; rintro e w1 ⟨rfl, hb1⟩; have B1 : Below wr.heap.size wr w1 := B0.trans (hb1.mono B0.size); clear hb1)
            | fail)
          all_goals
            have HE : Hid (SiftP w g f lo hi L R (.returned (.tuple #[])) w1) := by
              obtain ⟨k1, k2, k3, k4, k5⟩ := HC.out
              refine ⟨rfl, L1, HP.out, HX.out.stop (c := c1) k3 ?_, HT.out.below B1⟩
              rw [← k4, ← k5, HXY.out.1, HXY.out.2]
              omega
            clear HXY KB B0 B1 HT HP HX HC hc
            go_wp2
            go_end0
            exact HE.out
end Go.Proofs.YtiflfapdffkcbaaGreatDoor.qs

namespace Go.Proofs.YtiflfapdffkcbaaGreatDoor.qs
open Go Go.RowKit
set_option maxRecDepth 100000

theorem HeapF.max {f hi : Nat} {L : List Int} (h : HeapF f 0 hi L) : ∀ m k, k ≤ m → k < hi → atL L (f + k) ≤ atL L (f + 0)
  | 0, k, hk, _ => by rw [show k = 0 by omega]; exact Int.le_refl _
  | m + 1, k, hk, hh => by
    rcases Nat.eq_zero_or_pos k with e | e
    · rw [e]; exact Int.le_refl _
    · exact Int.le_trans (h ((k - 1) / 2) k (Nat.zero_le _) (by omega) hh) (HeapF.max h m ((k - 1) / 2) (by omega) (by omega))
/-- While the greatest ones are taken off a heap: i are left in it. -/
structure PopI (f hi i : Nat) (L : List Int) : Prop where
  heap : HeapF f 0 i L
  above : ∀ k m, k < i → i ≤ m → m < hi → atL L (f + k) ≤ atL L (f + m)
  sorted : SortedOn (f + i) (f + hi) L
theorem PopI.start {f hi : Nat} {L : List Int} (h : HeapF f 0 hi L) : PopI f hi hi L := ⟨h, fun k m h1 h2 h3 => absurd h3 (by omega), fun p q h1 h2 h3 => absurd h3 (by omega)⟩
theorem PopI.swapped {f hi t : Nat} {L : List Int} (h : PopI f hi (t + 1) L) (hl : f + hi ≤ L.length) (ht : t < hi) : HeapF f 1 t (swapL L f (f + t)) := fun i c h1 h2 h3 => by
  rw [atL_swap L f (f + t) (f + c) (by omega) (by omega), atL_swap L f (f + t) (f + i) (by omega) (by omega), if_neg (by omega), if_neg (by omega), if_neg (by omega), if_neg (by omega)]
  exact h.heap i c (Nat.zero_le _) h2 (by omega)
theorem PopI.next {f hi t : Nat} {L M : List Int} (h : PopI f hi (t + 1) L) (hl : f + hi ≤ L.length) (ht : t < hi) (hp : PermOn (f + 0) (f + t) (swapL L f (f + t)) M) (hh : HeapF f 0 t M) : PopI f hi t M := by
  have e : ∀ k, atL (swapL L f (f + t)) (f + k) = if k = t then atL L (f + 0) else if k = 0 then atL L (f + t) else atL L (f + k) := fun k => by
    rw [atL_swap L f (f + t) (f + k) (by omega) (by omega)]
    by_cases h1 : k = t
    · rw [if_pos (by omega), if_pos h1]; rfl
    · rw [if_neg (by omega), if_neg h1]
      by_cases h2 : k = 0
      · rw [if_pos (by omega), if_pos h2]
      · rw [if_neg (by omega), if_neg h2]
  have hlm : f + t ≤ (swapL L f (f + t)).length := by rw [swapL_len]; omega
  have out : ∀ m, t ≤ m → atL M (f + m) = atL (swapL L f (f + t)) (f + m) := fun m hm => hp.out hlm (f + m) (Or.inr (by omega))
  have all : ∀ v, (∀ k, k < t + 1 → atL L (f + k) ≤ v) → ∀ k, k < t → atL M (f + k) ≤ v := fun v hv k hk => by
    refine hp.all hlm (fun x => x ≤ v) (fun q h1 h2 => ?_) (f + k) (by omega) (by omega)
    obtain ⟨q', rfl⟩ : ∃ q', q = f + q' := ⟨q - f, by omega⟩
    rw [e]
    split
    · exact hv 0 (by omega)
    · split
      · exact hv t (by omega)
      · exact hv q' (by omega)
  have big : ∀ m, t < m → m < hi → atL M (f + m) = atL L (f + m) := fun m h1 h2 => by rw [out m (by omega), e, if_neg (by omega), if_neg (by omega)]
  have top : atL M (f + t) = atL L (f + 0) := by rw [out t (Nat.le_refl _), e, if_pos rfl]
  refine ⟨hh, fun k m h1 h2 h3 => ?_, fun p q h1 h2 h3 => ?_⟩
  · rcases Nat.lt_or_eq_of_le h2 with h4 | h4
    · rw [big m h4 h3]
      exact all _ (fun k hk => h.above k m hk (by omega) h3) k h1
    · subst h4
      rw [top]
      exact all _ (fun k hk => h.heap.max k k (Nat.le_refl _) hk) k h1
  · obtain ⟨q', rfl⟩ : ∃ q', q = f + q' := ⟨q - f, by omega⟩
    obtain ⟨p', rfl⟩ : ∃ p', p = f + p' := ⟨p - f, by omega⟩
    rw [big q' (by omega) (by omega)]
    rcases Nat.lt_or_eq_of_le (show t ≤ p' by omega) with h4 | h4
    · rw [big p' h4 (by omega)]
      exact h.sorted (f + p') (f + q') (by omega) h2 h3
    · subst h4
      rw [top]
      exact h.above 0 q' (by omega) (by omega) (by omega)
set_option maxHeartbeats 16000000 in
theorem heap_any (g n c a b : Nat) (L : List Int) (R : List Value) (w : World) (h : U64R w g L R) (hn : L.length = n) (hab : a < b) (hb : b ≤ n) (hz : n ≤ 1099511627776) :
    Calls Tryz.prog 88 #[.slice (some ⟨g, 0, none⟩) n c, .int .i64 a, .int .i64 b] w fun e w' => ∃ L', e = .returned (.tuple #[]) ∧ PermOn a b L L' ∧ SortedOn a b L' ∧ TurnU w w' g R L' := by
  obtain ⟨hi, hhi⟩ : ∃ hi, b - a = hi := ⟨_, rfl⟩
  have whi : IntKind.i64.wrap ((b : Int) - (a : Int)) = (hi : Int) := by rw [IntKind.wrap_i64]; omega
  obtain ⟨h1, hh1⟩ : ∃ h1, hi - 1 = h1 := ⟨_, rfl⟩
  have wh1 : IntKind.i64.wrap ((hi : Int) - 1) = (h1 : Int) := by rw [IntKind.wrap_i64]; omega
  obtain ⟨h2, hh2⟩ : ∃ h2, h1 / 2 = h2 := ⟨_, rfl⟩
  have wq1 : IntKind.i64.wrap ((h1 : Int).tdiv 2) = (h2 : Int) := by rw [Int.tdiv_eq_ediv_of_nonneg (by omega), IntKind.wrap_i64]; omega
  have wq2 : IntKind.i64.wrap ((h1 : Int) / 2) = (h2 : Int) := by rw [IntKind.wrap_i64]; omega
  have HR0 : a + hi = b ∧ b ≤ n ∧ n ≤ 1099511627776 ∧ h1 + 1 = hi ∧ h2 ≤ h1 ∧ h1 ≤ 2 * h2 + 1 := by omega
  have HR : Hid (a + hi = b ∧ b ≤ n ∧ n ≤ 1099511627776 ∧ h1 + 1 = hi ∧ h2 ≤ h1 ∧ h1 ≤ 2 * h2 + 1) := HR0
  have HS : Hid (PermOn a b L L ∧ HeapF a (((h2 : Int) + 1).toNat) hi L ∧ TurnU w w g R L) := ⟨PermOn.refl _ _ _, fun i c h3 h4 h5 => absurd h5 (by omega), TurnU.refl h⟩
  have HL0 : Hid (L.length = n) := hn
  have SD : Hid (∀ (W : World) (lo top : Nat) (M : List Int), U64R W g M R → M.length = n → top ≤ hi → lo ≤ hi → HeapF a (lo + 1) top M → Calls Tryz.prog 107 #[.slice (some ⟨g, 0, none⟩) n c, .int .i64 lo, .int .i64 top, .int .i64 a] W (SiftP W g a lo top M R)) := fun W lo top M m1 m2 m3 m4 m5 => sift_any g n c a lo top M R W m1 m2 (by omega) hz (by omega) m5
  have ha0 : (0 : Int) ≤ (a : Int) := by omega
  have han : (a : Int) < (n : Int) := by omega
  have hsm : (h1 : Int) ≤ 1099511627776 := by omega
  have hsm2 : (h2 : Int) ≤ (h1 : Int) := by omega
  have h20 : (0 : Int) ≤ (h2 : Int) := by omega
  clear h hn hhi hh1 hh2 HR0
  go_enter Tryz.func88, Tryz.ntmps88
  go_wp2
  go_loopw [9] (fun z wr => ∃ (i : Int) (L1 : List Int), z = .int .i64 i ∧ -1 ≤ i ∧ i ≤ (h2 : Int) ∧ Hid (PermOn a b L L1 ∧ HeapF a ((i + 1).toNat) hi L1 ∧ TurnU w wr g R L1)) (fun z _ => (intOf z + 1).toNat)
  case atStart => exact ⟨(h2 : Int), L, rfl, by omega, by omega, HS⟩
  case round =>
    obtain ⟨i, L1, rfl, hi1, hi2, HI⟩ := hrel
    clear HS
    by_cases hlt : 0 ≤ i
    · obtain ⟨k, rfl⟩ : ∃ k : Nat, i = k := ⟨i.toNat, by omega⟩
      have wk : IntKind.i64.wrap ((k : Int) - 1) = (k : Int) - 1 := by rw [IntKind.wrap_i64]; omega
      have S1 := SD.out wr k hi L1 HI.out.2.2.1 (HI.out.1.len.trans HL0.out) (Nat.le_refl _) (by have := HR.out; omega) (by have h := HI.out.2.1; rw [show ((k : Int) + 1).toNat = k + 1 by omega] at h; exact h)
      go_wp2_with (go_at_call 107; (with_reducible refine S1.mono ?_); clear S1; rintro e w1 ⟨rfl, L2, p2, q2, t2⟩; have HN : Hid (PermOn a b L L2 ∧ HeapF a (((k : Int) - 1 + 1).toNat) hi L2 ∧ TurnU w w1 g R L2) := ⟨HI.out.1.trans (p2.mono (by omega) (by have := HR.out; omega)), (by rw [show ((k : Int) - 1 + 1).toNat = k by omega]; exact q2), HI.out.2.2.trans t2⟩; clear p2 q2 t2 HI)
      go_roundw
      case rel => exact ⟨(k : Int) - 1, L2, rfl, by omega, by omega, HN⟩
      case measure => (simp [intOf] <;> omega)
    · have hlt' : ¬ (0 : Int) ≤ i := hlt
      have H2 : Hid (PermOn a b L L1 ∧ PopI a hi (((h1 : Int) + 1).toNat) L1 ∧ TurnU w wr g R L1) := by
        have e1 : ((h1 : Int) + 1).toNat = hi := by have := HR.out; omega
        have hh := HI.out.2.1
        rw [show (i + 1).toNat = 0 by omega] at hh
        rw [e1]
        exact ⟨HI.out.1, PopI.start hh, HI.out.2.2⟩
      clear HI hlt
      go_wp2
      go_loopw [10] (fun z wr => ∃ (j : Int) (L1 : List Int), z = .int .i64 j ∧ -1 ≤ j ∧ j ≤ (h1 : Int) ∧ Hid (PermOn a b L L1 ∧ PopI a hi ((j + 1).toNat) L1 ∧ TurnU w wr g R L1)) (fun z _ => (intOf z + 1).toNat)
      case atStart => exact ⟨(h1 : Int), L1, rfl, by omega, by omega, H2⟩
      case round =>
        obtain ⟨j, L3, rfl, hj1, hj2, HJ⟩ := hrel
        clear H2
        by_cases hlt3 : 0 ≤ j
        · obtain ⟨k, rfl⟩ : ∃ k : Nat, j = k := ⟨j.toNat, by omega⟩
          have wk : IntKind.i64.wrap ((k : Int) - 1) = (k : Int) - 1 := by rw [IntKind.wrap_i64]; omega
          obtain ⟨fk, hfk⟩ : ∃ fk, a + k = fk := ⟨_, rfl⟩
          have wfk : IntKind.i64.wrap ((a : Int) + (k : Int)) = (fk : Int) := by rw [IntKind.wrap_i64]; have := HR.out; omega
          have hfk0 : (0 : Int) ≤ (fk : Int) := by omega
          have hfkn : (fk : Int) < (n : Int) := by have := HR.out; omega
          have hl3 : L3.length = n := HJ.out.1.len.trans HL0.out
          have HJ2 : Hid (PopI a hi (k + 1) L3) := by have h := HJ.out.2.1; rw [show ((k : Int) + 1).toNat = k + 1 by omega] at h; exact h
          have hs1 : a < L3.length := by have := HR.out; omega
          have hs2 : fk < L3.length := by have := HR.out; omega
          have y1 := HJ.out.2.2.1.cell a hs1
          have y2 := HJ.out.2.2.1.cell fk hs2
          obtain ⟨x, hx⟩ : ∃ x, atL L3 a = x := ⟨_, rfl⟩
          obtain ⟨y, hy⟩ : ∃ y, atL L3 fk = y := ⟨_, rfl⟩
          rw [hx] at y1
          rw [hy] at y2
          obtain ⟨⟨u, y3⟩, g2, g1⟩ := HJ.out.2.2.1.swapF (i := a) (j := fk) hs1 hs2 y
          have HTs : Hid (∀ q, TurnU w (((wr.setCell ⟨g, a, none⟩ (.int .u64 y)).setCell ⟨g, fk, none⟩ (.int .u64 x)).drewN q) g R (swapL L3 a fk)) := fun q => by
            have h := HJ.out.2.2.swap (i := a) (j := fk) hs1 hs2
            rw [hx, hy] at h
            exact h.below ⟨rfl, rfl, rfl, Nat.le_refl _, fun _ _ => rfl⟩
          have HH : Hid (PermOn a b L (swapL L3 a fk) ∧ HeapF a 1 k (swapL L3 a fk) ∧ (swapL L3 a fk).length = n ∧ (∀ M, PermOn (a + 0) (a + k) (swapL L3 a fk) M → HeapF a 0 k M → PopI a hi k M)) := by
            have hr := HR.out
            have hsw := HJ2.out.swapped (by omega) (by omega)
            rw [hfk] at hsw
            refine ⟨HJ.out.1.swap (by omega) (by omega) (by omega) (by omega), hsw, by rw [swapL_len]; exact hl3, fun M hp hh => HJ2.out.next (by omega) (by omega) (by subst hfk; exact hp) hh⟩
          clear HJ HJ2 hx hy hs1 hs2 hl3 hfk
          go_upto_region 10 with fail
          go_region
          obtain ⟨wX, hwX⟩ : ∃ W, ((wr.setCell ⟨g, a, none⟩ (.int .u64 y)).setCell ⟨g, fk, none⟩ (.int .u64 x)).drew = W := ⟨_, rfl⟩
          have HT : Hid (TurnU w wX g R (swapL L3 a fk)) := by rw [← hwX]; exact HTs.out 1
          rw [hwX]
          clear hwX HTs y1 y2 y3 g1 g2
          have S1 : Calls Tryz.prog 107 #[.slice (some ⟨g, 0, none⟩) n c, .int .i64 0, .int .i64 k, .int .i64 a] wX (SiftP wX g a 0 k (swapL L3 a fk) R) := SD.out wX 0 k (swapL L3 a fk) HT.out.1 HH.out.2.2.1 (by have := HR.out; omega) (by omega) HH.out.2.1
          go_wp2_with (go_at_call 107; (with_reducible refine S1.mono ?_); clear S1; rintro e w1 ⟨rfl, L2, p2, q2, t2⟩; have HN : Hid (PermOn a b L L2 ∧ PopI a hi (((k : Int) - 1 + 1).toNat) L2 ∧ TurnU w w1 g R L2) := ⟨HH.out.1.trans (p2.mono (by omega) (by have := HR.out; omega)), (by rw [show ((k : Int) - 1 + 1).toNat = k by omega]; exact HH.out.2.2.2 L2 p2 q2), HT.out.trans t2⟩; clear p2 q2 t2 HT HH)
          go_roundw
          case rel => exact ⟨(k : Int) - 1, L2, rfl, by omega, by omega, HN⟩
          case measure => (simp [intOf] <;> omega)
        · have HE : Hid (PermOn a b L L3 ∧ SortedOn a b L3 ∧ TurnU w wr g R L3) := by
            have hp := HJ.out.2.1
            rw [show (j + 1).toNat = 0 by omega] at hp
            have hs := hp.sorted
            rw [Nat.add_zero, HR.out.1] at hs
            exact ⟨HJ.out.1, hs, HJ.out.2.2⟩
          have hlt4 : ¬ (0 : Int) ≤ j := hlt3
          clear HJ
          go_wp2
          go_end0
          exact ⟨rfl, L3, HE.out⟩
end Go.Proofs.YtiflfapdffkcbaaGreatDoor.qs
