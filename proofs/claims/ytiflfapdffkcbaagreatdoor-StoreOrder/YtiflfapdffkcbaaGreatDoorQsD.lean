/-
  QsD.
-/
import Derived.Test.YtiflfapdffkcbaaGreatDoorQsC
namespace Go.Proofs.YtiflfapdffkcbaaGreatDoor.qs
open Go Go.RowKit
set_option maxRecDepth 100000

set_option maxHeartbeats 8000000 in
theorem reverse_any (g n c a b : Nat) (L : List Int) (R : List Value) (w : World) (h : U64R w g L R) (hn : L.length = n) (hab : a ≤ b) (hb : b ≤ n) (hz : n ≤ 1099511627776) :
    Calls Tryz.prog 91 #[.slice (some ⟨g, 0, none⟩) n c, .int .i64 a, .int .i64 b] w fun e w' => ∃ L', e = .returned (.tuple #[]) ∧ PermOn a b L L' ∧ TurnU w w' g R L' := by
  have HS : Hid (PermOn a b L L ∧ TurnU w w g R L) := ⟨PermOn.refl _ _ _, TurnU.refl h⟩
  have HN : Hid (L.length = n) := hn
  have hw1 : IntKind.i64.wrap ((b : Int) - 1) = (b : Int) - 1 := by rw [IntKind.wrap_i64]; omega
  have hbI : (b : Int) ≤ (n : Int) := by omega
  have hzI : (n : Int) ≤ 1099511627776 := by omega
  clear h hn
  go_enter Tryz.func91, Tryz.ntmps91
  go_wp2
  go_loopw [6, 7] (fun z y wr => ∃ (i : Nat) (j : Int) (L1 : List Int), z = .int .i64 i ∧ y = .int .i64 j ∧ a ≤ i ∧ i ≤ b ∧ -1 ≤ j ∧ j < (b : Int) ∧ Hid (PermOn a b L L1 ∧ TurnU w wr g R L1)) (fun z _ _ => b - (intOf z).toNat)
  case atStart => exact ⟨a, (b : Int) - 1, L, rfl, rfl, Nat.le_refl _, hab, by omega, by omega, HS⟩
  case round =>
    obtain ⟨i, j, L1, rfl, rfl, hai, hib, hj1, hjb, HI⟩ := hrel
    clear HS
    by_cases hlt : (i : Int) < j
    · obtain ⟨k, hk⟩ : ∃ k : Nat, j = k := ⟨j.toNat, by omega⟩
      subst hk
      have hl1 : L1.length = n := HI.out.1.len.trans HN.out
      have hi0 : (0 : Int) ≤ (i : Int) := by omega
      have hin : (i : Int) < (n : Int) := by omega
      have hk0 : (0 : Int) ≤ (k : Int) := by omega
      have hkn : (k : Int) < (n : Int) := by omega
      have hwi : IntKind.i64.wrap ((i : Int) + 1) = (i : Int) + 1 := by rw [IntKind.wrap_i64]; omega
      have hwk : IntKind.i64.wrap ((k : Int) - 1) = (k : Int) - 1 := by rw [IntKind.wrap_i64]; omega
      obtain ⟨x, hx⟩ : ∃ x, atL L1 i = x := ⟨_, rfl⟩
      obtain ⟨y, hy⟩ : ∃ y, atL L1 k = y := ⟨_, rfl⟩
      have y1 := HI.out.2.1.cell i (by omega)
      have y2 := HI.out.2.1.cell k (by omega)
      rw [hx] at y1
      rw [hy] at y2
      obtain ⟨⟨u, y3⟩, f2, f1⟩ := HI.out.2.1.swapF (i := i) (j := k) (by omega) (by omega) y
      have HN2 : Hid (∀ q, PermOn a b L (swapL L1 i k) ∧ TurnU w (((wr.setCell ⟨g, i, none⟩ (.int .u64 y)).setCell ⟨g, k, none⟩ (.int .u64 x)).drewN q) g R (swapL L1 i k)) := fun q => by
        refine ⟨HI.out.1.swap (by omega) (by omega) (by omega) (by omega), ?_⟩
        have := HI.out.2.swap (i := i) (j := k) (by omega) (by omega)
        rw [hx, hy] at this
        exact this.below ⟨rfl, rfl, rfl, Nat.le_refl _, fun _ _ => rfl⟩
      clear HI hx hy hl1
      go_upto_region 3 with fail
      go_region
      go_wp2
      go_roundw
      case rel => exact ⟨i + 1, (k : Int) - 1, swapL L1 i k, by go_num, rfl, by omega, by omega, by omega, by omega, HN2.out _⟩
      case measure => (simp [intOf]; omega)
    · have HE : Hid (PermOn a b L L1 ∧ TurnU w wr g R L1) := HI.out
      clear HI
      go_wp2
      go_end0
      exact ⟨rfl, L1, HE.out⟩
/-- A number of its own beside the row. -/
def CntU (w : World) (s : Nat) : Prop := ∃ v : Int, Blk w s #[.int .i64 v] 3
theorem CntU.below {w w' : World} {s : Nat} (h : CntU w s) (hb : Below w.heap.size w w') : CntU w' s := by obtain ⟨v, k⟩ := h; exact ⟨v, k.below hb k.lt⟩
set_option maxHeartbeats 4000000 in
theorem order2_any (g n c a b s : Nat) (L : List Int) (R : List Value) (w : World) (h : U64R w g L R) (hn : L.length = n) (ha : a < n) (hb : b < n) (_hz : n ≤ 1099511627776) (hs : CntU w s) (hgs : s ≠ g) :
    Calls Tryz.prog 113 #[.slice (some ⟨g, 0, none⟩) n c, .int .i64 a, .int .i64 b, .pointer (some ⟨s, 0, none⟩)] w fun e w' => ∃ p q : Nat, e = .returned (.tuple #[.int .i64 p, .int .i64 q]) ∧ ((p = a ∧ q = b) ∨ (p = b ∧ q = a)) ∧ U64R w' g L R ∧ CntU w' s ∧ Upd (fun k => k = s) w w' := by
  obtain ⟨v, hv⟩ := hs
  obtain ⟨x, hx⟩ : ∃ x, atL L b = x := ⟨_, rfl⟩
  obtain ⟨y, hy⟩ : ∃ y, atL L a = y := ⟨_, rfl⟩
  have LS : Hid (∀ W, Calls Tryz.prog 93 #[.int .u64 x, .int .u64 y] W fun e w' => e = .returned (.bool (decide (x < y))) ∧ Below W.heap.size W w') := fun W => less_any x y W
  have KB : ∀ W, Below w.heap.size w W → W.cell? ⟨g, b, none⟩ = some (.int .u64 x) ∧ W.cell? ⟨g, a, none⟩ = some (.int .u64 y) := fun W hW => by
    have h1 := h.below hW
    exact ⟨by rw [← hx]; exact h1.cell b (by omega), by rw [← hy]; exact h1.cell a (by omega)⟩
  have B0 : Below w.heap.size w w.drew := (Below.refl _ _).drew
  have HB : Hid (∀ W, Below w.heap.size w W → U64R W g L R ∧ Blk W s #[.int .i64 v] 3) := fun W hW => ⟨h.below hW, hv.below hW hv.lt⟩
  have ha0 : (0 : Int) ≤ (a : Int) := by omega
  have han : (a : Int) < (n : Int) := by omega
  have hb0 : (0 : Int) ≤ (b : Int) := by omega
  have hbn : (b : Int) < (n : Int) := by omega
  clear h hn hx hy hv
  by_cases hc : x < y
  · have hdc : decide (x < y) = true := decide_eq_true hc
    rw [hdc] at LS
    clear hdc
    go_enter Tryz.func113, Tryz.ntmps113
    go_upto_region 1 with fail
    go_region_held3 (fun W => W.cell? ⟨g, b, none⟩ = some (.int .u64 x) ∧ W.cell? ⟨g, a, none⟩ = some (.int .u64 y)) (first | exact KB _ B0 | exact KB _ B1) (first
      | (go_at_call 93; (with_reducible refine (LS.out _).mono ?_); clear LS; rintro e w1 ⟨rfl, hb1⟩; have B1 : Below w.heap.size w w1 := B0.trans (hb1.mono B0.size); clear hb1)
      | fail)
    all_goals
      obtain ⟨hU, hC⟩ := HB.out w1 B1
      have z1 := hC.cell 0 rfl
      have z2 := hC.frozen 0
      have HE : Hid (∀ t, U64R (w1.setCell ⟨s, 0, none⟩ (.int .i64 t)) g L R ∧ CntU (w1.setCell ⟨s, 0, none⟩ (.int .i64 t)) s ∧ Upd (fun k => k = s) w (w1.setCell ⟨s, 0, none⟩ (.int .i64 t))) := fun t => by
        have u1 : Upd (fun k => k = s) w1 (w1.setCell ⟨s, 0, none⟩ (.int .i64 t)) := (Upd.refl (fun k => k = s) w1).setCell (p := ⟨s, 0, none⟩) (fun _ => rfl) _
        exact ⟨Blk.upd hU u1 (fun e => hgs e.symm), ⟨t, hC.set 0 _⟩, (Upd.ofBelow (S := fun k => k = s) B1 (fun k h1 h2 => by omega)).trans u1 (fun _ _ h => h)⟩
      clear KB B0 B1 HB hU hC
      go_wp2
      go_ret2
      exact ⟨b, a, rfl, Or.inr ⟨rfl, rfl⟩, HE.out _⟩
  · have hdc : decide (x < y) = false := decide_eq_false hc
    rw [hdc] at LS
    clear hdc
    go_enter Tryz.func113, Tryz.ntmps113
    go_upto_region 1 with fail
    go_region_held3 (fun W => W.cell? ⟨g, b, none⟩ = some (.int .u64 x) ∧ W.cell? ⟨g, a, none⟩ = some (.int .u64 y)) (first | exact KB _ B0 | exact KB _ B1) (first
      | (go_at_call 93; (with_reducible refine (LS.out _).mono ?_); clear LS; rintro e w1 ⟨rfl, hb1⟩; have B1 : Below w.heap.size w w1 := B0.trans (hb1.mono B0.size); clear hb1)
      | fail)
    all_goals
      obtain ⟨hU, hC⟩ := HB.out w1 B1
      have HE : Hid (U64R w1 g L R ∧ CntU w1 s ∧ Upd (fun k => k = s) w w1) := ⟨hU, ⟨v, hC⟩, Upd.ofBelow (S := fun k => k = s) B1 (fun k h1 h2 => by omega)⟩
      clear KB B0 B1 HB hU hC
      go_wp2
      go_ret2
      exact ⟨a, b, rfl, Or.inl ⟨rfl, rfl⟩, HE.out⟩
theorem median_any (g n c a b d s : Nat) (L : List Int) (R : List Value) (w : World) (h : U64R w g L R) (hn : L.length = n) (ha : a < n) (hb : b < n) (hd : d < n) (hz : n ≤ 1099511627776) (hs : CntU w s) (hgs : s ≠ g) :
    Calls Tryz.prog 109 #[.slice (some ⟨g, 0, none⟩) n c, .int .i64 a, .int .i64 b, .int .i64 d, .pointer (some ⟨s, 0, none⟩)] w fun e w' => ∃ p : Nat, e = .returned (.int .i64 p) ∧ (p = a ∨ p = b ∨ p = d) ∧ U64R w' g L R ∧ CntU w' s ∧ Upd (fun k => k = s) w w' := by
  have O1 := order2_any g n c a b s L R w h hn ha hb hz hs hgs
  have HO : Hid (∀ (W : World) (p q : Nat), U64R W g L R → CntU W s → p < n → q < n → Calls Tryz.prog 113 #[.slice (some ⟨g, 0, none⟩) n c, .int .i64 p, .int .i64 q, .pointer (some ⟨s, 0, none⟩)] W fun e w' => ∃ p' q' : Nat, e = .returned (.tuple #[.int .i64 p', .int .i64 q']) ∧ ((p' = p ∧ q' = q) ∨ (p' = q ∧ q' = p)) ∧ U64R w' g L R ∧ CntU w' s ∧ Upd (fun k => k = s) W w') := fun W p q h1 h2 h3 h4 => order2_any g n c p q s L R W h1 hn h3 h4 hz h2 hgs
  clear h hn hs
  go_enter Tryz.func109, Tryz.ntmps109
  go_wp2_with (first
    | (go_at_call 113; (with_reducible refine O1.mono ?_); clear O1; rintro e w1 ⟨p1, q1, rfl, e1, h1, s1, u1⟩; have O2 := HO.out w1 q1 d h1 s1 (by omega) hd; have H1 : Hid _ := e1; clear e1 h1 s1)
    | (go_at_call 113; (with_reducible refine O2.mono ?_); clear O2; rintro e w2 ⟨p2, q2, rfl, e2, h2, s2, u2⟩; have O3 := HO.out w2 p1 p2 h2 s2 (by have := H1.out; omega) (by have := H1.out; omega); have H2 : Hid _ := e2; clear e2 h2 s2)
    | (go_at_call 113; (with_reducible refine O3.mono ?_); clear O3; rintro e w3 ⟨p3, q3, rfl, e3, h3, s3, u3⟩; have H3 : Hid _ := e3; clear e3))
  go_ret
  exact ⟨q3, rfl, by have := H1.out; have := H2.out; have := H3.out; omega, h3, s3, (u1.trans u2 (fun _ _ h => h)).trans u3 (fun _ _ h => h)⟩
theorem medianAdj_any (g n c a s : Nat) (L : List Int) (R : List Value) (w : World) (h : U64R w g L R) (hn : L.length = n) (ha : 1 ≤ a) (hb : a + 1 < n) (hz : n ≤ 1099511627776) (hs : CntU w s) (hgs : s ≠ g) :
    Calls Tryz.prog 108 #[.slice (some ⟨g, 0, none⟩) n c, .int .i64 a, .pointer (some ⟨s, 0, none⟩)] w fun e w' => ∃ p : Nat, e = .returned (.int .i64 p) ∧ (a ≤ p + 1 ∧ p ≤ a + 1) ∧ U64R w' g L R ∧ CntU w' s ∧ Upd (fun k => k = s) w w' := by
  have O1 := median_any g n c (a - 1) a (a + 1) s L R w h hn (by omega) (by omega) hb hz hs hgs
  obtain ⟨k, hk⟩ : ∃ k, a - 1 = k := ⟨_, rfl⟩
  obtain ⟨l, hl⟩ : ∃ l, a + 1 = l := ⟨_, rfl⟩
  rw [hk, hl] at O1
  have w1 : IntKind.i64.wrap ((a : Int) - 1) = (k : Int) := by rw [IntKind.wrap_i64]; omega
  have w2 : IntKind.i64.wrap ((a : Int) + 1) = (l : Int) := by rw [IntKind.wrap_i64]; omega
  have HK : Hid (a = k + 1 ∧ l = a + 1) := ⟨by omega, by omega⟩
  clear h hn hs hk hl
  go_enter Tryz.func108, Tryz.ntmps108
  go_wp2_with (go_at_call 109; (with_reducible refine O1.mono ?_); clear O1; rintro e w1 ⟨p, rfl, e1, h1, s1, u1⟩; have H1 : Hid _ := e1; clear e1)
  go_ret
  exact ⟨p, rfl, by have := H1.out; have := HK.out; omega, h1, s1, u1⟩
end Go.Proofs.YtiflfapdffkcbaaGreatDoor.qs
