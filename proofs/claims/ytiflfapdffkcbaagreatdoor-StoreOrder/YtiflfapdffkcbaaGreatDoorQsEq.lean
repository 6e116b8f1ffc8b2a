/-
  Merged: QsE, QsF.
-/
import Derived.Test.YtiflfapdffkcbaaGreatDoorQsD
import Derived.Test.YtiflfapdffkcbaaGreatDoorSkAq
import Derived.Laws.Bits64
import Derived.Laws.Bits64b
namespace Go.Proofs.YtiflfapdffkcbaaGreatDoor.qs
open Go Go.RowKit
set_option maxRecDepth 100000

theorem quarter_i (l : Nat) (hl : l ≤ 1099511627776) : ∃ q : Nat, IntKind.i64.wrap ((l : Int).tdiv 4) = (q : Int) ∧ IntKind.i64.wrap ((l : Int) / 4) = (q : Int) ∧ q = l / 4 := by
  have e : (l : Int).tdiv 4 = (l : Int) / 4 := Int.tdiv_eq_ediv_of_nonneg (by omega)
  refine ⟨l / 4, ?_, ?_, rfl⟩
  · rw [e, IntKind.wrap_i64]; omega
  · rw [IntKind.wrap_i64]; omega
set_option maxHeartbeats 8000000 in
theorem pivot_any (g n c a b : Nat) (L : List Int) (R : List Value) (w : World) (h : U64R w g L R) (hn : L.length = n) (hab : a + 12 < b) (hb : b ≤ n) (hz : n ≤ 1099511627776) :
    Calls Tryz.prog 90 #[.slice (some ⟨g, 0, none⟩) n c, .int .i64 a, .int .i64 b] w fun e w' => ∃ (p : Nat) (v : Int), e = .returned (.tuple #[.int .i64 p, .int .i64 v]) ∧ a ≤ p ∧ p < b ∧ Below w.heap.size w w' := by
  obtain ⟨l, hl⟩ : ∃ l, b - a = l := ⟨_, rfl⟩
  obtain ⟨q, q1, q2, q3⟩ := quarter_i l (by omega)
  have e0 : IntKind.i64.wrap ((b : Int) - (a : Int)) = (l : Int) := by rw [IntKind.wrap_i64]; omega
  have e1 : IntKind.i64.wrap ((q : Int) * 1) = (q : Int) := by rw [IntKind.wrap_i64]; omega
  have e1' : IntKind.i64.wrap (q : Int) = (q : Int) := by rw [IntKind.wrap_i64]; omega
  have e2 : IntKind.i64.wrap ((q : Int) * 2) = ((2 * q : Nat) : Int) := by rw [IntKind.wrap_i64]; omega
  have e3 : IntKind.i64.wrap ((q : Int) * 3) = ((3 * q : Nat) : Int) := by rw [IntKind.wrap_i64]; omega
  obtain ⟨r2, hr2⟩ : ∃ r, 2 * q = r := ⟨_, rfl⟩
  obtain ⟨r3, hr3⟩ : ∃ r, 3 * q = r := ⟨_, rfl⟩
  rw [hr2] at e2
  rw [hr3] at e3
  have e4 : IntKind.i64.wrap ((a : Int) + (q : Int)) = ((a + q : Nat) : Int) := by rw [IntKind.wrap_i64]; omega
  have e5 : IntKind.i64.wrap ((a : Int) + (r2 : Int)) = ((a + r2 : Nat) : Int) := by rw [IntKind.wrap_i64]; omega
  have e6 : IntKind.i64.wrap ((a : Int) + (r3 : Int)) = ((a + r3 : Nat) : Int) := by rw [IntKind.wrap_i64]; omega
  obtain ⟨i, hi⟩ : ∃ i, a + q = i := ⟨_, rfl⟩
  obtain ⟨j, hj⟩ : ∃ j, a + r2 = j := ⟨_, rfl⟩
  obtain ⟨k, hk⟩ : ∃ k, a + r3 = k := ⟨_, rfl⟩
  rw [hi] at e4
  rw [hj] at e5
  rw [hk] at e6
  have l8 : (8 : Int) ≤ (l : Int) := by omega
  have HR0 : a + 1 ≤ i ∧ i + 1 < b ∧ a + 1 ≤ j ∧ j + 1 < b ∧ a + 1 ≤ k ∧ k + 1 < b := by omega
  have HR : Hid (a + 1 ≤ i ∧ i + 1 < b ∧ a + 1 ≤ j ∧ j + 1 < b ∧ a + 1 ≤ k ∧ k + 1 < b) := HR0
  clear HR0
  have b0 : Below w.heap.size w (w.alloc (.cells #[.int .i64 0] 3)) := (Below.refl _ _).alloc (Nat.le_refl _) _
  have HU : Hid (∀ W, U64R W g L R → CntU W w.heap.size → ∀ x, 1 ≤ x → x + 1 < n → Calls Tryz.prog 108 #[.slice (some ⟨g, 0, none⟩) n c, .int .i64 (x : Nat), .pointer (some ⟨w.heap.size, 0, none⟩)] W fun e w' => ∃ p : Nat, e = .returned (.int .i64 p) ∧ (x ≤ p + 1 ∧ p ≤ x + 1) ∧ U64R w' g L R ∧ CntU w' w.heap.size ∧ Upd (fun k => k = w.heap.size) W w') := fun W h1 h2 x h3 h4 => medianAdj_any g n c x w.heap.size L R W h1 hn h3 h4 hz h2 (by have := h.lt; omega)
  have HM : Hid (∀ W, U64R W g L R → CntU W w.heap.size → ∀ x y z, x < n → y < n → z < n → Calls Tryz.prog 109 #[.slice (some ⟨g, 0, none⟩) n c, .int .i64 (x : Nat), .int .i64 (y : Nat), .int .i64 (z : Nat), .pointer (some ⟨w.heap.size, 0, none⟩)] W fun e w' => ∃ p : Nat, e = .returned (.int .i64 p) ∧ (p = x ∨ p = y ∨ p = z) ∧ U64R w' g L R ∧ CntU w' w.heap.size ∧ Upd (fun k => k = w.heap.size) W w') := fun W h1 h2 x y z h3 h4 h5 => median_any g n c x y z w.heap.size L R W h1 hn h3 h4 h5 hz h2 (by have := h.lt; omega)
  have H0 : Hid (U64R (w.alloc (.cells #[.int .i64 0] 3)) g L R ∧ CntU (w.alloc (.cells #[.int .i64 0] 3)) w.heap.size ∧ Below w.heap.size w (w.alloc (.cells #[.int .i64 0] 3))) := ⟨h.below b0, ⟨0, Blk.new _ _ _⟩, b0⟩
  have HT : Hid (∀ W W', Below w.heap.size w W → Upd (fun k => k = w.heap.size) W W' → Below w.heap.size w W') := fun W W' hb hu => hb.trans (hu.below hb.size (fun k h1 h2 => by omega))
  clear h hn hl q3 hr2 hr3 hi hj hk b0
  by_cases h50 : 50 ≤ l
  · have h50' : (50 : Int) ≤ (l : Int) := by omega
    have A1 := HU.out _ H0.out.1 H0.out.2.1 i (by have := HR.out; omega) (by have := HR.out; omega)
    go_enter Tryz.func90, Tryz.ntmps90
    go_upto_region 12 with (first
      | (go_at_call 108; (with_reducible refine A1.mono ?_); clear A1; rintro e w1 ⟨p1, rfl, x1, h1, s1, u1⟩; have A2 := HU.out w1 h1 s1 j (by have := HR.out; omega) (by have := HR.out; omega); have X1 : Hid _ := x1; have B1 := HT.out _ _ H0.out.2.2 u1; clear x1 h1 s1 u1)
      | (go_at_call 108; (with_reducible refine A2.mono ?_); clear A2; rintro e w2 ⟨p2, rfl, x2, h2, s2, u2⟩; have A3 := HU.out w2 h2 s2 k (by have := HR.out; omega) (by have := HR.out; omega); have X2 : Hid _ := x2; have B2 := HT.out _ _ B1 u2; clear x2 h2 s2 u2 B1)
      | (go_at_call 108; (with_reducible refine A3.mono ?_); clear A3; rintro e w3 ⟨p3, rfl, x3, h3, s3, u3⟩; have X3 : Hid _ := x3; have A4 := HM.out w3 h3 s3 p1 p2 p3 (by have := HR.out; have := X1.out; omega) (by have := HR.out; have := X2.out; omega) (by have := HR.out; have := X3.out; omega); have B3 := HT.out _ _ B2 u3; clear x3 h3 s3 u3 B2)
      | (go_at_call 109; (with_reducible refine A4.mono ?_); clear A4; rintro e w4 ⟨p4, rfl, x4, h4, s4, u4⟩; have X4 : Hid _ := x4; have B4 := HT.out _ _ B3 u4; obtain ⟨v, hv⟩ := s4; have z0 := hv.cell 0 rfl; clear x4 h4 u4 B3 hv))
    have HP0 : a ≤ p4 ∧ p4 < b := by have := HR.out; have := X1.out; have := X2.out; have := X3.out; have := X4.out; omega
    have HP : Hid (a ≤ p4 ∧ p4 < b) := HP0
    clear HP0
    clear X1 X2 X3 X4 HR HU HM H0 HT
    by_cases v0 : v = 0
    · subst v0
      go_wp2
      go_ret2
      exact ⟨p4, _, rfl, HP.out.1, HP.out.2, B4⟩
    · have v0' : (v == 0) = false := by simp [v0]
      by_cases v12 : v = 12
      · subst v12
        go_wp2
        go_ret2
        exact ⟨p4, _, rfl, HP.out.1, HP.out.2, B4⟩
      · have v12' : (v == 12) = false := by simp [v12]
        go_wp2
        go_ret2
        exact ⟨p4, _, rfl, HP.out.1, HP.out.2, B4⟩
  · have h50' : ¬ (50 : Int) ≤ (l : Int) := by omega
    have A4 := HM.out _ H0.out.1 H0.out.2.1 i j k (by have := HR.out; omega) (by have := HR.out; omega) (by have := HR.out; omega)
    go_enter Tryz.func90, Tryz.ntmps90
    go_upto_region 12 with (go_at_call 109; (with_reducible refine A4.mono ?_); clear A4; rintro e w4 ⟨p4, rfl, x4, h4, s4, u4⟩; have X4 : Hid _ := x4; have B4 := HT.out _ _ H0.out.2.2 u4; obtain ⟨v, hv⟩ := s4; have z0 := hv.cell 0 rfl; clear x4 h4 u4 hv)
    have HP0 : a ≤ p4 ∧ p4 < b := by have := HR.out; have := X4.out; omega
    have HP : Hid (a ≤ p4 ∧ p4 < b) := HP0
    clear HP0
    clear X4 HR HU HM H0 HT
    by_cases v0 : v = 0
    · subst v0
      go_wp2
      go_ret2
      exact ⟨p4, _, rfl, HP.out.1, HP.out.2, B4⟩
    · have v0' : (v == 0) = false := by simp [v0]
      by_cases v12 : v = 12
      · subst v12
        go_wp2
        go_ret2
        exact ⟨p4, _, rfl, HP.out.1, HP.out.2, B4⟩
      · have v12' : (v == 12) = false := by simp [v12]
        go_wp2
        go_ret2
        exact ⟨p4, _, rfl, HP.out.1, HP.out.2, B4⟩
theorem pow2_any (l : Nat) (hl : 0 < l) (hz : l ≤ 1099511627776) (w : World) :
    Calls Tryz.prog 103 #[.int .i64 l] w fun e w' => ∃ m : Nat, e = .returned (.int .u64 m) ∧ 1 ≤ m ∧ m ≤ 2 * l ∧ Below w.heap.size w w' := by
  have LN : ∀ W, Calls Tryz.prog 63 #[.int .u64 l] W fun e w' => e = .returned (.int .i64 (sk.lenN l : Nat)) ∧ w' = W := fun W => by
    have L64 := sk.len64_any l (by omega)
    go_enter Tryz.func63, Tryz.ntmps63
    go_wp2_with (go_at_call 86; (with_reducible refine (L64 _).mono ?_); clear L64; rintro e w' ⟨rfl, hw⟩; obtain rfl := hw.symm)
    go_ret
    exact ⟨rfl, rfl⟩
  have hlog : sk.lenN l = l.log2 + 1 := sk.lenN_log (by omega)
  obtain ⟨p1, p2⟩ := sk.log2_le (v := l) (by omega)
  have hle : sk.lenN l ≤ 63 := by
    rw [hlog]
    rcases Nat.lt_or_ge l.log2 62 with h6 | h6
    · omega
    · have := Nat.pow_le_pow_right (n := 2) (by omega) h6
      omega
  obtain ⟨s, hs⟩ : ∃ s, sk.lenN l = s := ⟨_, rfl⟩
  have HP : Hid (1 ≤ 2 ^ s ∧ 2 ^ s ≤ 2 * l) := by
    rw [← hs, hlog]
    refine ⟨Nat.one_le_two_pow, ?_⟩
    rw [Nat.pow_succ]
    omega
  rw [hs] at LN hle
  have wl : IntKind.u64.wrap (l : Int) = (l : Int) := by rw [IntKind.wrap_u64]; omega
  obtain ⟨m, hm⟩ : ∃ m, 2 ^ s = m := ⟨_, rfl⟩
  rw [hm] at HP
  have wm : IntKind.u64.wrap (1 * 2 ^ s) = (m : Int) := by
    rw [IntKind.wrap_u64, Int.one_mul]
    have : ((2 : Int) ^ s) = ((2 ^ s : Nat) : Int) := by rw [Int.natCast_pow]; rfl
    rw [this, hm]
    have := HP.out
    omega
  have wm' : IntKind.u64.wrap (2 ^ s) = (m : Int) := by rw [Int.one_mul] at wm; exact wm
  have s64 : (s : Int) ≤ 63 := by omega
  have s0 : (0 : Int) ≤ (s : Int) := by omega
  have BB : Hid (Below w.heap.size w w) := Below.refl _ _
  clear hs hlog p1 p2 hm hle
  go_enter Tryz.func103, Tryz.ntmps103
  go_wp2_with (go_at_call 63; (with_reducible refine (LN _).mono ?_); clear LN; rintro e w' ⟨rfl, hw⟩; obtain rfl := hw.symm)
  go_ret
  exact ⟨m, rfl, HP.out.1, HP.out.2, BB.out⟩
end Go.Proofs.YtiflfapdffkcbaaGreatDoor.qs

namespace Go.Proofs.YtiflfapdffkcbaaGreatDoor.qs
open Go Go.RowKit
set_option maxRecDepth 100000

/-- A number that is drawn anew. -/
def RndU (w : World) (s : Nat) : Prop := ∃ v : Nat, v < 18446744073709551616 ∧ Blk w s #[.int .u64 v] 151
theorem xor_small {a b : Nat} (ha : a < 18446744073709551616) (hb : b < 18446744073709551616) : ∃ c : Nat, bits .xor .u64 (a : Int) (b : Int) = (c : Int) ∧ c < 18446744073709551616 :=
  ⟨a ^^^ b, bits_xor_u64_nat a b ha hb, Nat.xor_lt_two_pow (n := 64) ha hb⟩
theorem shl_small (a k : Nat) : ∃ c : Nat, IntKind.u64.wrap ((a : Int) * (k : Int)) = (c : Int) ∧ c < 18446744073709551616 :=
  ⟨a * k % 18446744073709551616, by rw [← Int.natCast_mul, IntKind.wrap_u64]; omega, Nat.mod_lt _ (by decide)⟩
set_option maxHeartbeats 4000000 in
theorem next_any (s : Nat) (w : World) (h : RndU w s) :
    Calls Tryz.prog 104 #[.pointer (some ⟨s, 0, none⟩)] w fun e w' => ∃ v : Nat, e = .returned (.int .u64 v) ∧ v < 18446744073709551616 ∧ RndU w' s ∧ Upd (fun k => k = s) w w' := by
  obtain ⟨v, hv, hB⟩ := h
  obtain ⟨x1, a1, b1⟩ := shl_small v 8192
  obtain ⟨v1, c1, d1⟩ := xor_small hv b1
  have e2 : (v1 : Int) / 128 = ((v1 / 128 : Nat) : Int) := by omega
  obtain ⟨x2, hx2⟩ : ∃ x, v1 / 128 = x := ⟨_, rfl⟩
  rw [hx2] at e2
  obtain ⟨v2, c2, d2⟩ := xor_small d1 (show x2 < 18446744073709551616 by omega)
  obtain ⟨x3, a3, b3⟩ := shl_small v2 131072
  obtain ⟨v3, c3, d3⟩ := xor_small d2 b3
  have a1' : IntKind.u64.wrap ((v : Int) * 8192) = (x1 : Int) := a1
  have a3' : IntKind.u64.wrap ((v2 : Int) * 131072) = (x3 : Int) := a3
  have ST : Hid (∀ (W : World) (x y : Nat), Blk W s #[.int .u64 x] 151 → Upd (fun k => k = s) w W → Blk ((W.setCell ⟨s, 0, none⟩ (.int .u64 y)).drew) s #[.int .u64 y] 151 ∧ Upd (fun k => k = s) w ((W.setCell ⟨s, 0, none⟩ (.int .u64 y)).drew)) := fun W x y hb hu => ⟨hb.set 0 (.int .u64 y), (hu.setCell (p := ⟨s, 0, none⟩) (fun _ => rfl) _).drew⟩
  have U0 : Upd (fun k => k = s) w w := Upd.refl _ _
  have z0 := hB.cell 0 rfl
  have f0 := hB.frozen 0
  have HD : Hid (v3 < 18446744073709551616) := d3
  clear hv b1 d1 d2 b3 d3 hx2 a1 a3
  go_enter Tryz.func104, Tryz.ntmps104
  go_upto_region 1 with fail
  go_region
  obtain ⟨wA, hA⟩ : ∃ W, (w.setCell ⟨s, 0, none⟩ (.int .u64 v1)).drew = W := ⟨_, rfl⟩
  have QA := ST.out w v v1 hB U0
  rw [hA] at QA ⊢
  clear hA z0 f0 hB U0
  have z0 := QA.1.cell 0 rfl
  have f0 := QA.1.frozen 0
  go_upto_region 2 with fail
  go_region
  obtain ⟨wB, hA⟩ : ∃ W, (wA.setCell ⟨s, 0, none⟩ (.int .u64 v2)).drew = W := ⟨_, rfl⟩
  have QB := ST.out wA v1 v2 QA.1 QA.2
  rw [hA] at QB ⊢
  clear hA z0 f0 QA
  have z0 := QB.1.cell 0 rfl
  have f0 := QB.1.frozen 0
  go_upto_region 3 with fail
  go_region
  obtain ⟨wC, hA⟩ : ∃ W, (wB.setCell ⟨s, 0, none⟩ (.int .u64 v3)).drew = W := ⟨_, rfl⟩
  have QC := ST.out wB v2 v3 QB.1 QB.2
  rw [hA] at QC ⊢
  clear hA z0 f0 QB
  have z0 := QC.1.cell 0 rfl
  go_wp2
  go_ret
  exact ⟨v3, rfl, HD.out, ⟨v3, HD.out, QC.1⟩, QC.2⟩
theorem and_small {v m : Nat} (hv : v < 18446744073709551616) (hm : 1 ≤ m) (hm2 : m < 18446744073709551616) : ∃ o : Nat, bits .and .u64 (v : Int) ((m - 1 : Nat) : Int) = (o : Int) ∧ o < m :=
  ⟨v &&& (m - 1), bits_and_u64_nat v (m - 1) hv (by omega), by have := @Nat.and_le_right v (m - 1); omega⟩
set_option maxHeartbeats 8000000 in
theorem break_any (g n c a b : Nat) (L : List Int) (R : List Value) (w : World) (h : U64R w g L R) (hn : L.length = n) (hab : a + 12 < b) (hb : b ≤ n) (hz : n ≤ 1099511627776) :
    Calls Tryz.prog 89 #[.slice (some ⟨g, 0, none⟩) n c, .int .i64 a, .int .i64 b] w fun e w' => ∃ L', e = .returned (.tuple #[]) ∧ PermOn a b L L' ∧ TurnU w w' g R L' := by
  obtain ⟨l, hl⟩ : ∃ l, b - a = l := ⟨_, rfl⟩
  obtain ⟨q, q1, q2, q3⟩ := quarter_i l (by omega)
  have e0 : IntKind.i64.wrap ((b : Int) - (a : Int)) = (l : Int) := by rw [IntKind.wrap_i64]; omega
  have e2 : IntKind.i64.wrap ((q : Int) * 2) = ((2 * q : Nat) : Int) := by rw [IntKind.wrap_i64]; omega
  obtain ⟨r2, hr2⟩ : ∃ r, 2 * q = r := ⟨_, rfl⟩
  rw [hr2] at e2
  obtain ⟨m2, hm2⟩ : ∃ m, a + r2 = m := ⟨_, rfl⟩
  have e5 : IntKind.i64.wrap ((a : Int) + (r2 : Int)) = (m2 : Int) := by rw [IntKind.wrap_i64]; omega
  obtain ⟨i0, hi0⟩ : ∃ i, m2 - 1 = i := ⟨_, rfl⟩
  have e6 : IntKind.i64.wrap ((m2 : Int) - 1) = (i0 : Int) := by rw [IntKind.wrap_i64]; omega
  obtain ⟨i2, hi2⟩ : ∃ i, m2 + 1 = i := ⟨_, rfl⟩
  have e7 : IntKind.i64.wrap ((m2 : Int) + 1) = (i2 : Int) := by rw [IntKind.wrap_i64]; omega
  have l8 : (8 : Int) ≤ (l : Int) := by omega
  have el : IntKind.u64.wrap (l : Int) = (l : Int) := by rw [IntKind.wrap_u64]; omega
  have HR0 : a ≤ i0 ∧ i2 < b ∧ i0 ≤ i2 ∧ a + l = b := by omega
  have HR : Hid (a ≤ i0 ∧ i2 < b ∧ i0 ≤ i2 ∧ a + l = b ∧ b ≤ n ∧ n ≤ 1099511627776) := ⟨HR0.1, HR0.2.1, HR0.2.2.1, HR0.2.2.2, hb, hz⟩
  have b0 : Below w.heap.size w (w.alloc (.cells #[.int .u64 l] 151)) := (Below.refl _ _).alloc (Nat.le_refl _) _
  have H0 : Hid (PermOn a b L L ∧ TurnU w (w.alloc (.cells #[.int .u64 l] 151)) g R L ∧ RndU (w.alloc (.cells #[.int .u64 l] 151)) w.heap.size) := ⟨PermOn.refl _ _ _, (TurnU.refl h).below b0, ⟨l, by omega, Blk.new _ _ _⟩⟩
  have PW := pow2_any l (by omega) (by omega) (w.alloc (.cells #[.int .u64 l] 151))
  have HN : Hid (L.length = n ∧ g < w.heap.size) := ⟨hn, h.lt⟩
  have hl0 : (0 : Int) ≤ (l : Int) := by omega
  have hsz : (i0 : Int) ≤ (n : Int) := by omega
  clear h hn hl q3 hr2 hm2 hi0 hi2 b0 HR0
  go_enter Tryz.func89, Tryz.ntmps89
  go_upto_region 4 with (go_at_call 103; (with_reducible refine PW.mono ?_); clear PW; rintro e w1 ⟨m, rfl, hm1, hml, bw1⟩)
  have HM : Hid (1 ≤ m ∧ m ≤ 2 * l) := ⟨hm1, hml⟩
  have wm : IntKind.u64.wrap ((m : Int) - 1) = ((m - 1 : Nat) : Int) := by rw [IntKind.wrap_u64]; have := HR.out; omega
  obtain ⟨mm, hmm⟩ : ∃ x, m - 1 = x := ⟨_, rfl⟩
  rw [hmm] at wm
  have HMM : Hid (m - 1 = mm) := hmm
  have H1 : Hid (PermOn a b L L ∧ TurnU w w1 g R L ∧ RndU w1 w.heap.size) := ⟨H0.out.1, H0.out.2.1.below bw1, by obtain ⟨v, hv, hk⟩ := H0.out.2.2; exact ⟨v, hv, hk.below bw1 hk.lt⟩⟩
  clear hm1 hml bw1 H0 hmm
  go_wp2
  go_loopw [9] (fun z wr => ∃ (i : Nat) (L1 : List Int), z = .int .i64 i ∧ i0 ≤ i ∧ i ≤ i2 + 1 ∧ Hid (PermOn a b L L1 ∧ TurnU w wr g R L1 ∧ RndU wr w.heap.size)) (fun z _ => i2 + 1 - (intOf z).toNat)
  case atStart => exact ⟨i0, L, rfl, Nat.le_refl _, by have := HR.out; omega, H1⟩
  case round =>
    obtain ⟨i, L1, rfl, hi1, hi3, HI⟩ := hrel
    clear H1
    by_cases hlt : i ≤ i2
    · have hlt' : (i : Int) ≤ (i2 : Int) := by omega
      have NX := next_any w.heap.size wr HI.out.2.2
      have hl1 : L1.length = n := HI.out.1.len.trans HN.out.1
      have hin0 : (0 : Int) ≤ (i : Int) := by omega
      have hinn : (i : Int) < (n : Int) := by have := HR.out; omega
      go_upto_region 8 with (go_at_call 104; (with_reducible refine NX.mono ?_); clear NX; rintro e w2 ⟨v, rfl, hv, rn2, u2⟩; obtain ⟨o, ho, hom⟩ := and_small hv HM.out.1 (by have := HM.out; have := HR.out; omega); rw [HMM.out] at ho; have wo : IntKind.i64.wrap (o : Int) = (o : Int) := (by rw [IntKind.wrap_i64]; have := HM.out; have := HR.out; omega))
      have HT2 : Hid (TurnU w w2 g R L1 ∧ RndU w2 w.heap.size) := by
        refine ⟨⟨Blk.upd HI.out.2.1.1 u2 (fun e => ?_), HI.out.2.1.2.trans u2 (fun k hk e => ?_)⟩, rn2⟩
        · have := HN.out.2
          omega
        · omega
      have HO : Hid (o < m) := hom
      clear u2 rn2 hv hom
      obtain ⟨p, hp, hpl, hway⟩ : ∃ p : Nat, (p < l) ∧ IntKind.i64.wrap ((a : Int) + (p : Int)) = ((a + p : Nat) : Int) ∧ (((l : Int) ≤ (o : Int) ∧ IntKind.i64.wrap ((o : Int) - (l : Int)) = (p : Int)) ∨ (¬ (l : Int) ≤ (o : Int) ∧ o = p)) := by
        have h1 := HM.out
        have h2 := HO.out
        have h3 := HR.out
        rcases Nat.lt_or_ge o l with h | h
        · exact ⟨o, h, by rw [IntKind.wrap_i64]; omega, Or.inr ⟨by omega, rfl⟩⟩
        · exact ⟨o - l, by omega, by rw [IntKind.wrap_i64]; omega, Or.inl ⟨by omega, by rw [IntKind.wrap_i64]; omega⟩⟩
      obtain ⟨k, hk⟩ : ∃ k, a + p = k := ⟨_, rfl⟩
      rw [hk] at hpl
      have HK : Hid (a ≤ k ∧ k < b) := ⟨by omega, by have := HR.out; omega⟩
      have hk0 : (0 : Int) ≤ (k : Int) := by omega
      have hkn : (k : Int) < (n : Int) := by have := HR.out; have := HK.out; omega
      obtain ⟨x, hx⟩ : ∃ x, atL L1 i = x := ⟨_, rfl⟩
      obtain ⟨y, hy⟩ : ∃ y, atL L1 k = y := ⟨_, rfl⟩
      have y1 := HT2.out.1.1.cell i (by omega)
      have y2 := HT2.out.1.1.cell k (by omega)
      rw [hx] at y1
      rw [hy] at y2
      obtain ⟨⟨u, y3⟩, f2, f1⟩ := HT2.out.1.1.swapF (i := i) (j := k) (by omega) (by omega) y
      have HN2 : Hid (∀ q, PermOn a b L (swapL L1 i k) ∧ TurnU w (((w2.setCell ⟨g, i, none⟩ (.int .u64 y)).setCell ⟨g, k, none⟩ (.int .u64 x)).drewN q) g R (swapL L1 i k) ∧ RndU (((w2.setCell ⟨g, i, none⟩ (.int .u64 y)).setCell ⟨g, k, none⟩ (.int .u64 x)).drewN q) w.heap.size) := fun q => by
        have hr := HR.out
        refine ⟨HI.out.1.swap (by omega) (by omega) HK.out.1 HK.out.2, ?_, ?_⟩
        · have := HT2.out.1.swap (i := i) (j := k) (by omega) (by omega)
          rw [hx, hy] at this
          exact this.below ⟨rfl, rfl, rfl, Nat.le_refl _, fun _ _ => rfl⟩
        · obtain ⟨v', hv', hB'⟩ := HT2.out.2
          have ug : Upd (fun k => k = g) w2 ((w2.setCell ⟨g, i, none⟩ (.int .u64 y)).setCell ⟨g, k, none⟩ (.int .u64 x)) := ((Upd.refl (fun k => k = g) w2).setCell (p := ⟨g, i, none⟩) (fun _ => rfl) _).setCell (p := ⟨g, k, none⟩) (fun _ => rfl) _
          exact ⟨v', hv', hB'.upd (ug.drewN q) (fun e => by have := HN.out.2; omega)⟩
      clear HI HT2 hx hy hl1 hk hp HK HO
      rcases hway with ⟨g1, g2⟩ | ⟨g1, g2⟩
      · go_upto_region 10 with fail
        go_region
        go_wp2
        go_roundw
        case rel => exact ⟨i + 1, swapL L1 i k, by go_num, by omega, by omega, HN2.out _⟩
        case measure => (simp [intOf]; omega)
      · subst g2
        go_upto_region 10 with fail
        go_region
        go_wp2
        go_roundw
        case rel => exact ⟨i + 1, swapL L1 i k, by go_num, by omega, by omega, HN2.out _⟩
        case measure => (simp [intOf]; omega)
    · have hlt' : ¬ (i : Int) ≤ (i2 : Int) := by omega
      have HE : Hid (PermOn a b L L1 ∧ TurnU w wr g R L1) := ⟨HI.out.1, HI.out.2.1⟩
      clear HI
      go_wp2
      go_end0
      exact ⟨rfl, L1, HE.out⟩
end Go.Proofs.YtiflfapdffkcbaaGreatDoor.qs
