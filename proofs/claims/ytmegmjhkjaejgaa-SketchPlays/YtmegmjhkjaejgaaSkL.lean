/-
  Contracts of layer 13: barOf, Quantile.
-/
import Derived.Test.YtmegmjhkjaejgaaSkK
import Derived.Deep.RegionHeld3
import Derived.Deep.RegionWith
namespace Go.Proofs.Ytmegmjhkjaejgaa.sk
open Go.RowKit
set_option maxRecDepth 100000

/-- In which bar the r-th value is. -/
def AtBar (l : List (Int × Int)) (r i : Nat) : Prop := i < l.length ∧ sumB (l.take i) < r ∧ r ≤ sumB (l.take (i + 1))
def BarOfP (l : List (Int × Int)) (r : Nat) (w : World) (e : Ending) (w' : World) : Prop := ∃ i, ∃ h : i < l.length, e = .returned (.int .i64 l[i].1) ∧ AtBar l r i ∧ Below w.heap.size w w'
theorem sumB_all (l : List (Int × Int)) {k : Nat} (h : l.length ≤ k) : sumB (l.take k) = sumB l := by rw [List.take_of_length_le h]
set_option maxHeartbeats 2000000 in
theorem barOf_any (ad : Option Addr) (n c : Nat) (l : List (Int × Int)) (r : Nat) (w : World) (hI : InAt w ad n l) (hn : 0 < n) (hS : sumB l < 170141183460469231731687303715884105728) (h1 : 1 ≤ r) (h2 : r ≤ sumB l) :
    Calls Try.prog 31 #[.slice ad n c, natV r] w (BarOfP l r w) := by
  have HL : Hid (l.length = n) := hI.at_.len
  have hl0 : 0 < l.length := by rw [HL.out]; exact hn
  have hn0 := hI.len
  unfold maxLen at hn0
  obtain ⟨b, off, rfl, hc⟩ := hI.at_.lies hn
  obtain ⟨c0, c1⟩ := hc 0 hl0
  rw [show 0 * 2 = 0 by rfl, Nat.add_zero] at c0 c1
  have ik := hI.bin l[0] (List.getElem_mem hl0)
  have hs1 : sumB (l.take 1) = l[0].2.toNat := by rw [sumB_take l 0 hl0, List.take_zero]; simp [sumB]
  have hT0 : sumB (l.take 0) < r := by rw [List.take_zero]; exact h1
  obtain ⟨x, hx⟩ : ∃ x, l[0] = x := ⟨_, rfl⟩
  rw [hx] at c0 c1 ik hs1
  obtain ⟨i0, m0⟩ := x
  simp only at c0 c1 ik hs1
  obtain ⟨_, _, k1, k2⟩ := ik
  obtain ⟨q, rfl⟩ := Int.eq_ofNat_of_zero_le k1
  rw [Int.toNat_natCast] at hs1
  have hq64 : hi64 q = 0 ∧ lo64 q = q := by unfold hi64 lo64; omega
  have hblt := hI.lt _ rfl (by omega)
  simp only at hblt
  have HI : Hid _ := hI
  have HQ : Hid _ := hs1
  have HT0 : Hid _ := hT0
  have HQ6 : Hid _ := hq64
  have HS : Hid _ := hS
  have H2 : Hid _ := h2
  clear hI hx hs1 hT0 hq64 hc k1 k2 hl0 hS h1 h2
  have NR := natV_eq r
  rw [NR]
  have BL := fun m => below_any m r
  rw [NR] at BL
  clear NR
  generalize (hi64 r : Int) = RH at *
  generalize (lo64 r : Int) = RL at *
  generalize hQI : (q : Int) = QI at *
  have nb : b ≠ w.heap.size := by omega
  have c1' : (w.alloc (.cells #[.int .u64 RH, .int .u64 RL] 42)).cell? ⟨b, off + 1, none⟩ = some (.int .u64 QI) := by
    have := cell_upd ((Upd.refl (fun _ => False) w).alloc (.cells #[.int .u64 RH, .int .u64 RL] 42)) c1 (fun h => h)
    exact this
  go_enter Try.func31, Try.ntmps31
  go_wp2
  go_region
  obtain ⟨w1, hw1⟩ : ∃ W, ((w.alloc (.cells #[.int .u64 RH, .int .u64 RL] 42)).alloc (.cells #[.int .u64 0, .int .u64 QI] 42)).drew = W := ⟨_, rfl⟩
  rw [hw1]
  have u1 : Upd (fun _ => False) w w1 := by rw [← hw1]; exact (((Upd.refl _ w).alloc _).alloc _).drew
  have R1 : NatAt w1 w.heap.size RH RL := by
    rw [← hw1]
    exact (((NatAt.new w RH RL).upd ((Upd.refl (fun _ => False) _).alloc _) (fun h => h)).upd ((Upd.refl (fun _ => False) _).drew) (fun h => h))
  have N1 : NatAt w1 (w.heap.size + 1) (hi64 (sumB (l.take (0 + 1))) : Int) (lo64 (sumB (l.take (0 + 1))) : Int) := by
    have e : sumB (l.take (0 + 1)) = q := HQ.out
    rw [e, HQ6.out.1, HQ6.out.2, hQI, ← hw1]
    have := (NatAt.new (w.alloc (.cells #[.int .u64 RH, .int .u64 RL] 42)) 0 QI).upd ((Upd.refl (fun _ => False) _).drew) (fun h => h)
    rw [show (w.alloc (.cells #[.int .u64 RH, .int .u64 RL] 42)).heap.size = w.heap.size + 1 by simp] at this
    exact this
  have hs1 : w.heap.size + 2 ≤ w1.heap.size := by rw [← hw1]; simp
  have HR1 : Hid _ := R1
  have HN1 : Hid _ := N1
  have HU1 : Hid _ := u1
  clear hw1 c1' c1 c0 nb R1 N1 u1 HQ HQ6 hQI
  go_wp2
  go_loopw [5] (fun t wr => ∃ (k : Nat), t = .int .i64 k ∧ k < n ∧ Hid (NatAt wr (w.heap.size + 1) (hi64 (sumB (l.take (k + 1))) : Int) (lo64 (sumB (l.take (k + 1))) : Int)) ∧ Hid (sumB (l.take k) < r) ∧ Hid (Upd (fun i => i = w.heap.size + 1) w1 wr)) (fun t _ => n - (intOf t).toNat)
  case atStart => exact ⟨0, rfl, hn, HN1, HT0, Upd.refl _ _⟩
  case round =>
    obtain ⟨k, rfl, hk, HN, HT, HU⟩ := hrel
    have hsz : w1.heap.size ≤ wr.heap.size := HU.out.size
    have hRr := HR1.out.upd HU.out (show ¬ w.heap.size = w.heap.size + 1 by omega)
    have r0 := hRr.c0
    have r1 := hRr.c1
    have n0 := HN.out.c0
    have n1 := HN.out.c1
    obtain ⟨s, hs⟩ : ∃ s, sumB (l.take (k + 1)) = s := ⟨_, rfl⟩
    rw [hs] at HN n0 n1
    have B := BL s wr
    rw [natV_eq] at B
    clear hRr
    have hkl : k < l.length := by rw [HL.out]; exact hk
    by_cases hb : s < r
    · have hbt : belB s r = true := by unfold belB; simpa using hb
      rw [hbt] at B
      have hk1 : k + 1 < n := by
        rcases Nat.lt_or_ge (k + 1) n with h | h
        · exact h
        · have := sumB_all l (k := k + 1) (by rw [HL.out]; exact h)
          have := H2.out
          omega
      have hkl1 : k + 1 < l.length := by rw [HL.out]; exact hk1
      have hIr : InAt wr (some ⟨b, off, none⟩) n l := (HI.out.upd HU1.out (fun _ _ h => h)).upd HU.out (fun a ha => by injection ha with ha; subst ha; show ¬ b = w.heap.size + 1; omega)
      obtain ⟨b', off', eb, hc⟩ := hIr.at_.lies (by omega)
      injection eb with eb
      injection eb with eb1 eb2 _
      subst eb1
      subst eb2
      obtain ⟨c0, c1⟩ := hc (k + 1) hkl1
      have hik := HI.out.bin l[k + 1] (List.getElem_mem hkl1)
      have HT1 : Hid _ := sumB_take l (k + 1) hkl1
      have hle := sumB_mono l (k + 1 + 1)
      rw [HT1.out, hs] at hle
      obtain ⟨x, hx⟩ : ∃ x, l[k + 1] = x := ⟨_, rfl⟩
      rw [hx] at c0 c1 hik HT1 hle
      obtain ⟨i, m⟩ := x
      simp only at c0 c1 hik HT1 hle
      obtain ⟨i1, i2, m1, m2⟩ := hik
      obtain ⟨q', rfl⟩ := Int.eq_ofNat_of_zero_le m1
      rw [Int.toNat_natCast] at HT1 hle
      rw [hs] at HT1
      have P := plus_any s q' (by omega) (by have := HS.out; omega)
      rw [natV_eq, natV_eq] at P
      clear hx hkl1 hle m1 m2 i1 i2 hIr hc c0 hbt BL
      have HSR : Hid (sumB (l.take (k + 1)) < r) := by show _ < r; rw [hs]; exact hb
      have hk1' : (k : Int) + 1 < (n : Int) := by omega
      clear hs hb
      generalize (hi64 s : Int) = X at *
      generalize (lo64 s : Int) = Y at *
      obtain ⟨X', hX'⟩ : ∃ x : Int, (hi64 (s + q') : Int) = x := ⟨_, rfl⟩
      obtain ⟨Y', hY'⟩ : ∃ x : Int, (lo64 (s + q') : Int) = x := ⟨_, rfl⟩
      have HXP : Hid ((hi64 (s + q') : Int) = X' ∧ (lo64 (s + q') : Int) = Y') := ⟨hX', hY'⟩
      rw [hX', hY'] at P
      clear hX' hY'
      generalize (q' : Int) = QQ at *
      go_wp2_with (go_at_call 42; (with_reducible refine B.mono ?_); clear B; rintro e w3 ⟨rfl, b3⟩)
      have N3 := HN.out.below b3
      have HN3 : Hid _ := N3
      have x0 := N3.c0
      have x1 := N3.c1
      have g0 := N3.free 0
      have g1 := N3.free 1
      have hbw : b < wr.heap.size := by omega
      have z1 : w3.cell? ⟨b, off + (k + 1) * 2 + 1, none⟩ = some (.int .u64 QQ) := (b3.cell (p := ⟨b, off + (k + 1) * 2 + 1, none⟩) hbw).trans c1
      have HB3 : Hid _ := b3
      have hs3 := b3.size
      have P3 : ∀ W, Below w3.heap.size w3 W → Calls Try.prog 33 #[.agg #[.int .u64 X, .int .u64 Y], .int .u64 QQ] W fun e w' => e = .returned (.agg #[.int .u64 X', .int .u64 Y']) ∧ Below w3.heap.size w3 w' := fun W hW => (P W).mono fun e w' h => ⟨h.1, hW.trans (h.2.mono hW.size)⟩
      have K3 : ∀ W, Below w3.heap.size w3 W → W.cell? ⟨w.heap.size + 1, 0, none⟩ = some (.int .u64 X) ∧ W.cell? ⟨w.heap.size + 1, 1, none⟩ = some (.int .u64 Y) ∧ W.cell? ⟨b, off + (k + 1) * 2 + 1, none⟩ = some (.int .u64 QQ) := fun W hW => ⟨(hW.cell (p := ⟨w.heap.size + 1, 0, none⟩) (by show w.heap.size + 1 < _; omega)).trans x0, (hW.cell (p := ⟨w.heap.size + 1, 1, none⟩) (by show w.heap.size + 1 < _; omega)).trans x1, (hW.cell (p := ⟨b, off + (k + 1) * 2 + 1, none⟩) (by show b < _; omega)).trans z1⟩
      have F3 : ∀ W, Below w3.heap.size w3 W → W.frozen? ⟨w.heap.size + 1, 0, none⟩ = false ∧ W.frozen? ⟨w.heap.size + 1, 1, none⟩ = false := fun W hW => ⟨(hW.frozen (p := ⟨w.heap.size + 1, 0, none⟩) (by show w.heap.size + 1 < _; omega)).trans g0, (hW.frozen (p := ⟨w.heap.size + 1, 1, none⟩) (by show w.heap.size + 1 < _; omega)).trans g1⟩
      have HK3 : Hid _ := K3
      have HF3 : Hid _ := F3
      clear N3 b3 P n0 n1 r0 r1 c1 K3 F3
      go_region_with (first | (go_at_call 33; (with_reducible refine (P3 _ ((Below.refl _ _).drew)).mono ?_); clear P3; rintro e w5 ⟨rfl, b5⟩; obtain ⟨s0, s1, s2⟩ := HK3.out w5 b5; obtain ⟨t0, t1⟩ := HF3.out w5 b5; have HB5 : Hid _ := b5; clear b5))
      all_goals
        go_roundw
        case rel =>
          refine ⟨.int .i64 ((k : Int) + 1), _, _, _, _, _, _, _, _, _, _, _, _, ⟨k + 1, by go_num, hk1, ?_, HSR, ?_⟩, rfl⟩
          · show NatAt _ _ _ _
            rw [HT1.out, HXP.out.1, HXP.out.2]
            exact (HN3.out.below HB5.out).set _ _
          · exact ((((HU.out.trans (Upd.ofBelow (S := fun _ => False) HB3.out (fun i h1 h2 => by omega)) (fun _ _ h => h.elim)).trans (Upd.ofBelow (S := fun _ => False) HB5.out (fun i h1 h2 => by omega)) (fun _ _ h => h.elim)).setCell (p := ⟨w.heap.size + 1, 0, none⟩) (fun _ => rfl) _).setCell (p := ⟨w.heap.size + 1, 1, none⟩) (fun _ => rfl) _)
        case measure => simp [intOf]; omega
    · have hbt : belB s r = false := by unfold belB; simpa using hb
      rw [hbt] at B
      have hIr : InAt wr (some ⟨b, off, none⟩) n l := (HI.out.upd HU1.out (fun _ _ h => h)).upd HU.out (fun a ha => by injection ha with ha; subst ha; show ¬ b = w.heap.size + 1; omega)
      obtain ⟨b', off', eb, hc⟩ := hIr.at_.lies (by omega)
      injection eb with eb
      injection eb with eb1 eb2 _
      subst eb1
      subst eb2
      obtain ⟨c0, c1⟩ := hc k hkl
      have HE : Hid (AtBar l r k) := ⟨hkl, HT.out, by rw [hs]; omega⟩
      obtain ⟨x, hx⟩ : ∃ x, l[k].1 = x := ⟨_, rfl⟩
      rw [hx] at c0
      have HX : Hid _ := hx
      have hbw : b < wr.heap.size := by omega
      clear hs hb hbt BL hc hIr c1 hx
      generalize (hi64 s : Int) = X at *
      generalize (lo64 s : Int) = Y at *
      go_wp2_with (go_at_call 42; (with_reducible refine B.mono ?_); clear B; rintro e w3 ⟨rfl, b3⟩; have z1 : w3.cell? ⟨b, off + k * 2, none⟩ = some (.int .i64 x) := (b3.cell (p := ⟨b, off + k * 2, none⟩) hbw).trans c0)
      go_ret
      refine ⟨k, hkl, by rw [HX.out]; rfl, HE.out, ?_⟩
      exact ((((HU1.out.mono (S' := fun k => w.heap.size ≤ k) (fun _ _ h => h.elim)).trans HU.out (fun i _ h => by show w.heap.size ≤ i; omega)).trans (Upd.ofBelow (S := fun _ => False) b3 (fun i h1 h2 => by omega)) (fun _ _ h => h.elim)).below (Nat.le_refl _) (fun k hk h => by omega))
end Go.Proofs.Ytmegmjhkjaejgaa.sk
