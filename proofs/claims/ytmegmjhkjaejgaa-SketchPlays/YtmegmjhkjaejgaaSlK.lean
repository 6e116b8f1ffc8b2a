/-
  The reference of layer 13: Less of what may not be; count, Count.
-/
import Derived.Test.YtmegmjhkjaejgaaSlJ
namespace Go.Proofs.Ytmegmjhkjaejgaa.sk
open Go.RowKit
set_option maxRecDepth 100000

set_option maxHeartbeats 400000 in
theorem refLess_no (ad bd : Option Addr) (n m ca cb : Nat) (a b : List (Int × Int)) (w : World) (hA : InAt w ad n a) (hB : InAt w bd m b) (hc : (chkF (-1) a && chkF (-1) b) = false) :
    Calls Try.prog 24 #[.slice ad n ca, .slice bd m cb] w (MadeP none 131 w) := by
  have KA := refCheck_any ad n ca a w hA.at_ hA.len hA.bin
  have KB := fun q => refCheck_any bd m cb b (w.drewN q) (hB.at_.drewN q) hB.len hB.bin
  have hu : ∀ q, Below w.heap.size w (w.drewN q) := fun q => ((Upd.refl (fun _ => False) w).drewN q).below (Nat.le_refl _) (fun _ _ h => h)
  cases ha : chkF (-1) a with
  | false =>
    simp only [chkE_no ha] at KA
    clear KB hA hB hc ha
    go_enter Try.func24, Try.ntmps24
    go_wp2_with (go_at_call 18; (with_reducible refine KA.mono ?_); clear KA; rintro e w' ⟨rfl, q1, rfl⟩)
    go_returns
    exact ⟨hu _, rfl⟩
  | true =>
    have hb : chkF (-1) b = false := by rw [ha] at hc; simpa using hc
    simp only [chkE_ok ha] at KA
    simp only [chkE_no hb] at KB
    clear hA hB hc ha hb
    go_enter Try.func24, Try.ntmps24
    go_wp2_with (first
      | (go_at_call 18; (with_reducible refine KA.mono ?_); clear KA; rintro e w' ⟨rfl, q1, rfl⟩)
      | (go_at_call 18; (with_reducible refine (KB q1).mono ?_); clear KB; rintro e w' ⟨rfl, q2, rfl⟩))
    go_returns
    exact ⟨hu _, rfl⟩
/-- The values of the first bars. -/
def CntP (s : Nat) (w : World) (e : Ending) (w' : World) : Prop := e = .returned (natV s) ∧ Below w.heap.size w w'
theorem NatAt.set1 {w : World} {b : Nat} {x y : Int} (h : NatAt w b x y) (q : Int) : NatAt (w.setCell ⟨b, 1, none⟩ (.int .u64 q)) b x q := by
  have := set_block h.blk 1 (.int .u64 q)
  exact ⟨by simpa using this⟩
theorem NatAt.set0 {w : World} {b : Nat} {x y : Int} (h : NatAt w b x y) (q : Int) : NatAt (w.setCell ⟨b, 0, none⟩ (.int .u64 q)) b q y := by
  have := set_block h.blk 0 (.int .u64 q)
  exact ⟨by simpa using this⟩
theorem NatAt.drew {w : World} {b : Nat} {x y : Int} (h : NatAt w b x y) : NatAt w.drew b x y := ⟨h.blk⟩
theorem NatAt.drewN {w : World} {b : Nat} {x y : Int} (h : NatAt w b x y) (n : Nat) : NatAt (w.drewN n) b x y := h.upd ((Upd.refl (fun _ => False) w).drewN n) (fun h => h)
theorem over_no {s q : Nat} (h : lo64 s + q < 18446744073709551616) : hi64 (s + q) = hi64 s ∧ lo64 (s + q) = lo64 s + q := by unfold hi64 lo64 at *; omega
theorem over_yes {s q : Nat} (hq : q < 18446744073709551616) (h : 18446744073709551616 ≤ lo64 s + q) : hi64 (s + q) = hi64 s + 1 ∧ lo64 (s + q) + 18446744073709551616 = lo64 s + q := by unfold hi64 lo64 at *; omega
theorem wr_m {q : Nat} (h : q < 18446744073709551616) : IntKind.u64.wrap (18446744073709551615 - (q : Int)) = ((18446744073709551615 - q : Nat) : Int) := by rw [IntKind.wrap_u64]; omega
theorem wr_lo (s q : Nat) : IntKind.u64.wrap ((lo64 s : Int) + (q : Int)) = (lo64 (s + q) : Int) := by unfold lo64; rw [IntKind.wrap_u64]; omega
theorem wr_hi {s : Nat} (h : s < 170141183460469231731687303715884105728) : IntKind.u64.wrap ((hi64 s : Int) + 1) = ((hi64 s + 1 : Nat) : Int) := by unfold hi64; rw [IntKind.wrap_u64]; omega
set_option maxHeartbeats 1000000 in
theorem refCnt_any (ad : Option Addr) (n c N : Nat) (l : List (Int × Int)) (w : World) (hI : InAt w ad n l) (hN : N ≤ n) (hs : sumB l < 170141183460469231731687303715884105728) :
    Calls Try.prog 38 #[.slice ad n c, .int .i64 (N : Int)] w (CntP (sumB (l.take N)) w) := by
  have hn := hI.len
  unfold maxLen at hn
  have HL : Hid (l.length = n) := hI.at_.len
  have HS : Hid _ := hs
  have HI : Hid _ := hI
  clear hI hs
  go_enter Try.func38, Try.ntmps38
  go_wp2
  obtain ⟨w1, hw1⟩ : ∃ W, ((w.alloc (.cells #[.int .u64 0, .int .u64 0] 42)).alloc (.cells #[.int .u64 0, .int .u64 0] 42)) = W := ⟨_, rfl⟩
  have HB1 : Hid (Below w.heap.size w w1) := by
    have : Below w.heap.size w w1 := by rw [← hw1]; exact ((Below.refl _ w).alloc (Nat.le_refl _) _).alloc (by simp) _
    exact this
  have HN0 : Hid (NatAt w1 w.heap.size 0 0) := by
    have : NatAt w1 w.heap.size 0 0 := by rw [← hw1]; exact (NatAt.new w 0 0).upd ((Upd.refl (fun _ => False) _).alloc _) (fun h => h)
    exact this
  have HN1 : Hid (NatAt w1 (w.heap.size + 1) 0 0) := by
    have h := NatAt.new (w.alloc (.cells #[.int .u64 0, .int .u64 0] 42)) 0 0
    rw [hw1] at h
    have e : (w.alloc (.cells #[.int .u64 0, .int .u64 0] 42)).heap.size = w.heap.size + 1 := by simp
    rw [e] at h
    exact h
  rw [hw1]
  clear hw1
  go_loopw [6] (fun t wr => ∃ (k : Nat), t = .int .i64 k ∧ k ≤ N ∧ Hid (NatAt wr (w.heap.size + 1) (hi64 (sumB (l.take k)) : Int) (lo64 (sumB (l.take k)) : Int)) ∧ Hid (Upd (fun i => i = w.heap.size + 1) w1 wr)) (fun t _ => N - (intOf t).toNat)
  case atStart => exact ⟨0, rfl, by omega, by rw [List.take_zero]; exact HN1.out, Upd.refl _ _⟩
  case round =>
    obtain ⟨k, rfl, hk, HN, HU⟩ := hrel
    by_cases hlt : k < N
    · have hIr : InAt wr ad n l := (HI.out.below HB1.out).updN HU.out (fun a ha hp => by have := HI.out.lt a ha hp; omega)
      obtain ⟨b, off, rfl, hc⟩ := hIr.at_.lies (by omega)
      have hbw : b < w.heap.size := HI.out.lt _ rfl (by omega)
      have hkl : k < l.length := by rw [HL.out]; omega
      have c1 := (hc k hkl).2
      clear hc
      have hik := (HI.out.bin l[k] (List.getElem_mem hkl)).2.2
      have HT : Hid _ := sumB_take l k hkl
      have hle := sumB_mono l k
      obtain ⟨x, hx⟩ : ∃ x, l[k] = x := ⟨_, rfl⟩
      rw [hx] at c1 hik HT
      obtain ⟨i, m⟩ := x
      simp only at c1 hik HT
      obtain ⟨m1, m2⟩ := hik
      obtain ⟨q, rfl⟩ := Int.eq_ofNat_of_zero_le m1
      rw [Int.toNat_natCast] at HT
      obtain ⟨s, hs⟩ : ∃ s, sumB (l.take k) = s := ⟨_, rfl⟩
      rw [hs] at HT hle HN
      have hq : q < 18446744073709551616 := by omega
      have hs1 : s < 170141183460469231731687303715884105728 := by have := HS.out; omega
      have hM := wr_m hq
      have hP := wr_lo s q
      have hX := wr_hi hs1
      have HO : Hid _ := over_yes (s := s) hq
      have HO' : Hid _ := over_no (s := s) (q := q)
      have hlo := lo64_lt s
      have e1 : (w.heap.size : Nat) + 1 ≠ b := by omega
      clear hx hkl hle hs m1 m2 hIr hs1
      by_cases ho : 18446744073709551616 ≤ lo64 s + q
      · have t : decide (((18446744073709551615 - q : Nat) : Int) < (lo64 s : Int)) = true := by simp; omega
        have hT : (hi64 (sumB (l.take (k + 1))) : Int) = ((hi64 s + 1 : Nat) : Int) ∧ (lo64 (sumB (l.take (k + 1))) : Int) = (lo64 (s + q) : Int) := by
          rw [HT.out, (HO.out ho).1]; exact ⟨rfl, rfl⟩
        have HF : Hid _ := hT
        have HNX : Hid _ := HN
        clear HO HO' HT hlo ho hq hT
        generalize ((18446744073709551615 - q : Nat) : Int) = M at *
        generalize (lo64 (s + q) : Int) = P at *
        generalize ((hi64 s + 1 : Nat) : Int) = X' at *
        generalize (lo64 s : Int) = Y at *
        generalize (hi64 s : Int) = X at *
        generalize (q : Int) = Q at *
        have n0 := HN.out.c0
        have n1 := HN.out.c1
        go_wp2
        go_quiet (fail)
        obtain ⟨wz, hwz⟩ : ∃ W, wr.drewN nq = W := ⟨_, rfl⟩
        have HNz : Hid (NatAt wz (w.heap.size + 1) X Y) := by
          have : NatAt wz (w.heap.size + 1) X Y := by rw [← hwz]; exact HN.out.drewN nq
          exact this
        have z0 := HNz.out.c0
        have z1 := HNz.out.c1
        have zf0 := HNz.out.free 0
        have zf1 := HNz.out.free 1
        have zc : wz.cell? ⟨b, off + k * 2 + 1, none⟩ = some (.int .u64 Q) := by rw [← hwz]; exact c1
        have HUz : Hid (Upd (fun i => i = w.heap.size + 1) w1 wz) := by
          have : Upd (fun i => i = w.heap.size + 1) w1 wz := by rw [← hwz]; exact HU.out.drewN nq
          exact this
        rw [hwz]
        clear hwz n0 n1 HN HU c1
        have zc' : (wz.setCell ⟨w.heap.size + 1, 0, none⟩ (.int .u64 X')).cell? ⟨b, off + k * 2 + 1, none⟩ = some (.int .u64 Q) := cell_upd ((Upd.refl (fun i => i = w.heap.size + 1) wz).setCell (p := ⟨w.heap.size + 1, 0, none⟩) (fun _ => rfl) _) zc (fun h => e1 h.symm)
        have y1 := (HNz.out.set0 X').c1
        have yf := (HNz.out.set0 X').free 1
        go_wp2
        go_region
        go_wp2
        go_roundw
        case rel =>
          refine ⟨k + 1, by go_num, by omega, ?_, ?_⟩
          · show NatAt _ _ _ _
            rw [HF.out.1, HF.out.2]
            exact ((HNz.out.set0 X').set1 P).drew
          · exact ((HUz.out.setCell (p := ⟨w.heap.size + 1, 0, none⟩) (fun _ => rfl) _).setCell (p := ⟨w.heap.size + 1, 1, none⟩) (fun _ => rfl) _).drew
        case measure => simp [intOf]; omega
      · have t : decide (((18446744073709551615 - q : Nat) : Int) < (lo64 s : Int)) = false := by simp; omega
        have hT : (hi64 (sumB (l.take (k + 1))) : Int) = (hi64 s : Int) ∧ (lo64 (sumB (l.take (k + 1))) : Int) = (lo64 (s + q) : Int) := by
          rw [HT.out, (HO'.out (by omega)).1]; exact ⟨rfl, rfl⟩
        have HF : Hid _ := hT
        have HNX : Hid _ := HN
        clear HO HO' HT hlo ho hq hT hX
        generalize ((18446744073709551615 - q : Nat) : Int) = M at *
        generalize (lo64 (s + q) : Int) = P at *
        generalize (lo64 s : Int) = Y at *
        generalize (hi64 s : Int) = X at *
        generalize (q : Int) = Q at *
        have n0 := HN.out.c0
        have n1 := HN.out.c1
        go_wp2
        go_quiet (fail)
        obtain ⟨wz, hwz⟩ : ∃ W, wr.drewN nq = W := ⟨_, rfl⟩
        have HNz : Hid (NatAt wz (w.heap.size + 1) X Y) := by
          have : NatAt wz (w.heap.size + 1) X Y := by rw [← hwz]; exact HN.out.drewN nq
          exact this
        have z0 := HNz.out.c0
        have z1 := HNz.out.c1
        have zf0 := HNz.out.free 0
        have zf1 := HNz.out.free 1
        have zc : wz.cell? ⟨b, off + k * 2 + 1, none⟩ = some (.int .u64 Q) := by rw [← hwz]; exact c1
        have HUz : Hid (Upd (fun i => i = w.heap.size + 1) w1 wz) := by
          have : Upd (fun i => i = w.heap.size + 1) w1 wz := by rw [← hwz]; exact HU.out.drewN nq
          exact this
        rw [hwz]
        clear hwz n0 n1 HN HU c1
        go_wp2
        go_region
        go_wp2
        go_roundw
        case rel =>
          refine ⟨k + 1, by go_num, by omega, ?_, ?_⟩
          · show NatAt _ _ _ _
            rw [HF.out.1, HF.out.2]
            exact (HNz.out.set1 P).drew
          · exact (HUz.out.setCell (p := ⟨w.heap.size + 1, 1, none⟩) (fun _ => rfl) _).drew
        case measure => simp [intOf]; omega
    · obtain rfl : k = N := by omega
      have n0 := HN.out.c0
      have n1 := HN.out.c1
      have hR := HN0.out.upd HU.out (show ¬ w.heap.size = w.heap.size + 1 by omega)
      have r0 := hR.c0
      have r1 := hR.c1
      have g0 := hR.free 0
      have g1 := hR.free 1
      have HR : Hid _ := hR
      obtain ⟨s, hs⟩ : ∃ s, sumB (l.take k) = s := ⟨_, rfl⟩
      rw [hs] at n0 n1
      have HS2 : Hid (sumB (l.take k) = s) := hs
      have HV : Hid (natV s = .agg #[.int .u64 (hi64 s : Int), .int .u64 (lo64 s : Int)]) := rfl
      clear hR HN hs HN0 HN1
      unfold CntP
      generalize (hi64 s : Int) = X at n0 HV
      generalize (lo64 s : Int) = Y at n1 HV
      go_wp2
      have N2 := HR.out.set X Y
      have d0 := N2.c0
      have d1 := N2.c1
      have u1 := (Upd.ofBelow (S := fun k => w.heap.size ≤ k) HB1.out (fun _ _ h => h))
      have u2 := ((u1.trans HU.out (fun i hi h => by show w.heap.size ≤ i; omega)).setCell (p := ⟨w.heap.size, 0, none⟩) (fun _ => Nat.le_refl _) (.int .u64 X)).setCell (p := ⟨w.heap.size, 1, none⟩) (fun _ => Nat.le_refl _) (.int .u64 Y)
      refine bodyPost_ret (v := .agg #[.int .u64 X, .int .u64 Y]) (by simp [results, Try.results38, go_sem, d0, d1]; try rfl) rfl ⟨by rw [HS2.out, HV.out], u2.below (Nat.le_refl _) (fun k hk h => by omega)⟩
theorem sum_small2 {l : List (Int × Int)} (h : chkF (-1) l = true) (hi : Bin l) : sumB l < 170141183460469231731687303715884105728 := by
  have := sum_small h hi
  omega
set_option maxHeartbeats 400000 in
theorem refCount_any (ad : Option Addr) (n c : Nat) (l : List (Int × Int)) (w : World) (hI : InAt w ad n l) :
    Calls Try.prog 25 #[.slice ad n c] w fun e w' => e = .returned (.tuple #[natV (if chkF (-1) l = true then sumB l else 0), .int .i64 (chkE l)]) ∧ Below w.heap.size w w' := by
  have b0 := (Below.refl w.heap.size w).alloc (Nat.le_refl _) (.cells #[.int .u64 0, .int .u64 0] 42)
  have hI1 := hI.below b0
  have K := refCheck_any ad n c l _ hI1.at_ hI1.len hI1.bin
  cases hc : chkF (-1) l with
  | false =>
    rw [chkE_no hc] at K ⊢
    rw [if_neg (by decide)]
    clear hI hI1 hc
    go_enter Try.func25, Try.ntmps25
    go_wp2_with (go_at_call 18; (with_reducible refine K.mono ?_); clear K; rintro e w1 ⟨rfl, q1, rfl⟩)
    have N1 := (NatAt.new w 0 0).drewN q1
    have N2 := N1.set 0 0
    have u2 := (((Upd.ofBelow (S := fun k => w.heap.size ≤ k) b0 (fun _ _ h => h)).drewN q1).setCell (p := ⟨w.heap.size, 0, none⟩) (fun _ => Nat.le_refl _) (.int .u64 0)).setCell (p := ⟨w.heap.size, 1, none⟩) (fun _ => Nat.le_refl _) (.int .u64 0)
    have d0 := N2.c0
    have d1 := N2.c1
    refine bodyPost_ret (v := .tuple #[natV 0, .int .i64 131]) (by simp [results, Try.results25, go_sem, d0, d1]; try rfl) rfl ⟨rfl, u2.below (Nat.le_refl _) (fun k hk h => by omega)⟩
  | true =>
    rw [chkE_ok hc] at K ⊢
    rw [if_pos rfl]
    have CN : ∀ q, Calls Try.prog 38 #[.slice ad n c, .int .i64 (n : Int)] ((w.alloc (.cells #[.int .u64 0, .int .u64 0] 42)).drewN q) (CntP (sumB l) ((w.alloc (.cells #[.int .u64 0, .int .u64 0] 42)).drewN q)) := fun q => by
      have hI2 := hI1.upd ((Upd.refl (fun _ => False) _).drewN q) (fun _ _ h => h)
      have := refCnt_any ad n c n l _ hI2 (Nat.le_refl _) (sum_small2 hc hI.bin)
      rw [List.take_of_length_le (by rw [hI.at_.len]; exact Nat.le_refl _)] at this
      exact this
    have HNS : Hid (∀ q, NatAt ((w.alloc (.cells #[.int .u64 0, .int .u64 0] 42)).drewN q) w.heap.size 0 0) := fun q => (NatAt.new w 0 0).drewN q
    have HBQ : Hid (∀ q, Below w.heap.size w ((w.alloc (.cells #[.int .u64 0, .int .u64 0] 42)).drewN q)) := fun q => ((Upd.ofBelow (S := fun k => w.heap.size ≤ k) b0 (fun _ _ h => h)).drewN q).below (Nat.le_refl _) (fun k hk h => by omega)
    have HV : Hid (natV (sumB l) = .agg #[.int .u64 (hi64 (sumB l) : Int), .int .u64 (lo64 (sumB l) : Int)]) := rfl
    unfold CntP at CN
    rw [natV_eq] at CN
    generalize (hi64 (sumB l) : Int) = X at CN HV
    generalize (lo64 (sumB l) : Int) = Y at CN HV
    clear hI hI1 hc b0
    go_enter Try.func25, Try.ntmps25
    go_wp2_with (first
      | (go_at_call 18; (with_reducible refine K.mono ?_); clear K; rintro e w1 ⟨rfl, q1, rfl⟩)
      | (go_at_call 38; (with_reducible refine (CN q1).mono ?_); clear CN; rintro e w2 ⟨rfl, b2⟩; have N2 := (HNS.out q1).below b2; have c0 := N2.c0; have c1 := N2.c1; have f0 := N2.free 0; have f1 := N2.free 1; have HN2 : Hid _ := N2; have HB2 : Hid _ := (HBQ.out q1).trans (b2.mono (HBQ.out q1).size); clear N2 b2 HNS HBQ))
    have N3 := HN2.out.set X Y
    have d0 := N3.c0
    have d1 := N3.c1
    have u2 := ((Upd.ofBelow (S := fun k => w.heap.size ≤ k) HB2.out (fun _ _ h => h)).setCell (p := ⟨w.heap.size, 0, none⟩) (fun _ => Nat.le_refl _) (.int .u64 X)).setCell (p := ⟨w.heap.size, 1, none⟩) (fun _ => Nat.le_refl _) (.int .u64 Y)
    refine bodyPost_ret (v := .tuple #[.agg #[.int .u64 X, .int .u64 Y], .int .i64 0]) (by simp [results, Try.results25, go_sem, d0, d1]; try rfl) rfl ⟨by rw [HV.out], u2.below (Nat.le_refl _) (fun k hk h => by omega)⟩
end Go.Proofs.Ytmegmjhkjaejgaa.sk
