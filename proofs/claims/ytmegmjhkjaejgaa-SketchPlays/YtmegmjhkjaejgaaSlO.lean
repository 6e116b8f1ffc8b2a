/-
  The reference of layer 13: Quantile tells a bar.
-/
import Derived.Test.YtmegmjhkjaejgaaSlN
import Derived.Deep.RegionHeld3
namespace Go.Proofs.Ytmegmjhkjaejgaa.sk
open Go.RowKit
set_option maxRecDepth 100000

theorem wrapS {k : Nat} (h : k + 1 ≤ 2 ^ 63 - 1) : IntKind.i64.wrap ((k : Int) + 1) = ((k + 1 : Nat) : Int) := by
  rw [IntKind.wrap_i64]
  omega
theorem drewB {w0 w : World} (h : Below w0.heap.size w0 w) (q : Nat) : Below w0.heap.size w0 (w.drewN q) := h.trans (((Upd.refl (fun _ => False) w).drewN q).below (B := w0.heap.size) h.size (fun _ _ h => h))
set_option maxHeartbeats 1000000 in
theorem refQuan_ok (ad : Option Addr) (n c : Nat) (l : List (Int × Int)) (num den : Nat) (w : World) (hI : InAt w ad n l) (hc : chkF (-1) l = true) (hn : 0 < n) (h1 : 0 < den) (h2 : den ≤ 1000000) (h3 : num ≤ den) :
    Calls Try.prog 26 #[.slice ad n c, .int .u64 (num : Int), .int .u64 (den : Int)] w (QuanP l num den w) := by
  have K := refCheck_any ad n c l w hI.at_ hI.len hI.bin
  rw [chkE_ok hc] at K
  have hs := sum_small2 hc hI.bin
  have hss := sum_small hc hI.bin
  have hp := sum_pos hc hI.bin (by rw [hI.at_.len]; exact hn)
  have hrk := rk_le h3 hp
  have HL : Hid (l.length = n) := hI.at_.len
  have CN : ∀ W N, Below w.heap.size w W → N ≤ n → Calls Try.prog 38 #[.slice ad n c, .int .i64 (N : Int)] W (CntP (sumB (l.take N)) W) := fun W N hb hN => refCnt_any ad n c N l W (hI.below hb) hN hs
  have CA : ∀ W, Below w.heap.size w W → Calls Try.prog 38 #[.slice ad n c, .int .i64 (n : Int)] W (CntP (sumB l) W) := fun W hb => by
    have := CN W n hb (Nat.le_refl _)
    rw [List.take_of_length_le (by rw [HL.out]; exact Nat.le_refl _)] at this
    exact this
  have TA := fun W => times_any (sumB l) num (by omega) (by omega) W
  have TK : ∀ k W, _ := fun k W => times_any (sumB (l.take (k + 1))) den (by have := sumB_mono l (k + 1); omega) h2 W
  have BK : ∀ k, k < n → ∀ W, Calls Try.prog 40 #[arrV (sumB (l.take (k + 1)) * den), arrV (sumB l * num)] W fun e w' => e = .returned (.bool (decide (sumB (l.take (k + 1)) < rkN (sumB l * num) den))) ∧ Below W.heap.size W w' := fun k hk W => by
    have q1 : sumB (l.take (k + 1)) * den ≤ 35417748621522339101695 * 1000000 := Nat.mul_le_mul (by have := sumB_mono l (k + 1); omega) h2
    have q2 : sumB l * num ≤ 35417748621522339101695 * 1000000 := Nat.mul_le_mul hss (by omega)
    have := refBelow_any (sumB (l.take (k + 1)) * den) (sumB l * num) (by omega) (by omega) W
    rw [rk_dec h1 (take_pos hc hI.bin (by rw [HL.out]; exact hk))] at this
    exact this
  have hn1' : ¬ (n : Int) = 0 := by omega
  have hn1 : ((n : Int) == 0) = false := by simpa using hn1'
  have d1' : ¬ (den : Int) = 0 := by omega
  have d1 : ((den : Int) == 0) = false := by simpa using d1'
  have d2 : ¬ (1000000 : Int) < (den : Int) := by omega
  have d3 : ¬ (den : Int) < (num : Int) := by omega
  have hlen := hI.len
  unfold maxLen at hlen
  unfold QuanP
  generalize rkN (sumB l * num) den = r at *
  have HC : Hid _ := hc
  have HI : Hid _ := hI
  have HCN : Hid _ := CN
  have HTK : Hid _ := TK
  have HBK : Hid _ := BK
  have HR1 : Hid (1 ≤ r) := hrk.1
  have HR2 : Hid (r ≤ sumB l) := hrk.2
  clear hn1' d1' hs hss hp hrk hc hI h1 h2 h3 CN TK BK hn
  obtain ⟨VA, hVA⟩ : ∃ V, natV (sumB l) = V := ⟨_, rfl⟩
  obtain ⟨p0, p1, p2, p3, p4, hAA⟩ : ∃ p0 p1 p2 p3 p4 : Int, arrV (sumB l * num) = .agg #[.int .u64 p0, .int .u64 p1, .int .u64 p2, .int .u64 p3, .int .u64 p4] := ⟨_, _, _, _, _, rfl⟩
  unfold CntP at CA
  rw [hVA] at CA
  rw [hVA, hAA] at TA
  rw [hAA] at HBK
  have hu : ∀ q, Below w.heap.size w (w.drewN q) := fun q => ((Upd.refl (fun _ => False) w).drewN q).below (Nat.le_refl _) (fun _ _ h => h)
  have HU : Hid _ := hu
  clear hVA hAA hu
  go_enter Try.func26, Try.ntmps26
  go_wp2_with (first
    | (go_at_call 18; (with_reducible refine K.mono ?_); clear K; rintro e w1 ⟨rfl, q1, rfl⟩)
    | (go_at_call 38; (with_reducible refine (CA _ (HU.out _)).mono ?_); clear CA; rintro e w2 ⟨rfl, b2⟩; have HB2 : Hid _ := (HU.out _).trans (b2.mono (HU.out _).size); clear b2)
    | (go_at_call 39; (with_reducible refine (TA _).mono ?_); clear TA; rintro e w3 ⟨rfl, b3⟩; have HB3 : Hid (Below w.heap.size w w3) := HB2.out.trans (b3.mono HB2.out.size); clear b3))
  obtain ⟨w4, hw4⟩ : ∃ W, w3.alloc (.cells #[.int .u64 p0, .int .u64 p1, .int .u64 p2, .int .u64 p3, .int .u64 p4] 64) = W := ⟨_, rfl⟩
  have HB4 : Hid (Below w.heap.size w w4) := by
    have : Below w.heap.size w w4 := by rw [← hw4]; exact HB3.out.alloc HB3.out.size _
    exact this
  have HX : Hid (∀ W, Below w4.heap.size w4 W → W.cell? ⟨w3.heap.size, 0, none⟩ = some (.int .u64 p0) ∧ W.cell? ⟨w3.heap.size, 1, none⟩ = some (.int .u64 p1) ∧ W.cell? ⟨w3.heap.size, 2, none⟩ = some (.int .u64 p2) ∧ W.cell? ⟨w3.heap.size, 3, none⟩ = some (.int .u64 p3) ∧ W.cell? ⟨w3.heap.size, 4, none⟩ = some (.int .u64 p4)) := fun W hW => by
    have hB := heap_alloc_new w3 (.cells #[.int .u64 p0, .int .u64 p1, .int .u64 p2, .int .u64 p3, .int .u64 p4] 64)
    rw [hw4] at hB
    have hB2 := (hW.block _ (lt_of_block hB)).trans hB
    exact ⟨blk_cell hB2 0 rfl, blk_cell hB2 1 rfl, blk_cell hB2 2 rfl, blk_cell hB2 3 rfl, blk_cell hB2 4 rfl⟩
  rw [hw4]
  clear hw4
  go_loopw [10, 11] (fun t _ wr => ∃ (k : Nat), t = .int .i64 k ∧ k ≤ n ∧ Hid (sumB (l.take k) < r) ∧ Hid (Below w4.heap.size w4 wr)) (fun t _ _ => n - (intOf t).toNat)
  case atStart => exact ⟨0, rfl, by omega, by rw [List.take_zero]; exact HR1.out, Below.refl _ _⟩
  case round =>
    obtain ⟨k, rfl, hk, HS, HB⟩ := hrel
    have hkn : k < n := by
      rcases Nat.lt_or_ge k n with h | h
      · exact h
      · have h1 := HS.out
        rw [List.take_of_length_le (by rw [HL.out]; exact h)] at h1
        have := HR2.out
        omega
    obtain ⟨b, off, hab, hcc⟩ := HI.out.at_.lies (by omega)
    subst hab
    have hkl : k < l.length := by rw [HL.out]; exact hkn
    have HBW : Hid (Below w.heap.size w wr) := HB4.out.trans (HB.out.mono HB4.out.size)
    have HKC : Hid (∀ W, Below wr.heap.size wr W → W.cell? ⟨w3.heap.size, 0, none⟩ = some (.int .u64 p0) ∧ W.cell? ⟨w3.heap.size, 1, none⟩ = some (.int .u64 p1) ∧ W.cell? ⟨w3.heap.size, 2, none⟩ = some (.int .u64 p2) ∧ W.cell? ⟨w3.heap.size, 3, none⟩ = some (.int .u64 p3) ∧ W.cell? ⟨w3.heap.size, 4, none⟩ = some (.int .u64 p4)) := fun W hW => HX.out W (HB.out.trans (hW.mono HB.out.size))
    obtain ⟨s, hs⟩ : ∃ s, sumB (l.take (k + 1)) = s := ⟨_, rfl⟩
    have CK : ∀ W, Below wr.heap.size wr W → Calls Try.prog 38 #[.slice (some ⟨b, off, none⟩) n c, .int .i64 (IntKind.i64.wrap ((k : Int) + 1))] W fun e w' => e = .returned (natV s) ∧ Below wr.heap.size wr w' := fun W hW => by
      have h := HCN.out W (k + 1) (HBW.out.trans (hW.mono HBW.out.size)) (by omega)
      unfold CntP at h
      rw [hs] at h
      have ew : IntKind.i64.wrap ((k : Int) + 1) = ((k + 1 : Nat) : Int) := wrapS (by omega)
      rw [ew]
      exact h.mono fun e w' h => ⟨h.1, hW.trans (h.2.mono hW.size)⟩
    have TK : ∀ W, Below wr.heap.size wr W → Calls Try.prog 39 #[natV s, .int .u64 (den : Int)] W fun e w' => e = .returned (arrV (s * den)) ∧ Below wr.heap.size wr w' := fun W hW => by
      have h := HTK.out k W
      rw [hs] at h
      exact h.mono fun e w' h => ⟨h.1, hW.trans (h.2.mono hW.size)⟩
    have BK : ∀ W, Below wr.heap.size wr W → Calls Try.prog 40 #[arrV (s * den), .agg #[.int .u64 p0, .int .u64 p1, .int .u64 p2, .int .u64 p3, .int .u64 p4]] W fun e w' => e = .returned (.bool (decide (s < r))) ∧ Below wr.heap.size wr w' := fun W hW => by
      have h := HBK.out k hkn W
      rw [hs] at h
      exact h.mono fun e w' h => ⟨h.1, hW.trans (h.2.mono hW.size)⟩
    obtain ⟨x0, x1, x2, x3, x4⟩ := HKC.out wr (Below.refl _ _)
    generalize natV s = V at CK TK
    generalize arrV (s * den) = A at TK BK
    by_cases hsr : s < r
    · have HSR : Hid (sumB (l.take (k + 1)) < r) := by
        have : sumB (l.take (k + 1)) < r := by rw [hs]; exact hsr
        exact this
      rw [decide_eq_true hsr] at BK
      clear hsr hs
      go_wp2
      go_region_held3 (fun W => W.cell? ⟨w3.heap.size, 0, none⟩ = some (.int .u64 p0) ∧ W.cell? ⟨w3.heap.size, 1, none⟩ = some (.int .u64 p1) ∧ W.cell? ⟨w3.heap.size, 2, none⟩ = some (.int .u64 p2) ∧ W.cell? ⟨w3.heap.size, 3, none⟩ = some (.int .u64 p3) ∧ W.cell? ⟨w3.heap.size, 4, none⟩ = some (.int .u64 p4)) (exact HKC.out _ (by repeat' first | exact Below.refl _ _ | assumption | refine Below.alloc ?_ (by first | omega | (simp; omega) | (simp; done)) _ | refine Below.drew ?_)) (first
        | (go_at_call 38; refine (CK _ (by repeat' first | exact Below.refl _ _ | assumption | refine Below.alloc ?_ (by first | omega | (simp; omega) | (simp; done)) _ | refine Below.drew ?_)).mono ?_; clear CK; rintro e w5 ⟨rfl, b5⟩)
        | (go_at_call 39; refine (TK _ (by repeat' first | exact Below.refl _ _ | assumption | refine Below.alloc ?_ (by first | omega | (simp; omega) | (simp; done)) _ | refine Below.drew ?_)).mono ?_; clear TK; rintro e w6 ⟨rfl, b6⟩)
        | (go_at_call 40; refine (BK _ (by repeat' first | exact Below.refl _ _ | assumption | refine Below.alloc ?_ (by first | omega | (simp; omega) | (simp; done)) _ | refine Below.drew ?_)).mono ?_; clear BK; rintro e w7 ⟨rfl, b7⟩))
      have HB7 : Hid (Below w4.heap.size w4 w7) := HB.out.trans (b7.mono HB.out.size)
      clear b5 b6 b7
      go_wp2
      go_roundw
      case rel => exact ⟨k + 1, by go_num, by omega, HSR, HB7.out⟩
      case measure => simp [intOf]; omega
    · have HAT : Hid (AtBar l r k) := ⟨hkl, HS.out, by rw [hs]; omega⟩
      rw [decide_eq_false hsr] at BK
      have hin := chk_in HC.out l[k] (List.getElem_mem hkl)
      obtain ⟨kk, hkk⟩ := Int.eq_ofNat_of_zero_le hin.1
      have hk19 : kk < 1920 := by omega
      have HKK : Hid ((l[k]?).map (·.1) = some ((kk : Nat) : Int)) := by
        have : (l[k]?).map (·.1) = some ((kk : Nat) : Int) := by rw [List.getElem?_eq_getElem hkl]; simp [hkk]
        exact this
      have HCC : Hid (w.cell? ⟨b, off + k * 2, none⟩ = some (.int .i64 (kk : Int))) := by
        have h := (hcc k hkl).1
        rw [hkk] at h
        exact h
      have hbw : b < w.heap.size := HI.out.lt _ rfl (by omega)
      have SP := fun W => refSpan_any kk W hk19
      have HBW2 : Hid (∀ W, Below wr.heap.size wr W → Below w.heap.size w W) := fun W hW => HBW.out.trans (hW.mono HBW.out.size)
      clear hsr hs hin hkk hcc
      go_wp2
      go_region_held3 (fun W => W.cell? ⟨w3.heap.size, 0, none⟩ = some (.int .u64 p0) ∧ W.cell? ⟨w3.heap.size, 1, none⟩ = some (.int .u64 p1) ∧ W.cell? ⟨w3.heap.size, 2, none⟩ = some (.int .u64 p2) ∧ W.cell? ⟨w3.heap.size, 3, none⟩ = some (.int .u64 p3) ∧ W.cell? ⟨w3.heap.size, 4, none⟩ = some (.int .u64 p4)) (exact HKC.out _ (by repeat' first | exact Below.refl _ _ | assumption | refine Below.alloc ?_ (by first | omega | (simp; omega) | (simp; done)) _ | refine Below.drew ?_)) (first
        | (go_at_call 38; refine (CK _ (by repeat' first | exact Below.refl _ _ | assumption | refine Below.alloc ?_ (by first | omega | (simp; omega) | (simp; done)) _ | refine Below.drew ?_)).mono ?_; clear CK; rintro e w5 ⟨rfl, b5⟩)
        | (go_at_call 39; refine (TK _ (by repeat' first | exact Below.refl _ _ | assumption | refine Below.alloc ?_ (by first | omega | (simp; omega) | (simp; done)) _ | refine Below.drew ?_)).mono ?_; clear TK; rintro e w6 ⟨rfl, b6⟩)
        | (go_at_call 40; refine (BK _ (by repeat' first | exact Below.refl _ _ | assumption | refine Below.alloc ?_ (by first | omega | (simp; omega) | (simp; done)) _ | refine Below.drew ?_)).mono ?_; clear BK; rintro e w7 ⟨rfl, b7⟩))
      have HB7 : Hid (Below w.heap.size w w7) := HBW2.out w7 b7
      have c7 : w7.cell? ⟨b, off + k * 2, none⟩ = some (.int .i64 (kk : Int)) := (HB7.out.cell (p := ⟨b, off + k * 2, none⟩) hbw).trans HCC.out
      clear b5 b6 b7
      go_wp2_with (first
        | (go_at_call 15; (with_reducible refine (SP _).mono ?_); clear SP; rintro e w8 ⟨rfl, n8, rfl⟩))
      go_returns
      refine ⟨k, kk, HAT.out, HKK.out, hk19, rfl, ?_⟩
      exact drewB HB7.out n8
end Go.Proofs.Ytmegmjhkjaejgaa.sk
