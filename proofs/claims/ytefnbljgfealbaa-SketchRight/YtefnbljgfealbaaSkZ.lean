/-
  Layer 13: SketchRight's walk.
-/
import Derived.Test.YtefnbljgfealbaaSkY
import Derived.Deep.Cut
namespace Go.Proofs.Ytefnbljgfealbaa.sk
open Go.RowKit
set_option maxRecDepth 100000

def ones (V : List Nat) : List (Nat × Nat) := V.map fun v => (v, 1)
theorem ones_take (V : List Nat) (k : Nat) (h : k < V.length) : foldP (ones (V.take (k + 1))) = putF (foldP (ones (V.take k))) (idxN V[k]) 1 := by
  unfold ones
  rw [List.map_take, List.map_take]
  have := foldP_take (V.map fun v => (v, 1)) k (by simpa using h)
  rw [this]
  simp
theorem SkAt.sum {w : World} {ao : Option Addr} {L : Nat} {f : Nat → Nat} (_h : SkAt w ao L f) : sumB (barsF f) = sumF f 1920 := sumB_bars f 1920
/-- What Quantile tells of a sketch. -/
def QuanK (f : Nat → Nat) (r : Nat) (w : World) (e : Ending) (w' : World) : Prop := ∃ k, Hid (AtK f r k) ∧ e = .returned (.tuple #[.int .u64 (loN k : Int), .int .u64 (hiN k : Int), .int .i64 0]) ∧ Below w.heap.size w w'
theorem sumF_congr {f g : Nat → Nat} : ∀ {k : Nat}, (∀ i, i < k → f i = g i) → sumF f k = sumF g k
  | 0, _ => rfl
  | k + 1, h => by rw [sumF_succ, sumF_succ, sumF_congr (fun i hi => h i (by omega)), h k (by omega)]
theorem atK_congr {f g : Nat → Nat} (h : ∀ i, f i = g i) {r k : Nat} (ha : AtK f r k) : AtK g r k := by
  have : f = g := funext h
  rw [← this]; exact ha
theorem quan_sk (ao : Option Addr) (L c n : Nat) (f : Nat → Nat) (num den : Nat) (w : World) (h : SkAt w ao L f) (hn : sumF f 1920 = n) (h0 : 0 < n) (hn2 : n ≤ 2147483647) (h1 : 0 < den) (h2 : den ≤ 1000000) (h3 : num ≤ den) :
    Calls Try.prog 26 #[.slice ao L c, .int .u64 (num : Int), .int .u64 (den : Int)] w (QuanK f (rkN (n * num) den) w) := by
  have hs := h.sum
  rw [hn] at hs
  have hL : 0 < L := by
    rcases Nat.eq_zero_or_pos L with e | e
    · have hl := h.len
      rw [e] at hl
      have : barsF f = [] := List.eq_nil_of_length_eq_zero hl.symm
      rw [this] at hs
      have : sumB [] = 0 := rfl
      omega
    · exact e
  have hm : n * num ≤ 2147483647 * 1000000 := Nat.mul_le_mul hn2 (by omega)
  refine (quan_ok ao L c (barsF f) num den w h.at_ (barsF_chk f) hL h1 h2 h3 (divOk_low (by rw [hs]; omega) h1)).mono fun e w' hq => ?_
  obtain ⟨i, k, ha, hk, hk2, he, hb⟩ := hq
  rw [hs] at ha
  exact ⟨k, atK_of ha hk, he, hb⟩
theorem count_sk (ao : Option Addr) (L c n : Nat) (f : Nat → Nat) (w : World) (h : SkAt w ao L f) (hn : sumF f 1920 = n) (hn2 : n ≤ 2147483647) :
    Calls Try.prog 25 #[.slice ao L c] w fun e w' => e = .returned (.tuple #[.agg #[.int .u64 0, .int .u64 (n : Int)], .int .i64 0]) ∧ Below w.heap.size w w' := by
  refine (count_ok ao L c (barsF f) w h.at_ (barsF_chk f)).mono fun e w' hm => ?_
  obtain ⟨h1, h2⟩ := hm
  rw [h.sum, hn] at h1
  have e1 : hi64 n = 0 := by unfold hi64; omega
  have e2 : lo64 n = n := by unfold lo64; omega
  unfold natV at h1
  rw [e1, e2] at h1
  exact ⟨h1, h2⟩
theorem wrap_small {x : Int} (h1 : -9223372036854775808 ≤ x) (h2 : x ≤ 9223372036854775807) : IntKind.i64.wrap x = x := by
  simp [IntKind.wrap, IntKind.bits, IntKind.signed]
  omega
theorem right_r {N n D : Nat} {MI : Int} (hM : MI = ((N * n : Nat) : Int)) (hN : N ≤ 1000000) (hn : n ≤ 2147483647) (hD : 1 ≤ D) (hD2 : D ≤ 1000000) : max 1 (wrap64 ((wrap64 (wrap64 (MI + (D : Int)) - 1)).tdiv (D : Int))) = ((rkN (n * N) D : Nat) : Int) := by
  have h1 : N * n ≤ 1000000 * 2147483647 := Nat.mul_le_mul hN hn
  rw [rk_eq n N D hD]
  generalize N * n = m at *
  subst hM
  have w1 : wrap64 ((m : Int) + (D : Int)) = (m : Int) + (D : Int) := by unfold wrap64; omega
  have w2 : wrap64 ((m : Int) + (D : Int) - 1) = ((m + D - 1 : Nat) : Int) := by unfold wrap64; omega
  rw [w1, w2]
  have hq : (m + D - 1) / D ≤ m + D - 1 := Nat.div_le_self _ _
  rw [Int.tdiv_eq_ediv_of_nonneg (by omega), ← Int.natCast_ediv]
  generalize (m + D - 1) / D = z at *
  have w3 : wrap64 (z : Int) = (z : Int) := by unfold wrap64; omega
  rw [w3]
  omega
set_option maxHeartbeats 4000000 in
theorem sketchRight_any (ad : Option Addr) (n c : Nat) (V : List Nat) (num less den : Int) (w : World) (hV : U64At w ad n V) (hsz : n * 8 ≤ 140737488351232)
    (a : -9223372036854775808 ≤ num ∧ num ≤ 9223372036854775807) (b : -9223372036854775808 ≤ less ∧ less ≤ 9223372036854775807) (d : -9223372036854775808 ≤ den ∧ den ≤ 9223372036854775807) :
    Calls Try.prog 8 #[.slice ad n c, .int .i64 num, .int .i64 less, .int .i64 den] w fun e w' => e = .returned (.bool true) ∧ Below w.heap.size w w' := by
  have AW := awake_any w
  by_cases hbig : 2147483647 < n
  · have hb' : (2147483647 : Int) < (n : Int) := by omega
    clear hV hsz hbig
    go_enter Try.func8, Try.ntmps8
    go_wp2_with (go_at_call 9; (with_reducible refine AW.mono ?_); clear AW; rintro e w1 ⟨rfl, b1⟩)
    go_ret
    exact ⟨rfl, b1⟩
  · have hb' : ¬ (2147483647 : Int) < (n : Int) := by omega
    have HL : Hid (V.length = n) := hV.len
    have HV : Hid _ := hV
    have PK1 : ∀ W, Calls Try.prog 17 #[.int .i64 den, .int .i64 1000000] W (PickP 1000000 W) := fun W => pick_any den 1000000 d.1 d.2 (by omega) W
    have PK2 : ∀ (D : Nat) W, Calls Try.prog 17 #[.int .i64 num, .int .i64 ((D : Int) + 1)] W (PickP (D + 1) W) := fun D W => pick_any num (D + 1) a.1 a.2 (by omega) W
    have PK3 : ∀ (D : Nat) W, Calls Try.prog 17 #[.int .i64 less, .int .i64 ((D : Int) + 1)] W (PickP (D + 1) W) := fun D W => pick_any less (D + 1) b.1 b.2 (by omega) W
    clear hV hsz a b d
    go_enter Try.func8, Try.ntmps8
    go_wp2_with (first
      | (go_at_call 9; (with_reducible refine AW.mono ?_); clear AW; rintro e w1 ⟨rfl, b1⟩; have HB1 : Hid _ := b1; clear b1)
      | (go_at_call 17; (with_reducible refine (PK1 _).mono ?_); clear PK1; rintro e w' ⟨d0, hd0, rfl, hw⟩; obtain rfl := hw.symm; obtain ⟨D, hD⟩ : ∃ D : Nat, 1 + (d0 : Int) = (D : Int) := ⟨1 + d0, by omega⟩; have hD1 : 1 ≤ D := (by omega); have hD2 : D ≤ 1000000 := (by omega); have hD3 : (D : Int) ≤ 1000000 := (by omega); have hD4 : (1 : Int) ≤ (D : Int) := (by omega); have P2 := PK2 D; clear PK2)
      | (go_at_call 17; (with_reducible refine (P2 _).mono ?_); clear P2; rintro e w' ⟨N, hN, rfl, hw⟩; obtain rfl := hw.symm; have hN1 : N ≤ D := (by omega); have hN2 : (N : Int) ≤ (D : Int) := (by omega); have P3 := PK3 N; clear PK3)
      | (go_at_call 17; (with_reducible refine (P3 _).mono ?_); clear P3; rintro e w' ⟨E, hE, rfl, hw⟩; obtain rfl := hw.symm; have hE1 : E ≤ N := (by omega); have hE2 : (E : Int) ≤ (N : Int) := (by omega)))
    clear hD hd0 hN hE
    go_loopw [10, 11] (fun s t wr => ∃ (i : Nat) (ao : Option Addr) (L co : Nat), t = .int .i64 i ∧ i ≤ n ∧ s = .slice ao L co ∧ Hid (SkAt wr ao L (foldP (ones (V.take i)))) ∧ Hid (Below w.heap.size w wr)) (fun _ t _ => n - (intOf t).toNat)
    case atStart => exact ⟨0, none, 0, 0, rfl, by omega, rfl, SkAt.nil w1, HB1⟩
    case round =>
      obtain ⟨i, ao, L, co, rfl, hin, rfl, HS, HB⟩ := hrel
      by_cases hlt : i < n
      · obtain ⟨b, off, rfl, hc⟩ := (HV.out.below HB.out).lies (by omega)
        have hkl : i < V.length := by rw [HL.out]; exact hlt
        have c0 := hc i hkl
        have hbin := HV.out.bin V[i] (List.getElem_mem hkl)
        have HT : Hid _ := ones_take V i hkl
        have AD := add_sk ao L co (foldP (ones (V.take i))) V[i] 1 hbin (by omega) wr HS.out
        rw [← HT.out] at AD
        generalize V[i] = x at c0 AD
        have AD' : Calls Try.prog 24 #[.slice ao L co, .int .u64 (x : Int), .int .u64 1] wr (SkP (foldP (ones (V.take (i + 1)))) wr) := AD
        clear hc hkl hbin HT AD hbig
        go_wp2_with (go_at_call 24; (with_reducible refine AD'.mono ?_); clear AD'; rintro e w2 ⟨ao2, L2, co2, rfl, HS2, b2⟩)
        go_roundw
        case rel => exact ⟨i + 1, ao2, L2, co2, by go_num, by omega, rfl, HS2, HB.out.trans (b2.mono HB.out.size)⟩
        case measure => simp [intOf]; omega
      · have hF : SkAt wr ao L (foldP (ones V)) := by
          have := HS.out
          rwa [List.take_of_length_le (by rw [HL.out]; omega)] at this
        have hCnt : ∀ i, foldP (ones V) i = cntV V i := foldP_ones V (by rw [HL.out]; omega)
        have hAll : sumF (foldP (ones V)) 1920 = n := by
          rw [sumF_congr (g := cntV V) (fun i _ => hCnt i), sumF_all HV.out.bin, HL.out]
        have CO := count_sk ao L co n _ wr hF hAll (by omega)
        have hlt' : ¬ (i : Int) < (n : Int) := by omega
        have HF : Hid _ := hF
        have HC : Hid _ := hCnt
        have HA : Hid _ := hAll
        generalize foldP (ones V) = F at *
        clear hF hCnt hAll HS
        by_cases hn0 : n = 0
        · have hL0 : barsF F = [] := by
            have := HF.out.sum
            rw [HA.out, hn0] at this
            have := bars_no (f := F)
            cases hb : barsF F with
            | nil => rfl
            | cons x r =>
              have hp := sum_pos (barsF_chk F) HF.out.at_.bin (by rw [hb]; simp)
              omega
          have hL : L = 0 := by rw [HF.out.len, hL0]; rfl
          have QN : ∀ W (N D : Nat), Below wr.heap.size wr W → Calls Try.prog 26 #[.slice ao 0 co, .int .u64 (N : Int), .int .u64 (D : Int)] W fun e w' => e = .returned (.tuple #[.int .u64 0, .int .u64 0, .int .i64 132]) ∧ Below W.heap.size W w' := fun W N D hW => by
            have hI := (HF.out.below hW).at_
            rw [hL0, hL] at hI
            exact quan_none co ao N D W hI
          subst hL
          subst hn0
          have CO' : Calls Try.prog 25 #[.slice ao 0 co] wr fun e w' => e = .returned (.tuple #[.agg #[.int .u64 0, .int .u64 0], .int .i64 0]) ∧ Below wr.heap.size wr w' := CO
          clear CO hL0 hlt hin hbig
          go_wp2_with (first
            | (go_at_call 25; (with_reducible refine CO'.mono ?_); clear CO'; rintro e w2 ⟨rfl, b2⟩; have HB2 : Hid _ := HB.out.trans (b2.mono HB.out.size); have Q1 := QN (w2.alloc (.cells #[.int .u64 0, .int .u64 0] 57)) N D (b2.alloc b2.size _); clear QN b2)
            | (go_at_call 26; (with_reducible refine Q1.mono ?_); clear Q1; rintro e w3 ⟨rfl, b3⟩; have N3 := (NatAt.new w2 0 0).below b3; have k0 := N3.c0; have k1 := N3.c1; clear N3))
          go_ret
          exact ⟨rfl, (HB2.out.alloc HB2.out.size _).trans (b3.mono (by have := HB2.out.size; simp; omega))⟩
        · have hn1' : ¬ (n : Int) = 0 := by omega
          have hn1 : ((n : Int) == 0) = false := by simpa using hn1'
          have QU : ∀ (M : Nat), M ≤ D → ∀ W, Below wr.heap.size wr W → Calls Try.prog 26 #[.slice ao L co, .int .u64 (M : Int), .int .u64 (D : Int)] W (QuanK F (rkN (n * M) D) W) := fun M hM W hW => quan_sk ao L co n F M D W (HF.out.below hW) HA.out (by omega) (by omega) hD1 hD2 hM
          have HQU : Hid _ := QU
          have HND : Hid _ := hN1
          have HED : Hid (E ≤ D) := Nat.le_trans hE1 hN1
          obtain ⟨MI, hMI⟩ : ∃ MI : Int, IntKind.i64.wrap ((N : Int) * (n : Int)) = MI := ⟨_, rfl⟩
          have hn1n : 1 ≤ n := by omega
          clear hn1' hn0 hlt hin hbig QU
          have hMv : MI = ((N * n : Nat) : Int) := by
            have h1 : N * n ≤ 1000000 * 2147483647 := Nat.mul_le_mul (by omega) (by omega)
            rw [← hMI, ← Int.natCast_mul]
            exact wrap_small (by omega) (by omega)
          have hrk := rk_le (n := n) (num := N) (den := D) hN1 hn1n
          have HRR : Hid (max 1 (wrap64 ((wrap64 (wrap64 (MI + (D : Int)) - 1)).tdiv (D : Int))) = ((rkN (n * N) D : Nat) : Int)) := right_r hMv (by omega) (by omega) hD1 hD2
          obtain ⟨q, hq⟩ : ∃ q, rkN (n * N) D = q + 1 := ⟨rkN (n * N) D - 1, by omega⟩
          have hqn : q < n := by omega
          have HRM : Hid (rkN (n * E) D ≤ rkN (n * N) D) := rk_mono hE1 hD1
          rw [hq] at HRR HRM
          have HQ : Hid _ := hq
          have hqi : (q : Int) < (n : Int) := by omega
          clear hMv hrk hq hn1n
          go_upto_region 22 with (first
            | (go_at_call 25; (with_reducible refine CO.mono ?_); clear CO; rintro e w2 ⟨rfl, b2⟩; have HB2 : Hid _ := HB.out.trans (b2.mono HB.out.size); have HB2r : Hid _ := b2.alloc b2.size (.cells #[.int .u64 0, .int .u64 (n : Int)] 57); have Q1 := HQU.out N HND.out _ HB2r.out; clear b2)
            | (go_at_call 26; (with_reducible refine Q1.mono ?_); clear Q1; rintro e w3 ⟨k, HK, rfl, b3⟩; have N3 := (NatAt.new w2 0 (n : Int)).below b3; have k0 := N3.c0; have k1 := N3.c1; have HB3r : Hid _ := HB2r.out.trans (b3.mono HB2r.out.size); have hwr3 : wr.heap.size ≤ w3.heap.size := HB3r.out.size; have HB3 : Hid (Below w.heap.size w w3) := HB.out.trans (HB3r.out.mono HB.out.size); clear N3 b3))
          rw [HRR.out]
          have SO := sorted_any ad n c V w3 (HV.out.below HB3.out) (by omega)
          have hI2 := idx_of (i := k) (Nat.le_refl _) (lo_le_hi k)
          have hlo : loN k < 18446744073709551616 := Nat.lt_of_le_of_lt (lo_le_hi k) (hi_lt HK.out.1)
          have IL := skIndex (loN k) hlo
          rw [hI2] at IL
          have HSP : Hid (∀ v, idxN v = k → (loN k : Int) ≤ (v : Int) ∧ (v : Int) ≤ (hiN k : Int)) := fun v hv => by
            have := idx_span v
            rw [hv] at this
            omega
          clear hI2 hlo HRR
          have hq1 : ((q + 1 : Nat) : Int) = (q : Int) + 1 := by omega
          rw [hq1]
          clear hq1
          go_wp2_with (first
            | (go_at_call 27; (with_reducible refine SO.mono ?_); clear SO; rintro e w4 ⟨v4, S, rfl, HS4, b4⟩
               have hSl : S.length = n := by rw [← HS4.out.2.1.length_eq]; exact HL.out
               obtain ⟨so, ls, cs, rfl⟩ := row_shape HS4.out.1
               obtain ⟨hls, -, -⟩ := own_cap HS4.out.1
               rw [hSl] at hls
               subst hls
               obtain ⟨sg, scap, esg, -, -, -, -⟩ := own_some HS4.out.1 (by omega)
               injection esg with esg1 esg2 esg3
               subst esg1
               subst esg3
               have hqS : q < S.length := by omega
               have s0 := own_cellU HS4.out.1 q hqS
               have hvk : idxN S[q] = k := right_one HS4.out.2.1 HS4.out.2.2 (r := q + 1) (by omega) (by simpa using hqS) (atK_congr HC.out (by rw [← HQ.out]; exact HK.out))
               have hsp := HSP.out S[q] hvk
               have hvb : S[q] < 18446744073709551616 := HV.out.bin _ (HS4.out.2.1.mem_iff.mpr (List.getElem_mem hqS))
               have IV := skIndex S[q] hvb
               rw [hvk] at IV
               generalize S[q] = v at s0 hsp IV
               have HB4r : Hid _ := HB3r.out.trans (b4.mono HB3r.out.size)
               have HB4 : Hid _ := HB3.out.trans (b4.mono HB3.out.size)
               have Q2 := HQU.out E HED.out w4 HB4r.out
               clear b4 hqS hvk hvb esg2)
            | (go_at_call 26; (with_reducible refine Q2.mono ?_); clear Q2; rintro e w5 ⟨k', HK', rfl, b5⟩
               have hkk := lo_mono (atK_mono HK.out HK'.out (by rw [HQ.out]; exact HRM.out))
               have hk1 : (loN k' : Int) ≤ (loN k : Int) := by omega
               have hk2 : (hiN k' : Int) ≤ (hiN k : Int) := by omega
               have HB5 : Hid _ := HB4.out.trans (b5.mono HB4.out.size)
               obtain ⟨hs1, hs2⟩ := hsp
               clear hkk b5)
            | (go_at_call 15; (with_reducible refine (IL _).mono ?_); rintro e w' ⟨rfl, hw⟩; obtain rfl := hw.symm)
            | (go_at_call 15; (with_reducible refine (IV _).mono ?_); rintro e w' ⟨rfl, hw⟩; obtain rfl := hw.symm))
          go_ret
          exact ⟨rfl, HB5.out⟩
end Go.Proofs.Ytefnbljgfealbaa.sk
