/-
  FrameMakes: the walk itself.
-/
import Derived.Test.YtkfefebjciolcaaKe
import Derived.Deep.Cut
namespace Go.Proofs.Ytkfefebjciolcaa
open Go Go.RowKit
set_option maxRecDepth 100000

set_option maxHeartbeats 4000000 in
theorem makes_any (k1 : Int) (q1 : Nat) (ad : Option Addr) (n cap : Nat) (K : List Int) (k2 : Int) (q2 : Nat) (ae : Option Addr) (m cap' : Nat) (M : List Int) (w : World) (h : Holds w ad n K) (hK : ByteL K) (hn : n ≤ 140737488351232) (h' : Holds w ae m M) (hM : ByteL M) :
    Calls Try.prog 3 #[.agg #[.int .i64 k1, .int .u64 (q1 : Int), .slice ad n cap], .agg #[.int .i64 k2, .int .u64 (q2 : Int), .slice ae m cap']] w fun e w' => e = .returned (.bool true) ∧ Below w.heap.size w w' := by
  obtain ⟨i0, hi, hz0, hz1, hz2⟩ := info_parts Try.info5
  have HL : Hid (K.length = n) := h.len
  obtain ⟨ML, hML⟩ : ∃ M, (overL (lentL K) (n + 40)).take n = M := ⟨_, rfl⟩
  have hMb : ByteL ML := by rw [← hML]; exact (overL_bytes _ (lentL_bytes K hK) _).take n
  have hMl : Hid (ML.length = n) := by show ML.length = n; rw [← hML, List.length_take, overL_len, lentL_len]; have := HL.out; omega
  have HML : Hid ((overL (lentL K) (n + 40)).take n = ML) := hML
  clear hML
  have SC := fun (ww : World) (ad : Option Addr) (n cap : Nat) (hh : Holds ww ad n K) => make_all k1 q1 ad n cap K ww hh hK
  have SO := fun (ww : World) (hh : Holds ww ae m M) => make_all k2 q2 ae m cap' M ww hh hM
  have RB := fun (ww : World) (hh : Holds ww ad n K) => refMake_all k1 q1 ad n cap K ww hh hK
  have RO := fun (ww : World) (hh : Holds ww ae m M) => refMake_all k2 q2 ae m cap' M ww hh hM
  have SM := fun (ww : World) (ad : Option Addr) (n cap : Nat) (hh : Holds ww ad n ML) => make_all k1 q1 ad n cap ML ww hh hMb
  have RM := fun (ww : World) (ad : Option Addr) (n cap : Nat) (hh : Holds ww ad n ML) => refMake_all k1 q1 ad n cap ML ww hh hMb
  have e1 := mkL_len k1 q1 K
  have e2 := mkL_len k2 q2 M
  have e3 := mkL_len k1 q1 ML
  generalize mkL k1 q1 K = L1 at SC RB e1
  generalize mkL k2 q2 M = L2 at SO RO e2
  generalize mkL k1 q1 ML = L3 at SM RM e3
  generalize mkE k1 K = E1 at SC RB
  generalize mkE k2 M = E2 at SO RO
  generalize mkE k1 ML = E3 at SM RM
  have H1 : Hid (L1.length ≤ 1048600 ∧ L2.length ≤ 1048600 ∧ L3.length ≤ 1048600) := ⟨e1, e2, e3⟩
  clear e1 e2 e3
  go_enter Try.func3, Try.ntmps3
  go_upto_region 3 with (go_at_call 4; refine (shown_any _).mono ?_; rintro e w1 ⟨rfl, b1⟩)
  have z1 := b1.size
  simp only [World.size_alloc] at z1
  have K1 : w1.heap[w.heap.size]? = some (.cells #[.int .i64 k1, .int .u64 (q1 : Int), .slice ad n cap] 25 (0, 0)) := (b1.block _ (by simp; omega)).trans ((Below.heap_alloc _ _ _ (by simp)).trans (heap_alloc_new w _))
  have K2 : w1.heap[w.heap.size + 1]? = some (.cells #[.int .i64 k2, .int .u64 (q2 : Int), .slice ae m cap'] 25 (0, 0)) := (b1.block _ (by simp)).trans (by have := heap_alloc_new (w.alloc (.cells #[.int .i64 k1, .int .u64 (q1 : Int), .slice ad n cap] 25)) (.cells #[.int .i64 k2, .int .u64 (q2 : Int), .slice ae m cap'] 25); simpa using this)
  have B1 : Below w.heap.size w w1 := by
    have a1 := (Below.refl w.heap.size w).alloc (Nat.le_refl _) (.cells #[.int .i64 k1, .int .u64 (q1 : Int), .slice ad n cap] 25)
    have a2 := a1.alloc a1.size (.cells #[.int .i64 k2, .int .u64 (q2 : Int), .slice ae m cap'] 25)
    exact a2.trans (b1.mono a2.size)
  obtain ⟨wb, hwb⟩ : ∃ W, w1.alloc (.cells #[.slice none 0 0, .slice none 0 0] 30) = W := ⟨_, rfl⟩
  have zb : wb.heap.size = w1.heap.size + 1 := by rw [← hwb]; simp
  have Kb : wb.heap[w1.heap.size]? = some (.cells #[.slice none 0 0, .slice none 0 0] 30 (0, 0)) := by rw [← hwb]; exact heap_alloc_new w1 _
  have Kx : wb.heap[w.heap.size]? = some (.cells #[.int .i64 k1, .int .u64 (q1 : Int), .slice ad n cap] 25 (0, 0)) := by rw [← hwb]; exact (Below.heap_alloc _ _ _ (lt_of_block K1)).trans K1
  have Ky : wb.heap[w.heap.size + 1]? = some (.cells #[.int .i64 k2, .int .u64 (q2 : Int), .slice ae m cap'] 25 (0, 0)) := by rw [← hwb]; exact (Below.heap_alloc _ _ _ (lt_of_block K2)).trans K2
  have BB : Below w.heap.size w wb := by rw [← hwb]; exact B1.alloc B1.size _
  rw [hwb]
  clear hwb K1 K2 b1 B1
  have HX : Hid (∀ W, Below wb.heap.size wb W → W.cell? ⟨w.heap.size, 0, none⟩ = some (.int .i64 k1) ∧ W.cell? ⟨w.heap.size, 1, none⟩ = some (.int .u64 (q1 : Int)) ∧ W.cell? ⟨w.heap.size, 2, none⟩ = some (.slice ad n cap) ∧ W.cell? ⟨w.heap.size + 1, 0, none⟩ = some (.int .i64 k2) ∧ W.cell? ⟨w.heap.size + 1, 1, none⟩ = some (.int .u64 (q2 : Int)) ∧ W.cell? ⟨w.heap.size + 1, 2, none⟩ = some (.slice ae m cap')) := fun W b => by
    obtain ⟨a1, a2, a3⟩ := cellP ((b.block _ (lt_of_block Kx)).trans Kx)
    obtain ⟨a4, a5, a6⟩ := cellP ((b.block _ (lt_of_block Ky)).trans Ky)
    exact ⟨a1, a2, a3, a4, a5, a6⟩
  clear Kx Ky
  have zw := BB.size
  have hB : w.heap.size ≤ w1.heap.size := by omega
  obtain ⟨x0, x1, x2, y0, y1, y2⟩ := HX.out wb (Below.refl _ _)
  obtain ⟨gb, hgb⟩ : ∃ g, w1.heap.size = g := ⟨_, rfl⟩
  rw [hgb] at Kb zb hB ⊢
  clear hgb z1
  have HKb : Hid (wb.heap[gb]? = some (.cells #[.slice none 0 0, .slice none 0 0] 30 (0, 0)) ∧ wb.heap.size = gb + 1 ∧ w.heap.size ≤ gb) := ⟨Kb, zb, hB⟩
  clear Kb zb hB
  have lw := lent_any ad n cap K wb (h.below BB) hn
  go_upto_region 10 with (first
    | (go_at_call 5; refine lw.mono ?_; rintro e w2 ⟨rfl, hR2, b2⟩; clear lw; have hF2 := hR2.front n (by rw [lentL_len]; have := HL.out; omega); rw [← HL.out, lentL_front, HL.out] at hF2; have z2 := b2.size; clear x0 x1 x2 y0 y1 y2; obtain ⟨x0, x1, x2, y0, y1, y2⟩ := HX.out _ b2; have s3 := SC w2 _ _ (n + 40) hF2)
    | (go_at_call 6; refine s3.mono ?_; rintro e w3 ⟨a3, l3, c3, rfl, o3, b3⟩; clear s3; have X := o3.lk (Nat.le_trans zw z2); have z3 := b3.size; have B3 := b2.trans (b3.mono z2); have zz3 := B3.size; clear x0 x1 x2 y0 y1 y2; obtain ⟨x0, x1, x2, y0, y1, y2⟩ := HX.out _ B3; have s4 := SC w3 _ _ (n + 40) (hF2.below b3))
    | (go_at_call 6; refine s4.mono ?_; rintro e w4 ⟨a4, l4, c4, rfl, o4, b4⟩; clear s4; have Y := o4.lk (Nat.le_trans zw zz3); have z4 := b4.size; have B4 := B3.trans (b4.mono zz3); have zz4 := B4.size; clear x0 x1 x2 y0 y1 y2; obtain ⟨x0, x1, x2, y0, y1, y2⟩ := HX.out _ B4; have s5 := SO w4 (h'.below (BB.trans (B4.mono zw))))
    | (go_at_call 6; refine s5.mono ?_; rintro e w5 ⟨a5, l5, c5, rfl, o5, b5⟩; clear s5; have O := o5.lk (Nat.le_trans zw zz4); have z5 := b5.size; have B5 := B4.trans (b5.mono zz4); have zz5 := B5.size; clear x0 x1 x2 y0 y1 y2; obtain ⟨x0, x1, x2, y0, y1, y2⟩ := HX.out _ B5; have s6 := SC w5 _ _ (n + 40) (hF2.below ((b3.trans (b4.mono z3)).trans (b5.mono (Nat.le_trans z3 z4)))))
    | (go_at_call 6; refine s6.mono ?_; rintro e w6 ⟨a6, l6, c6, rfl, o6, b6⟩; clear s6; have Z := o6.lk (Nat.le_trans zw zz5); have z6 := b6.size; have B6 := B5.trans (b6.mono zz5); have zz6 := B6.size; clear x0 x1 x2 y0 y1 y2; obtain ⟨x0, x1, x2, y0, y1, y2⟩ := HX.out _ B6; have s7 := RB w6 (h.below (BB.trans (B6.mono zw))))
    | (go_at_call 7; refine s7.mono ?_; rintro e w7 ⟨a7, l7, c7, rfl, o7, b7⟩; clear s7; have V := o7.lk (Nat.le_trans zw zz6); have z7 := b7.size; have B7 := B6.trans (b7.mono zz6); have zz7 := B7.size; clear x0 x1 x2 y0 y1 y2; obtain ⟨x0, x1, x2, y0, y1, y2⟩ := HX.out _ B7; have s8 := RO w7 (h'.below (BB.trans (B7.mono zw))))
    | (go_at_call 7; refine s8.mono ?_; rintro e w8 ⟨a8, l8, c8, rfl, o8, b8⟩; clear s8; have U := o8.lk (Nat.le_trans zw zz7); have z8 := b8.size; have B8 := B7.trans (b8.mono zz7); have zz8 := B8.size; clear x0 x1 x2 y0 y1 y2; obtain ⟨x0, x1, x2, y0, y1, y2⟩ := HX.out _ B8))
  have d68 := b7.trans (b8.mono z7)
  have d58 := b6.trans (d68.mono z6)
  have d48 := b5.trans (d58.mono z5)
  have d38 := b4.trans (d48.mono z4)
  have d28 := b3.trans (d38.mono z3)
  have X8 := X.below d38
  have Y8 := Y.below d48
  have O8 := O.below d58
  have Z8 := Z.below d68
  have CA := X8.str
  have CB := Y8.str
  have CD := Z8.str
  have CO := O8.str
  have CV := (V.below b8).str
  have CU := U.str
  generalize strI L1 = S1 at CA CB CD CV
  generalize strI L2 = S2 at CO CU
  have BK := back_any wb.heap.size n ad cap K wb w8 (h.below BB) B8 (Nat.le_refl _) (hR2.below d28) hn
  have HLX : Hid (Lk w.heap.size w2.heap.size w3.heap.size w8 (.slice a3 l3 c3) L1 ∧ Lk w.heap.size w3.heap.size w4.heap.size w8 (.slice a4 l4 c4) L1 ∧ Lk w.heap.size w4.heap.size w5.heap.size w8 (.slice a5 l5 c5) L2 ∧ Lk w.heap.size w5.heap.size w6.heap.size w8 (.slice a6 l6 c6) L1) := ⟨X8, Y8, O8, Z8⟩
  have HZ : Hid (wb.heap.size < w2.heap.size ∧ w2.heap.size ≤ w3.heap.size ∧ w3.heap.size ≤ w4.heap.size ∧ w4.heap.size ≤ w5.heap.size ∧ w5.heap.size ≤ w6.heap.size ∧ w6.heap.size ≤ w8.heap.size) := ⟨lt_of_block hR2, z3, z4, z5, z6, Nat.le_trans z7 z8⟩
  have HB8 : Hid (Below wb.heap.size wb w8) := B8
  clear X Y O Z V U X8 Y8 O8 Z8 d68 d58 d48 d38 d28 o3 o4 o5 o6 o7 o8 b2 b3 b4 b5 b6 b7 b8 B3 B4 B5 B6 B7 B8 z2 z3 z4 z5 z6 z7 z8 zz3 zz4 zz5 zz6 zz7 SC SO RB RO hF2 hR2
  go_upto_region 12 with (first | fail)
  clear CA CB CD CO CV CU
  go_upto_region 13 with (go_at_call 8; refine BK.mono ?_; rintro e w9 ⟨rfl, hR9, u9⟩; clear BK)
  obtain ⟨hz1', hz2', hz3', hz4', hz5', hz6'⟩ := HZ.out
  have B9 : Below wb.heap.size wb w9 := HB8.out.trans (u9.below (by omega) (fun k hk e => by omega))
  obtain ⟨X8, Y8, O8, Z8⟩ := HLX.out
  have X9 := X8.upd u9 (fun k h1 h2 e => by omega)
  have Y9 := Y8.upd u9 (fun k h1 h2 e => by omega)
  have O9 := O8.upd u9 (fun k h1 h2 e => by omega)
  have Z9 := Z8.upd u9 (fun k h1 h2 e => by omega)
  have z9 := u9.size
  have hF9 := hR9.front n (by rw [overL_len, lentL_len]; have := HL.out; omega)
  rw [HML.out] at hF9
  have zw9 : w.heap.size ≤ w9.heap.size := by omega
  have FR := own_fresh w9 w.heap.size zw9
  have SR := (hF9.alloc (.cells #[] 5)).src (n + 40)
  have q1' : 0 + n ≤ maxLen := by unfold maxLen; omega
  have q2' : (0 + n) * 1 ≤ 140737488355328 := by omega
  have q3' : w.heap.size ≤ (w9.alloc (.cells #[] 5)).heap.size := by simp; omega
  clear X8 Y8 O8 Z8 HLX HZ HB8 u9 x0 x1 x2 y0 y1 y2
  go_upto_region 14 with (at_builtin; refine wpList_app _ rfl _ _ 23 23 rfl w.heap.size 5 i0 (.int .u8 0) 1 Try.underlying23 hi hz0 hz1 hz2 rfl _ _ _ rfl FR _ n (ML.map (Value.int .u8)) rfl SR q1' q2' q3' ?_; intro v10 w10 o10 g10 m10; obtain ⟨a10, l10, c10, rfl⟩ := row_shape o10)
  have hne10 : ∀ j, j < w9.heap.size → ¬ (Value.slice (some ⟨w9.heap.size, 0, none⟩) 0 0).ownBlock = some j := fun j hj e => by
    simp [Value.ownBlock] at e
    omega
  have b10 : Below w9.heap.size w9 w10 := (grown_upd' g10).below (Nat.le_refl _) hne10
  clear hne10
  have z10 := b10.size
  have W10 : OwnK w.heap.size w10 (.slice a10 l10 c10) ML := by have h := o10; rw [Nat.zero_add, List.nil_append, ← hMl.out] at h; exact h
  have H10 := Holds.ofRow W10
  have B10 := B9.trans (b10.mono B9.size)
  have s11 := SM w10 _ n (n + 40) (hF9.below b10)
  have X10 := X9.below b10
  have Y10 := Y9.below b10
  have O10 := O9.below b10
  have Z10 := Z9.below b10
  obtain ⟨x0, x1, x2, y0, y1, y2⟩ := HX.out w10 B10
  have HL10 : Hid (Lk w.heap.size w2.heap.size w3.heap.size w10 (.slice a3 l3 c3) L1 ∧ Lk w.heap.size w3.heap.size w4.heap.size w10 (.slice a4 l4 c4) L1 ∧ Lk w.heap.size w4.heap.size w5.heap.size w10 (.slice a5 l5 c5) L2 ∧ Lk w.heap.size w5.heap.size w6.heap.size w10 (.slice a6 l6 c6) L1) := ⟨X10, Y10, O10, Z10⟩
  have zw10 : w.heap.size ≤ w10.heap.size := by omega
  have zb10 := B10.size
  clear X9 Y9 O9 Z9 X10 Y10 O10 Z10 o10 g10 m10 FR SR W10 B9 hF9 hR9
  go_upto_region 16 with (first
    | (go_at_call 6; refine s11.mono ?_; rintro e w11 ⟨a11, l11, c11, rfl, o11, b11⟩; clear s11; have T := o11.lk zw10; have z11 := b11.size; have B11 := B10.trans (b11.mono zb10); clear x0 x1 x2 y0 y1 y2; obtain ⟨x0, x1, x2, y0, y1, y2⟩ := HX.out _ B11; have s12 := RM w11 a10 l10 c10 (H10.below b11))
    | (go_at_call 7; refine s12.mono ?_; rintro e w12 ⟨a12, l12, c12, rfl, o12, b12⟩; clear s12; have z12 := b12.size))
  have T12 := T.below b12
  have CK := T12.str
  have CN := (o12.lk (Nat.le_trans zw10 z11)).str
  generalize strI L3 = S3 at CK CN
  go_upto_region 18 with (first | fail)
  clear CK CN x0 x1 x2 y0 y1 y2
  have d12 := b11.trans (b12.mono z11)
  have B12 := B10.trans (d12.mono zb10)
  obtain ⟨X10, Y10, O10, Z10⟩ := HL10.out
  have X12 := X10.below d12
  have Y12 := Y10.below d12
  have O12 := O10.below d12
  have Z12 := Z10.below d12
  obtain ⟨Kb, zb, hB⟩ := HKb.out
  have K0 := book_new ((B12.block gb (lt_of_block Kb)).trans Kb) hB
  obtain ⟨e1, e2, e3⟩ := H1.out
  have FIN : Below w.heap.size w w12 := BB.trans (B12.mono zw)
  clear X10 Y10 O10 Z10 HL10 T b10 b11 b12 B10 B11 H10 o11 o12 SM RM Kb d12
  have AP : Hid (∀ (lo hi lo' hi' : Nat) (W W' : World) (u v : Value) (L L' : List Int), Lk w.heap.size lo hi W u L → Lk w.heap.size lo' hi' W' v L' → hi ≤ lo' ∨ hi' ≤ lo → ∀ k, u.ownBlock = some k → v.ownBlock ≠ some k) := fun lo hi lo' hi' W W' u v L L' h1 h2 hd k hk hk' => by
    have r1 := h1.range k hk
    have r2 := h2.range k hk'
    omega
  have t1 := keep_any w.heap.size gb _ _ [] _ [] a3 l3 c3 L1 w12 K0 K0.le_size X12.own (by omega) (by simp) (fun i v hv => by simp at hv)
  go_upto_region 19 with (go_at_call 9; refine t1.mono ?_; rintro e v1 ⟨rfl, bv1, wv1, y1, K1, u1, _, _⟩; clear t1)
  have Xk1 := K0.old u1 X12
  have Yk1 := K0.old u1 Y12
  have Ok1 := K0.old u1 O12
  have Zk1 := K0.old u1 Z12
  have Tk1 := K0.old u1 T12
  clear X12 Y12 O12 Z12 T12
  have F1 : Below w.heap.size w v1 := FIN.trans (u1.below K0.le_size (fun k hk e => by
    rcases e with rfl | e | e
    · have := K0.le; omega
    · have := (own_lt K0.lown e).2; omega
    · have := (own_lt K0.wown e).2; omega))
  clear u1
  have t2 := keep_any w.heap.size gb _ _ [.slice a3 l3 c3] _ [L1] a4 l4 c4 L1 v1 K1 K1.le_size Yk1.own (by omega) (by simp) (fun i v hv k hk => by
      match i, hv with
      | 0, hv => (simp at hv; subst hv; exact AP.out _ _ _ _ _ _ _ _ _ _ Yk1 Xk1 (by omega) k hk)
      | i + 1, hv => simp at hv)
  go_upto_region 20 with (go_at_call 9; refine t2.mono ?_; rintro e v2 ⟨rfl, bv2, wv2, y2, K2, u2, _, _⟩; clear t2)
  have Xk2 := K1.old u2 Xk1
  have Yk2 := K1.old u2 Yk1
  have Ok2 := K1.old u2 Ok1
  have Zk2 := K1.old u2 Zk1
  have Tk2 := K1.old u2 Tk1
  clear Xk1 Yk1 Ok1 Zk1 Tk1
  have F2 : Below w.heap.size w v2 := F1.trans (u2.below K1.le_size (fun k hk e => by
    rcases e with rfl | e | e
    · have := K1.le; omega
    · have := (own_lt K1.lown e).2; omega
    · have := (own_lt K1.wown e).2; omega))
  clear u2
  have t3 := keep_any w.heap.size gb _ _ [.slice a3 l3 c3, .slice a4 l4 c4] _ [L1, L1] a5 l5 c5 L2 v2 K2 K2.le_size Ok2.own (by omega) (by simp) (fun i v hv k hk => by
      match i, hv with
      | 0, hv => (simp at hv; subst hv; exact AP.out _ _ _ _ _ _ _ _ _ _ Ok2 Xk2 (by omega) k hk)
      | 1, hv => (simp at hv; subst hv; exact AP.out _ _ _ _ _ _ _ _ _ _ Ok2 Yk2 (by omega) k hk)
      | i + 2, hv => simp at hv)
  go_upto_region 21 with (go_at_call 9; refine t3.mono ?_; rintro e v3 ⟨rfl, bv3, wv3, y3, K3, u3, _, _⟩; clear t3)
  have Xk3 := K2.old u3 Xk2
  have Yk3 := K2.old u3 Yk2
  have Ok3 := K2.old u3 Ok2
  have Zk3 := K2.old u3 Zk2
  have Tk3 := K2.old u3 Tk2
  clear Xk2 Yk2 Ok2 Zk2 Tk2
  have F3 : Below w.heap.size w v3 := F2.trans (u3.below K2.le_size (fun k hk e => by
    rcases e with rfl | e | e
    · have := K2.le; omega
    · have := (own_lt K2.lown e).2; omega
    · have := (own_lt K2.wown e).2; omega))
  clear u3
  have t4 := keep_any w.heap.size gb _ _ [.slice a3 l3 c3, .slice a4 l4 c4, .slice a5 l5 c5] _ [L1, L1, L2] a6 l6 c6 L1 v3 K3 K3.le_size Zk3.own (by omega) (by simp) (fun i v hv k hk => by
      match i, hv with
      | 0, hv => (simp at hv; subst hv; exact AP.out _ _ _ _ _ _ _ _ _ _ Zk3 Xk3 (by omega) k hk)
      | 1, hv => (simp at hv; subst hv; exact AP.out _ _ _ _ _ _ _ _ _ _ Zk3 Yk3 (by omega) k hk)
      | 2, hv => (simp at hv; subst hv; exact AP.out _ _ _ _ _ _ _ _ _ _ Zk3 Ok3 (by omega) k hk)
      | i + 3, hv => simp at hv)
  go_upto_region 22 with (go_at_call 9; refine t4.mono ?_; rintro e v4 ⟨rfl, bv4, wv4, y4, K4, u4, _, _⟩; clear t4)
  have Xk4 := K3.old u4 Xk3
  have Yk4 := K3.old u4 Yk3
  have Ok4 := K3.old u4 Ok3
  have Zk4 := K3.old u4 Zk3
  have Tk4 := K3.old u4 Tk3
  clear Xk3 Yk3 Ok3 Zk3 Tk3
  have F4 : Below w.heap.size w v4 := F3.trans (u4.below K3.le_size (fun k hk e => by
    rcases e with rfl | e | e
    · have := K3.le; omega
    · have := (own_lt K3.lown e).2; omega
    · have := (own_lt K3.wown e).2; omega))
  clear u4
  have t5 := keep_any w.heap.size gb _ _ [.slice a3 l3 c3, .slice a4 l4 c4, .slice a5 l5 c5, .slice a6 l6 c6] _ [L1, L1, L2, L1] a11 l11 c11 L3 v4 K4 K4.le_size Tk4.own (by omega) (by simp) (fun i v hv k hk => by
      match i, hv with
      | 0, hv => (simp at hv; subst hv; exact AP.out _ _ _ _ _ _ _ _ _ _ Tk4 Xk4 (by omega) k hk)
      | 1, hv => (simp at hv; subst hv; exact AP.out _ _ _ _ _ _ _ _ _ _ Tk4 Yk4 (by omega) k hk)
      | 2, hv => (simp at hv; subst hv; exact AP.out _ _ _ _ _ _ _ _ _ _ Tk4 Ok4 (by omega) k hk)
      | 3, hv => (simp at hv; subst hv; exact AP.out _ _ _ _ _ _ _ _ _ _ Tk4 Zk4 (by omega) k hk)
      | i + 4, hv => simp at hv)
  go_upto_region 23 with (go_at_call 9; refine t5.mono ?_; rintro e v5 ⟨rfl, bv5, wv5, y5, K5, u5, _, _⟩; clear t5)
  have Xk5 := K4.old u5 Xk4
  have Yk5 := K4.old u5 Yk4
  have Ok5 := K4.old u5 Ok4
  have Zk5 := K4.old u5 Zk4
  have Tk5 := K4.old u5 Tk4
  clear Xk4 Yk4 Ok4 Zk4 Tk4
  have F5 : Below w.heap.size w v5 := F4.trans (u5.below K4.le_size (fun k hk e => by
    rcases e with rfl | e | e
    · have := K4.le; omega
    · have := (own_lt K4.lown e).2; omega
    · have := (own_lt K4.wown e).2; omega))
  clear u5
  obtain ⟨gl, cl, ebv, _⟩ := own_some K5.lown (by simp)
  have K6 := K5
  rw [ebv] at K6
  have EN := ends_any w.heap.size gb gl _ cl wv5 _ _ _ v5 K6 K5.le_size (by simp) rfl (by simp) (fun L hL => by
    simp at hL
    rcases hL with rfl | rfl | rfl | rfl | rfl <;> omega)
  clear K5 K6 Xk5 Yk5 Ok5 Zk5 Tk5
  go_wp2_with (go_at_call 10; refine EN.mono ?_; rintro e v6 ⟨rfl, b6⟩; have FF := F5.trans b6)
  go_ret
  exact ⟨rfl, FF⟩
end Go.Proofs.Ytkfefebjciolcaa
