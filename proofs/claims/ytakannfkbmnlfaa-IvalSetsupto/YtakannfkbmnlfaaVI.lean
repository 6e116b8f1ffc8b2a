/-
  The walk of IvalSets (written by gen_vi2.py).
-/
import Derived.Test.YtakannfkbmnlfaaVH
import Derived.Test.YtakannfkbmnlfaaVl
namespace Go.Proofs.Ytakannfkbmnlfaa
open Go.Shelf Go.RowKit Go.Lib
set_option maxRecDepth 100000

theorem hideV {p : Prop} (h : p) : Hid p := h
/-- Two blocks of the law's own, and all that was there. -/
structure StI (w : World) (gx gy : Nat) (X Y : List (Int × Int)) (W : World) : Prop where
  bel : Below w.heap.size w W
  bx : BlkI W gx X
  by_ : BlkI W gy Y
theorem StI.step {w : World} {gx gy : Nat} {X Y : List (Int × Int)} {W W' : World} (h : StI w gx gy X Y W) (b : Below W.heap.size W W') : StI w gx gy X Y W' :=
  ⟨h.bel.trans (b.mono h.bel.size), h.bx.below b, h.by_.below b⟩
theorem StI.p {w : World} {gx gy n : Nat} {X Y P : List (Int × Int)} {W : World} (h : StI w gx gy X Y W) (hx : X.take n = P ∧ n ≤ X.length) : IvAt W (some ⟨gx, 0, none⟩) n P := by
  have := h.bx.at n hx.2
  rw [hx.1] at this
  exact this
theorem StI.q {w : World} {gx gy n : Nat} {X Y P : List (Int × Int)} {W : World} (h : StI w gx gy X Y W) (hx : Y.take n = P ∧ n ≤ Y.length) : IvAt W (some ⟨gy, 0, none⟩) n P := by
  have := h.by_.at n hx.2
  rw [hx.1] at this
  exact this
theorem StI.keptX {w : World} {gx gy : Nat} {X Y Z : List (Int × Int)} {W W' : World} (h : StI w gx gy X Y W) (hu : Upd (fun k => k = gx) W W') (hz : BlkI W' gx Z) (hg : w.heap.size ≤ gx) (hne : gx < gy) : StI w gx gy Z Y W' :=
  ⟨h.bel.trans (hu.below h.bel.size (fun k hk e => by omega)), hz, h.by_.upd hu (fun e => by omega)⟩
theorem StI.keptY {w : World} {gx gy : Nat} {X Y Z : List (Int × Int)} {W W' : World} (h : StI w gx gy X Y W) (hu : Upd (fun k => k = gy) W W') (hz : BlkI W' gy Z) (hg : w.heap.size ≤ gx) (hne : gx < gy) : StI w gx gy X Z W' :=
  ⟨h.bel.trans (hu.below h.bel.size (fun k hk e => by omega)), h.bx.upd hu (fun e => by omega), hz⟩
theorem same_two {b1 b2 : Nat} {w1 w2 : World} {ao1 ao2 : Option Addr} {l1 c1 l2 c2 : Nat} {p : Int → Bool} {N1 N2 : Nat} {L1 L2 : List (Int × Int)} (h1 : Tells b1 w1 (.slice ao1 l1 c1) p N1 L1) (b : Below w1.heap.size w1 w2) (h2 : Tells b2 w2 (.slice ao2 l2 c2) p N2 L2) (hN : N1 ≤ 1099511627776) :
    Calls Try.prog 7 #[.slice ao1 l1 c1, .slice ao2 l2 c2] w2 fun e w' => e = .returned (.bool true) ∧ Below w2.heap.size w2 w' := by
  have h := same_any ao1 ao2 l1 l2 c1 c2 L1 L2 w2 (h1.own.at.below b) h2.own.at (by have := h1.few; have := h1.own.len; omega)
  rw [decide_eq_true (tells_one h1 h2)] at h
  exact h
theorem take_rep {n m : Nat} {x : Int × Int} (h : n ≤ m) : (List.replicate m x).take n = List.replicate n x ∧ n ≤ (List.replicate m x).length := by
  refine ⟨by rw [List.take_replicate, Nat.min_eq_left h], by simpa using h⟩
theorem take_marks {A : List (Int × Int)} {n : Nat} (h : A.length = n) : (A ++ List.replicate 4 ((-77, -78) : Int × Int)).take n = A ∧ n ≤ (A ++ List.replicate 4 ((-77, -78) : Int × Int)).length :=
  ⟨List.take_left' h, by rw [List.length_append]; omega⟩
theorem rep_in (n : Nat) : ∀ i ∈ List.replicate n ((-79, 80) : Int × Int), In64 i := fun i hi => by
  rw [(List.mem_replicate.mp hi).2]
  unfold In64 in64
  omega
set_option maxHeartbeats 16000000 in
theorem sets_walk (N : Nat) (hN : (N : Int) = 18446744073709551615) (ad bd : Option Addr) (n m ca cb : Nat) (A B : List (Int × Int)) (x : Int) (w : World) (hA : IvAt w ad n A) (hB : IvAt w bd m B) (na : ad = none → n = 0 ∧ ca = 0) (nb : bd = none → m = 0 ∧ cb = 0) (hn : n ≤ 1048576) (hm : m ≤ 1048576) (iA : ∀ i ∈ A, In64 i) (iB : ∀ i ∈ B, In64 i) :
    Calls Try.prog 3 #[.slice ad n ca, .slice bd m cb, .int .i64 x] w fun e w' => e = .returned (.bool true) ∧ Below w.heap.size w w' := by
  have HA : Hid (IvAt w ad n A) := hA
  have HB : Hid (IvAt w bd m B) := hB
  have HNA : Hid (ad = none → n = 0 ∧ ca = 0) := na
  have HNB : Hid (bd = none → m = 0 ∧ cb = 0) := nb
  have HIA : Hid (∀ i ∈ A, In64 i) := iA
  have HIB : Hid (∀ i ∈ B, In64 i) := iB
  have HN : Hid ((N : Int) = 18446744073709551615) := hN
  have HTA := hideV (take_marks hA.len)
  have HTB := hideV (take_marks hB.len)
  have HRA := hideV (take_rep (n := n) (m := n + 4) (x := ((-79, 80) : Int × Int)) (by omega))
  have HRB := hideV (take_rep (n := m) (m := m + 4) (x := ((-79, 80) : Int × Int)) (by omega))
  have HIP := hideV (rep_in n)
  have HIQ := hideV (rep_in m)
  have hwn : (0 : Int) ≤ (n : Int) := by omega
  have hn4 : n ≤ n + 4 := by omega
  have hm4 : m ≤ m + 4 := by omega
  have D1 := alive_any w
  clear hA hB na nb iA iB hN
  go_enter Try.func3, Try.ntmps3
  go_wp2_with (first
    | (go_at_call 5; (with_reducible refine D1.mono ?_); clear D1; rintro e w1 ⟨rfl, b1⟩; have T1 : Hid (Below w.heap.size w w1) := b1; clear b1; have D2 := spared_any ad n ca A w1 (HA.out.below T1.out) HNA.out (by omega))
    | (go_at_call 6; (with_reducible refine D2.mono ?_); clear D2; rintro e w2 ⟨rfl, K2, b2⟩; have T2 : Hid (Below w.heap.size w w2) := T1.out.trans (b2.out.mono T1.out.size); have L2 : Hid (w1.heap.size < w2.heap.size) := K2.out.lt; have L1 : Hid (w.heap.size ≤ w1.heap.size) := T1.out.size; clear b2 T1; have D3 := spared_any bd m cb B w2 (HB.out.below T2.out) HNB.out (by omega))
    | (go_at_call 6; (with_reducible refine D3.mono ?_); clear D3; rintro e w3 ⟨rfl, K3, b3⟩; have S3 : Hid (StI w w1.heap.size w2.heap.size (A ++ List.replicate 4 (-77, -78)) (B ++ List.replicate 4 (-77, -78)) w3) := ⟨T2.out.trans (b3.out.mono T2.out.size), K2.out.below b3.out, K3.out⟩; clear b3 K2 K3 T2; have D4 := normal_any (some ⟨w1.heap.size, 0, none⟩) n (n + 4) A w3 (S3.out.p HTA.out) (by omega) HIA.out)
    | (go_at_call 8; (with_reducible refine D4.mono ?_); clear D4; rintro e w4 ⟨v4, L4_, rfl, t4, b4⟩; obtain ⟨ao4, l4, cp4, rfl⟩ := row_shape t4.own; have S4 : Hid (StI w w1.heap.size w2.heap.size (A ++ List.replicate 4 (-77, -78)) (B ++ List.replicate 4 (-77, -78)) w4) := S3.out.step b4; have U4 := hideV t4; have V4 := hideV b4; clear b4 t4 S3; have D5 := refNormal_any ad n ca A w4 (HA.out.below S4.out.bel) (by omega) HIA.out)
    | (go_at_call 9; (with_reducible refine D5.mono ?_); clear D5; rintro e w5 ⟨v5, L5_, rfl, t5, b5⟩; obtain ⟨ao5, l5, cp5, rfl⟩ := row_shape t5.own; have S5 : Hid (StI w w1.heap.size w2.heap.size (A ++ List.replicate 4 (-77, -78)) (B ++ List.replicate 4 (-77, -78)) w5) := S4.out.step b5; have U5 := hideV t5; have V5 := hideV b5; clear b5 t5 S4; have D6 := same_two U4.out V5.out U5.out (by omega); clear U4 V4 U5 V5)
    | (go_at_call 7; (with_reducible refine D6.mono ?_); clear D6; rintro e w6 ⟨rfl, b6⟩; have S6 : Hid (StI w w1.heap.size w2.heap.size (A ++ List.replicate 4 (-77, -78)) (B ++ List.replicate 4 (-77, -78)) w6) := S5.out.step b6; clear b6 S5; have D7 := measV_any HN.out (some ⟨w1.heap.size, 0, none⟩) n (n + 4) A w6 (S6.out.p HTA.out) (by omega) HIA.out)
    | (go_at_call 10; (with_reducible refine D7.mono ?_); clear D7; rintro e w7 ⟨rfl, b7⟩; have S7 : Hid (StI w w1.heap.size w2.heap.size (A ++ List.replicate 4 (-77, -78)) (B ++ List.replicate 4 (-77, -78)) w7) := S6.out.step b7; clear b7 S6; have D8 := refMeasV_any HN.out ad n ca A w7 (HA.out.below S7.out.bel) (by omega) HIA.out)
    | (go_at_call 11; (with_reducible refine D8.mono ?_); clear D8; rintro e w8 ⟨rfl, b8⟩; have S8 : Hid (StI w w1.heap.size w2.heap.size (A ++ List.replicate 4 (-77, -78)) (B ++ List.replicate 4 (-77, -78)) w8) := S7.out.step b8; clear b8 S7; have D9 := meet_any (some ⟨w1.heap.size, 0, none⟩) (some ⟨w2.heap.size, 0, none⟩) n m (n + 4) (m + 4) A B w8 (S8.out.p HTA.out) (S8.out.q HTB.out) (by omega) HIA.out HIB.out)
    | (go_at_call 12; (with_reducible refine D9.mono ?_); clear D9; rintro e w9 ⟨v9, L9_, rfl, t9, b9⟩; obtain ⟨ao9, l9, cp9, rfl⟩ := row_shape t9.own; have S9 : Hid (StI w w1.heap.size w2.heap.size (A ++ List.replicate 4 (-77, -78)) (B ++ List.replicate 4 (-77, -78)) w9) := S8.out.step b9; have U9 := hideV t9; have V9 := hideV b9; clear b9 t9 S8; have D10 := refMeet_any ad bd n m ca cb A B w9 (HA.out.below S9.out.bel) (HB.out.below S9.out.bel) (by omega) HIA.out HIB.out)
    | (go_at_call 13; (with_reducible refine D10.mono ?_); clear D10; rintro e w10 ⟨v10, L10_, rfl, t10, b10⟩; obtain ⟨ao10, l10, cp10, rfl⟩ := row_shape t10.own; have S10 : Hid (StI w w1.heap.size w2.heap.size (A ++ List.replicate 4 (-77, -78)) (B ++ List.replicate 4 (-77, -78)) w10) := S9.out.step b10; have U10 := hideV t10; have V10 := hideV b10; clear b10 t10 S9; have D11 := same_two U9.out V10.out U10.out (by omega); clear U9 V9 U10 V10)
    | (go_at_call 7; (with_reducible refine D11.mono ?_); clear D11; rintro e w11 ⟨rfl, b11⟩; have S11 : Hid (StI w w1.heap.size w2.heap.size (A ++ List.replicate 4 (-77, -78)) (B ++ List.replicate 4 (-77, -78)) w11) := S10.out.step b11; clear b11 S10; have D12 := minus_any (some ⟨w1.heap.size, 0, none⟩) (some ⟨w2.heap.size, 0, none⟩) n m (n + 4) (m + 4) A B w11 (S11.out.p HTA.out) (S11.out.q HTB.out) (by omega) HIA.out HIB.out)
    | (go_at_call 14; (with_reducible refine D12.mono ?_); clear D12; rintro e w12 ⟨v12, L12_, rfl, t12, b12⟩; obtain ⟨ao12, l12, cp12, rfl⟩ := row_shape t12.own; have S12 : Hid (StI w w1.heap.size w2.heap.size (A ++ List.replicate 4 (-77, -78)) (B ++ List.replicate 4 (-77, -78)) w12) := S11.out.step b12; have U12 := hideV t12; have V12 := hideV b12; clear b12 t12 S11; have D13 := refMinus_any ad bd n m ca cb A B w12 (HA.out.below S12.out.bel) (HB.out.below S12.out.bel) (by omega) HIA.out HIB.out)
    | (go_at_call 15; (with_reducible refine D13.mono ?_); clear D13; rintro e w13 ⟨v13, L13_, rfl, t13, b13⟩; obtain ⟨ao13, l13, cp13, rfl⟩ := row_shape t13.own; have S13 : Hid (StI w w1.heap.size w2.heap.size (A ++ List.replicate 4 (-77, -78)) (B ++ List.replicate 4 (-77, -78)) w13) := S12.out.step b13; have U13 := hideV t13; have V13 := hideV b13; clear b13 t13 S12; have D14 := same_two U12.out V13.out U13.out (by omega); clear U12 V12 U13 V13)
    | (go_at_call 7; (with_reducible refine D14.mono ?_); clear D14; rintro e w14 ⟨rfl, b14⟩; have S14 : Hid (StI w w1.heap.size w2.heap.size (A ++ List.replicate 4 (-77, -78)) (B ++ List.replicate 4 (-77, -78)) w14) := S13.out.step b14; clear b14 S13; have D15 := has_any (some ⟨w1.heap.size, 0, none⟩) n (n + 4) A x w14 (S14.out.p HTA.out) (by omega))
    | (go_at_call 16; (with_reducible refine D15.mono ?_); clear D15; rintro e w15 ⟨rfl, b15⟩; have S15 : Hid (StI w w1.heap.size w2.heap.size (A ++ List.replicate 4 (-77, -78)) (B ++ List.replicate 4 (-77, -78)) w15) := S14.out.step b15; clear b15 S14; have D16 := refHas_any ad n ca A x w15 (HA.out.below S15.out.bel) (by omega))
    | (go_at_call 17; (with_reducible refine D16.mono ?_); clear D16; rintro e w16 ⟨rfl, b16⟩; have S16 : Hid (StI w w1.heap.size w2.heap.size (A ++ List.replicate 4 (-77, -78)) (B ++ List.replicate 4 (-77, -78)) w16) := S15.out.step b16; clear b16 S15; have D17 := measV_any HN.out (some ⟨w2.heap.size, 0, none⟩) m (m + 4) B w16 (S16.out.q HTB.out) (by omega) HIB.out)
    | (go_at_call 10; (with_reducible refine D17.mono ?_); clear D17; rintro e w17 ⟨rfl, b17⟩; have S17 : Hid (StI w w1.heap.size w2.heap.size (A ++ List.replicate 4 (-77, -78)) (B ++ List.replicate 4 (-77, -78)) w17) := S16.out.step b17; clear b17 S16; have D18 := refMeasV_any HN.out bd m cb B w17 (HB.out.below S17.out.bel) (by omega) HIB.out)
    | (go_at_call 11; (with_reducible refine D18.mono ?_); clear D18; rintro e w18 ⟨rfl, b18⟩; have S18 : Hid (StI w w1.heap.size w2.heap.size (A ++ List.replicate 4 (-77, -78)) (B ++ List.replicate 4 (-77, -78)) w18) := S17.out.step b18; clear b18 S17; have D19 := kept_any w1.heap.size ad n ca A w18 (HA.out.below S18.out.bel) S18.out.bx (by omega))
    | (go_at_call 18; (with_reducible refine D19.mono ?_); clear D19; rintro e w19 ⟨rfl, K19, u19⟩; have S19 : Hid (StI w w1.heap.size w2.heap.size (List.replicate (n + 4) (-79, 80)) (B ++ List.replicate 4 (-77, -78)) w19) := S18.out.keptX u19.out K19.out L1.out L2.out; clear u19 K19 S18; have D20 := kept_any w2.heap.size bd m cb B w19 (HB.out.below S19.out.bel) S19.out.by_ (by omega))
    | (go_at_call 18; (with_reducible refine D20.mono ?_); clear D20; rintro e w20 ⟨rfl, K20, u20⟩; have S20 : Hid (StI w w1.heap.size w2.heap.size (List.replicate (n + 4) (-79, 80)) (List.replicate (m + 4) (-79, 80)) w20) := S19.out.keptY u20.out K20.out L1.out L2.out; clear u20 K20 S19; have D21 := normal_any (some ⟨w1.heap.size, 0, none⟩) n (n + 4) (List.replicate n (-79, 80)) w20 (S20.out.p HRA.out) (by omega) HIP.out)
    | (go_at_call 8; (with_reducible refine D21.mono ?_); clear D21; rintro e w21 ⟨v21, L21_, rfl, t21, b21⟩; obtain ⟨ao21, l21, cp21, rfl⟩ := row_shape t21.own; have S21 : Hid (StI w w1.heap.size w2.heap.size (List.replicate (n + 4) (-79, 80)) (List.replicate (m + 4) (-79, 80)) w21) := S20.out.step b21; have U21 := hideV t21; have V21 := hideV b21; clear b21 t21 S20; have D22 := refNormal_any (some ⟨w1.heap.size, 0, none⟩) n (n + 4) (List.replicate n (-79, 80)) w21 (S21.out.p HRA.out) (by omega) HIP.out)
    | (go_at_call 9; (with_reducible refine D22.mono ?_); clear D22; rintro e w22 ⟨v22, L22_, rfl, t22, b22⟩; obtain ⟨ao22, l22, cp22, rfl⟩ := row_shape t22.own; have S22 : Hid (StI w w1.heap.size w2.heap.size (List.replicate (n + 4) (-79, 80)) (List.replicate (m + 4) (-79, 80)) w22) := S21.out.step b22; have U22 := hideV t22; have V22 := hideV b22; clear b22 t22 S21; have D23 := same_two U21.out V22.out U22.out (by omega); clear U21 V21 U22 V22)
    | (go_at_call 7; (with_reducible refine D23.mono ?_); clear D23; rintro e w23 ⟨rfl, b23⟩; have S23 : Hid (StI w w1.heap.size w2.heap.size (List.replicate (n + 4) (-79, 80)) (List.replicate (m + 4) (-79, 80)) w23) := S22.out.step b23; clear b23 S22; have D24 := measV_any HN.out (some ⟨w2.heap.size, 0, none⟩) m (m + 4) (List.replicate m (-79, 80)) w23 (S23.out.q HRB.out) (by omega) HIQ.out)
    | (go_at_call 10; (with_reducible refine D24.mono ?_); clear D24; rintro e w24 ⟨rfl, b24⟩; have S24 : Hid (StI w w1.heap.size w2.heap.size (List.replicate (n + 4) (-79, 80)) (List.replicate (m + 4) (-79, 80)) w24) := S23.out.step b24; clear b24 S23; have D25 := refMeasV_any HN.out (some ⟨w2.heap.size, 0, none⟩) m (m + 4) (List.replicate m (-79, 80)) w24 (S24.out.q HRB.out) (by omega) HIQ.out)
    | (go_at_call 11; (with_reducible refine D25.mono ?_); clear D25; rintro e w25 ⟨rfl, b25⟩; have S25 : Hid (StI w w1.heap.size w2.heap.size (List.replicate (n + 4) (-79, 80)) (List.replicate (m + 4) (-79, 80)) w25) := S24.out.step b25; clear b25 S24; have D26 := minus_any (some ⟨w1.heap.size, 0, none⟩) (some ⟨w2.heap.size, 0, none⟩) n m (n + 4) (m + 4) (List.replicate n (-79, 80)) (List.replicate m (-79, 80)) w25 (S25.out.p HRA.out) (S25.out.q HRB.out) (by omega) HIP.out HIQ.out)
    | (go_at_call 14; (with_reducible refine D26.mono ?_); clear D26; rintro e w26 ⟨v26, L26_, rfl, t26, b26⟩; obtain ⟨ao26, l26, cp26, rfl⟩ := row_shape t26.own; have S26 : Hid (StI w w1.heap.size w2.heap.size (List.replicate (n + 4) (-79, 80)) (List.replicate (m + 4) (-79, 80)) w26) := S25.out.step b26; have U26 := hideV t26; have V26 := hideV b26; clear b26 t26 S25; have D27 := refMinus_any (some ⟨w1.heap.size, 0, none⟩) (some ⟨w2.heap.size, 0, none⟩) n m (n + 4) (m + 4) (List.replicate n (-79, 80)) (List.replicate m (-79, 80)) w26 (S26.out.p HRA.out) (S26.out.q HRB.out) (by omega) HIP.out HIQ.out)
    | (go_at_call 15; (with_reducible refine D27.mono ?_); clear D27; rintro e w27 ⟨v27, L27_, rfl, t27, b27⟩; obtain ⟨ao27, l27, cp27, rfl⟩ := row_shape t27.own; have S27 : Hid (StI w w1.heap.size w2.heap.size (List.replicate (n + 4) (-79, 80)) (List.replicate (m + 4) (-79, 80)) w27) := S26.out.step b27; have U27 := hideV t27; have V27 := hideV b27; clear b27 t27 S26; have D28 := same_two U26.out V27.out U27.out (by omega); clear U26 V26 U27 V27)
    | (go_at_call 7; (with_reducible refine D28.mono ?_); clear D28; rintro e w28 ⟨rfl, b28⟩; have S28 : Hid (StI w w1.heap.size w2.heap.size (List.replicate (n + 4) (-79, 80)) (List.replicate (m + 4) (-79, 80)) w28) := S27.out.step b28; clear b28 S27; skip))
  go_ret
  exact ⟨rfl, S28.out.bel⟩
theorem sets_any (ad bd : Option Addr) (n m ca cb : Nat) (A B : List (Int × Int)) (x : Int) (w : World) (hA : IvAt w ad n A) (hB : IvAt w bd m B) (na : ad = none → n = 0 ∧ ca = 0) (nb : bd = none → m = 0 ∧ cb = 0) (hn : n ≤ 1048576) (hm : m ≤ 1048576) (iA : ∀ i ∈ A, In64 i) (iB : ∀ i ∈ B, In64 i) :
    Calls Try.prog 3 #[.slice ad n ca, .slice bd m cb, .int .i64 x] w fun e w' => e = .returned (.bool true) ∧ Below w.heap.size w w' := by
  obtain ⟨N, hN⟩ := big
  exact sets_walk N hN ad bd n m ca cb A B x w hA hB na nb hn hm iA iB
end Go.Proofs.Ytakannfkbmnlfaa
