/-
  FrameScans: the walk.
-/
import Derived.Test.YtigpmmhofncgpaaRs
import Derived.Test.YtigpmmhofncgpaaPp
namespace Go.Proofs.Ytigpmmhofncgpaa
open Go.RowKit
set_option maxRecDepth 100000

theorem scan_few (f : Nat) : ∀ (R : List Int) (p : Nat), (scanG f R p).1.length * 24 ≤ R.length := by
  induction f with
  | zero => intro R p; simp [scanG]
  | succ f ih =>
    intro R p
    by_cases h0 : R.length = 0
    · have : R = [] := List.eq_nil_of_length_eq_zero h0
      subst this
      simp [scanG_nil]
    · cases hst : stepS R with
      | error e => rw [scanG_err f p R e (by omega) hst]; simp
      | ok x =>
        obtain ⟨k, q, n⟩ := x
        rw [scanG_ok f p R k q n (by omega) hst]
        have h1 := stepS_ok' R k q n hst
        have h2 := ih (R.drop (24 + n)) (p + 24 + n)
        simp only [List.length_cons, List.length_drop] at h2 ⊢
        omega
theorem scanL_few (K : List Int) : (scanL K).1.length * 24 ≤ K.length := scan_few K.length K 0
theorem OwnP.base {base base' : Nat} {w : World} {v : Value} {ps : List Pc} (h : OwnP base' w v ps) (hb : base ≤ base') : OwnP base w v ps := by
  obtain ⟨h1, h2⟩ := h
  refine ⟨h1, ?_⟩
  rcases h2 with h | ⟨g, cap, cur, e, h, r⟩
  · exact Or.inl h
  · exact Or.inr ⟨g, cap, cur, e, by omega, r⟩
/-- A list of pieces of a call: its block lies between two numbers. -/
structure Lst (base lo hi : Nat) (w : World) (v : Value) (ps : List Pc) : Prop where
  own : OwnP base w v ps
  range : ∀ k, v.ownBlock = some k → lo ≤ k ∧ k < hi
theorem Lst.below {base lo hi : Nat} {w w' : World} {v : Value} {ps : List Pc} (h : Lst base lo hi w v ps) (hb : Below w.heap.size w w') : Lst base lo hi w' v ps := ⟨h.own.below hb, h.range⟩
theorem Lst.upd {S : Nat → Prop} {base lo hi : Nat} {w w' : World} {v : Value} {ps : List Pc} (h : Lst base lo hi w v ps) (hu : Upd S w w') (hS : ∀ k, lo ≤ k → k < hi → ¬ S k) : Lst base lo hi w' v ps :=
  ⟨ownsRow_upd h.own hu (fun k hk => hS k (h.range k hk).1 (h.range k hk).2), h.range⟩
theorem OwnP.lst {base base' : Nat} {w : World} {v : Value} {ps : List Pc} (h : OwnP base' w v ps) (hb : base ≤ base') : Lst base base' w.heap.size w v ps :=
  ⟨h.base hb, fun _ hk => ⟨(own_lt h hk).2, (own_lt h hk).1⟩⟩
theorem Lst.row {base lo hi : Nat} {w : World} {v : Value} {ps : List Pc} (h : Lst base lo hi w v ps) (hf : ps.length ≤ 5864062014805) (j : Nat) : ∃ n xs, n ≤ 5864062014805 ∧ w.ownsRow base 52 4 v n xs ∧ (j < 0 → xs = marks (mkP j) n) := ⟨_, _, hf, h.own, fun h => by omega⟩
theorem Lst.apart {base lo hi base' lo' hi' : Nat} {w w' : World} {v v' : Value} {ps ps' : List Pc} (h : Lst base lo hi w v ps) (h' : Lst base' lo' hi' w' v' ps') (hd : hi ≤ lo' ∨ hi' ≤ lo) : ∀ k, v.ownBlock = some k → v'.ownBlock ≠ some k := fun k hk hk' => by
  have h1 := h.range k hk
  have h2 := h'.range k hk'
  omega

set_option maxHeartbeats 2000000 in
theorem scans_any (ad ae : Option Addr) (n cap m cap' : Nat) (K M : List Int) (w : World) (h : Holds w ad n K) (hK : ByteL K) (hn : n ≤ 140737488351232) (hcap : n ≤ cap) (h' : Holds w ae m M) (hM : ByteL M) (hm : m ≤ 140737488351232) (hcap' : m ≤ cap') :
    Calls Try.prog 5 #[.slice ad n cap, .slice ae m cap'] w fun e w' => e = .returned (.bool true) ∧ Below w.heap.size w w' := by
  obtain ⟨i0, hi, hz0, hz1, hz2⟩ := info_parts Try.info5
  have hl := h.len
  have hl' := h'.len
  obtain ⟨N, hN⟩ : ∃ N, (scanL K).1.length = N := ⟨_, rfl⟩
  obtain ⟨N', hN'⟩ : ∃ N, (scanL M).1.length = N := ⟨_, rfl⟩
  have hfew := scanL_few K
  have hfew' := scanL_few M
  have SC := fun (ww : World) (g : Nat) (hh : Holds ww (some ⟨g, 0, none⟩) n K) => scan_any _ n (n + 40) K ww hh hK (by omega) (by omega)
  have SO := fun (ww : World) (hh : Holds ww ae m M) => scan_any ae m cap' M ww hh hM hcap' (by omega)
  have RB := fun (ww : World) (hh : Holds ww ad n K) => refScan_any ad n cap K ww hh hK hcap (by omega)
  have RO := fun (ww : World) (hh : Holds ww ae m M) => refScan_any ae m cap' M ww hh hM hcap' (by omega)
  rcases hsc : scanL K with ⟨ps, at1, er1⟩
  rcases hsc' : scanL M with ⟨ps', at2, er2⟩
  rw [hsc] at hN hfew
  rw [hsc'] at hN' hfew'
  simp only [hsc] at SC RB
  simp only [hsc'] at SO RO
  clear hsc hsc'
  have HN : Hid (ps.length = N) := hN
  have HN' : Hid (ps'.length = N') := hN'
  have hNb : N ≤ 5864062014805 := by simp only at hN hfew; omega
  have hNb' : N' ≤ 5864062014805 := by simp only at hN' hfew'; omega
  clear hN hN' hfew hfew'
  obtain ⟨ML, hML⟩ : ∃ M, (overL (lentL K) (n + 40)).take n = M := ⟨_, rfl⟩
  have hMb : ByteL ML := by rw [← hML]; exact (overL_bytes _ (lentL_bytes K hK) _).take n
  have hMl : ML.length = n := by rw [← hML, List.length_take, overL_len, lentL_len]; omega
  go_enter Try.func5, Try.ntmps5
  go_upto_region 9 with (first
    | (go_at_call 6; refine (shown_any _).mono ?_; rintro e w1 ⟨rfl, b1⟩)
    | (go_at_call 7; refine (lent_any ad n cap K w1 (h.below b1) hn).mono ?_; rintro e w2 ⟨rfl, hR2, b2⟩; have hF2 := hR2.front n (by rw [lentL_len]; omega); rw [← hl, lentL_front, hl] at hF2; have s3 := SC w2 _ hF2; have B2 := b1.trans (b2.mono b1.size); have lt2 := lt_of_block hR2; have z2 := B2.size)
    | (go_at_call 15; refine s3.mono ?_; rintro e w3 ⟨v3, rfl, o3, b3⟩; obtain ⟨a3, l3, c3, rfl⟩ := row_shape o3; obtain rfl : N = l3 := (by have h1 := (own_cap o3).1; have h2 := HN.out; omega); clear s3; have X := OwnP.lst o3 z2; have z3 := b3.size; have s4 := SC w3 _ (hF2.below b3))
    | (go_at_call 15; refine s4.mono ?_; rintro e w4 ⟨v4, rfl, o4, b4⟩; obtain ⟨a4, l4, c4, rfl⟩ := row_shape o4; obtain rfl : N = l4 := (by have h1 := (own_cap o4).1; have h2 := HN.out; omega); clear s4; have Y := OwnP.lst o4 (Nat.le_trans z2 z3); have z4 := b4.size; have b24 := b3.trans (b4.mono z3); have s5 := SO w4 (h'.below (B2.trans (b24.mono z2))))
    | (go_at_call 15; refine s5.mono ?_; rintro e w5 ⟨v5, rfl, o5, b5⟩; obtain ⟨a5, l5, c5, rfl⟩ := row_shape o5; obtain rfl : N' = l5 := (by have h1 := (own_cap o5).1; have h2 := HN'.out; omega); clear s5; have z24 := b24.size; have O := OwnP.lst o5 (Nat.le_trans z2 z24); have z5 := b5.size; have b25 := b24.trans (b5.mono z24); have z25 := b25.size; have s6 := SC w5 _ (hF2.below b25))
    | (go_at_call 15; refine s6.mono ?_; rintro e w6 ⟨v6, rfl, o6, b6⟩; obtain ⟨a6, l6, c6, rfl⟩ := row_shape o6; obtain rfl : N = l6 := (by have h1 := (own_cap o6).1; have h2 := HN.out; omega); clear s6; have Z := OwnP.lst o6 (Nat.le_trans z2 z25); have z6 := b6.size; have b26 := b25.trans (b6.mono z25); have z26 := b26.size; have B6 := B2.trans (b26.mono z2); have s7 := RB w6 (h.below B6))
    | (go_at_call 16; refine s7.mono ?_; rintro e w7 ⟨v7, rfl, o7, b7⟩; obtain ⟨a7, l7, c7, rfl⟩ := row_shape o7; obtain rfl : N = l7 := (by have h1 := (own_cap o7).1; have h2 := HN.out; omega); clear s7; have z7 := b7.size; have B7 := B6.trans (b7.mono B6.size); have s8 := RO w7 (h'.below B7))
    | (go_at_call 16; refine s8.mono ?_; rintro e w8 ⟨v8, rfl, o8, b8⟩; obtain ⟨a8, l8, c8, rfl⟩ := row_shape o8; obtain rfl : N' = l8 := (by have h1 := (own_cap o8).1; have h2 := HN'.out; omega); clear s8; have z8 := b8.size))
  have W7 := OwnP.lst o7 B6.size
  have W8 := OwnP.lst o8 B7.size
  have B8 := B7.trans (b8.mono B7.size)
  have d78 := b8
  have d68 := b7.trans (b8.mono z7)
  have d58 := b6.trans (d68.mono z6)
  have d48 := b5.trans (d58.mono z5)
  have d38 := b4.trans (d48.mono z4)
  have X8 := X.below d38
  have Y8 := Y.below d48
  have O8 := O.below d58
  have Z8 := Z.below d68
  have W78 := W7.below d78
  have d28 := b26.trans (d68.mono z26)
  clear X Y O Z W7 o3 o4 o5 o6 o7 o8 b24 b25 b26 d38 d48 d58 d68 d78 SC SO RB RO b3 b4 b5 b6 b7 b8
  have SE := fun (ww : World) (a b : Option Addr) (c d : Nat) (h1 : PHolds ww a N ps) (h2 : PHolds ww b N ps) => samePieces_eq a b N c d ps ww h1 h2 (by omega)
  have SE' := fun (ww : World) (a b : Option Addr) (c d : Nat) (h1 : PHolds ww a N' ps') (h2 : PHolds ww b N' ps') => samePieces_eq a b N' c d ps' ww h1 h2 (by omega)
  have t1 := SE w8 a3 a7 c3 c7 X8.own.holds W78.own.holds
  go_upto_region 13 with (first
    | (go_at_call 17; refine t1.mono ?_; rintro e w9 ⟨rfl, b9⟩; clear t1; have t2 := SE w9 a4 a7 c4 c7 (Y8.below b9).own.holds (W78.below b9).own.holds; have z9 := b9.size)
    | (go_at_call 17; refine t2.mono ?_; rintro e w10 ⟨rfl, b10⟩; clear t2; have d10 := b9.trans (b10.mono z9); have z10 := d10.size; have t3 := SE w10 a6 a7 c6 c7 (Z8.below d10).own.holds (W78.below d10).own.holds)
    | (go_at_call 17; refine t3.mono ?_; rintro e w11 ⟨rfl, b11⟩; clear t3; have d11 := d10.trans (b11.mono z10); have z11 := d11.size; have t4 := SE' w11 a5 a8 c5 c8 (O8.below d11).own.holds (W8.below d11).own.holds)
    | (go_at_call 17; refine t4.mono ?_; rintro e w12 ⟨rfl, b12⟩; clear t4; have d12 := d11.trans (b12.mono z11); have z12 := d12.size))
  have X12 := X8.below d12
  have Y12 := Y8.below d12
  have O12 := O8.below d12
  have Z12 := Z8.below d12
  have d2 := d28.trans (d12.mono d28.size)
  have BK := back_any w1.heap.size n ad cap K w1 w12 (h.below b1) (b2.trans (d2.mono b2.size)) (Nat.le_refl _) (hR2.below d2) hn
  have B12 := B2.trans (d2.mono z2)
  clear X8 Y8 O8 Z8 W78 W8 SE SE' b9 b10 b11 b12 d10 d11 d12 d28
  go_wp2_with (first
    | (go_at_call 10; refine BK.mono ?_; rintro e w13 ⟨rfl, hR13, u13⟩; have hF13 := hR13.front n (by rw [overL_len, lentL_len]; omega); rw [hML] at hF13; have X13 := X12.upd u13 (fun k h1 h2 e => by omega); have Y13 := Y12.upd u13 (fun k h1 h2 e => by omega); have O13 := O12.upd u13 (fun k h1 h2 e => by omega); have Z13 := Z12.upd u13 (fun k h1 h2 e => by omega); have z13 := u13.size; have B13 : Below w.heap.size w w13 := B12.trans (u13.below (by have := B12.size; omega) (fun k hk e => by have := b1.size; omega)); clear u13 BK X12 Y12 O12 Z12; have O1 := Ow.fresh B13; have A1 := O1.own; have hF7 := hF13.alloc (.cells #[] 5))
    | (at_builtin; refine wpList_app _ rfl _ _ 23 23 rfl w.heap.size 5 i0 (.int .u8 0) 1 Try.underlying23 hi hz0 hz1 hz2 rfl _ _ _ rfl A1 _ n (ML.map (Value.int .u8)) rfl (hF7.src (n + 40)) ?a1 ?a2 ?a3 ?_))
  case a1 => unfold maxLen; simp; omega
  case a2 => simp; omega
  case a3 => exact O1.below.size
  intro v14 w14 ho hg hmv
  have O2 := O1.grown (M := ML) (by simpa [hMl] using ho) hg
  have A2 := O2.own
  have hlt13 := lt_of_block hR13
  have u14 := grown_upd' hg
  have z14 := u14.size
  have hne14 : ∀ j, j < w13.heap.size → ¬ (Value.slice (some ⟨w13.heap.size, 0, none⟩) 0 0).ownBlock = some j := fun j hj e => by
    simp [Value.ownBlock] at e
    omega
  have hF14 : Holds w14 (some ⟨w1.heap.size, 0, none⟩) n ([] ++ ML) := by
    rw [List.nil_append]
    exact hF13.upd u14 (fun a ha => by cases ha; exact hne14 _ hlt13)
  have X14 := X13.upd u14 (fun k h1 h2 => hne14 k (by omega))
  have Y14 := Y13.upd u14 (fun k h1 h2 => hne14 k (by omega))
  have O14 := O13.upd u14 (fun k h1 h2 => hne14 k (by omega))
  have Z14 := Z13.upd u14 (fun k h1 h2 => hne14 k (by omega))
  obtain ⟨ao, lo, co, rfl⟩ := row_shape A2
  have H14 := Holds.ofRow A2
  have B14 := O2.below
  have hlo : lo = n := by obtain ⟨e1, _⟩ := own_cap A2; simp at e1; omega
  have hco : lo ≤ co := by obtain ⟨e1, e2, _⟩ := own_cap A2; omega
  have hbML : ByteL ([] ++ ML) := by rw [List.nil_append]; exact hMb
  have s15 := scan_any _ n (n + 40) ([] ++ ML) w14 hF14 hbML (by omega) (by omega)
  have RW := fun (ww : World) (hh : Holds ww ao lo ([] ++ ML)) => refScan_any ao lo co ([] ++ ML) ww hh hbML hco (by omega)
  have hfew2 := scanL_few ([] ++ ML)
  obtain ⟨N2, hN2⟩ : ∃ N, (scanL ([] ++ ML)).1.length = N := ⟨_, rfl⟩
  have hml2 : ([] ++ ML).length = n := by rw [List.nil_append]; exact hMl
  rcases hsc : scanL ([] ++ ML) with ⟨ps2, at3, er3⟩
  rw [hsc] at hN2 hfew2
  simp only [hsc] at s15 RW
  have HN2 : Hid (ps2.length = N2) := hN2
  have hNb2 : N2 ≤ 5864062014805 := by simp only at hN2 hfew2; omega
  clear hsc hN2 hfew2 hml2 ho hg hmv A1 O1 O2 A2 hF7 u14 hne14 X13 Y13 O13 Z13 B13 hML hMl hMb hlo
  have zB14 := B14.size
  go_wp2_with (first
    | (go_at_call 15; refine s15.mono ?_; rintro e w15 ⟨v15, rfl, o15, b15⟩; obtain ⟨a15, l15, c15, rfl⟩ := row_shape o15; obtain rfl : N2 = l15 := (by have h1 := (own_cap o15).1; have h2 := HN2.out; omega); clear s15; have V15 := OwnP.lst o15 zB14; have z15 := b15.size; have s16 := RW w15 (H14.below b15))
    | (go_at_call 16; refine s16.mono ?_; rintro e w16 ⟨v16, rfl, o16, b16⟩; obtain ⟨a16, l16, c16, rfl⟩ := row_shape o16; obtain rfl : N2 = l16 := (by have h1 := (own_cap o16).1; have h2 := HN2.out; omega); clear s16; have z16 := b16.size; have s17 := samePieces_eq a15 a16 N2 c15 c16 ps2 w16 (V15.below b16).own.holds (OwnP.holds o16) (by omega))
    | (go_at_call 17; refine s17.mono ?_; rintro e w17 ⟨rfl, b17⟩; clear s17; have d17 := b16.trans (b17.mono z16); have z17 := d17.size; have D17 := b15.trans (d17.mono z15); have B17 := B14.trans (D17.mono zB14); have zB17 := B17.size))
  have a18 : Below w17.heap.size w17 (w17.alloc (.cells #[Value.slice a3 N c3, Value.slice a4 N c4, Value.slice a5 N' c5, Value.slice a6 N c6, Value.slice a15 N2 c15] 44)) := (Below.refl _ _).alloc (Nat.le_refl _) _
  have X18 := (X14.below D17).below a18
  have Y18 := (Y14.below D17).below a18
  have O18 := (O14.below D17).below a18
  have Z18 := (Z14.below D17).below a18
  have V18 := (V15.below d17).below a18
  have hc18 := heap_alloc_new w17 (.cells #[Value.slice a3 N c3, Value.slice a4 N c4, Value.slice a5 N' c5, Value.slice a6 N c6, Value.slice a15 N2 c15] 44)
  have B18 := B17.trans (a18.mono zB17)
  have R : ∀ j (hj : j < [Value.slice a3 N c3, Value.slice a4 N c4, Value.slice a5 N' c5, Value.slice a6 N c6, Value.slice a15 N2 c15].length) k, ([Value.slice a3 N c3, Value.slice a4 N c4, Value.slice a5 N' c5, Value.slice a6 N c6, Value.slice a15 N2 c15][j]).ownBlock = some k →
      (j = 0 ∧ w2.heap.size ≤ k ∧ k < w3.heap.size) ∨ (j = 1 ∧ w3.heap.size ≤ k ∧ k < w4.heap.size) ∨ (j = 2 ∧ w4.heap.size ≤ k ∧ k < w5.heap.size) ∨ (j = 3 ∧ w5.heap.size ≤ k ∧ k < w6.heap.size) ∨ (j = 4 ∧ w14.heap.size ≤ k ∧ k < w15.heap.size) := by
    intro j hj k hk
    simp only [List.length_cons, List.length_nil] at hj
    match j, hj, hk with
    | 0, _, hk => have := X18.range k hk; omega
    | 1, _, hk => have := Y18.range k hk; omega
    | 2, _, hk => have := O18.range k hk; omega
    | 3, _, hk => have := Z18.range k hk; omega
    | 4, _, hk => have := V18.range k hk; omega
  have PC := pieces_any w.heap.size w17.heap.size [Value.slice a3 N c3, Value.slice a4 N c4, Value.slice a5 N' c5, Value.slice a6 N c6, Value.slice a15 N2 c15] _ ⟨Below.refl _ _, hc18, fun j hj => by
      simp only [List.length_cons, List.length_nil] at hj
      match j, hj with
      | 0, _ => exact X18.row (by rw [HN.out]; exact hNb) 0
      | 1, _ => exact Y18.row (by rw [HN.out]; exact hNb) 1
      | 2, _ => exact O18.row (by rw [HN'.out]; exact hNb') 2
      | 3, _ => exact Z18.row (by rw [HN.out]; exact hNb) 3
      | 4, _ => exact V18.row (by rw [HN2.out]; exact hNb2) 4⟩ B18.size (fun a b ha hb hne k hk hk' => by
      have h1 := R a ha k hk
      have h2 := R b hb k hk'
      omega) (by simp) 5 rfl
  clear R X14 Y14 O14 Z14 V15 X18 Y18 O18 Z18 V18 hc18 D17 d17
  refine PC.mono ?_
  rintro e w19 ⟨rfl, b19⟩
  have B19 : Below w.heap.size w w19 := B18.trans b19
  clear PC b19 B18
  go_wp2
  go_ret
  exact ⟨rfl, B19⟩
end Go.Proofs.Ytigpmmhofncgpaa
