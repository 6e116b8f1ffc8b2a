/-
  Xo.
-/
import Derived.Test.YthcghpbkadlliabGreatDoorMa19
import Derived.Test.YthcghpbkadlliabGreatDoorMa16
import Derived.Test.YthcghpbkadlliabGreatDoorZg
namespace Go.Proofs.YthcghpbkadlliabGreatDoor
open Go.Shelf Go.RowKit Go.Maps Go.WideMaps
set_option maxRecDepth 100000

/-- A list of spans, thirteen cells each. -/
structure SpsAt (w : World) (ad : Option Addr) (n : Nat) (X : List Sp) (P : Nat → Pl) : Prop where
  len : X.length = n
  lies : 0 < n → ∃ b off, ad = some ⟨b, off, none⟩ ∧ ∀ i (_ : i < X.length) (j : Nat) (u : Value), (spC X[i] (P i))[j]? = some u → w.cell? ⟨b, off + i * 13 + j, none⟩ = some u
  each : ∀ i (_ : i < X.length), SpAt w X[i] (P i)
theorem SpsAt.below {w w' : World} {ad : Option Addr} {n : Nat} {X : List Sp} {P : Nat → Pl} (h : SpsAt w ad n X P) (hb : Below w.heap.size w w') : SpsAt w' ad n X P := by
  refine ⟨h.len, fun hp => ?_, fun i hi => (h.each i hi).below hb⟩
  obtain ⟨b, off, ha, hc⟩ := h.lies hp
  refine ⟨b, off, ha, fun i hi j u hu => ?_⟩
  have h1 := hc i hi j u hu
  exact (hb.cell (p := ⟨b, _, none⟩) (World.block_lt_of_cell? w _ h1)).trans h1
theorem spanE_start (a : Sp) (st : Est) : (spanE a st).start = a.start := by
  have iter : ∀ {α : Type} (f : List α → α → Est → Est) (hf : ∀ acc v st, (f acc v st).start = st.start) (l acc : List α) (st : Est), (iterE f acc l st).start = st.start := by
    intro α f hf l
    induction l with
    | nil => intro acc st; rfl
    | cons v r ih => intro acc st; show (iterE f (acc ++ [v]) r (f acc v st)).start = _; rw [ih, hf]
  have e1 : ∀ l st, (linksE l st).start = st.start := fun l st => iter linkE1 (fun _ _ _ => rfl) l [] _
  have e2 : ∀ l st, (eventsE l st).start = st.start := fun l st => iter eventE1 (fun _ _ _ => rfl) l [] _
  have e3 : ∀ l st, (attrsE l st).start = st.start := fun l st => iter (fun _ => attrE1) (fun _ v st => by unfold attrE1 valueE; split; rfl; split <;> rfl) l [] _
  unfold spanE
  rw [e2, e3, e1]; rfl
theorem spans_start (X : List Sp) (h : ∀ a ∈ X, SpanQ a) (k : Nat) : 0 ≤ (iterE (fun _ => spanE) [] (X.take k) e0).start ∧ (iterE (fun _ => spanE) [] (X.take k) e0).start ≤ 4611686018427387904 := by
  cases k with
  | zero => simp [iterE, e0]
  | succ k =>
    by_cases hk : k < X.length
    · rw [iter_snoc (fun _ => spanE) X k hk, spanE_start]; exact (h _ (List.getElem_mem hk)).start
    · rw [List.take_of_length_le (by omega)]
      rcases Nat.eq_zero_or_pos X.length with h0 | hp
      · have : X = [] := List.eq_nil_of_length_eq_zero h0
        subst this; simp [iterE, e0]
      · have e : X = X.take (X.length - 1 + 1) := by rw [List.take_of_length_le (by omega)]
        rw [e, iter_snoc (fun _ => spanE) X (X.length - 1) (by omega), spanE_start]; exact (h _ (List.getElem_mem _)).start
theorem newW_any (base : Nat) (w : World) : Calls Tryz.prog 20 #[] w fun e w' => e = .returned (.pointer (some ⟨w.heap.size, 0, none⟩)) ∧ IsW base w' w.heap.size (.slice none 0 0) [] ∧ w.heap.size < w'.heap.size ∧ Below w.heap.size w w' :=
  (newWriter_any base w).mono fun _ w' ⟨he, hW, hw⟩ => ⟨he, hW, by rw [hw]; simp, by rw [hw]; exact (Below.refl _ _).alloc (Nat.le_refl _) _⟩
theorem laid_many (ad : Option Addr) (n cp : Nat) (w : World) (hn : 500 < n) :
    Calls Tryz.prog 12 #[.slice ad n cp] w fun e w' => Ups w' 500 53 e ∧ Below w.heap.size w w' := by
  have h1 : (500 : Int) < (n : Int) := by omega
  go_enter Tryz.func12, Tryz.ntmps12
  go_wp2_with (go_at_call 18; refine (giveUp_any _ _ _).mono ?_; rintro e w' ⟨⟨q, p, rfl, hG⟩, hb⟩)
  exact ⟨rfl, ⟨q, p, rfl, hG⟩, hb⟩
set_option maxHeartbeats 4000000 in
theorem laid_bad (ad : Option Addr) (cp : Nat) (X : List Sp) (P : Nat → Pl) (i : Nat) (w : World) (hX : SpsAt w ad X.length X P) (hS : ∀ a ∈ X, a.Small) (hT : Tabs w) (hn : X.length ≤ 500) (hi : i < X.length) (h0 : ∀ j (hj : j < i), chkS (X[j]'(by omega)) = 0) (hc : chkS X[i] ≠ 0) :
    Calls Tryz.prog 12 #[.slice ad X.length cp] w fun e w' => Ups w' i (chkS X[i]) e ∧ Below w.heap.size w w' := by
  have HX : Hid (SpsAt w ad X.length X P) := hX
  have HS : Hid (∀ k (hk : k < X.length), X[k].Small) := fun k hk => hS _ (List.getElem_mem hk)
  have H0 : Hid (∀ j (hj : j < i), chkS (X[j]'(by omega)) = 0) := h0
  have hiN := hi
  obtain ⟨ce, hce⟩ : ∃ ce, chkS X[i] = ce := ⟨_, rfl⟩
  have HC : Hid (chkS X[i] = ce) := hce
  rw [hce] at hc ⊢
  clear hce h0
  obtain ⟨N, hN⟩ : ∃ N, X.length = N := ⟨_, rfl⟩
  rw [hN] at hn HX hiN ⊢
  have HN : Hid (X.length = N) := hN
  have h1 : ¬ (500 : Int) < (N : Int) := by omega
  clear hN hX hS
  go_enter Tryz.func12, Tryz.ntmps12
  go_wp2
  go_loopw [16] (fun b wr => ∃ k : Nat, b = .int .i64 k ∧ k ≤ i ∧ Below w.heap.size w wr) (fun b _ => N - (intOf b).toNat)
  case atStart => exact ⟨0, rfl, by omega, Below.refl _ _⟩
  case round =>
    obtain ⟨k, rfl, hk, hb⟩ := hrel
    have hNN := HN.out
    by_cases hlt : k < i
    · obtain ⟨b1, o1, rfl, hc1⟩ := (HX.out.below hb).lies (by omega)
      have hat := (HX.out.below hb).each k (by omega)
      have hsm := HS.out k (by omega)
      obtain ⟨a, ha⟩ : ∃ a, X[k] = a := ⟨_, rfl⟩
      obtain ⟨p, hp⟩ : ∃ p, P k = p := ⟨_, rfl⟩
      rw [ha, hp] at hat
      rw [ha] at hsm
      have hcx : ∀ j u, (spC a p)[j]? = some u → wr.cell? ⟨b1, o1 + k * 13 + j, none⟩ = some u := fun j u hu => hc1 k (by omega) j u (by rw [ha, hp]; exact hu)
      have g0 : wr.cell? ⟨b1, o1 + k * 13, none⟩ = some (.int .u64 a.hi) := hcx 0 _ rfl
      have g1 := hcx 1 _ rfl
      have g2 := hcx 2 _ rfl
      have g3 := hcx 3 _ rfl
      have g4 := hcx 4 _ rfl
      have g5 := hcx 5 _ rfl
      have g6 := hcx 6 _ rfl
      have g7 := hcx 7 _ rfl
      have g8 := hcx 8 _ rfl
      have g9 := hcx 9 _ rfl
      have g10 := hcx 10 _ rfl
      have g11 := hcx 11 _ rfl
      have g12 := hcx 12 _ rfl
      have hba : Below wr.heap.size wr (wr.alloc (.cells (spC a p) 41)) := (Below.refl _ _).alloc (Nat.le_refl _) _
      have hTw : Tabs (wr.alloc (.cells (spC a p) 41)) := hT.below (hb.trans (hba.mono hb.size))
      have X0 := heap_alloc_new wr (.cells (spC a p) 41)
      have bx0 := blk_cell X0 0 rfl
      have bx1 := blk_cell X0 1 rfl
      have bx2 := blk_cell X0 2 rfl
      have bx3 := blk_cell X0 3 rfl
      have bx4 := blk_cell X0 4 rfl
      have bx5 := blk_cell X0 5 rfl
      have bx6 := blk_cell X0 6 rfl
      have bx7 := blk_cell X0 7 rfl
      have bx8 := blk_cell X0 8 rfl
      have bx9 := blk_cell X0 9 rfl
      have bx10 := blk_cell X0 10 rfl
      have bx11 := blk_cell X0 11 rfl
      have bx12 := blk_cell X0 12 rfl
      have CK := check_any a p _ (hat.below hba) hsm hTw
      have lb1 : b1 < wr.heap.size := World.block_lt_of_cell? wr _ g0
      clear hc1 hcx hat hsm
      rw [(show chkS a = 0 by rw [← ha]; exact H0.out k hlt)] at CK
      unfold spV at CK
      unfold spC at *
      clear ha hp hNN
      have hki : (k : Int) < (N : Int) := by omega
      go_wp2_with (first
        | (go_at_call 19; refine CK.mono ?_; clear CK; rintro e w2 ⟨rfl, b2⟩))
      go_roundw
      case rel => exact ⟨k + 1, by go_num, by omega, hb.trans ((hba.mono hb.size).trans (b2.mono (by have := hb.size; have := hba.size; omega)))⟩
      case measure => simp [intOf]; omega
    · obtain rfl : k = i := by omega
      obtain ⟨b1, o1, rfl, hc1⟩ := (HX.out.below hb).lies (by omega)
      have hat := (HX.out.below hb).each k (by omega)
      have hsm := HS.out k (by omega)
      obtain ⟨a, ha⟩ : ∃ a, X[k] = a := ⟨_, rfl⟩
      obtain ⟨p, hp⟩ : ∃ p, P k = p := ⟨_, rfl⟩
      rw [ha, hp] at hat
      rw [ha] at hsm
      have hcx : ∀ j u, (spC a p)[j]? = some u → wr.cell? ⟨b1, o1 + k * 13 + j, none⟩ = some u := fun j u hu => hc1 k (by omega) j u (by rw [ha, hp]; exact hu)
      have g0 : wr.cell? ⟨b1, o1 + k * 13, none⟩ = some (.int .u64 a.hi) := hcx 0 _ rfl
      have g1 := hcx 1 _ rfl
      have g2 := hcx 2 _ rfl
      have g3 := hcx 3 _ rfl
      have g4 := hcx 4 _ rfl
      have g5 := hcx 5 _ rfl
      have g6 := hcx 6 _ rfl
      have g7 := hcx 7 _ rfl
      have g8 := hcx 8 _ rfl
      have g9 := hcx 9 _ rfl
      have g10 := hcx 10 _ rfl
      have g11 := hcx 11 _ rfl
      have g12 := hcx 12 _ rfl
      have hba : Below wr.heap.size wr (wr.alloc (.cells (spC a p) 41)) := (Below.refl _ _).alloc (Nat.le_refl _) _
      have hTw : Tabs (wr.alloc (.cells (spC a p) 41)) := hT.below (hb.trans (hba.mono hb.size))
      have X0 := heap_alloc_new wr (.cells (spC a p) 41)
      have bx0 := blk_cell X0 0 rfl
      have bx1 := blk_cell X0 1 rfl
      have bx2 := blk_cell X0 2 rfl
      have bx3 := blk_cell X0 3 rfl
      have bx4 := blk_cell X0 4 rfl
      have bx5 := blk_cell X0 5 rfl
      have bx6 := blk_cell X0 6 rfl
      have bx7 := blk_cell X0 7 rfl
      have bx8 := blk_cell X0 8 rfl
      have bx9 := blk_cell X0 9 rfl
      have bx10 := blk_cell X0 10 rfl
      have bx11 := blk_cell X0 11 rfl
      have bx12 := blk_cell X0 12 rfl
      have CK := check_any a p _ (hat.below hba) hsm hTw
      have lb1 : b1 < wr.heap.size := World.block_lt_of_cell? wr _ g0
      clear hc1 hcx hat hsm
      rw [show chkS a = ce by rw [← ha]; exact HC.out] at CK
      unfold spV at CK
      unfold spC at *
      have hc1 : (ce != 0) = true := by simpa using hc
      clear ha hp hNN hlt
      have hki : (k : Int) < (N : Int) := by omega
      go_wp2_with (first
        | (go_at_call 19; refine CK.mono ?_; clear CK; rintro e w2 ⟨rfl, b2⟩)
        | (go_at_call 18; refine (giveUp_any _ _ _).mono ?_; rintro e w3 ⟨⟨q, p', rfl, hG⟩, b3⟩))
      exact ⟨rfl, ⟨q, p', rfl, hG⟩, hb.trans ((hba.mono hb.size).trans ((b2.mono (by have := hb.size; have := hba.size; omega)).trans (b3.mono (by have := hb.size; have := hba.size; have := b2.size; omega))))⟩

set_option maxHeartbeats 8000000 in
theorem laid_rest (ad : Option Addr) (cp : Nat) (X : List Sp) (P : Nat → Pl) (w : World) (hX : SpsAt w ad X.length X P) (hS : ∀ a ∈ X, a.Small) (hT : Tabs w) (hn : X.length ≤ 500) (hF : ∀ a ∈ X, a.Fits) (hc : ∀ a ∈ X, chkS a = 0) :
    Calls Tryz.prog 12 #[.slice ad X.length cp] w fun e w' => (if 65536 < (encB X).length then Ups w' 0 51 e else ∃ q, e = .returned (.slice (some ⟨q, 0, none⟩) (encB X).length (encB X).length) ∧ RowAt w' q (encB X) ∧ w.heap.size ≤ q) ∧ Below w.heap.size w w' := by
  have HX : Hid (SpsAt w ad X.length X P) := hX
  have HS : Hid (∀ k (hk : k < X.length), X[k].Small) := fun k hk => hS _ (List.getElem_mem hk)
  have HC : Hid (∀ k (hk : k < X.length), chkS X[k] = 0) := fun k hk => hc _ (List.getElem_mem hk)
  have HF : Hid (∀ k (hk : k < X.length), X[k].Fits) := fun k hk => hF _ (List.getElem_mem hk)
  have HQ : Hid (∀ a ∈ X, SpanQ a ∧ SpanT a) := fun a ha => span_can (hF a ha) (hc a ha)
  have HE : Hid (encB X = wholeE (iterE (fun _ => spanE) [] X e0) X.length) := rfl
  generalize encB X = K at HE ⊢
  obtain ⟨KL, hKL⟩ : ∃ l, K.length = l := ⟨_, rfl⟩
  rw [hKL]
  have HKL : Hid (K.length = KL) := hKL
  clear hF hc hKL
  obtain ⟨N, hN⟩ : ∃ N, X.length = N := ⟨_, rfl⟩
  rw [hN] at hn HX ⊢
  have HN : Hid (X.length = N) := hN
  have h1 : ¬ (500 : Int) < (N : Int) := by omega
  clear hN hX hS
  go_enter Tryz.func12, Tryz.ntmps12
  go_wp2
  go_loopw [16] (fun b wr => ∃ k : Nat, b = .int .i64 k ∧ k ≤ N ∧ Below w.heap.size w wr) (fun b _ => N - (intOf b).toNat)
  case atStart => exact ⟨0, rfl, by omega, Below.refl _ _⟩
  case round =>
    obtain ⟨k, rfl, hk, hb⟩ := hrel
    have hNN := HN.out
    by_cases hlt : k < N
    · obtain ⟨b1, o1, rfl, hc1⟩ := (HX.out.below hb).lies (by omega)
      have hat := (HX.out.below hb).each k (by omega)
      have hsm := HS.out k (by omega)
      obtain ⟨a, ha⟩ : ∃ a, X[k] = a := ⟨_, rfl⟩
      obtain ⟨p, hp⟩ : ∃ p, P k = p := ⟨_, rfl⟩
      rw [ha, hp] at hat
      rw [ha] at hsm
      have hcx : ∀ j u, (spC a p)[j]? = some u → wr.cell? ⟨b1, o1 + k * 13 + j, none⟩ = some u := fun j u hu => hc1 k (by omega) j u (by rw [ha, hp]; exact hu)
      have g0 : wr.cell? ⟨b1, o1 + k * 13, none⟩ = some (.int .u64 a.hi) := hcx 0 _ rfl
      have g1 := hcx 1 _ rfl
      have g2 := hcx 2 _ rfl
      have g3 := hcx 3 _ rfl
      have g4 := hcx 4 _ rfl
      have g5 := hcx 5 _ rfl
      have g6 := hcx 6 _ rfl
      have g7 := hcx 7 _ rfl
      have g8 := hcx 8 _ rfl
      have g9 := hcx 9 _ rfl
      have g10 := hcx 10 _ rfl
      have g11 := hcx 11 _ rfl
      have g12 := hcx 12 _ rfl
      have hba : Below wr.heap.size wr (wr.alloc (.cells (spC a p) 41)) := (Below.refl _ _).alloc (Nat.le_refl _) _
      have hTw : Tabs (wr.alloc (.cells (spC a p) 41)) := hT.below (hb.trans (hba.mono hb.size))
      have X0 := heap_alloc_new wr (.cells (spC a p) 41)
      have bx0 := blk_cell X0 0 rfl
      have bx1 := blk_cell X0 1 rfl
      have bx2 := blk_cell X0 2 rfl
      have bx3 := blk_cell X0 3 rfl
      have bx4 := blk_cell X0 4 rfl
      have bx5 := blk_cell X0 5 rfl
      have bx6 := blk_cell X0 6 rfl
      have bx7 := blk_cell X0 7 rfl
      have bx8 := blk_cell X0 8 rfl
      have bx9 := blk_cell X0 9 rfl
      have bx10 := blk_cell X0 10 rfl
      have bx11 := blk_cell X0 11 rfl
      have bx12 := blk_cell X0 12 rfl
      have CK := check_any a p _ (hat.below hba) hsm hTw
      have lb1 : b1 < wr.heap.size := World.block_lt_of_cell? wr _ g0
      clear hc1 hcx hat hsm
      rw [(show chkS a = 0 by rw [← ha]; exact HC.out k (by omega))] at CK
      unfold spV at CK
      unfold spC at *
      clear ha hp hNN
      have hki : (k : Int) < (N : Int) := by omega
      go_wp2_with (first
        | (go_at_call 19; refine CK.mono ?_; clear CK; rintro e w2 ⟨rfl, b2⟩))
      go_roundw
      case rel => exact ⟨k + 1, by go_num, by omega, hb.trans ((hba.mono hb.size).trans (b2.mono (by have := hb.size; have := hba.size; omega)))⟩
      case measure => simp [intOf]; omega
    · obtain rfl : k = N := by omega
      have hwz := hb.size
      have T1 := fun w' => newW_any w.heap.size w'
      have T2 := fun w' => newTabS_any w.heap.size w'
      have T3 := fun w' => newTabR_any w.heap.size w'
      have HQ1 : Hid (∀ a ∈ X, SpanQ a) := fun a ha => (HQ.out a ha).1
      have HEI : Hid (EInv (iterE (fun _ => spanE) [] X e0)) := spans_inv X (fun a ha => (HQ.out a ha).2)
      clear hlt
      go_wp2_with (first
        | (go_at_call 20; refine (T1 _).mono ?_; clear T1; rintro e w2 ⟨rfl, h2, z2, b2⟩)
        | (go_at_call 21; refine (T2 _).mono ?_; clear T2; rintro e w3 ⟨rfl, h3, b3⟩; have z3 := b3.size; have l3 := h3.mp.lt; have k3 := lt_of_block h3.block)
        | (go_at_call 22; refine (T3 _).mono ?_; clear T3; rintro e w4 ⟨rfl, h4, b4⟩; have z4 := b4.size; have l4 := h4.mp.lt; have k4 := lt_of_block h4.block))
      obtain ⟨m1, hm1⟩ : ∃ m, w2.heap.size = m := ⟨_, rfl⟩
      obtain ⟨m2, hm2⟩ : ∃ m, w3.heap.size = m := ⟨_, rfl⟩
      obtain ⟨FF, hFF⟩ : ∃ m, w4.heap.size = m := ⟨_, rfl⟩
      rw [hm1] at h3 k3 l3 ⊢
      rw [hm2] at h4 k4 l4 ⊢
      have bx : Below w4.heap.size w4 (w4.alloc (.cells #[.pointer (some ⟨wr.heap.size, 0, none⟩), .pointer (some ⟨m1 + 1, 0, none⟩), .pointer (some ⟨m2 + 1, 0, none⟩), .int .i64 0] 71)) := (Below.refl _ _).alloc (Nat.le_refl _) _
      have X5 := heap_alloc_new w4 (.cells #[.pointer (some ⟨wr.heap.size, 0, none⟩), .pointer (some ⟨m1 + 1, 0, none⟩), .pointer (some ⟨m2 + 1, 0, none⟩), .int .i64 0] 71)
      obtain ⟨w5, hw5⟩ : ∃ w5, w4.alloc (.cells #[.pointer (some ⟨wr.heap.size, 0, none⟩), .pointer (some ⟨m1 + 1, 0, none⟩), .pointer (some ⟨m2 + 1, 0, none⟩), .int .i64 0] 71) = w5 := ⟨_, rfl⟩
      rw [hw5] at bx X5 ⊢
      have z5 : w5.heap.size = FF + 1 := by rw [← hw5, ← hFF]; simp
      clear hw5
      rw [hFF] at X5 bx ⊢
      have up3 : Upd (fun _ => False) w3 w5 := (Upd.ofBelow (S := fun _ => False) (B := w3.heap.size) b4 (fun k hk hk' => by omega)).trans (Upd.ofBelow (S := fun _ => False) (B := FF) bx (fun k hk hk' => by omega)) (fun _ _ h => h)
      have up2 : Upd (fun _ => False) w2 w5 := (Upd.ofBelow (S := fun _ => False) (B := w2.heap.size) b3 (fun k hk hk' => by omega)).trans up3 (fun _ _ h => h)
      have up4 : Upd (fun _ => False) w4 w5 := Upd.ofBelow (S := fun _ => False) (B := FF) bx (fun k hk hk' => by omega)
      have FW5 : FW ⟨w.heap.size, FF, wr.heap.size, m1 + 1, m1, m2 + 1, m2⟩ w5 e0 0 := ⟨X5, ⟨_, h2.upd up2 (fun h => h) (fun _ _ h => h)⟩, ⟨_, h3.upd up3 (fun h => h) (fun h => h) (fun _ _ h => h)⟩, ⟨_, h4.upd up4 (fun h => h) (fun h => h) (fun _ _ h => h)⟩, by show m1 ≠ m2; omega, by simp [e0], by show w.heap.size ≤ _; omega, by show w.heap.size ≤ FF; omega, by show w.heap.size ≤ wr.heap.size; omega, ⟨by show w.heap.size ≤ m1 + 1; omega, by show w.heap.size ≤ m1; omega⟩, ⟨by show w.heap.size ≤ m2 + 1; omega, by show w.heap.size ≤ m2; omega⟩⟩
      have bw5 : Below w.heap.size w w5 := hb.trans (((b2.mono hwz).trans ((b3.mono (by omega)).trans ((b4.mono (by omega)).trans (bx.mono (by omega))))))
      obtain ⟨c, hc⟩ : ∃ c : Fc, (⟨w.heap.size, FF, wr.heap.size, m1 + 1, m1, m2 + 1, m2⟩ : Fc) = c := ⟨_, rfl⟩
      have hcF : c.F = FF := by rw [← hc]
      have hcb : c.base = w.heap.size := by rw [← hc]
      rw [hc] at FW5
      rw [← hcF]
      clear h2 h3 h4 b2 b3 b4 bx X5 up2 up3 up4 hc z2 z3 z4 z5 hm1 hm2 hFF l3 l4 k3 k4 hcF
      go_wp2
      go_loopw [36] (fun b wq => ∃ j : Nat, b = .int .i64 j ∧ j ≤ k ∧ FW c wq (iterE (fun _ => spanE) [] (X.take j) e0) (3000 * j) ∧ Below w.heap.size w wq) (fun b _ => k - (intOf b).toNat)
      case atStart => exact ⟨0, rfl, by omega, by simpa [iterE] using FW5, bw5⟩
      case round =>
        obtain ⟨j, rfl, hj, hW, hbq⟩ := hrel
        clear FW5 bw5
        have hNN := HN.out
        by_cases hlt : j < k
        · obtain ⟨b1, o1, rfl, hc1⟩ := (HX.out.below hbq).lies (by omega)
          obtain ⟨a, ha⟩ : ∃ a, X[j] = a := ⟨_, rfl⟩
          obtain ⟨p, hp⟩ : ∃ p, P j = p := ⟨_, rfl⟩
          have hcx : ∀ i u, (spC a p)[i]? = some u → wr.cell? ⟨b1, o1 + j * 13 + i, none⟩ = some u := fun i u hu => hc1 j (by omega) i u (by rw [ha, hp]; exact hu)
          have g0 : wr.cell? ⟨b1, o1 + j * 13, none⟩ = some (.int .u64 a.hi) := hcx 0 _ rfl
          have g1 := hcx 1 _ rfl
          have g2 := hcx 2 _ rfl
          have g3 := hcx 3 _ rfl
          have g4 := hcx 4 _ rfl
          have g5 := hcx 5 _ rfl
          have g6 := hcx 6 _ rfl
          have g7 := hcx 7 _ rfl
          have g8 := hcx 8 _ rfl
          have g9 := hcx 9 _ rfl
          have g10 := hcx 10 _ rfl
          have g11 := hcx 11 _ rfl
          have g12 := hcx 12 _ rfl
          have hba : Below wr.heap.size wr (wr.alloc (.cells (spC a p) 41)) := (Below.refl _ _).alloc (Nat.le_refl _) _
          have X0 := heap_alloc_new wr (.cells (spC a p) 41)
          have bx0 := blk_cell X0 0 rfl
          have bx1 := blk_cell X0 1 rfl
          have bx2 := blk_cell X0 2 rfl
          have bx3 := blk_cell X0 3 rfl
          have bx4 := blk_cell X0 4 rfl
          have bx5 := blk_cell X0 5 rfl
          have bx6 := blk_cell X0 6 rfl
          have bx7 := blk_cell X0 7 rfl
          have bx8 := blk_cell X0 8 rfl
          have bx9 := blk_cell X0 9 rfl
          have bx10 := blk_cell X0 10 rfl
          have bx11 := blk_cell X0 11 rfl
          have bx12 := blk_cell X0 12 rfl
          have hat := HX.out.each j (by omega)
          have hqa := HQ.out a (by rw [← ha]; exact List.getElem_mem _)
          have hfa := HF.out j (by omega)
          rw [ha, hp] at hat
          rw [ha] at hfa
          have HEV : ∀ x ∈ a.events, 0 ≤ x.moment ∧ x.moment ≤ 4611686018427387904 := fun x hx => by
            have := (chk_good (show chkS a = 0 by rw [← ha]; exact HC.out j (by omega))).event x hx; omega
          have SPN := fSpan_any c _ (3000 * j) a p w _ hat (hbq.trans (hba.mono hbq.size)) (Nat.le_of_eq hcb.symm) (hW.below hba) (by omega) hqa.1 hqa.2 hfa (spans_start X HQ1.out j) HEV
          have HS2 : Hid (iterE (fun _ => spanE) [] (X.take (j + 1)) e0 = spanE a (iterE (fun _ => spanE) [] (X.take j) e0)) := by show _ = _; rw [iter_snoc (fun _ => spanE) X j (by omega), ha]
          generalize spanE a (iterE (fun _ => spanE) [] (X.take j) e0) = st2 at SPN HS2
          unfold spV at SPN
          have lb1 : b1 < wr.heap.size := World.block_lt_of_cell? wr _ g0
          unfold spC at *
          clear ha hp hNN hc1 hcx hat hqa hfa HEV
          have hki : (j : Int) < (k : Int) := by omega
          go_wp2_with (go_at_call 23; refine SPN.mono ?_; clear SPN; rintro e w6 ⟨rfl, h6, x6⟩)
          go_roundw
          case rel => exact ⟨j + 1, by go_num, by omega, by rw [HS2.out]; exact h6.more (by omega), hbq.trans ((hba.mono hbq.size).trans (hcb ▸ x6.below))⟩
          case measure => simp [intOf]; omega
        · obtain rfl : j = k := by omega
          rw [List.take_of_length_le (by omega)] at hW
          have WH := whole_any c _ (3000 * j) j wr hW HEI.out (by omega) (by omega)
          have hEq := HE.out
          rw [HN.out] at hEq
          rw [← hEq] at WH
          have hzq := hbq.size
          clear hEq hW hlt hNN
          rw [HKL.out] at WH
          by_cases hlong : 65536 < KL
          · have hlI : (65536 : Int) < (KL : Int) := by omega
            go_wp2_with (first
              | (go_at_call 24; refine WH.mono ?_; clear WH; rintro e w7 ⟨q, rfl, r7, q7, b7⟩)
              | (go_at_call 18; refine (giveUp_any _ _ _).mono ?_; rintro e w8 ⟨⟨q8, p8, rfl, hG⟩, b8⟩))
            exact ⟨rfl, by first | exact ⟨q8, p8, rfl, hG⟩ | (rw [if_pos hlong]; exact ⟨q8, p8, rfl, hG⟩), hbq.trans ((b7.mono hzq).trans (b8.mono (by have := b7.size; omega)))⟩
          · have hlI : ¬ (65536 : Int) < (KL : Int) := by omega
            go_wp2_with (go_at_call 24; refine WH.mono ?_; clear WH; rintro e w7 ⟨q, rfl, r7, q7, b7⟩)
            go_ret
            exact ⟨by first | exact ⟨q, rfl, r7, by omega⟩ | (rw [if_neg hlong]; exact ⟨q, rfl, r7, by omega⟩), hbq.trans (b7.mono hzq)⟩
end Go.Proofs.YthcghpbkadlliabGreatDoor
