/-
  Contracts: Encode (written by gen_zj.py).
-/
import Derived.Test.YtioibllopidilaaDoorZi
import Derived.Test.YtioibllopidilaaDoorZg
namespace Go.Proofs.YtioibllopidilaaDoor
open Go.Shelf Go.RowKit
set_option maxRecDepth 100000

/-- Its numbers are of their types. -/
structure Sp.Fits (a : Sp) : Prop where
  hi : 0 ≤ a.hi ∧ a.hi < 18446744073709551616
  lo : 0 ≤ a.lo ∧ a.lo < 18446744073709551616
  id : 0 ≤ a.id ∧ a.id < 18446744073709551616
  par : 0 ≤ a.par ∧ a.par < 18446744073709551616
  links : ∀ x ∈ a.links, 0 ≤ x ∧ x < 18446744073709551616
  attrs : ∀ x ∈ a.attrs, -9223372036854775808 ≤ x.num ∧ x.num ≤ 9223372036854775807
/-- A span's bytes. -/
def encS (a : Sp) : List Int :=
  rawL a.hi ++ (rawL a.lo ++ (rawL a.id ++ (rawL a.par ++ (encN a.links.length ++ (catL rawL a.links ++ (textL a.svc ++ (textL a.op ++ (encN a.kind.toNat ++ (encN a.status.toNat ++ (encN a.start.toNat ++ (encN a.fin.toNat ++ ((encN a.attrs.length ++ catL attrL a.attrs) ++ (encN a.events.length ++ catL eventL a.events)))))))))))))
theorem plainB_ok {s : ByteArray} {m l : Int} (h : plainB s m l = true) : 1 ≤ s.size ∧ (s.size : Int) ≤ m ∧ Lib.validD s.data.toList = true := by
  simp only [plainB, Bool.and_eq_true, decide_eq_true_eq] at h
  exact ⟨h.1.1.1, h.1.1.2, h.1.2⟩
/-- What Check's word means. -/
structure Sp.Good (a : Sp) : Prop where
  id : ¬ (a.hi = 0 ∧ a.lo = 0) ∧ a.id ≠ 0
  start : 0 ≤ a.start ∧ a.start ≤ 4611686018427387904
  fin : 0 ≤ a.fin ∧ a.fin ≤ 4611686018427387904
  svc : 1 ≤ a.svc.size ∧ a.svc.size ≤ 60 ∧ Lib.validD a.svc.data.toList = true
  op : 1 ≤ a.op.size ∧ a.op.size ≤ 100 ∧ Lib.validD a.op.data.toList = true
  kind : 0 ≤ a.kind ∧ a.kind ≤ 4
  status : 0 ≤ a.status ∧ a.status ≤ 2
  links : a.links.length ≤ 16
  attrs : a.attrs.length ≤ 32
  attr : ∀ x ∈ a.attrs, 1 ≤ x.key.size ∧ x.key.size ≤ 40 ∧ x.text.size ≤ 200 ∧ 0 ≤ x.kind ∧ x.kind ≤ 2
  events : a.events.length ≤ 32
  event : ∀ x ∈ a.events, 1 ≤ x.name.size ∧ x.name.size ≤ 100 ∧ 0 ≤ x.moment ∧ x.moment ≤ 4611686018427387904
theorem chk_good {a : Sp} (h : chkS a = 0) : a.Good := by
  unfold chkS at h
  split at h
  · omega
  rename_i h1
  split at h
  · omega
  rename_i h2
  split at h
  · omega
  rename_i h3
  split at h
  · omega
  rename_i h4
  split at h
  · omega
  rename_i h5
  split at h
  · omega
  rename_i h6
  split at h
  · omega
  rename_i h7
  simp only [Bool.or_eq_true, decide_eq_true_eq, Bool.not_eq_true', not_or, Bool.not_eq_false] at h1 h2 h3 h4 h5 h6 h7
  obtain ⟨⟨m1, m2⟩, _⟩ := h2
  simp only [momB, Bool.and_eq_true, decide_eq_true_eq] at m1 m2
  obtain ⟨p1, p2⟩ := h3
  have q1 := plainB_ok p1
  have q2 := plainB_ok p2
  simp only [linksB, attrsB, eventsB, Bool.and_eq_true, decide_eq_true_eq, List.all_eq_true] at h5 h6 h7
  refine ⟨h1, m1, m2, ⟨q1.1, by omega, q1.2.2⟩, ⟨q2.1, by omega, q2.2.2⟩, by omega, by omega, h5.1.1, h6.1.1, fun x hx => ?_, h7.1.1, fun x hx => ?_⟩
  · have := h6.2 x hx
    simp only [attrB, Bool.and_eq_true, keyB, decide_eq_true_eq] at this
    obtain ⟨⟨⟨⟨k1, k2⟩, _⟩, _⟩, v1⟩ := this
    refine ⟨k1, k2, ?_⟩
    unfold valB at v1
    split at v1
    · simp only [Bool.and_eq_true, decide_eq_true_eq] at v1; omega
    · split at v1
      · simp only [decide_eq_true_eq] at v1; omega
      · split at v1
        · simp only [Bool.and_eq_true, decide_eq_true_eq] at v1; omega
        · simp at v1
  · have := h7.2 x hx
    simp only [eventB, Bool.and_eq_true, momB, decide_eq_true_eq] at this
    have q := plainB_ok this.2
    exact ⟨q.1, by omega, this.1⟩

theorem wbytes_any (B : Nat) (L : List Int) (c : Nat) (w : World) (h : WrC w B L c) (hc : c ≤ 100000) :
    Calls Tryd.prog 35 #[.pointer (some ⟨B, 0, none⟩)] w fun e w' => e = .returned (.slice (some ⟨w.heap.size, 0, none⟩) L.length L.length) ∧ RowAt w' w.heap.size L ∧ Below w.heap.size w w' := by
  obtain ⟨v, hv⟩ := h.row
  have := h.cap
  exact bytes_any B B v L w hv (by omega)
theorem encode_bad (a : Sp) (p : Pl) (w : World) (ha : SpAt w a p) (hs : a.Small) (hT : Tabs w) (hc : chkS a ≠ 0) :
    Calls Tryd.prog 15 #[spV a p] w fun e w' => e = .returned (.tuple #[.slice none 0 0, .int .i64 (chkS a)]) ∧ Below w.heap.size w w' := by
  have B1 : ∀ o : Obj, Below w.heap.size w (w.alloc o) := fun o => (Below.refl _ _).alloc (Nat.le_refl _) o
  have CK := fun o => check_any a p (w.alloc o) (ha.below (B1 o)) hs (hT.below (B1 o))
  unfold spV spC at CK
  unfold spV spC
  generalize chkS a = c at CK hc ⊢
  have hc' : (c != 0) = true := by simpa using hc
  clear ha hs hT hc
  go_enter Tryd.func15, Tryd.ntmps15
  go_wp2_with (go_at_call 13; refine (CK _).mono ?_; rintro e w' ⟨rfl, hb⟩; have hB := (B1 _).trans (hb.mono (B1 _).size))
  go_ret2
  exact ⟨rfl, hB⟩

set_option maxHeartbeats 4000000 in
theorem encode_ok (a : Sp) (p : Pl) (w : World) (ha : SpAt w a p) (hs : a.Small) (hf : a.Fits) (hT : Tabs w) (hc : chkS a = 0) :
    Calls Tryd.prog 15 #[spV a p] w fun e w' => ∃ q, e = .returned (.tuple #[.slice (some ⟨q, 0, none⟩) (encS a).length (encS a).length, .int .i64 0]) ∧ RowAt w' q (encS a) ∧ w.heap.size ≤ q ∧ Below w.heap.size w w' := by
  have hG := chk_good hc
  have B1 : ∀ o : Obj, Below w.heap.size w (w.alloc o) := fun o => (Below.refl _ _).alloc (Nat.le_refl _) o
  have CK := fun o => check_any a p (w.alloc o) (ha.below (B1 o)) hs (hT.below (B1 o))
  have NB := heap_alloc_new w (.cells (spC a p) 33)
  rw [hc] at CK
  obtain ⟨E, hE⟩ : ∃ E, encS a = E := ⟨_, rfl⟩
  rw [hE]
  have HE : Hid (encS a = E) := hE
  have g1 := hf.hi; have g2 := hf.lo; have g3 := hf.id; have g4 := hf.par
  have g5 := hG.links; have g6 := hG.svc; have g7 := hG.op; have g8 := hG.kind; have g9 := hG.status; have g10 := hG.start; have g11 := hG.fin; have g12 := hG.attrs; have g13 := hG.events
  have HL : Hid (∀ x ∈ a.links, 0 ≤ x ∧ x < 18446744073709551616) := hf.links
  have HA : Hid (∀ x ∈ a.attrs, x.key.size ≤ 200 ∧ x.text.size ≤ 200 ∧ 0 ≤ x.kind ∧ x.kind ≤ 9223372036854775807 ∧ -9223372036854775808 ≤ x.num ∧ x.num ≤ 9223372036854775807) := fun x hx => by
    have h1 := hG.attr x hx
    have h2 := hf.attrs x hx
    exact ⟨by omega, by omega, by omega, by omega, h2.1, h2.2⟩
  have HV : Hid (∀ x ∈ a.events, x.name.size ≤ 200 ∧ 0 ≤ x.moment ∧ x.moment ≤ 9223372036854775807) := fun x hx => by
    have h1 := hG.event x hx
    exact ⟨by omega, by omega, by omega⟩
  have HAT : Hid (SpAt w a p) := ha
  clear ha hs hf hT hc hG hE
  unfold spV spC at CK
  unfold spC at NB
  unfold spV spC
  go_enter Tryd.func15, Tryd.ntmps15
  go_wp2_with (first
    | (go_at_call 13; refine (CK _).mono ?_; clear CK; rintro e w1 ⟨rfl, hb1⟩; have X1 := (hb1.block w.heap.size (by simp)).trans NB; have hB1 := (B1 _).trans (hb1.mono (B1 _).size); have hne : w.heap.size < w1.heap.size := lt_of_block X1)
    | (go_at_call 28; refine (wnew_any _).mono ?_; rintro e w2 ⟨rfl, W2, b2⟩; have X2 := (b2.block w.heap.size hne).trans X1; have hB2 := hB1.trans (b2.mono hB1.size); have C2 := Wch.refl w1.heap.size w2; have T2 := raw_any a.hi g1.1 g1.2 w2; have d0 := box_cells X2 0 rfl)
    | (go_at_call 30; refine T2.mono ?_; clear T2; rintro e w3 ⟨rfl, r3, b3⟩; have W3 := W2.below b3; have X3 := (b3.block _ (lt_of_block X2)).trans X2; have C3 := C2.trans (Wch.ofBelow b3 (Nat.le_of_lt W2.lt)); have T3 := wraw8_any w1.heap.size _ _ (some ⟨w2.heap.size, 0, none⟩) a.hi w3 W3 (by omega) r3.holds)
    | (go_at_call 29; refine T3.mono ?_; clear T3; rintro e w4 ⟨rfl, W4, c4⟩; have X4 := c4.other _ _ _ _ X3 (by decide) (by omega); have C4 := C3.trans c4; have T4 := raw_any a.lo g2.1 g2.2 w4; have d4 := box_cells X4 1 rfl)
    | (go_at_call 30; refine T4.mono ?_; clear T4; rintro e w5 ⟨rfl, r5, b5⟩; have W5 := W4.below b5; have X5 := (b5.block _ (lt_of_block X4)).trans X4; have C5 := C4.trans (Wch.ofBelow b5 (Nat.le_of_lt W4.lt)); have T5 := wraw8_any w1.heap.size _ _ (some ⟨w4.heap.size, 0, none⟩) a.lo w5 W5 (by omega) r5.holds)
    | (go_at_call 29; refine T5.mono ?_; clear T5; rintro e w6 ⟨rfl, W6, c6⟩; have X6 := c6.other _ _ _ _ X5 (by decide) (by omega); have C6 := C5.trans c6; have T6 := raw_any a.id g3.1 g3.2 w6; have d6 := box_cells X6 2 rfl)
    | (go_at_call 30; refine T6.mono ?_; clear T6; rintro e w7 ⟨rfl, r7, b7⟩; have W7 := W6.below b7; have X7 := (b7.block _ (lt_of_block X6)).trans X6; have C7 := C6.trans (Wch.ofBelow b7 (Nat.le_of_lt W6.lt)); have T7 := wraw8_any w1.heap.size _ _ (some ⟨w6.heap.size, 0, none⟩) a.id w7 W7 (by omega) r7.holds)
    | (go_at_call 29; refine T7.mono ?_; clear T7; rintro e w8 ⟨rfl, W8, c8⟩; have X8 := c8.other _ _ _ _ X7 (by decide) (by omega); have C8 := C7.trans c8; have T8 := raw_any a.par g4.1 g4.2 w8; have d8 := box_cells X8 3 rfl)
    | (go_at_call 30; refine T8.mono ?_; clear T8; rintro e w9 ⟨rfl, r9, b9⟩; have W9 := W8.below b9; have X9 := (b9.block _ (lt_of_block X8)).trans X8; have C9 := C8.trans (Wch.ofBelow b9 (Nat.le_of_lt W8.lt)); have T9 := wraw8_any w1.heap.size _ _ (some ⟨w8.heap.size, 0, none⟩) a.par w9 W9 (by omega) r9.holds)
    | (go_at_call 29; refine T9.mono ?_; clear T9; rintro e w10 ⟨rfl, W10, c10⟩; have X10 := c10.other _ _ _ _ X9 (by decide) (by omega); have C10 := C9.trans c10; have T10 := wuint_any w1.heap.size _ _ (a.links.length : Int) (by omega) (by omega) w10 W10 (by omega); have d10 := box_cells X10 4 rfl)
    | (go_at_call 31; refine T10.mono ?_; clear T10; rintro e w11 ⟨rfl, W11, c11⟩; have X11 := c11.other _ _ _ _ X10 (by decide) (by omega); have C11 := C10.trans c11; have d11 := box_cells X11 4 rfl))
  obtain ⟨M, hM⟩ : ∃ M, [] ++ rawL a.hi ++ rawL a.lo ++ rawL a.id ++ rawL a.par ++ encN (a.links.length : Int).toNat = M := ⟨_, rfl⟩
  rw [hM] at W11
  have HM : Hid (rawL a.hi ++ (rawL a.lo ++ (rawL a.id ++ (rawL a.par ++ encN a.links.length))) = M) := by
    show _ = M
    rw [← hM, show (a.links.length : Int).toNat = a.links.length by omega]
    simp only [List.nil_append, List.append_assoc]
  have W11' : WrC w11 w1.heap.size (M ++ catL rawL (a.links.take 0)) (50 + 8 * 0) := by
    obtain ⟨v, hv⟩ := W11.row
    have := W11.cap
    exact ⟨⟨v, by simpa [catL] using hv⟩, by simp [catL]; omega⟩
  have hB1s := hB1.size
  have HB2 : Hid (Below w.heap.size w w2) := hB2
  clear W2 W3 W4 W5 W6 W7 W8 W9 W10 W11 C2 C3 C4 C5 C6 C7 C8 C9 C10 X3 X4 X5 X6 X7 X8 X9 X10 c4 c6 c8 c10 c11 r3 r5 r7 r9 b3 b5 b7 b9 d0 d4 d6 d8 d10 d11 g1 g2 g3 g4 hM hb1 hB1 b2 hB2 NB B1 X1
  go_loopw [45] (fun t wr => ∃ k : Nat, t = .int .i64 k ∧ k ≤ a.links.length ∧ WrC wr w1.heap.size (M ++ catL rawL (a.links.take k)) (50 + 8 * k) ∧ Wch w1.heap.size w2 wr) (fun t _ => a.links.length - (intOf t).toNat)
  case atStart => exact ⟨0, rfl, by omega, W11', C11⟩
  case round =>
    obtain ⟨k, rfl, hk, hW, hC⟩ := hrel
    clear W11' C11 X11
    have hX := hC.other _ _ _ _ X2 (by decide) (by omega)
    have hBr : Below w.heap.size w wr := HB2.out.trans (hC.below.mono hB1s)
    by_cases hlt : k < a.links.length
    · have HH := (HAT.out.links.below hBr).plain (intsV_get (k := .u64) hlt)
      obtain ⟨b1, o1, hla, hc1⟩ := HH
      have hcx := hc1 k _ (intsV_get (k := .u64) hlt)
      have hxx := HL.out a.links[k] (List.getElem_mem _)
      have st := catL_snoc rawL a.links k hlt
      obtain ⟨x, hx⟩ : ∃ x, a.links[k] = x := ⟨_, rfl⟩
      rw [hx] at hcx hxx st
      have HS : Hid (catL rawL (a.links.take (k + 1)) = catL rawL (a.links.take k) ++ rawL x) := st
      rw [hla]
      have T1 := raw_any x hxx.1 hxx.2 wr
      have HLA : Hid (p.la = some ⟨b1, o1, none⟩) := hla
      clear st hx hc1 hla X2
      go_wp2_with (first
        | (go_at_call 30; refine T1.mono ?_; clear T1; rintro e w3 ⟨rfl, r3, b3⟩; have W3 := hW.below b3; have C3 := hC.trans (Wch.ofBelow b3 (Nat.le_of_lt hW.lt)); have T3 := wraw8_any w1.heap.size _ _ (some ⟨wr.heap.size, 0, none⟩) x w3 W3 (by omega) r3.holds)
        | (go_at_call 29; refine T3.mono ?_; clear T3; rintro e w4 ⟨rfl, W4, c4⟩; have C4 := C3.trans c4))
      have hWf : WrC w4 w1.heap.size (M ++ catL rawL (a.links.take (k + 1))) (50 + 8 * (k + 1)) := by
        obtain ⟨v, hv⟩ := W4.row
        have hcp := W4.cap
        rw [HS.out, ← List.append_assoc]
        exact ⟨⟨v, hv⟩, by omega⟩
      go_roundw
      case rel => exact ⟨k + 1, by go_num, by omega, hWf, C4⟩
      case measure => simp [intOf]; omega
    · have hkn : k = a.links.length := by omega
      subst hkn
      rw [List.take_length] at hW
      obtain ⟨M2, hM2⟩ : ∃ M2, M ++ catL rawL a.links = M2 := ⟨_, rfl⟩
      rw [hM2] at hW
      have HM2 : Hid (M ++ catL rawL a.links = M2) := hM2
      obtain ⟨g61, g62, -⟩ := g6
      obtain ⟨g71, g72, -⟩ := g7
      obtain ⟨g81, g82⟩ := g8
      obtain ⟨g91, g92⟩ := g9
      obtain ⟨ga1, ga2⟩ := g10
      obtain ⟨gb1, gb2⟩ := g11
      have hE2 : M2 ++ (encN a.svc.size ++ bytesI a.svc) ++ (encN a.op.size ++ bytesI a.op) ++ encN a.kind.toNat ++ encN a.status.toNat ++ encN a.start.toNat ++ encN a.fin.toNat ++ (encN a.attrs.length ++ catL attrL a.attrs) ++ (encN a.events.length ++ catL eventL a.events) = E := by
        rw [← HE.out, ← HM2.out, ← HM.out]
        simp only [encS, textL, List.append_assoc]
      have HE2 : Hid (_ = E) := hE2
      clear hE2
      have T0 := wtext_any w1.heap.size M2 _ a.svc (by omega) wr hW (by omega)
      have e0 := box_cells hX 5 rfl
      clear hM2 X2 hlt
      go_wp2_with (first
        | (go_at_call 32; refine T0.mono ?_; clear T0; rintro e w3 ⟨rfl, W3, c3⟩; have X3 := c3.other _ _ _ _ hX (by decide) (by omega); have C3 := hC.trans c3; have T3 := wtext_any w1.heap.size _ _ a.op (by omega) w3 W3 (by omega); have e3 := box_cells X3 6 rfl)
        | (go_at_call 32; refine T3.mono ?_; clear T3; rintro e w4 ⟨rfl, W4, c4⟩; have X4 := c4.other _ _ _ _ X3 (by decide) (by omega); have C4 := C3.trans c4; have T4 := wuint_any w1.heap.size _ _ a.kind (by omega) (by omega) w4 W4 (by omega); have e4 := box_cells X4 7 rfl)
        | (go_at_call 31; refine T4.mono ?_; clear T4; rintro e w5 ⟨rfl, W5, c5⟩; have X5 := c5.other _ _ _ _ X4 (by decide) (by omega); have C5 := C4.trans c5; have T5 := wuint_any w1.heap.size _ _ a.status (by omega) (by omega) w5 W5 (by omega); have e5 := box_cells X5 8 rfl)
        | (go_at_call 31; refine T5.mono ?_; clear T5; rintro e w6 ⟨rfl, W6, c6⟩; have X6 := c6.other _ _ _ _ X5 (by decide) (by omega); have C6 := C5.trans c6; have T6 := wuint_any w1.heap.size _ _ a.start (by omega) (by omega) w6 W6 (by omega); have e6 := box_cells X6 9 rfl)
        | (go_at_call 31; refine T6.mono ?_; clear T6; rintro e w7 ⟨rfl, W7, c7⟩; have X7 := c7.other _ _ _ _ X6 (by decide) (by omega); have C7 := C6.trans c7; have T7 := wuint_any w1.heap.size _ _ a.fin (by omega) (by omega) w7 W7 (by omega); have e7 := box_cells X7 10 rfl)
        | (go_at_call 31; refine T7.mono ?_; clear T7; rintro e w8 ⟨rfl, W8, c8⟩; have X8 := c8.other _ _ _ _ X7 (by decide) (by omega); have C8 := C7.trans c8; have T8 := layAttrs_any w1.heap.size _ _ p.aa a.attrs.length p.ac a.attrs w w8 HAT.out.attrs (HB2.out.trans (C8.below.mono hB1s)) hB1s W8 (by omega) g12 HA.out; have e8 := box_cells X8 11 rfl)
        | (go_at_call 33; refine T8.mono ?_; clear T8; rintro e w9 ⟨rfl, W9, c9⟩; have X9 := c9.other _ _ _ _ X8 (by decide) (by omega); have C9 := C8.trans c9; have T9 := layEvents_any w1.heap.size _ _ p.ea a.events.length p.ec a.events w w9 HAT.out.events (HB2.out.trans (C9.below.mono hB1s)) hB1s W9 (by omega) g13 HV.out; have e9 := box_cells X9 12 rfl)
        | (go_at_call 34; refine T9.mono ?_; clear T9; rintro e wA ⟨rfl, WA, cA⟩; rw [HE2.out] at WA; have CA := C9.trans cA; have TA := wbytes_any w1.heap.size _ _ wA WA (by omega))
        | (go_at_call 35; refine TA.mono ?_; clear TA; rintro e wB ⟨rfl, rB, bB⟩))
      have hBA : Below w.heap.size w wA := HB2.out.trans (CA.below.mono hB1s)
      have hBf : Below w.heap.size w wB := hBA.trans (bB.mono hBA.size)
      go_ret2
      exact ⟨wA.heap.size, rfl, rB, hBA.size, hBf⟩
end Go.Proofs.YtioibllopidilaaDoor
