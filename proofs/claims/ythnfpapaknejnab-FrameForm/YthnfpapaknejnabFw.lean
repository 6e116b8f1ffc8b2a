/-
  FrameForm: the walk.
-/
import Derived.Test.YthnfpapaknejnabFo
import Derived.Deep.RegionHeld3
namespace Go.Proofs.Ythnfpapaknejnab
open Go.RowKit
set_option maxRecDepth 100000

set_option maxHeartbeats 1000000 in
theorem form_any (ad : Option Addr) (n cap : Nat) (K : List Int) (w : World) (h : Holds w ad n K) (hK : ByteL K) (hcap : n ≤ cap) (hn : n ≤ 140737488351232) :
    Calls Try.prog 6 #[.slice ad n cap] w fun e w' => e = .returned (.bool true) ∧ Below w.heap.size w w' := by
  have hl := h.len
  obtain ⟨c1, c2, c3, c4, c5⟩ := scan_chain K hK n 0 (by omega) (by omega)
  have c5' := c5 _ rfl
  have hsc : scanL K = scanG n (K.drop 0) 0 := by unfold scanL; rw [hl, List.drop_zero]
  rw [← hsc] at c1 c2 c3 c4 c5'
  have SC := fun (ww : World) (hh : Holds ww ad n K) => scan_any ad n cap K ww hh hK hcap (by omega)
  generalize hps : (scanL K).1 = ps at *
  generalize hz : (scanL K).2.1 = z at *
  generalize he : (scanL K).2.2 = er at *
  have hsc2 : scanL (K.take z) = (ps, z, 0) := by
    unfold scanL
    rw [← c5', List.drop_zero]
    exact scanG_fuel _ _ _ _ (Nat.le_refl _) (by simp; omega)
  clear hsc hps hz he c5 c5'
  rw [hl] at c2 c4
  have HC : Hid (Chain K 0 ps z) := c1
  have H4 : Hid (er = 0 ↔ z = n) := c4
  have HS2 : Hid (scanL (K.take z) = (ps, z, 0)) := hsc2
  clear c1 c4 hsc2
  go_enter Try.func6, Try.ntmps6
  go_wp2_with (first
    | (go_at_call 7; refine (shown_any _).mono ?_; rintro e w1 ⟨rfl, b1⟩; have z1 := b1.size)
    | (go_at_call 9; refine (SC _ (h.below b1)).mono ?_; rintro e w2 ⟨v2, rfl, o2, b2⟩; have z2 := b2.size; obtain ⟨ao, l, c, rfl⟩ := row_shape o2; have PH := o2.holds; have hcl := own_cap o2))
  obtain ⟨hl1, hl2, hl3⟩ := hcl
  subst hl1
  have hB2 : Below w.heap.size w w2 := b1.trans (b2.mono z1)
  clear SC b1 b2 o2
  go_loopw [7, 8] (fun a b wr => ∃ (p i : Nat), a = .int .i64 p ∧ b = .int .i64 i ∧ i ≤ ps.length ∧ p ≤ n ∧ Chain K p (ps.drop i) z ∧ Below w2.heap.size w2 wr) (fun _ b _ => ps.length - (intOf b).toNat)
  case atStart => exact ⟨0, 0, rfl, rfl, by omega, by omega, by rw [List.drop_zero]; exact HC.out, Below.refl _ _⟩
  case round =>
    obtain ⟨p, i, rfl, rfl, hi, hp, hCh, hBr⟩ := hrel
    have hzr := hBr.size
    by_cases hlt : i < ps.length
    · have hz : (i : Int) < (ps.length : Int) := by omega
      obtain ⟨g, o, rfl, hc⟩ := (PH.below hBr).cells i hlt
      rw [List.drop_eq_getElem_cons hlt] at hCh
      generalize ps[i] = pc at hCh hc
      obtain ⟨k, q, a, L⟩ := pc
      obtain ⟨rfl, ha2, hk, hq, hL, hmk, hCh2⟩ := hCh
      have HCh : Hid (Chain K (p + 24 + L) (ps.drop (i + 1)) z) := hCh2
      have d0 := hc 0 _ rfl
      have d1 := hc 1 _ rfl
      have d2 := hc 2 _ rfl
      have d3 := hc 3 _ rfl
      clear hc hCh2
      simp only [Nat.add_zero] at d0
      rw [hl] at ha2
      obtain ⟨b, o', rfl⟩ := h.some_of (by omega)
      have hHr := (h.below hB2).below hBr
      obtain ⟨Ad, hAd, hAh⟩ : ∃ Ad, (if cap = p + 24 then some (⟨b, o', none⟩ : Addr) else some ⟨b, o' + (p + 24), none⟩) = Ad ∧ Holds wr Ad L (part K (p + 24) L) := by
        refine ⟨_, rfl, ?_⟩
        by_cases hce : cap = p + 24
        · obtain rfl : L = 0 := by omega
          rw [if_pos hce]
          exact ⟨by simp [part], fun j u hj => by simp [part] at hj⟩
        · rw [if_neg hce]
          exact hHr.part (p + 24) L (by omega)
      have hAt : Holds wr (some ⟨b, o' + p, none⟩) (24 + L) (makeL k q (part K (p + 24) L)) := by
        rw [← hmk]; exact hHr.part p (24 + L) (by omega)
      have t1 : ¬ ((L : Int) < 0) := by omega
      have t2 : ¬ ((n : Int) - ((p : Int) + 24) < (L : Int)) := by omega
      have t2' : decide ((n : Int) - ((p : Int) + 24) < (L : Int)) = false := by simpa using t2
      have t3 : IntKind.i64.wrap ((p : Int) + 24 + (L : Int)) = (p : Int) + 24 + (L : Int) := by rw [IntKind.wrap_i64]; omega
      have t4 : (p : Int) + 24 + (L : Int) ≤ (cap : Int) := by omega
      have t5 : (p : Int) + 24 ≤ (p : Int) + 24 + (L : Int) := by omega
      have t6 : (0 : Int) ≤ (p : Int) + 24 := by omega
      have n1 : ((p : Int) + 24).toNat = p + 24 := by omega
      have n2 : ((p : Int) + 24 + (L : Int)).toNat = p + 24 + L := by omega
      go_wp2
      generalize hw3 : wr.alloc (.cells #[Value.int .i64 k, Value.int .u64 q, Value.int .i64 ((p : Int) + 24), Value.int .i64 L] 33) = w3
      have hB3 := heap_alloc_new wr (.cells #[Value.int .i64 k, Value.int .u64 q, Value.int .i64 ((p : Int) + 24), Value.int .i64 L] 33)
      have hBr3 : Below wr.heap.size wr (wr.alloc (.cells #[Value.int .i64 k, Value.int .u64 q, Value.int .i64 ((p : Int) + 24), Value.int .i64 L] 33)) := (Below.refl _ _).alloc (Nat.le_refl _) _
      rw [hw3] at hB3 hBr3
      have hz3 := lt_of_block hB3
      have e0 : w3.cell? ⟨wr.heap.size, 0, none⟩ = some (.int .i64 k) := cell_of_row _ _ 0 _ _ _ hB3
      have e1 : w3.cell? ⟨wr.heap.size, 1, none⟩ = some (.int .u64 q) := cell_of_row _ _ 1 _ _ _ hB3
      have e2 : w3.cell? ⟨wr.heap.size, 2, none⟩ = some (.int .i64 ((p : Int) + 24)) := cell_of_row _ _ 2 _ _ _ hB3
      have e3 : w3.cell? ⟨wr.heap.size, 3, none⟩ = some (.int .i64 L) := cell_of_row _ _ 3 _ _ _ hB3
      have MK := fun (ww : World) (hw' : ww.heap = w3.heap) (c : Nat) => make_any k q Ad L c (part K (p + 24) L) ww hk hL ((hAh.below hBr3).heap hw') (hK.part _ _)
      clear hw3
      go_region_held3 (fun w' => w'.cell? ⟨wr.heap.size, 0, none⟩ = some (.int .i64 k) ∧ w'.cell? ⟨wr.heap.size, 1, none⟩ = some (.int .u64 q) ∧ w'.cell? ⟨wr.heap.size, 2, none⟩ = some (.int .i64 ((p : Int) + 24)) ∧ w'.cell? ⟨wr.heap.size, 3, none⟩ = some (.int .i64 L)) (go_keep) (first | (go_at_call 12; refine (MK _ (by rfl) _).mono ?_; rintro e w5 ⟨v5, rfl, o5, b5⟩; obtain ⟨ao5, l5, c5, rfl⟩ := row_shape o5; have u5 := Upd.ofBelow (S := fun _ => False) b5 (fun k hk hk' => (by omega)); have f0 := cell_upd u5 (a := ⟨wr.heap.size, 0, none⟩) (v := .int .i64 k) e0 (fun h => h); have f1 := cell_upd u5 (a := ⟨wr.heap.size, 1, none⟩) (v := .int .u64 q) e1 (fun h => h); have f2 := cell_upd u5 (a := ⟨wr.heap.size, 2, none⟩) (v := .int .i64 ((p : Int) + 24)) e2 (fun h => h); have f3 := cell_upd u5 (a := ⟨wr.heap.size, 3, none⟩) (v := .int .i64 L) e3 (fun h => h)))
      have b5' : Below w3.heap.size w3 w5 := ⟨b5.os, b5.tape, b5.output, b5.size, b5.block⟩
      have H5 := Holds.ofRow o5
      have hAt5 := (hAt.below hBr3).below b5'
      have n3 : p + 24 + L - p = 24 + L := by omega
      have t7 : (p : Int) ≤ (p : Int) + 24 + (L : Int) := by omega
      have t8 : ¬ cap = p := by omega
      have t9 : (0 : Int) ≤ (p : Int) := by omega
      obtain ⟨S, hS⟩ : ∃ S, strI (makeL k q (part K (p + 24) L)) = S := ⟨_, rfl⟩
      have HC1 : ∀ m, (convert 23 9 (.slice ao5 l5 c5)).run Try.prog (w5.drewN m) = .ok (.string S) (w5.drewN m) := fun m => by rw [← hS]; exact conv_holds (H5.drewN m) c5
      have HC2 : ∀ m, (convert 23 9 (.slice (some ⟨b, o' + p, none⟩) (24 + L) (cap - p))).run Try.prog (w5.drewN m) = .ok (.string S) (w5.drewN m) := fun m => by rw [← hS]; exact conv_holds (hAt5.drewN m) (cap - p)
      have hSS : (S.toList == S.toList) = true := by simp
      have hBf : Below w2.heap.size w2 w5 := hBr.trans ((hBr3.trans (b5'.mono (by omega))).mono hzr)
      clear o5 b5 b5' H5 hAt5 hS hAt hAh MK e0 e1 e2 e3 d0 d1 d2 d3
      go_wp2
      go_quiet (fail)
      go_wp2
      go_roundw
      case rel => exact ⟨p + 24 + L, i + 1, by go_num, by go_num, by omega, by omega, HCh.out, below_drewN hBf _⟩
      case measure => simp [intOf]; omega
    · obtain rfl : i = ps.length := by omega
      rw [List.drop_length] at hCh
      obtain rfl : p = z := hCh
      have hfew : ps.length ≤ 140737488355328 := by omega
      have hTH : Holds wr ad p (K.take p) := by
        have hh := (h.below hB2).below hBr
        by_cases h0 : 0 < K.length
        · obtain ⟨b, o, rfl⟩ := hh.some_of h0
          exact hh.part 0 p (by omega)
        · have : K = [] := List.eq_nil_of_length_eq_zero (by omega)
          subst this
          obtain rfl : p = 0 := by omega
          exact ⟨rfl, fun j u hj => by simp at hj⟩
      have SC2 := scan_any ad p cap (K.take p) wr hTH (hK.take p) (by omega) (by omega)
      rw [HS2.out] at SC2
      have t1 : (p : Int) ≤ (cap : Int) := by omega
      by_cases hr : er = 0
      · have hpn : p = n := H4.out.1 hr
        subst hpn
        subst hr
        clear hTH h HC H4 HS2
        go_wp2_with (go_at_call 9; fail)
        refine SC2.mono ?_
        rintro e w6 ⟨v6, rfl, o6, b6⟩
        obtain ⟨ao6, l6, c6, rfl⟩ := row_shape o6
        have PH6 := o6.holds
        have hl6 := (own_cap o6).1
        subst hl6
        have SP := samePieces_eq ao6 ao ps.length c6 c ps w6 PH6 ((PH.below hBr).below b6) hfew
        have hB6 := (hB2.trans (hBr.mono hB2.size)).trans (b6.mono (Nat.le_trans hB2.size hzr))
        clear o6 b6
        go_wp2_with (go_at_call 10; refine SP.mono ?_; rintro e w7 ⟨rfl, b7⟩)
        go_ret
        exact ⟨rfl, hB6.trans (b7.mono hB6.size)⟩
      · have hpn : ¬ p = n := fun e => hr (H4.out.2 e)
        have t2 : ((p : Int) == (n : Int)) = false := by apply beq_eq_false_iff_ne.2; omega
        have t3 : (er == 0) = false := by apply beq_eq_false_iff_ne.2; exact hr
        clear hTH h HC H4 HS2
        go_wp2_with (go_at_call 9; fail)
        refine SC2.mono ?_
        rintro e w6 ⟨v6, rfl, o6, b6⟩
        obtain ⟨ao6, l6, c6, rfl⟩ := row_shape o6
        have PH6 := o6.holds
        have hl6 := (own_cap o6).1
        subst hl6
        have SP := samePieces_eq ao6 ao ps.length c6 c ps w6 PH6 ((PH.below hBr).below b6) hfew
        have hB6 := (hB2.trans (hBr.mono hB2.size)).trans (b6.mono (Nat.le_trans hB2.size hzr))
        clear o6 b6
        go_wp2_with (go_at_call 10; refine SP.mono ?_; rintro e w7 ⟨rfl, b7⟩)
        go_ret
        exact ⟨rfl, hB6.trans (b7.mono hB6.size)⟩
end Go.Proofs.Ythnfpapaknejnab
