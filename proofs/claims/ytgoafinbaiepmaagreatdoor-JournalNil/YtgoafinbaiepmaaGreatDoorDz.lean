/-
  Layer 7 (disk): Restart of a disk of many files.
-/
import Derived.Test.YtgoafinbaiepmaaGreatDoorDy
namespace Go.Proofs.YtgoafinbaiepmaaGreatDoor
open Go.RowKit Go.Shelf Go.Maps Go.WideMaps
set_option maxRecDepth 100000

theorem Many.reset {nm : Nat → ByteArray} {base : Nat} {w : World} {d N : Nat} {K : Dk} {Fs : List (Nat × Fl)} (h : Many nm base w d N K Fs) : Many nm base ((((w.setCell ⟨d, 5, none⟩ (.int .i64 0)).setCell ⟨d, 6, none⟩ (.int .i64 0)).setCell ⟨d, 7, none⟩ (.int .i64 0)).setCell ⟨d, 8, none⟩ (.bool false)) d N { K with a1 := 0, a2 := 0, a3 := 0, off := false } Fs :=
  ⟨h.disk.reset, fun i p hp => (h.files i p hp).cell (reset_upd w d) h.disk.block, h.apart, fun i p hp => ⟨(h.has i p hp).has, (h.has i p hp).at_, (h.has i p hp).fat, (h.has i p hp).lt⟩, h.ok, rfl, rfl⟩
/-- Behind Restart. -/
def Rest (nm : Nat → ByteArray) (base d N : Nat) (K : Dk) (Fs : List (Nat × Fl)) (Ks : List Int) (m : Nat) (D : DataW Unit) (w w' : World) : Prop := ∃ K' Gs, Many nm base w' d N K' Gs ∧ K'.DN = D ∧ K'.DL = D ∧ K'.ns = [] ∧ K'.cr = K.cr ∧ Gs.length = m ∧ (∀ (i : Nat) p, Gs[i]? = some p → ∃ F, Fs[i]? = some (p.1, F) ∧ p.2.B = firstOn F.L F.S (unitK Ks i) ∧ p.2.L = firstOn F.L F.S (unitK Ks i) ∧ p.2.S = []) ∧ Below base w w' ∧ KeepC w w'
theorem take_some {α : Type} {l : List α} {m i : Nat} {p : α} (h : (l.take m)[i]? = some p) : i < m ∧ l[i]? = some p := by
  rw [List.getElem?_take] at h
  split at h
  · exact ⟨by assumption, h⟩
  · cases h
structure Lasting (nm : Nat → ByteArray) (m : Nat) (D : DataW Unit) : Prop where
  has : ∀ i : Nat, i < m → Maps.has D (.string (nm i).data.toList) = true ∧ D.atKey (.string (nm i).data.toList) (.lit (.int .i64 0)) = .lit (.int .i64 (i : Int))
  only : ∀ kl, Maps.has D kl = true → ∃ i : Nat, i < m ∧ kl = .string (nm i).data.toList
  inj : ∀ i j : Nat, i < m → j < m → j ≠ i → (nm j).data.toList ≠ (nm i).data.toList
theorem restart_tail (nm : Nat → ByteArray) (base d N N2 : Nat) (K : Dk) (Fs : List (Nat × Fl)) (Ks : List Int) (ad : Option Addr) (n c : Nat) (kn : Int) (m : Nat) (D : DataW Unit) (w : World) (h : Many nm base w d N K Fs) (hb : base ≤ w.heap.size) (hm : m ≤ Fs.length) (hl : Lasting nm m D) (hN : N2 ≤ maxLen) (hd : HoldI base w ad n Ks) (hc : n ≤ c) (hbig : ∀ (i : Nat) p, Fs[i]? = some p → p.2.L.length + unitsL p.2.S ≤ 140737488355328)
    (W w2 w4 : World) (bW : Below w.heap.size w W) (hbox : W.heap[w.heap.size]? = some (.cells #[.int .i64 kn, .slice ad n c] 72 (0, 0))) (D2 : DiskAt base w2 d N2 { K with DL := D }) (u2 : Upd (fun k => k = K.ml) W w2) (b4 : Below w2.heap.size w2 w4) (o4 : w4.ownsMap Tryz.prog 9 (plainElem (H := Unit) Tryz.prog 3) w2.heap.size N2 D) :
    (w4.cell? ⟨d, 2, none⟩ = some (.map (some K.mn)) ∧ w4.frozen? ⟨d, 2, none⟩ = false ∧ w4.frozen? ⟨d, 4, none⟩ = false ∧ w4.cell? ⟨d, 4, none⟩ = some K.sv) ∧ ((w4.setCell ⟨d, 2, none⟩ (.map (some w2.heap.size))).setCell ⟨d, 4, none⟩ (.slice none 0 0)).cell? ⟨w.heap.size, 1, none⟩ = some (.slice ad n c) ∧
      Calls Tryz.prog 59 #[.pointer (some ⟨d, 0, none⟩), .slice ad n c] ((w4.setCell ⟨d, 2, none⟩ (.map (some w2.heap.size))).setCell ⟨d, 4, none⟩ (.slice none 0 0)) fun e w' => e = .returned (.tuple #[]) ∧ (∃ z5 z6 z7 z8, w'.cell? ⟨d, 5, none⟩ = some (.int .i64 z5) ∧ w'.cell? ⟨d, 6, none⟩ = some (.int .i64 z6) ∧ w'.cell? ⟨d, 7, none⟩ = some (.int .i64 z7) ∧ w'.cell? ⟨d, 8, none⟩ = some (.bool z8)) ∧ DFree w' d ∧ Rest nm base d N2 K Fs Ks m D w ((((w'.setCell ⟨d, 5, none⟩ (.int .i64 0)).setCell ⟨d, 6, none⟩ (.int .i64 0)).setCell ⟨d, 7, none⟩ (.int .i64 0)).setCell ⟨d, 8, none⟩ (.bool false)) := by
  have hsW := bW.size
  have hs2 := u2.size
  have hs4 := b4.size
  have D4 := D2.below b4
  have l1 := h.disk.mF.lt
  have l2 := h.disk.mL.lt
  have ld := lt_of_block h.disk.block
  have hnd : w.heap.size ≠ d := by omega
  have us : Upd (fun k => k = d) w4 ((w4.setCell ⟨d, 2, none⟩ (.map (some w2.heap.size))).setCell ⟨d, 4, none⟩ (.slice none 0 0)) := ((Upd.refl (fun k => k = d) w4).setCell (p := ⟨d, 2, none⟩) (fun _ => rfl) _).setCell (p := ⟨d, 4, none⟩) (fun _ => rfl) _
  have lb := lt_of_block hbox
  have box4 := (us.block w.heap.size (by omega) hnd).trans ((b4.block w.heap.size (by omega)).trans ((u2.block w.heap.size lb (by omega)).trans hbox))
  have DX := (D4.setN o4 (by simp only; omega) (by simp only; omega) (by omega)).setS
  have hmW := (h.disk.below bW).mL
  obtain ⟨es, x, hmb⟩ := map_block hmW
  have BX : Below base w ((w4.setCell ⟨d, 2, none⟩ (.map (some w2.heap.size))).setCell ⟨d, 4, none⟩ (.slice none 0 0)) := (bW.mono hb).trans ((u2.below (by omega) (fun k hk e => by have := h.disk.low.2.2.2; omega)).trans ((b4.mono (by omega)).trans (us.below (by omega) (fun k hk e => by have := h.disk.low.1; omega))))
  refine ⟨⟨D4.cells.c2, free3 D4.block 2, free3 D4.block 4, D4.cells.c4⟩, blk_cell box4 1 rfl, ?_⟩
  have MX : Many nm base ((w4.setCell ⟨d, 2, none⟩ (.map (some w2.heap.size))).setCell ⟨d, 4, none⟩ (.slice none 0 0)) d N2 { K with mn := w2.heap.size, DN := D, DL := D, sv := .slice none 0 0, ns := [] } (Fs.take m) := by
    refine ⟨DX, fun i p hp => ?_, fun i j p q hp hq => h.apart i j p q (take_some hp).2 (take_some hq).2, fun i p hp => ?_, fun i hi => h.ok i (by rw [List.length_take] at hi; omega), h.on, h.arm⟩
    · have F1 := (h.files i p (take_some hp).2).below bW
      exact (((F1.map u2 hmb).below b4)).cell us D4.block
    · have q := h.has i p (take_some hp).2
      have q' := hl.has i (take_some hp).1
      exact ⟨q'.1, q'.2, q.fat, q.lt⟩
  have hlen : (Fs.take m).length = m := by rw [List.length_take]; omega
  refine (restartFiles_many nm base d N2 _ (Fs.take m) Ks ad n c _ MX (by have := BX.size; omega) (by rw [hlen]; exact hl.only) (by rw [hlen]; exact hl.inj) hN (hd.below BX) hc (fun i p hp => hbig i p (take_some hp).2)).mono ?_
  rintro e w' ⟨rfl, mm, DD, Gs, M5, g1, g2, b5, kc5⟩
  have D5 := M5.disk
  refine ⟨rfl, ⟨_, _, _, _, D5.cells.c5, D5.cells.c6, D5.cells.c7, D5.cells.c8⟩, ⟨fun i => free3 D5.block i⟩, _, Gs, M5.reset, rfl, rfl, rfl, rfl, by rw [g1]; exact hlen, fun i p hp => ?_, ?_, ?_⟩
  · obtain ⟨F, hF, g3⟩ := g2 i p hp
    exact ⟨F, (take_some hF).2, g3⟩
  · exact (BX.trans b5).trans ((reset_upd w' d).below (by have := BX.size; have := b5.size; omega) (fun k hk e => by have := h.disk.low.1; omega))
  · exact (KeepC.ofBelow bW).trans ((KeepC.of u2 (fun k hk ho => by subst hk; exact oth_obj hmb (by simp) ho)).trans ((KeepC.ofBelow b4).trans ((KeepC.of us (fun k hk ho => D4.oth ho (Or.inl hk))).trans (kc5.trans (KeepC.of (reset_upd w' d) (fun k hk ho => D5.oth ho (Or.inl hk)))))))
set_option maxHeartbeats 4000000 in
theorem restart_many (nm : Nat → ByteArray) (base d N : Nat) (K : Dk) (Fs : List (Nat × Fl)) (Ks : List Int) (ad : Option Addr) (n c : Nat) (kn : Int) (L : List (ByteArray × Nat)) (mk m : Nat) (D : DataW Unit) (w : World) (h : Many nm base w d N K Fs) (hb : base ≤ w.heap.size) (hns : K.ns = crL L) (hmk : min (max kn 0) (L.length : Int) = (mk : Int)) (hD : putL K.DL (L.take mk) = D) (hm : m ≤ Fs.length) (hl : Lasting nm m D) (hL : ∀ p ∈ L, p.1.size ≤ maxLen ∧ p.2 < 9223372036854775808) (hN : N + L.length < maxLen) (hll : L.length ≤ 1000000000000) (hd : HoldI base w ad n Ks) (hc : n ≤ c) (hbig : ∀ (i : Nat) p, Fs[i]? = some p → p.2.L.length + unitsL p.2.S ≤ 140737488355328) :
    Calls Tryz.prog 24 #[.pointer (some ⟨d, 0, none⟩), .agg #[.int .i64 kn, .slice ad n c]] w fun e w' => e = .returned (.tuple #[]) ∧ Rest nm base d (N + mk) K Fs Ks m D w w' := by
  have hnl : K.ns.length = L.length := by rw [hns]; simp [crL]
  obtain ⟨ao, l, cc, hsv⟩ := row_shape h.disk.sown
  have hll' : l = L.length ∧ L.length ≤ cc := by have := h.disk.sown; rw [hsv] at this; have q := own_len this; omega
  obtain ⟨hl1, hl2⟩ := hll'
  have hmkl : mk ≤ L.length := by omega
  have C := fun W w2 w4 bW hbox D2 u2 b4 o4 => (fun q => (⟨⟨q.1.1, q.1.2.1, q.1.2.2.1, q.1.2.2.2.trans (by rw [hsv])⟩, q.2⟩ : (w4.cell? ⟨d, 2, none⟩ = some (.map (some K.mn)) ∧ w4.frozen? ⟨d, 2, none⟩ = false ∧ w4.frozen? ⟨d, 4, none⟩ = false ∧ w4.cell? ⟨d, 4, none⟩ = some (.slice ao l cc)) ∧ _)) (restart_tail nm base d N (N + mk) K Fs Ks ad n c kn m D w h hb hm hl (by omega) hd hc hbig W w2 w4 bW hbox D2 u2 b4 o4)
  have ML : ∀ w2, DiskAt base w2 d (N + mk) { K with DL := D } → w2.cell? ⟨d, 3, none⟩ = some (.map (some K.ml)) ∧ Calls Tryz.prog 58 #[.map (some K.ml)] w2 fun e w' => e = .returned (.map (some w2.heap.size)) ∧ w'.ownsMap Tryz.prog 9 (plainElem (H := Unit) Tryz.prog 3) w2.heap.size (N + mk) D ∧ Below w2.heap.size w2 w' := fun w2 D2 => ⟨D2.cells.c3, mclone_any K.ml (N + mk) _ w2 D2.mL⟩
  have KC : ∀ W, Below w.heap.size w W → W.cell? ⟨d, 4, none⟩ = some (.slice ao l cc) ∧ W.cell? ⟨d, 3, none⟩ = some (.map (some K.ml)) := fun W b => by
    have c4 := (h.disk.below b).cells.c4
    rw [hsv] at c4
    exact ⟨c4, (h.disk.below b).cells.c3⟩
  have B1 : Below w.heap.size w (w.alloc (.cells #[.int .i64 kn, .slice ad n c] 72)) := (Below.refl _ _).alloc (Nat.le_refl _) _
  have hz := B1.size
  have k1 : min (max kn 0) (l : Int) = (mk : Int) := by rw [hl1]; exact hmk
  have k3 : (0 : Int) ≤ (mk : Int) := by omega
  have k4 : (mk : Int) ≤ (cc : Int) := by omega
  have k5 : (mk : Int) ≤ (l : Int) := by omega
  have SND : ∀ W, Below w.heap.size w W → DiskAt base W d (N + 0) { K with DL := putL K.DL (L.take 0) } := fun W b => h.disk.below b
  have HKC : Hid _ := KC
  have HC : Hid _ := C
  have HML : Hid _ := ML
  have HSN : Hid _ := SND
  have HD : Hid _ := hD
  have HNS : Hid _ := hns
  have HSV : Hid _ := hsv
  have HL1 : Hid (l = L.length ∧ mk ≤ L.length ∧ N + L.length < maxLen ∧ L.length ≤ 1000000000000) := ⟨hl1, hmkl, hN, hll⟩
  clear KC C ML SND h hsv hl1 hl2 hns hd hbig hD hmk hl hm hc hnl hmkl hN hll
  generalize Rest nm base d (N + mk) K Fs Ks m D w = R at *
  go_enter Tryz.func24, Tryz.ntmps24
  go_wp2
  go_region_held3 (fun W => W.cell? ⟨w.heap.size, 0, none⟩ = some (.int .i64 kn) ∧ W.cell? ⟨d, 4, none⟩ = some (.slice ao l cc)) (exact ⟨by simp [go_sem], (HKC.out _ (by repeat' first | exact Below.refl _ _ | assumption | refine Below.alloc ?_ (by first | omega | (simp; omega) | (simp; done)) _ | refine Below.setCell ?_ (by first | omega | (simp; omega) | (simp; done)) _ | refine Below.drew ?_)).1⟩) (first | fail)
  have B2 := B1.drew
  have X1 : ((w.alloc (.cells #[.int .i64 kn, .slice ad n c] 72)).drew).heap[w.heap.size]? = some (.cells #[.int .i64 kn, .slice ad n c] 72 (0, 0)) := heap_alloc_new _ _
  clear B1 hz
  generalize ((w.alloc (.cells #[.int .i64 kn, .slice ad n c] 72)).drew) = W at *
  obtain ⟨d4, d3⟩ := HKC.out _ B2
  have HX1 : Hid _ := X1
  have S0 := HSN.out _ B2
  clear HKC X1 HSN
  by_cases hml : 0 < mk
  · obtain ⟨g, rfl⟩ : ∃ g, ao = some ⟨g, 0, none⟩ := by
      have hown : W.ownsRow base 128 1 K.sv K.ns.length K.ns := S0.sown
      rw [HSV.out, HNS.out] at hown
      have hcl : (crL L).length = L.length := by simp [crL]
      obtain ⟨g, e, _⟩ := own_cell hown (by have := HL1.out; omega)
      exact ⟨g, e⟩
    go_wp2
    clear d4 d3
    go_loopw [23] (fun a wr => ∃ i : Nat, a = .int .i64 i ∧ i ≤ mk ∧ DiskAt base wr d (N + i) { K with DL := putL K.DL (L.take i) } ∧ Upd (fun k => k = K.ml) W wr) (fun a _ => mk - (intOf a).toNat)
    case atStart => exact ⟨0, rfl, by omega, S0, Upd.refl _ _⟩
    case round =>
      clear S0
      obtain ⟨i, rfl, hi, D1, U⟩ := hrel
      have c3 := D1.cells.c3
      by_cases hlt : i < mk
      · have hz : (i : Int) < (mk : Int) := by omega
        obtain ⟨e1, e2, e3, e4⟩ := HL1.out
        have hiL : i < L.length := by omega
        have hi62 : i < 1000000000000 := by omega
        have hown : wr.ownsRow base 128 1 K.sv K.ns.length K.ns := D1.sown
        rw [HSV.out, HNS.out] at hown
        have hcl : (crL L).length = L.length := by simp [crL]
        obtain ⟨g', eg, hcell⟩ := own_cell hown (by omega)
        simp at eg
        subst eg
        have hci := hcell i (crV L[i].1 L[i].2) (by simp [crL, hiL])
        obtain ⟨b1, b2⟩ := hL _ (List.getElem_mem hiL)
        have DN := doName_created K.ml (N + i) _ L[i].1 L[i].2 wr D1.mL b1 b2 (by omega)
        have NX : ∀ w', w'.ownsMap Tryz.prog 9 (plainElem (H := Unit) Tryz.prog 3) K.ml (N + i + 1) ((putL K.DL (L.take i)).put (.string L[i].1.data.toList) (.lit (.int .i64 (L[i].2 : Int)))) → Upd (fun k => k = K.ml) wr w' → DiskAt base w' d (N + (i + 1)) { K with DL := putL K.DL (L.take (i + 1)) } ∧ Upd (fun k => k = K.ml) W w' := fun w' o u => by
          have t := D1.turnL o u
          rw [List.take_succ_eq_append_getElem hiL, putL_snoc]
          exact ⟨t, U.trans u (fun _ _ e => e)⟩
        have HNX : Hid _ := NX
        clear NX D1 U b1 b2 hcell hown e1 e2 e3 e4 HC HML
        unfold crV at hci DN
        generalize L[i].1 = s at *
        generalize L[i].2 = n' at *
        go_wp2_with (go_at_call 57; refine DN.mono ?_; clear DN; rintro e w5 ⟨rfl, o5, u5⟩)
        obtain ⟨D5, U5⟩ := HNX.out _ o5 u5
        go_roundw
        case rel => exact ⟨i + 1, by go_num, by omega, D5, U5⟩
        case measure => simp [intOf]; omega
      · obtain rfl : mk = i := by omega
        have D2 : DiskAt base wr d (N + mk) { K with DL := D } := by rw [← HD.out]; exact D1
        have u2 := U
        clear D1 U
        obtain ⟨m3, ML2⟩ := HML.out _ D2
        clear HML
        go_wp2_with (first
          | (go_at_call 58; refine ML2.mono ?_; clear ML2; rintro e w4 ⟨rfl, o4, b4⟩; obtain ⟨⟨q2, f2, f4, q4⟩, y1, RF⟩ := HC.out _ _ _ B2 HX1.out D2 u2 b4 o4; clear HC)
          | (go_at_call 59; refine RF.mono ?_; clear RF; rintro e w5 ⟨rfl, ⟨z5, z6, z7, z8, c5, c6, c7, c8⟩, fr, q5⟩; have f5 := fr.f 5; have f6 := fr.f 6; have f7 := fr.f 7; have f8 := fr.f 8; clear fr))
        go_returns
        exact ⟨rfl, q5⟩
  · obtain rfl : mk = 0 := by omega
    have D2 : DiskAt base W d (N + 0) { K with DL := D } := by rw [← HD.out]; exact S0
    have u2 : Upd (fun k => k = K.ml) W W := Upd.refl _ _
    obtain ⟨m3, ML2⟩ := HML.out _ D2
    clear HML S0
    go_wp2
    refine wp_loop_rounds 1 ?_
    rw [rounds_succ]
    go_wp2_with (first
      | (go_at_call 58; refine ML2.mono ?_; clear ML2; rintro e w4 ⟨rfl, o4, b4⟩; obtain ⟨⟨q2, f2, f4, q4⟩, y1, RF⟩ := HC.out _ _ _ B2 HX1.out D2 u2 b4 o4; clear HC)
      | (go_at_call 59; refine RF.mono ?_; clear RF; rintro e w5 ⟨rfl, ⟨z5, z6, z7, z8, c5, c6, c7, c8⟩, fr, q5⟩; have f5 := fr.f 5; have f6 := fr.f 6; have f7 := fr.f 7; have f8 := fr.f 8; clear fr))
    go_returns
    exact ⟨rfl, q5⟩
end Go.Proofs.YtgoafinbaiepmaaGreatDoor
