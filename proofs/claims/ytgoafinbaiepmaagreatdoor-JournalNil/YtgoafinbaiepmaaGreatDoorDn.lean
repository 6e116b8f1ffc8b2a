/-
  Layer 7 (disk): Restart (written by gen_dn.py).
-/
import Derived.Test.YtgoafinbaiepmaaGreatDoorDm
namespace Go.Proofs.YtgoafinbaiepmaaGreatDoor
open Go.RowKit Go.Shelf Go.Maps Go.WideMaps
set_option maxRecDepth 100000

/-- The last stores of Restart: not armed, on. -/
theorem DiskAt.reset {base d N : Nat} {w : World} {K : Dk} (h : DiskAt base w d N K) : DiskAt base ((((w.setCell ⟨d, 5, none⟩ (.int .i64 0)).setCell ⟨d, 6, none⟩ (.int .i64 0)).setCell ⟨d, 7, none⟩ (.int .i64 0)).setCell ⟨d, 8, none⟩ (.bool false)) d N { K with a1 := 0, a2 := 0, a3 := 0, off := false } := by
  have h1 := h.setA (K' := { K with a1 := 0 }) 5 (.int .i64 0) rfl rfl rfl rfl rfl rfl rfl rfl rfl
  have h2 := h1.setA (K' := { K with a1 := 0, a2 := 0 }) 6 (.int .i64 0) rfl rfl rfl rfl rfl rfl rfl rfl rfl
  have h3 := h2.setA (K' := { K with a1 := 0, a2 := 0, a3 := 0 }) 7 (.int .i64 0) rfl rfl rfl rfl rfl rfl rfl rfl rfl
  exact h3.setA (K' := { K with a1 := 0, a2 := 0, a3 := 0, off := false }) 8 (.bool false) rfl rfl rfl rfl rfl rfl rfl rfl rfl
theorem reset_upd (w : World) (d : Nat) : Upd (fun k => k = d) w ((((w.setCell ⟨d, 5, none⟩ (.int .i64 0)).setCell ⟨d, 6, none⟩ (.int .i64 0)).setCell ⟨d, 7, none⟩ (.int .i64 0)).setCell ⟨d, 8, none⟩ (.bool false)) :=
  ((((Upd.refl (fun k => k = d) w).setCell (p := ⟨d, 5, none⟩) (fun _ => rfl) _).setCell (p := ⟨d, 6, none⟩) (fun _ => rfl) _).setCell (p := ⟨d, 7, none⟩) (fun _ => rfl) _).setCell (p := ⟨d, 8, none⟩) (fun _ => rfl) _
structure DFree (w : World) (d : Nat) : Prop where
  f : ∀ i, w.frozen? ⟨d, i, none⟩ = false
/-- Without a name: nothing is left. -/
def Gone (base d N : Nat) (w w' : World) : Prop := ∃ K', DiskAt base w' d N K' ∧ K'.DN = .map [] ∧ K'.off = false ∧ Below base w w' ∧ Upd (fun k => k = d) w w'
set_option maxHeartbeats 4000000 in
theorem restart_none (base d N : Nat) (K : Dk) (w : World) (h : DiskAt base w d N K) (hb : base ≤ w.heap.size) (hl : K.DL = .map []) :
    Calls Tryz.prog 24 #[.pointer (some ⟨d, 0, none⟩), .agg #[.int .i64 0, .slice none 0 0]] w fun e w' => e = .returned (.tuple #[]) ∧ Gone base d N w w' := by
  obtain ⟨ao, l, c, hsv⟩ := row_shape h.sown
  have hso := h.sown
  rw [hsv] at hso
  obtain ⟨e1, hl1, hl2⟩ := own_len hso
  subst e1
  have KC : ∀ W, Below w.heap.size w W → W.cell? ⟨d, 4, none⟩ = some (.slice ao K.ns.length c) ∧ W.cell? ⟨d, 3, none⟩ = some (.map (some K.ml)) := fun W b => by
    have c4 := (h.below b).cells.c4
    rw [hsv] at c4
    exact ⟨c4, (h.below b).cells.c3⟩
  have ML := fun W (b : Below w.heap.size w W) => mclone_any K.ml N K.DL W (h.below b).mL
  have DN1 : ∀ W w4 : World, Below w.heap.size w W → Below W.heap.size W w4 → w4.ownsMap Tryz.prog 9 (plainElem (H := Unit) Tryz.prog 3) W.heap.size N K.DL → (w4.cell? ⟨d, 2, none⟩ = some (.map (some K.mn)) ∧ w4.frozen? ⟨d, 2, none⟩ = false ∧ w4.frozen? ⟨d, 4, none⟩ = false ∧ w4.cell? ⟨d, 4, none⟩ = some (.slice ao K.ns.length c)) ∧ DiskAt base ((w4.setCell ⟨d, 2, none⟩ (.map (some W.heap.size))).setCell ⟨d, 4, none⟩ (.slice none 0 0)) d N { K with mn := W.heap.size, DN := K.DL, sv := .slice none 0 0, ns := [] } ∧ Below base w ((w4.setCell ⟨d, 2, none⟩ (.map (some W.heap.size))).setCell ⟨d, 4, none⟩ (.slice none 0 0)) ∧ Upd (fun k => k = d) w ((w4.setCell ⟨d, 2, none⟩ (.map (some W.heap.size))).setCell ⟨d, 4, none⟩ (.slice none 0 0)) := by
    intro W w4 bW b4 o4
    have D4 := (h.below bW).below b4
    have hs := bW.size
    have hs4 := b4.size
    have l1 := h.mF.lt
    have l2 := h.mL.lt
    have c4 := D4.cells.c4
    rw [hsv] at c4
    have ub : Upd (fun k => k = d) w w4 := Upd.ofBelow (bW.trans (b4.mono hs)) (fun k h1 h2 => by omega)
    refine ⟨⟨D4.cells.c2, free3 D4.block 2, free3 D4.block 4, c4⟩, (D4.setN o4 (by omega) (by omega) (by omega)).setS, ?_, (ub.setCell (p := ⟨d, 2, none⟩) (fun _ => rfl) _).setCell (p := ⟨d, 4, none⟩) (fun _ => rfl) _⟩
    exact (((bW.trans (b4.mono hs)).mono hb).trans ((((Upd.refl (fun k => k = d) w4).setCell (p := ⟨d, 2, none⟩) (fun _ => rfl) _).setCell (p := ⟨d, 4, none⟩) (fun _ => rfl) _).below (by omega) (fun k hk e => by have := h.low.1; omega)))
  have RF : ∀ X mn, DiskAt base X d N { K with mn := mn, DN := K.DL, sv := .slice none 0 0, ns := [] } → Below base w X → Upd (fun k => k = d) w X → Calls Tryz.prog 59 #[.pointer (some ⟨d, 0, none⟩), .slice none 0 0] X fun e w' => e = .returned (.tuple #[]) ∧ (∃ z5 z6 z7 z8, w'.cell? ⟨d, 5, none⟩ = some (.int .i64 z5) ∧ w'.cell? ⟨d, 6, none⟩ = some (.int .i64 z6) ∧ w'.cell? ⟨d, 7, none⟩ = some (.int .i64 z7) ∧ w'.cell? ⟨d, 8, none⟩ = some (.bool z8)) ∧ DFree w' d ∧ Gone base d N w ((((w'.setCell ⟨d, 5, none⟩ (.int .i64 0)).setCell ⟨d, 6, none⟩ (.int .i64 0)).setCell ⟨d, 7, none⟩ (.int .i64 0)).setCell ⟨d, 8, none⟩ (.bool false)) := by
    intro X mn DX bX uX
    refine (restartFiles_none base d N _ (.slice none 0 0) X DX (by have := bX.size; omega) hl).mono ?_
    rintro e w' ⟨rfl, m, D5, b5, u5⟩
    refine ⟨rfl, ⟨_, _, _, _, D5.cells.c5, D5.cells.c6, D5.cells.c7, D5.cells.c8⟩, ⟨fun i => free3 D5.block i⟩, _, D5.reset, hl, rfl, ?_, (uX.trans u5 (fun _ _ h => h)).trans (reset_upd w' d) (fun _ _ h => h)⟩
    exact (bX.trans b5).trans ((reset_upd w' d).below (by have := bX.size; have := b5.size; omega) (fun k hk e => by have := h.low.1; omega))
  have hdw : Hid (w.heap.size ≠ d) := (by have := lt_of_block h.block; omega : w.heap.size ≠ d)
  have HKC : Hid _ := KC
  have HML : Hid _ := ML
  have HDN : Hid _ := DN1
  have HRF : Hid _ := RF
  have k1 : (0 : Int) ≤ (K.ns.length : Int) := by omega
  have k2 : min (0 : Int) (K.ns.length : Int) = 0 := by omega
  have k3 : (0 : Int) ≤ (c : Int) := by omega
  have k4 : (K.ns.length : Int) ≤ (c : Int) := by omega
  have B1 : Below w.heap.size w (w.alloc (.cells #[.int .i64 0, .slice none 0 0] 72)) := (Below.refl _ _).alloc (Nat.le_refl _) _
  have hz := B1.size
  clear KC ML DN1 RF h hso hsv hl hl1 hl2
  go_enter Tryz.func24, Tryz.ntmps24
  go_wp2
  go_region_held3 (fun W => W.cell? ⟨w.heap.size, 0, none⟩ = some (.int .i64 0) ∧ W.cell? ⟨d, 4, none⟩ = some (.slice ao K.ns.length c)) (exact ⟨by simp [go_sem], (HKC.out _ (by repeat' first | exact Below.refl _ _ | assumption | refine Below.alloc ?_ (by first | omega | (simp; omega) | (simp; done)) _ | refine Below.setCell ?_ (by first | omega | (simp; omega) | (simp; done)) _ | refine Below.drew ?_)).1⟩) (first | fail)
  have B2 := B1.drew
  have X1 : ((w.alloc (.cells #[.int .i64 0, .slice none 0 0] 72)).drew).heap[w.heap.size]? = some (.cells #[.int .i64 0, .slice none 0 0] 72 (0, 0)) := heap_alloc_new _ _
  clear B1 hz
  generalize ((w.alloc (.cells #[.int .i64 0, .slice none 0 0] 72)).drew) = W at *
  obtain ⟨d4, d3⟩ := HKC.out _ B2
  clear HKC
  have BOX : ∀ w4 : World, Below W.heap.size W w4 → ∀ (i j : Nat) (a b : Value), ((w4.setCell ⟨d, i, none⟩ a).setCell ⟨d, j, none⟩ b).cell? ⟨w.heap.size, 1, none⟩ = some (.slice none 0 0) := fun w4 b4 i j a b =>
    blk_cell ((Below.heap_setCell _ _ _ _ hdw.out).trans ((Below.heap_setCell _ _ _ _ hdw.out).trans ((b4.block _ (lt_of_block X1)).trans X1))) 1 rfl
  have HBOX : Hid _ := BOX
  clear BOX X1
  go_wp2
  refine wp_loop_rounds 1 ?_
  rw [rounds_succ]
  go_wp2_with (first
    | (go_at_call 58; refine (HML.out _ B2).mono ?_; clear HML; rintro e w4 ⟨rfl, o4, b4⟩; obtain ⟨⟨q2, f2, f4, q4⟩, DX, BX, UX⟩ := HDN.out _ _ B2 b4 o4; clear HDN; have y1 := HBOX.out _ b4 2 4 (.map (some W.heap.size)) (.slice none 0 0); clear HBOX)
    | (go_at_call 59; refine (HRF.out _ _ DX BX UX).mono ?_; clear HRF; rintro e w5 ⟨rfl, ⟨z5, z6, z7, z8, c5, c6, c7, c8⟩, fr, q5⟩; have f5 := fr.f 5; have f6 := fr.f 6; have f7 := fr.f 7; have f8 := fr.f 8; clear fr))
  go_returns
  exact ⟨rfl, q5⟩

theorem onlyN_put (d : DataW Unit) : ∀ kl, Maps.has (DataW.put (H := Unit) (.map []) (.string [97]) d) kl = true → kl = .string [97] := by
  intro kl h
  by_cases e : kl = .string [97]
  · exact e
  · rw [has_put_other e] at h
    simp [Maps.has] at h
/-- Behind Restart of a disk whose file a is kept. -/
def Kept (base d N f : Nat) (X : List Int) (w w' : World) : Prop := ∃ K' G, One base w' d N K' 0 f G ∧ G.B = X ∧ Below base w w'
set_option maxHeartbeats 4000000 in
theorem restart_one (base d N : Nat) (K : Dk) (f : Nat) (F : Fl) (g : Nat) (w : World) (h : One base w d N K 0 f F) (hb : base ≤ w.heap.size) (hl : K.DL = .map []) (hns : K.ns = [crV ⟨#[97]⟩ 0]) (hN : N < maxLen) (hd : w.heap[g]? = some (.cells #[.int .i64 ((1 : Nat) : Int)] 3 (0, 0))) (hbig : F.L.length + unitsL F.S ≤ 140737488355328) :
    Calls Tryz.prog 24 #[.pointer (some ⟨d, 0, none⟩), .agg #[.int .i64 1, .slice (some ⟨g, 0, none⟩) 1 1]] w fun e w' => e = .returned (.tuple #[]) ∧ Kept base d (N + 1) f (firstOn F.L F.S 1) w w' := by
  obtain ⟨ao, l, c, hsv⟩ := row_shape h.disk.sown
  have hso := h.disk.sown
  rw [hsv, hns] at hso
  obtain ⟨e1, hl1, hl2⟩ := own_len hso
  obtain ⟨gs, rfl, hgs⟩ := own_cell hso (by simp)
  simp only [List.length_cons, List.length_nil] at e1 hl1
  subst e1
  have KC : ∀ W, Below w.heap.size w W → W.cell? ⟨d, 4, none⟩ = some (.slice (some ⟨gs, 0, none⟩) 1 c) ∧ W.cell? ⟨d, 3, none⟩ = some (.map (some K.ml)) ∧ W.cell? ⟨gs, 0, none⟩ = some (.iface 211 (.agg #[.string ⟨#[97]⟩, .int .i64 0])) := fun W b => by
    have c4 := (h.disk.below b).cells.c4
    rw [hsv] at c4
    have hc := hgs 0 (crV ⟨#[97]⟩ 0) (by simp)
    exact ⟨c4, (h.disk.below b).cells.c3, (b.cell (p := ⟨gs, 0, none⟩) (World.block_lt_of_cell? w _ hc)).trans hc⟩
  have A : ∀ W, Below w.heap.size w W → Calls Tryz.prog 57 #[.map (some K.ml), .iface 211 (.agg #[.string ⟨#[97]⟩, .int .i64 0])] W fun e w2 => e = .returned (.tuple #[.int .i64 0, .bool false]) ∧ DiskAt base w2 d (N + 1) { K with DL := DataW.put (.map []) (.string [97]) (.lit (.int .i64 ((0 : Nat) : Int))) } ∧ FileAt base w2 f F ∧ Upd (fun k => k = K.ml) W w2 := by
    intro W bW
    have DW1 := h.disk.below bW
    have FW1 := h.file.below bW
    have hmL := DW1.mL
    rw [hl] at hmL
    refine (doName_created K.ml N (.map []) ⟨#[97]⟩ 0 W hmL (by decide) (by omega) hN).mono ?_
    rintro e w2 ⟨rfl, o2, u2⟩
    obtain ⟨es, x, hmb⟩ := map_block hmL
    have nd : d ≠ K.ml := map_not hmL DW1.block
    exact ⟨rfl, ⟨(u2.block d (lt_of_block DW1.block) nd).trans DW1.block, (map_upd DW1.mF u2 DW1.n2).mono (by omega), (map_upd DW1.mN u2 DW1.n3).mono (by omega), o2, ownsRow_upd DW1.sown u2 (fun k e hh => by subst hh; exact own_map DW1.sown hmL e), DW1.n1, DW1.n2, DW1.n3, DW1.low⟩, FW1.map u2 hmb, u2⟩
  have C : ∀ W w2 w4 : World, Below w.heap.size w W → W.heap[w.heap.size]? = some (.cells #[.int .i64 1, .slice (some ⟨g, 0, none⟩) 1 1] 72 (0, 0)) → DiskAt base w2 d (N + 1) { K with DL := DataW.put (.map []) (.string [97]) (.lit (.int .i64 ((0 : Nat) : Int))) } → FileAt base w2 f F → Upd (fun k => k = K.ml) W w2 → Below w2.heap.size w2 w4 → w4.ownsMap Tryz.prog 9 (plainElem (H := Unit) Tryz.prog 3) w2.heap.size (N + 1) (DataW.put (.map []) (.string [97]) (.lit (.int .i64 ((0 : Nat) : Int)))) →
      (w4.cell? ⟨d, 2, none⟩ = some (.map (some K.mn)) ∧ w4.frozen? ⟨d, 2, none⟩ = false ∧ w4.frozen? ⟨d, 4, none⟩ = false ∧ w4.cell? ⟨d, 4, none⟩ = some (.slice (some ⟨gs, 0, none⟩) 1 c)) ∧ ((w4.setCell ⟨d, 2, none⟩ (.map (some w2.heap.size))).setCell ⟨d, 4, none⟩ (.slice none 0 0)).cell? ⟨w.heap.size, 1, none⟩ = some (.slice (some ⟨g, 0, none⟩) 1 1) ∧
      Calls Tryz.prog 59 #[.pointer (some ⟨d, 0, none⟩), .slice (some ⟨g, 0, none⟩) 1 1] ((w4.setCell ⟨d, 2, none⟩ (.map (some w2.heap.size))).setCell ⟨d, 4, none⟩ (.slice none 0 0)) fun e w' => e = .returned (.tuple #[]) ∧ (∃ z5 z6 z7 z8, w'.cell? ⟨d, 5, none⟩ = some (.int .i64 z5) ∧ w'.cell? ⟨d, 6, none⟩ = some (.int .i64 z6) ∧ w'.cell? ⟨d, 7, none⟩ = some (.int .i64 z7) ∧ w'.cell? ⟨d, 8, none⟩ = some (.bool z8)) ∧ DFree w' d ∧ Kept base d (N + 1) f (firstOn F.L F.S 1) w ((((w'.setCell ⟨d, 5, none⟩ (.int .i64 0)).setCell ⟨d, 6, none⟩ (.int .i64 0)).setCell ⟨d, 7, none⟩ (.int .i64 0)).setCell ⟨d, 8, none⟩ (.bool false)) := by
    intro W w2 w4 bW hbox D2 F2 u2 b4 o4
    have hsW := bW.size
    have hs2 := u2.size
    have hs4 := b4.size
    have D4 := D2.below b4
    have F4 := F2.below b4
    have l1 := h.disk.mF.lt
    have l2 := h.disk.mL.lt
    have ld := lt_of_block h.disk.block
    have c4 := D4.cells.c4
    simp only at c4
    rw [hsv] at c4
    have hnd : w.heap.size ≠ d := by omega
    have ngl : g ≠ K.ml := map_not h.disk.mL hd
    have ngd : g ≠ d := by rintro rfl; rw [h.disk.block] at hd; simp at hd
    have lg := lt_of_block hd
    have lb := lt_of_block hbox
    have us : Upd (fun k => k = d) w4 ((w4.setCell ⟨d, 2, none⟩ (.map (some w2.heap.size))).setCell ⟨d, 4, none⟩ (.slice none 0 0)) := ((Upd.refl (fun k => k = d) w4).setCell (p := ⟨d, 2, none⟩) (fun _ => rfl) _).setCell (p := ⟨d, 4, none⟩) (fun _ => rfl) _
    have box4 := (us.block w.heap.size (by omega) hnd).trans ((b4.block w.heap.size (by omega)).trans ((u2.block w.heap.size (lt_of_block hbox) (by omega)).trans hbox))
    have dat4 := (us.block g (by omega) ngd).trans ((b4.block g (by omega)).trans ((u2.block g (by omega) ngl).trans ((bW.block g lg).trans hd)))
    have DX := (D4.setN o4 (by simp only; omega) (by simp only; omega) (by omega)).setS
    have FX := F4.cell us D4.block
    have BX : Below base w ((w4.setCell ⟨d, 2, none⟩ (.map (some w2.heap.size))).setCell ⟨d, 4, none⟩ (.slice none 0 0)) := (bW.mono hb).trans ((u2.below (by omega) (fun k hk e => by have := h.disk.low.2.2.2; omega)).trans ((b4.mono (by omega)).trans (us.below (by omega) (fun k hk e => by have := h.disk.low.1; omega))))
    refine ⟨⟨D4.cells.c2, free3 D4.block 2, free3 D4.block 4, c4⟩, blk_cell box4 1 rfl, ?_⟩
    refine (restartFiles_one base d (N + 1) _ f F 1 g _ ⟨DX, FX, ⟨has_put_same isMap_empty (law_s.key keyA) _, atKey_put_same isMap_empty (law_s.key keyA) _ _, h.has.fat, by omega⟩, h.on, h.arm⟩ (by have := BX.size; omega) (onlyN_put _) (by omega) dat4 (by omega) hbig).mono ?_
    rintro e w' ⟨rfl, m, G, O5, g1, g2, g3, b5⟩
    have D5 := O5.disk
    refine ⟨rfl, ⟨_, _, _, _, D5.cells.c5, D5.cells.c6, D5.cells.c7, D5.cells.c8⟩, ⟨fun i => free3 D5.block i⟩, _, G, ⟨D5.reset, O5.file.cell (reset_upd w' d) D5.block, ⟨O5.has.has, O5.has.at_, O5.has.fat, O5.has.lt⟩, rfl, rfl⟩, g1, ?_⟩
    exact (BX.trans b5).trans ((reset_upd w' d).below (by have := BX.size; have := b5.size; omega) (fun k hk e => by have := h.disk.low.1; omega))
  have ML : ∀ w2, DiskAt base w2 d (N + 1) { K with DL := DataW.put (.map []) (.string [97]) (.lit (.int .i64 ((0 : Nat) : Int))) } → w2.cell? ⟨d, 3, none⟩ = some (.map (some K.ml)) ∧ Calls Tryz.prog 58 #[.map (some K.ml)] w2 fun e w' => e = .returned (.map (some w2.heap.size)) ∧ w'.ownsMap Tryz.prog 9 (plainElem (H := Unit) Tryz.prog 3) w2.heap.size (N + 1) (DataW.put (.map []) (.string [97]) (.lit (.int .i64 ((0 : Nat) : Int)))) ∧ Below w2.heap.size w2 w' := fun w2 D2 => ⟨D2.cells.c3, mclone_any K.ml (N + 1) _ w2 D2.mL⟩
  have HKC : Hid _ := KC
  have HA : Hid _ := A
  have HC : Hid _ := C
  have HML : Hid _ := ML
  have k3 : (1 : Int) ≤ (c : Int) := by omega
  have B1 : Below w.heap.size w (w.alloc (.cells #[.int .i64 1, .slice (some ⟨g, 0, none⟩) 1 1] 72)) := (Below.refl _ _).alloc (Nat.le_refl _) _
  have hz := B1.size
  clear KC A C ML h hso hsv hl hl1 hl2 hns hd hbig hgs
  generalize Kept base d (N + 1) f (firstOn F.L F.S 1) w = R at *
  go_enter Tryz.func24, Tryz.ntmps24
  go_wp2
  go_region_held3 (fun W => W.cell? ⟨w.heap.size, 0, none⟩ = some (.int .i64 1) ∧ W.cell? ⟨d, 4, none⟩ = some (.slice (some ⟨gs, 0, none⟩) 1 c)) (exact ⟨by simp [go_sem], (HKC.out _ (by repeat' first | exact Below.refl _ _ | assumption | refine Below.alloc ?_ (by first | omega | (simp; omega) | (simp; done)) _ | refine Below.setCell ?_ (by first | omega | (simp; omega) | (simp; done)) _ | refine Below.drew ?_)).1⟩) (first | fail)
  have B2 := B1.drew
  have X1 : ((w.alloc (.cells #[.int .i64 1, .slice (some ⟨g, 0, none⟩) 1 1] 72)).drew).heap[w.heap.size]? = some (.cells #[.int .i64 1, .slice (some ⟨g, 0, none⟩) 1 1] 72 (0, 0)) := heap_alloc_new _ _
  clear B1 hz
  generalize ((w.alloc (.cells #[.int .i64 1, .slice (some ⟨g, 0, none⟩) 1 1] 72)).drew) = W at *
  obtain ⟨d4, d3, dg⟩ := HKC.out _ B2
  have A1 := HA.out _ B2
  have HX1 : Hid _ := X1
  clear HKC HA X1
  go_wp2
  refine wp_loop_rounds 2 ?_
  rw [rounds_succ]
  go_wp2_with (go_at_call 57; refine A1.mono ?_; clear A1; rintro e w2 ⟨rfl, D2, F2, u2⟩; obtain ⟨m3, ML2⟩ := HML.out _ D2; clear HML)
  rw [rounds_succ]
  go_wp2_with (first
    | (go_at_call 58; refine ML2.mono ?_; clear ML2; rintro e w4 ⟨rfl, o4, b4⟩; obtain ⟨⟨q2, f2, f4, q4⟩, y1, RF⟩ := HC.out _ _ _ B2 HX1.out D2 F2 u2 b4 o4; clear HC)
    | (go_at_call 59; refine RF.mono ?_; clear RF; rintro e w5 ⟨rfl, ⟨z5, z6, z7, z8, c5, c6, c7, c8⟩, fr, q5⟩; have f5 := fr.f 5; have f6 := fr.f 6; have f7 := fr.f 7; have f8 := fr.f 8; clear fr))
  go_returns
  exact ⟨rfl, q5⟩
end Go.Proofs.YtgoafinbaiepmaaGreatDoor
