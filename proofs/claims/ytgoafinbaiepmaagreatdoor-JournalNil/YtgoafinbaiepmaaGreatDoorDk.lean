/-
  Layer 7 (disk): Pending of a disk whose one file is a.
-/
import Derived.Test.YtgoafinbaiepmaaGreatDoorDj
import Derived.Deep.OwnRows
namespace Go.Proofs.YtgoafinbaiepmaaGreatDoor
open Go.RowKit Go.Shelf Go.Maps Go.WideMaps
set_option maxRecDepth 100000
theorem Tryz.info3 : (Tryz.prog.info? 3).map (fun i => (i.zero, i.size, i.bytes)) = some (some (.int .i64 0), 1, 8) := by kernel_rfl

theorem made_one (w : World) : (Instr.makeSlice 43 (.int .i64 1) (.int .i64 1)).run Tryz.prog w = .ok (.slice (some ⟨w.heap.size, 0, none⟩) 1 1) (w.alloc (.cells #[.int .i64 0] 3)) := by
  have h := run_make_row' (P := Tryz.prog) 43 3 (.int .i64 0) 8 Tryz.underlying43 Tryz.info3 rfl .i64 .i64 1 (by omega) (by omega) w
  have e : madeCells #[Value.int .i64 0] 1 = #[Value.int .i64 0] := by kernel_rfl
  rw [e] at h
  exact h
theorem heap_at {w : World} {o : Obj} {b : Nat} (hb : b = w.heap.size) : (w.alloc o).heap[b]? = some o := by subst hb; exact heap_alloc_new w o
theorem heap3 (w : World) (a b c : Obj) : (((w.alloc a).alloc b).alloc c).heap[w.heap.size]? = some a ∧ (((w.alloc a).alloc b).alloc c).heap[w.heap.size + 1]? = some b ∧ (((w.alloc a).alloc b).alloc c).heap[w.heap.size + 1 + 1]? = some c := by
  have e1 : (w.alloc a).heap.size = w.heap.size + 1 := by simp
  have e2 : ((w.alloc a).alloc b).heap.size = w.heap.size + 1 + 1 := by simp
  refine ⟨?_, ?_, ?_⟩
  · rw [Below.heap_alloc _ _ _ (by omega), Below.heap_alloc _ _ _ (by omega)]; exact heap_at rfl
  · rw [Below.heap_alloc _ _ _ (by omega)]; exact heap_at e1.symm
  · exact heap_at e2.symm
/-- The disk's files are the one alone. -/
def Only (K : Dk) (n : Nat) : Prop := ∀ kl, Maps.has K.DF kl = true → kl = .int .i64 (n : Int)
theorem has_true_of_atKey' {D : DataW Unit} {k : Lit} {b : Int} (h : D.atKey k .nil = .lit (.int .i64 b)) : Maps.has D k = true := by
  cases hh : Maps.has D k with
  | true => rfl
  | false => rw [atKey_of_not_has hh] at h; cases h
/-- Midway in Pending. -/
structure Pnd (w : World) (K : Dk) (n r kb g N L U : Nat) (wr : World) (left : Lit → Bool) (cnt : Nat) : Prop where
  rg : wr.ranges Tryz.prog 3 ptrR K.mf r N K.DF left cnt
  sub : ∀ kl, left kl = true → Maps.has K.DF kl = true
  below : Below w.heap.size w wr
  keep : wr.heap[kb]? = some (.cells #[.int .i64 (L : Int), .slice (some ⟨g, 0, none⟩) 1 1] 72 (0, 0))
  row : ∃ x : Int, wr.heap[g]? = some (.cells #[.int .i64 x] 3 (0, 0)) ∧ (left (.int .i64 (n : Int)) = false → x = (U : Int))
  res : wr.heap[w.heap.size]? = some (.cells #[.int .i64 0, .slice none 0 0] 72 (0, 0))
theorem ranges_upd {S : Nat → Prop} {w w' : World} {k : TypeId} {R : Value → Option (DataW Unit × List MemPlace)} {b r n : Nat} {D : DataW Unit} {left : Lit → Bool} {cnt : Nat} (h : w.ranges Tryz.prog k R b r n D left cnt) (hu : Upd S w w') (hb' : ¬ S b) (hr' : ¬ S r) : w'.ranges Tryz.prog k R b r n D left cnt := by
  obtain ⟨es, clock, since, seen, c0, hb, hF, hs, hD, hr, rest⟩ := h
  exact ⟨es, clock, since, seen, c0, (hu.block b (lt_of_block hb) hb').trans hb, hF, hs, hD, (hu.block r (lt_of_block hr) hr').trans hr, rest⟩
theorem ranges_iter {w : World} {k : TypeId} {R : Value → Option (DataW Unit × List MemPlace)} {b r n : Nat} {D : DataW Unit} {left : Lit → Bool} {cnt : Nat} (h : w.ranges Tryz.prog k R b r n D left cnt) {g : Nat} {cs : Array Value} {t : TypeId} {fz : Nat × Nat} (hg : w.heap[g]? = some (.cells cs t fz)) : g ≠ b ∧ g ≠ r := by
  obtain ⟨es, clock, since, seen, c0, hb, hF, hs, hD, hr, rest⟩ := h
  constructor
  · rintro rfl; rw [hb] at hg; simp at hg
  · rintro rfl; rw [hr] at hg; simp at hg
theorem Pnd.next {w : World} {K : Dk} {n r kb g N L U : Nat} {wr w1 : World} {left left' : Lit → Bool} {cnt cnt' : Nat} (h : Pnd w K n r kb g N L U wr left cnt) (hg1 : wr.grownBy w1 (some r)) (hrg : w1.ranges Tryz.prog 3 ptrR K.mf r N K.DF left' cnt') (hsub : ∀ kl, left' kl = true → left kl = true) (hne : kb ≠ g ∧ kb ≠ w.heap.size ∧ g ≠ w.heap.size) (hgt : w.heap.size < kb ∧ w.heap.size < g) (hwr : w.heap.size ≤ r) :
    Below w.heap.size w w1 ∧ (∀ W, Below w1.heap.size w1 W → W.cell? ⟨kb, 1, none⟩ = some (.slice (some ⟨g, 0, none⟩) 1 1)) ∧ (∀ w3, Below w1.heap.size w1 w3 → (∃ x, w3.cell? ⟨g, 0, none⟩ = some (.int .i64 x)) ∧ w3.frozen? ⟨g, 0, none⟩ = false ∧ Pnd w K n r kb g N L U (w3.setCell ⟨g, 0, none⟩ (.int .i64 (U : Int))) left' cnt') := by
  obtain ⟨x0, hg0, _⟩ := h.row
  have u1 : Upd (fun k => k = r) wr w1 := (Upd.refl _ _).grown hg1 (fun _ _ e => (Option.some.inj e).symm)
  have n1 := ranges_iter h.rg h.keep
  have n2 := ranges_iter h.rg hg0
  have n3 := ranges_iter h.rg h.res
  have k1 := (u1.block kb (lt_of_block h.keep) n1.2).trans h.keep
  have k2 := (u1.block g (lt_of_block hg0) n2.2).trans hg0
  have k3 := (u1.block w.heap.size (lt_of_block h.res) n3.2).trans h.res
  have B1 : Below w.heap.size w w1 := h.below.trans (u1.below h.below.size (fun k hk e => by omega))
  refine ⟨B1, fun W b => blk_cell ((b.block kb (lt_of_block k1)).trans k1) 1 rfl, fun w3 b => ?_⟩
  have u3 := Upd.ofBelow (S := fun _ => False) b (fun k hk hk' => by omega)
  have q1 := (b.block kb (lt_of_block k1)).trans k1
  have q2 := (b.block g (lt_of_block k2)).trans k2
  have q3 := (b.block w.heap.size (lt_of_block k3)).trans k3
  have us : Upd (fun k => k = g) w3 (w3.setCell ⟨g, 0, none⟩ (.int .i64 (U : Int))) := (Upd.refl (fun k => k = g) w3).setCell (p := ⟨g, 0, none⟩) (fun _ => rfl) _
  have B3 : Below w.heap.size w w3 := B1.trans (b.mono B1.size)
  refine ⟨⟨x0, blk_cell q2 0 rfl⟩, free3 q2 0, ⟨ranges_upd (ranges_upd hrg u3 (fun h => h) (fun h => h)) us (fun e => n2.1 e.symm) (fun e => n2.2 e.symm), fun kl hl => h.sub kl (hsub kl hl), B3.trans (us.below B3.size (fun k hk e => by omega)), (us.block kb (lt_of_block q1) hne.1).trans q1, ⟨(U : Int), blk_set q2 0 _, fun _ => rfl⟩, (us.block _ (lt_of_block q3) (fun e => hne.2.2 e.symm)).trans q3⟩⟩
set_option maxHeartbeats 4000000 in
theorem pending_a (base d N : Nat) (K : Dk) (f : Nat) (F : Fl) (w : World) (h : One base w d N K 0 f F) (hcr : K.cr = 1) (hon : Only K 0) (hU : unitsL F.S ≤ 4611686018427387904) :
    Calls Tryz.prog 39 #[.pointer (some ⟨d, 0, none⟩)] w fun e w' => ∃ g, e = .returned (.agg #[.int .i64 (K.ns.length : Int), .slice (some ⟨g, 0, none⟩) 1 1]) ∧ w'.cell? ⟨g, 0, none⟩ = some (.int .i64 (unitsL F.S : Int)) ∧ Below w.heap.size w w' := by
  obtain ⟨c0, c1, c2, c3, c4, c5, c6, c7, c8⟩ := h.disk.cells
  rw [hcr] at c1
  obtain ⟨ao, l, c, hsv⟩ := row_shape h.disk.sown
  have hso := h.disk.sown
  rw [hsv] at hso c4
  obtain ⟨e1, _, _⟩ := own_len hso
  subst e1
  have hmk : ∀ w : World, (Instr.makeSlice 43 (.int .i64 1) (.int .i64 1)).run Tryz.prog w = .ok (.slice (some ⟨w.heap.size, 0, none⟩) 1 1) (w.alloc (.cells #[.int .i64 0] 3)) := fun w => made_one w
  have PE := fun W (b : Below w.heap.size w W) => fpending_any base f F W (h.file.below b) hU
  have MF := fun W (b : Below w.heap.size w W) => (h.disk.below b).mF
  have CC : ∀ W, Below w.heap.size w W → W.cell? ⟨d, 0, none⟩ = some (.map (some K.mf)) := fun W b => (h.disk.below b).cells.c0
  have CD : ∀ W, Below w.heap.size w W → W.cell? ⟨d, 4, none⟩ = some (.slice ao K.ns.length c) ∧ W.cell? ⟨d, 1, none⟩ = some (.int .i64 1) := fun W b => by
    have c4' := (h.disk.below b).cells.c4
    have c1' := (h.disk.below b).cells.c1
    rw [hsv] at c4'
    rw [hcr] at c1'
    exact ⟨c4', c1'⟩
  have HMF : Hid _ := MF
  have HL : Hid (True) := trivial
  have HPE : Hid _ := PE
  have HON : Hid _ := hon
  have HFA : Hid (K.DF.atKey (.int .i64 ((0 : Nat) : Int)) .nil = .lit (.int .i64 (f : Int))) := h.has.fat
  have HHA : Hid (Maps.has K.DF (.int .i64 ((0 : Nat) : Int)) = true) := has_true_of_atKey' h.has.fat
  clear MF PE hon h hso hsv c0 c1 c2 c3 c4 c5 c6 c7 c8
  have B0 : Below w.heap.size w w := Below.refl _ _
  go_enter Tryz.func39, Tryz.ntmps39
  go_wp2
  go_region_held3 (fun W => W.cell? ⟨d, 4, none⟩ = some (.slice ao K.ns.length c) ∧ W.cell? ⟨d, 1, none⟩ = some (.int .i64 1)) (exact CD _ (by repeat' first | exact Below.refl _ _ | assumption | refine Below.alloc ?_ (by first | omega | (simp; omega) | (simp; done)) _ | refine Below.drew ?_)) (first | fail)
  · generalize hW : World.drew _ = W
    have B1 : Below w.heap.size w W := by rw [← hW]; exact (by repeat' first | exact Below.refl _ _ | assumption | refine Below.alloc ?_ (by first | omega | (simp; omega) | (simp; done)) _ | refine Below.drew ?_)
    have X1 : W.heap[w.heap.size + 1 + 1]? = some (.cells #[.int .i64 (K.ns.length : Int), .slice (some ⟨w.heap.size + 1, 0, none⟩) 1 1] 72 (0, 0)) := by
      rw [← hW]
      exact (heap3 _ _ _ _).2.2
    have X2 : W.heap[w.heap.size + 1]? = some (.cells #[.int .i64 0] 3 (0, 0)) := by
      rw [← hW]
      exact (heap3 _ _ _ _).2.1
    have X3 : W.heap[w.heap.size]? = some (.cells #[.int .i64 0, .slice none 0 0] 72 (0, 0)) := by
      rw [← hW]
      exact (heap3 _ _ _ _).1
    have hne : Hid (w.heap.size + 1 + 1 ≠ w.heap.size + 1 ∧ w.heap.size + 1 + 1 ≠ w.heap.size ∧ w.heap.size + 1 ≠ w.heap.size) := (by omega : w.heap.size + 1 + 1 ≠ w.heap.size + 1 ∧ w.heap.size + 1 + 1 ≠ w.heap.size ∧ w.heap.size + 1 ≠ w.heap.size)
    have kb0 : Hid (w.heap.size < w.heap.size + 1 + 1 ∧ w.heap.size < w.heap.size + 1) := (by omega : w.heap.size < w.heap.size + 1 + 1 ∧ w.heap.size < w.heap.size + 1)
    clear hW B0 hmk CD
    generalize h11 : w.heap.size + 1 + 1 = kb at *
    generalize h1 : w.heap.size + 1 = g at *
    clear h11 h1
    have q0 := CC _ B1
    have MFW := HMF.out _ B1
    clear HMF CC
    go_wp2_with (first
      | (at_range; refine wpList_range_own _ rfl _ 90 rfl 3 157 law_i Tryz.underlying90 _ K.mf N K.DF rfl MFW ?_; intro w0 hrg0 hg0 hs0)
      | go_in)
    go_frame
    have hbw : Below W.heap.size W w0 := (Below.refl _ _).grown hg0 (Nat.le_refl _) (fun k e => by cases e)
    have P0 : Pnd w K 0 W.heap.size kb g N K.ns.length (unitsL F.S) w0 (Maps.has K.DF) (Maps.size K.DF) :=
      ⟨hrg0, fun kl h => h, B1.trans (hbw.mono B1.size), (hbw.block _ (lt_of_block X1)).trans X1, ⟨0, (hbw.block _ (lt_of_block X2)).trans X2, fun e => by rw [HHA.out] at e; cases e⟩, (hbw.block _ (lt_of_block X3)).trans X3⟩
    clear hrg0 hg0 hs0 X1 X2 X3 MFW hbw q0
    go_loopw [4] (fun _ wr => ∃ (left : Lit → Bool) (cnt : Nat), Pnd w K 0 W.heap.size kb g N K.ns.length (unitsL F.S) wr left cnt) (fun _ wr => wr.rangeLeft K.mf W.heap.size)
    case atStart => exact ⟨_, _, P0⟩
    case round =>
      obtain ⟨left, cnt, hP⟩ := hrel
      have hrg := hP.rg
      have hk1 := hP.keep
      obtain ⟨x0, hg1, hx0⟩ := hP.row
      have hr1 := hP.res
      have Bw := hP.below
      have j1 := blk_cell hk1 1 (v := .slice (some ⟨g, 0, none⟩) 1 1) rfl
      have j0 := blk_cell hk1 0 (v := .int .i64 (K.ns.length : Int)) rfl
      have g0 := blk_cell hg1 0 (v := .int .i64 x0) rfl
      have r0 := blk_cell hr1 0 (v := .int .i64 0) rfl
      have r1 := blk_cell hr1 1 (v := .slice none 0 0) rfl
      have rf0 := free3 hr1 0
      have rf1 := free3 hr1 1
      go_wp2_with (first
        | (at_next; refine wpList_next_ranges _ rfl _ rfl 3 law_i ptrR (Value.int .i64) Value.pointer (fun key kl hk => by obtain ⟨x, rfl, _⟩ := Maps.keyOf_int_inv Tryz.underlying3 hk; exact ⟨x, rfl⟩) (fun v y hv => ptrR_shape hv) K.mf W.heap.size N K.DF left cnt rfl hrg ?_ ?_)
        | go_in)
      · intro _ hl0
        have hx := hx0 (hl0 _)
        have R0 : (wr.setCell ⟨w.heap.size, 0, none⟩ (.int .i64 (K.ns.length : Int))).cell? ⟨w.heap.size, 0, none⟩ = some (.int .i64 (K.ns.length : Int)) := blk_cell (blk_set hr1 0 _) 0 rfl
        have R1 : ((wr.setCell ⟨w.heap.size, 0, none⟩ (.int .i64 (K.ns.length : Int))).setCell ⟨w.heap.size, 1, none⟩ (.slice (some ⟨g, 0, none⟩) 1 1)).cell? ⟨w.heap.size, 1, none⟩ = some (.slice (some ⟨g, 0, none⟩) 1 1) := blk_cell (blk_set (blk_set hr1 0 _) 1 _) 1 rfl
        go_wp2
        have Z0 : ((wr.setCell ⟨w.heap.size, 0, none⟩ (.int .i64 (K.ns.length : Int))).setCell ⟨w.heap.size, 1, none⟩ (.slice (some ⟨g, 0, none⟩) 1 1)).cell? ⟨w.heap.size, 0, none⟩ = some (.int .i64 (K.ns.length : Int)) := blk_cell (blk_set (blk_set hr1 0 _) 1 _) 0 rfl
        have Z2 : ((wr.setCell ⟨w.heap.size, 0, none⟩ (.int .i64 (K.ns.length : Int))).setCell ⟨w.heap.size, 1, none⟩ (.slice (some ⟨g, 0, none⟩) 1 1)).cell? ⟨g, 0, none⟩ = some (.int .i64 (unitsL F.S : Int)) := by
          subst hx
          have e1 := Below.heap_setCell (wr.setCell ⟨w.heap.size, 0, none⟩ (.int .i64 (K.ns.length : Int))) ⟨w.heap.size, 1, none⟩ (.slice (some ⟨g, 0, none⟩) 1 1) g hne.out.2.2
          have e2 := Below.heap_setCell wr ⟨w.heap.size, 0, none⟩ (.int .i64 (K.ns.length : Int)) g hne.out.2.2
          exact blk_cell (e1.trans (e2.trans hg1)) 0 rfl
        have Z3 : Below w.heap.size w ((wr.setCell ⟨w.heap.size, 0, none⟩ (.int .i64 (K.ns.length : Int))).setCell ⟨w.heap.size, 1, none⟩ (.slice (some ⟨g, 0, none⟩) 1 1)) := (Bw.setCell (p := ⟨w.heap.size, 0, none⟩) (Nat.le_refl _) _).setCell (p := ⟨w.heap.size, 1, none⟩) (Nat.le_refl _) _
        generalize ((wr.setCell ⟨w.heap.size, 0, none⟩ (.int .i64 (K.ns.length : Int))).setCell ⟨w.heap.size, 1, none⟩ (.slice (some ⟨g, 0, none⟩) 1 1)) = Z at *
        refine bodyPost_ret (by simp [results, Tryz.results39, go_sem, Z0, R1]; try rfl) rfl ?_
        exact ⟨g, rfl, Z2, Z3⟩
      · intro x cc kl y1 y2 w1 cnt1 hkey hlk hv hat hrg1 hlt1 hgr1 hsz1 hen
        have ekl := HON.out kl (hP.sub kl hlk)
        subst ekl
        obtain ⟨x', ex, ey, _⟩ := Maps.keyOf_int_inv Tryz.underlying3 hkey
        simp at ex ey
        subst ex
        subst ey
        have hy := hat .nil
        rw [HFA.out] at hy
        subst hy
        obtain ⟨k9, e9, h9⟩ := ptrR_inv hv
        simp at e9
        subst e9
        obtain rfl : k9 = f := by omega
        obtain ⟨B2, J2, NX⟩ := hP.next hgr1 hrg1 (fun kl h => by simp at h; exact h.1) hne.out kb0.out B1.size
        have HNX : Hid _ := NX
        have HRG1 := hrg1.left_eq
        have HRG := hrg.left_eq
        have HB1 : Hid _ := B1
        have HBw : Hid _ := Bw
        have j2 := J2 _ (Below.refl _ _)
        clear NX hP hrg hrg1 hk1 hg1 hx0 hr1 j1 j0 g0 r0 r1 rf0 rf1 hat hv hkey hlk hgr1 B1 Bw
        go_wp2
        go_region_with (first
          | (go_at_call 95; refine (HPE.out _ (by repeat' first | exact Below.refl _ _ | assumption | refine Below.alloc ?_ (by first | omega | (simp; omega) | (simp; done)) _ | refine Below.drew ?_)).mono ?_; rintro e w3 ⟨rfl, b3⟩; have B3 : Below w1.heap.size w1 w3 := Below.trans (by repeat' first | exact Below.refl _ _ | assumption | refine Below.alloc ?_ (by first | omega | (simp; omega) | (simp; done)) _ | refine Below.drew ?_) (b3.mono (by first | exact Nat.le_refl _ | omega | (simp; omega) | (simp; done))); clear b3; obtain ⟨⟨x9, g3⟩, f3, P3⟩ := HNX.out _ B3; have j3 := J2 _ B3))
        all_goals (
          go_roundw
          case rel => exact ⟨_, _, _, _, _, _, _, _, _, _, _, _, _, ⟨_, cnt1, P3⟩, rfl⟩
          case measure => (rw [P3.rg.left_eq, HRG]; exact hlt1))
  · generalize hW : World.drew _ = W
    have B1 : Below w.heap.size w W := by rw [← hW]; exact (by repeat' first | exact Below.refl _ _ | assumption | refine Below.alloc ?_ (by first | omega | (simp; omega) | (simp; done)) _ | refine Below.drew ?_)
    have X1 : W.heap[w.heap.size + 1]? = some (.cells #[.int .i64 (K.ns.length : Int), .slice (some ⟨w.heap.size + 1 + 1, 0, none⟩) 1 1] 72 (0, 0)) := by
      rw [← hW]
      exact (heap3 _ _ _ _).2.1
    have X2 : W.heap[w.heap.size + 1 + 1]? = some (.cells #[.int .i64 0] 3 (0, 0)) := by
      rw [← hW]
      exact (heap3 _ _ _ _).2.2
    have X3 : W.heap[w.heap.size]? = some (.cells #[.int .i64 0, .slice none 0 0] 72 (0, 0)) := by
      rw [← hW]
      exact (heap3 _ _ _ _).1
    have hne : Hid (w.heap.size + 1 ≠ w.heap.size + 1 + 1 ∧ w.heap.size + 1 ≠ w.heap.size ∧ w.heap.size + 1 + 1 ≠ w.heap.size) := (by omega : w.heap.size + 1 ≠ w.heap.size + 1 + 1 ∧ w.heap.size + 1 ≠ w.heap.size ∧ w.heap.size + 1 + 1 ≠ w.heap.size)
    have kb0 : Hid (w.heap.size < w.heap.size + 1 ∧ w.heap.size < w.heap.size + 1 + 1) := (by omega : w.heap.size < w.heap.size + 1 ∧ w.heap.size < w.heap.size + 1 + 1)
    clear hW B0 hmk CD
    generalize h11 : w.heap.size + 1 + 1 = g at *
    generalize h1 : w.heap.size + 1 = kb at *
    clear h11 h1
    have q0 := CC _ B1
    have MFW := HMF.out _ B1
    clear HMF CC
    go_wp2_with (first
      | (at_range; refine wpList_range_own _ rfl _ 90 rfl 3 157 law_i Tryz.underlying90 _ K.mf N K.DF rfl MFW ?_; intro w0 hrg0 hg0 hs0)
      | go_in)
    go_frame
    have hbw : Below W.heap.size W w0 := (Below.refl _ _).grown hg0 (Nat.le_refl _) (fun k e => by cases e)
    have P0 : Pnd w K 0 W.heap.size kb g N K.ns.length (unitsL F.S) w0 (Maps.has K.DF) (Maps.size K.DF) :=
      ⟨hrg0, fun kl h => h, B1.trans (hbw.mono B1.size), (hbw.block _ (lt_of_block X1)).trans X1, ⟨0, (hbw.block _ (lt_of_block X2)).trans X2, fun e => by rw [HHA.out] at e; cases e⟩, (hbw.block _ (lt_of_block X3)).trans X3⟩
    clear hrg0 hg0 hs0 X1 X2 X3 MFW hbw q0
    go_loopw [4] (fun _ wr => ∃ (left : Lit → Bool) (cnt : Nat), Pnd w K 0 W.heap.size kb g N K.ns.length (unitsL F.S) wr left cnt) (fun _ wr => wr.rangeLeft K.mf W.heap.size)
    case atStart => exact ⟨_, _, P0⟩
    case round =>
      obtain ⟨left, cnt, hP⟩ := hrel
      have hrg := hP.rg
      have hk1 := hP.keep
      obtain ⟨x0, hg1, hx0⟩ := hP.row
      have hr1 := hP.res
      have Bw := hP.below
      have j1 := blk_cell hk1 1 (v := .slice (some ⟨g, 0, none⟩) 1 1) rfl
      have j0 := blk_cell hk1 0 (v := .int .i64 (K.ns.length : Int)) rfl
      have g0 := blk_cell hg1 0 (v := .int .i64 x0) rfl
      have r0 := blk_cell hr1 0 (v := .int .i64 0) rfl
      have r1 := blk_cell hr1 1 (v := .slice none 0 0) rfl
      have rf0 := free3 hr1 0
      have rf1 := free3 hr1 1
      go_wp2_with (first
        | (at_next; refine wpList_next_ranges _ rfl _ rfl 3 law_i ptrR (Value.int .i64) Value.pointer (fun key kl hk => by obtain ⟨x, rfl, _⟩ := Maps.keyOf_int_inv Tryz.underlying3 hk; exact ⟨x, rfl⟩) (fun v y hv => ptrR_shape hv) K.mf W.heap.size N K.DF left cnt rfl hrg ?_ ?_)
        | go_in)
      · intro _ hl0
        have hx := hx0 (hl0 _)
        have R0 : (wr.setCell ⟨w.heap.size, 0, none⟩ (.int .i64 (K.ns.length : Int))).cell? ⟨w.heap.size, 0, none⟩ = some (.int .i64 (K.ns.length : Int)) := blk_cell (blk_set hr1 0 _) 0 rfl
        have R1 : ((wr.setCell ⟨w.heap.size, 0, none⟩ (.int .i64 (K.ns.length : Int))).setCell ⟨w.heap.size, 1, none⟩ (.slice (some ⟨g, 0, none⟩) 1 1)).cell? ⟨w.heap.size, 1, none⟩ = some (.slice (some ⟨g, 0, none⟩) 1 1) := blk_cell (blk_set (blk_set hr1 0 _) 1 _) 1 rfl
        go_wp2
        have Z0 : ((wr.setCell ⟨w.heap.size, 0, none⟩ (.int .i64 (K.ns.length : Int))).setCell ⟨w.heap.size, 1, none⟩ (.slice (some ⟨g, 0, none⟩) 1 1)).cell? ⟨w.heap.size, 0, none⟩ = some (.int .i64 (K.ns.length : Int)) := blk_cell (blk_set (blk_set hr1 0 _) 1 _) 0 rfl
        have Z2 : ((wr.setCell ⟨w.heap.size, 0, none⟩ (.int .i64 (K.ns.length : Int))).setCell ⟨w.heap.size, 1, none⟩ (.slice (some ⟨g, 0, none⟩) 1 1)).cell? ⟨g, 0, none⟩ = some (.int .i64 (unitsL F.S : Int)) := by
          subst hx
          have e1 := Below.heap_setCell (wr.setCell ⟨w.heap.size, 0, none⟩ (.int .i64 (K.ns.length : Int))) ⟨w.heap.size, 1, none⟩ (.slice (some ⟨g, 0, none⟩) 1 1) g hne.out.2.2
          have e2 := Below.heap_setCell wr ⟨w.heap.size, 0, none⟩ (.int .i64 (K.ns.length : Int)) g hne.out.2.2
          exact blk_cell (e1.trans (e2.trans hg1)) 0 rfl
        have Z3 : Below w.heap.size w ((wr.setCell ⟨w.heap.size, 0, none⟩ (.int .i64 (K.ns.length : Int))).setCell ⟨w.heap.size, 1, none⟩ (.slice (some ⟨g, 0, none⟩) 1 1)) := (Bw.setCell (p := ⟨w.heap.size, 0, none⟩) (Nat.le_refl _) _).setCell (p := ⟨w.heap.size, 1, none⟩) (Nat.le_refl _) _
        generalize ((wr.setCell ⟨w.heap.size, 0, none⟩ (.int .i64 (K.ns.length : Int))).setCell ⟨w.heap.size, 1, none⟩ (.slice (some ⟨g, 0, none⟩) 1 1)) = Z at *
        refine bodyPost_ret (by simp [results, Tryz.results39, go_sem, Z0, R1]; try rfl) rfl ?_
        exact ⟨g, rfl, Z2, Z3⟩
      · intro x cc kl y1 y2 w1 cnt1 hkey hlk hv hat hrg1 hlt1 hgr1 hsz1 hen
        have ekl := HON.out kl (hP.sub kl hlk)
        subst ekl
        obtain ⟨x', ex, ey, _⟩ := Maps.keyOf_int_inv Tryz.underlying3 hkey
        simp at ex ey
        subst ex
        subst ey
        have hy := hat .nil
        rw [HFA.out] at hy
        subst hy
        obtain ⟨k9, e9, h9⟩ := ptrR_inv hv
        simp at e9
        subst e9
        obtain rfl : k9 = f := by omega
        obtain ⟨B2, J2, NX⟩ := hP.next hgr1 hrg1 (fun kl h => by simp at h; exact h.1) hne.out kb0.out B1.size
        have HNX : Hid _ := NX
        have HRG1 := hrg1.left_eq
        have HRG := hrg.left_eq
        have HB1 : Hid _ := B1
        have HBw : Hid _ := Bw
        have j2 := J2 _ (Below.refl _ _)
        clear NX hP hrg hrg1 hk1 hg1 hx0 hr1 j1 j0 g0 r0 r1 rf0 rf1 hat hv hkey hlk hgr1 B1 Bw
        go_wp2
        go_region_with (first
          | (go_at_call 95; refine (HPE.out _ (by repeat' first | exact Below.refl _ _ | assumption | refine Below.alloc ?_ (by first | omega | (simp; omega) | (simp; done)) _ | refine Below.drew ?_)).mono ?_; rintro e w3 ⟨rfl, b3⟩; have B3 : Below w1.heap.size w1 w3 := Below.trans (by repeat' first | exact Below.refl _ _ | assumption | refine Below.alloc ?_ (by first | omega | (simp; omega) | (simp; done)) _ | refine Below.drew ?_) (b3.mono (by first | exact Nat.le_refl _ | omega | (simp; omega) | (simp; done))); clear b3; obtain ⟨⟨x9, g3⟩, f3, P3⟩ := HNX.out _ B3; have j3 := J2 _ B3))
        all_goals (
          go_roundw
          case rel => exact ⟨_, _, _, _, _, _, _, _, _, _, _, _, _, ⟨_, cnt1, P3⟩, rfl⟩
          case measure => (rw [P3.rg.left_eq, HRG]; exact hlt1))
end Go.Proofs.YtgoafinbaiepmaaGreatDoor
