/-
  Layer 7 (disk): Create of any name.
-/
import Derived.Test.YtgoafinbaiepmaaGreatDoorDr
import Derived.Test.YtgoafinbaiepmaaGreatDoorDj
namespace Go.Proofs.YtgoafinbaiepmaaGreatDoor
open Go.RowKit Go.Shelf Go.Maps Go.WideMaps
set_option maxRecDepth 100000

/-- Behind Create. -/
def MadeN (base d N : Nat) (K : Dk) (s : ByteArray) (w w' : World) : Prop := ∃ (f : Nat) (sv : Value), OneN base w' d (N + 2) { K with cr := K.cr + 1, sv := sv, ns := K.ns ++ [crV s K.cr], DF := K.DF.put (.int .i64 (K.cr : Int)) (.lit (.int .i64 (f : Int))), DN := K.DN.put (.string s.data.toList) (.lit (.int .i64 (K.cr : Int))) } s K.cr f noF ∧ Below base w w' ∧ Upd (DW d K) w w' ∧ w.heap.size ≤ f
set_option maxHeartbeats 4000000 in
theorem createN (base d N : Nat) (K : Dk) (s : ByteArray) (hs : s.size ≤ 140737488355328) (hok : nameB s = true) (w : World) (h : DiskAt base w d N K) (hb : base ≤ w.heap.size) (ho : K.off = false) (ha1 : K.a1 = 0) (hno : Maps.has K.DN (.string s.data.toList) = false) (hN : N + 1 < maxLen) (hcr : K.cr < 4611686018427387904) (hmany : K.ns.length ≤ 1000000000000) :
    Calls Tryz.prog 78 #[.pointer (some ⟨d, 0, none⟩), .string s] w fun e w' => e = .returned (.int .i64 0) ∧ MadeN base d N K s w w' := by
  have RF := refuse_any base d N K s w h hs
  rw [show refB K.off s = 0 by unfold refB; rw [ho, hok]; rfl] at RF
  have FR := fire_zero base d N K w h ha1
  have zI : ∀ w, (zeroValue 3).run Tryz.prog w = .ok (.int .i64 0) w := by intro w; kernel_rfl
  obtain ⟨v, ps, L1, V1⟩ := h.mN.look_ok law_s Tryz.underlying91 (zI w) (plainElem_int Tryz.underlying3 (by decide)) (keyS s hs)
  rw [hno] at L1
  rw [atKey_of_not_has hno] at V1
  obtain ⟨c, rfl, hc, _⟩ := plainElem_int_inv Tryz.underlying3 V1
  obtain ⟨c0, c1, c2, c3, c4, c5, c6, c7, c8⟩ := h.cells
  have UPD : ∀ w1, DiskAt base w1 d N K → (Below base w w1 ∧ Upd (DW d K) w w1) → ∃ w2, (Instr.mapUpdate 90 (.map (some K.mf)) (.int .i64 (K.cr : Int)) (.pointer (some ⟨w1.heap.size, 0, none⟩))).run Tryz.prog ((w1.alloc (.cells #[.slice none 0 0, .slice none 0 0, .slice none 0 0] 174)).drew) = .ok () w2 ∧ DiskAt base w2 d (N + 1) { K with DF := K.DF.put (.int .i64 (K.cr : Int)) (.lit (.int .i64 (w1.heap.size : Int))) } ∧ FileAt base w2 w1.heap.size noF ∧ (Below base w w2 ∧ Upd (DW d K) w w2) := by
    rintro w1 D1 ⟨B1, X1⟩
    have hs1 := B1.size
    obtain ⟨w2, hrun, o2, t2⟩ := ((D1.mF.alloc (.cells #[.slice none 0 0, .slice none 0 0, .slice none 0 0] 174)).drew).store law_i Tryz.underlying90 (by omega) (keyI K.cr (by omega)) (ptrR_mk w1.heap.size)
    have U2 : Upd (fun k => k = K.mf) ((w1.alloc (.cells #[.slice none 0 0, .slice none 0 0, .slice none 0 0] 174)).drew) w2 := turned_upd t2
    have Ua : Upd (fun k => k = K.mf) w1 ((w1.alloc (.cells #[.slice none 0 0, .slice none 0 0, .slice none 0 0] 174)).drew) := ((Upd.refl _ _).alloc _).drew
    have U12 : Upd (fun k => k = K.mf) w1 w2 := Ua.trans U2 (fun _ _ h => h)
    have hmf := D1.mF.lt
    have nd : d ≠ K.mf := map_not D1.mF D1.block
    refine ⟨w2, hrun, ⟨(U12.block d (lt_of_block D1.block) nd).trans D1.block, o2, (map_upd D1.mN U12 (fun e => D1.n1 e.symm)).mono (by omega), (map_upd D1.mL U12 (fun e => D1.n2 e.symm)).mono (by omega), ownsRow_upd D1.sown U12 (fun k e hh => by subst hh; exact own_map D1.sown D1.mF e), D1.n1, D1.n2, D1.n3, D1.low⟩, ?_, ?_⟩
    · refine noF_at ?_ (by omega)
      have hnew := heap_alloc_new w1 (.cells #[.slice none 0 0, .slice none 0 0, .slice none 0 0] 174)
      exact (U2.block w1.heap.size (by show w1.heap.size < (w1.alloc _).heap.size; rw [World.size_alloc]; exact Nat.lt_succ_self _) (by omega)).trans hnew
    · exact ⟨B1.trans (U12.below (by omega) (fun k hk e => by have := D1.low.2.1; omega)), X1.trans U12 (fun _ _ h => Or.inr (Or.inl h))⟩
  have BL1 : ∀ w1, Upd (fun k => k = d) w w1 → (Below base w w1 ∧ Upd (DW d K) w w1) := fun w1 u => ⟨u.below hb (fun k hk e => by have := h.low.1; omega), u.mono (fun _ _ h => Or.inl h)⟩
  have SC := fun W => sclone_any s W (by omega)
  have ST : ∀ (w2 : World) (f : Nat), DiskAt base w2 d (N + 1) { K with DF := K.DF.put (.int .i64 (K.cr : Int)) (.lit (.int .i64 (f : Int))) } → FileAt base w2 f noF → (Below base w w2 ∧ Upd (DW d K) w w2) → w.heap.size ≤ f → ∀ W, Below w2.heap.size w2 W → Calls Tryz.prog 137 #[.pointer (some ⟨d, 0, none⟩), .iface 211 (.agg #[.string s, .int .i64 (K.cr : Int)])] W fun e w' => e = .returned (.tuple #[]) ∧ w'.cell? ⟨d, 1, none⟩ = some (.int .i64 (K.cr : Int)) ∧ w'.frozen? ⟨d, 1, none⟩ = false ∧ MadeN base d N K s w (w'.setCell ⟨d, 1, none⟩ (.int .i64 ((K.cr : Int) + 1))) := by
    rintro w2 f D2 F2 ⟨B2, X2⟩ hf0 W bW
    have D3 := D2.below bW
    have F3 := F2.below bW
    refine (step_created base d (N + 1) _ s K.cr W D3 (by have := B2.size; have := bW.size; omega) (by unfold maxLen; omega) (by omega) hN hmany).mono ?_
    rintro e w' ⟨rfl, sv, D4, U4⟩
    have F4 := F3.disk D3 U4
    refine ⟨rfl, D4.cells.c1, free3 D4.block 1, f, sv, ?_, ?_, ?_, hf0⟩
    · have k5 := blk_set D4.block 1 (.int .i64 ((K.cr + 1 : Nat) : Int))
      rw [cells_set1] at k5
      have us : Upd (fun k => k = d) w' (w'.setCell ⟨d, 1, none⟩ (.int .i64 ((K.cr + 1 : Nat) : Int))) := (Upd.refl (fun k => k = d) w').setCell (p := ⟨d, 1, none⟩) (fun _ => rfl) _
      have ec : (.int .i64 ((K.cr : Int) + 1) : Value) = .int .i64 ((K.cr + 1 : Nat) : Int) := by simp
      rw [ec]
      refine ⟨⟨k5, map_upd D4.mF us (fun e => map_not D4.mF D4.block e.symm), map_upd D4.mN us (fun e => map_not D4.mN D4.block e.symm), map_upd D4.mL us (fun e => map_not D4.mL D4.block e.symm), ownsRow_upd D4.sown us (fun k e hh => by subst hh; exact own_not D4.sown D4.block (fun cs h => by simp at h) e), D4.n1, D4.n2, D4.n3, D4.low⟩, ?_, ⟨?_, ?_, ?_, by omega⟩, ho, ha1, hs, hok⟩
      · exact F4.upd us (fun k hk hh => by subst hh; exact D4.apart F4 k (Or.inl rfl) hk) (fun s hs => by simp [noF] at hs)
      · exact has_put_same h.mN.isMap (law_s.key (keyS s hs)) _
      · exact atKey_put_same h.mN.isMap (law_s.key (keyS s hs)) _ _
      · exact atKey_put_same h.mF.isMap (law_i.key (keyI K.cr (by omega))) _ _
    · have b5 : Below base W w' := U4.below (by have := B2.size; have := bW.size; omega) (fun k hk e => by have := (D3.lt e).1; omega)
      have b6 : Below base w' (w'.setCell ⟨d, 1, none⟩ (.int .i64 ((K.cr : Int) + 1))) := ((Upd.refl (fun k => k = d) w').setCell (p := ⟨d, 1, none⟩) (fun _ => rfl) _).below (by have := B2.size; have := bW.size; have := b5.size; omega) (fun k hk e => by have := h.low.1; omega)
      exact B2.trans ((bW.mono (by have := B2.size; omega)).trans (b5.trans b6))
    · have x3 := X2.trans (Upd.ofBelow (S := fun _ => False) bW (fun k hk hk' => by omega)) (fun _ _ h => h.elim)
      have x4 := x3.trans U4 (fun _ _ h => h)
      exact x4.setCell (p := ⟨d, 1, none⟩) (fun _ => Or.inl rfl) _
  have CC : ∀ W, DiskAt base W d N K → W.cell? ⟨d, 0, none⟩ = some (.map (some K.mf)) ∧ W.cell? ⟨d, 1, none⟩ = some (.int .i64 (K.cr : Int)) := fun W D => ⟨D.cells.c0, D.cells.c1⟩
  have C1 : ∀ (w2 W : World) (f : Nat), DiskAt base w2 d (N + 1) { K with DF := K.DF.put (.int .i64 (K.cr : Int)) (.lit (.int .i64 (f : Int))) } → Below w2.heap.size w2 W → W.cell? ⟨d, 1, none⟩ = some (.int .i64 (K.cr : Int)) := fun w2 W f D b => (D.below b).cells.c1
  have HST : Hid _ := ST
  have HU : Hid _ := UPD
  have HCC : Hid _ := CC
  have HC1 : Hid _ := C1
  have HB1 : Hid _ := BL1
  have k1 : (K.cr : Int) < 4611686018427387904 := by omega
  clear ST UPD CC C1 BL1 h V1 hc zI c0 c1 c3 c4 c5 c6 c7 hmany hN hcr hno
  generalize MadeN base d N K s w = R at *
  go_enter Tryz.func78, Tryz.ntmps78
  go_wp2_with (first
    | (go_at_call 136; refine RF.mono ?_; clear RF; rintro e w' ⟨rfl, hw⟩; obtain rfl := hw.symm)
    | (go_at_call 131; refine FR.mono ?_; clear FR; rintro e w1 ⟨rfl, D1, same1, U1⟩; obtain ⟨d0, d1⟩ := HCC.out _ D1; obtain ⟨e0, e1⟩ := HCC.out _ (D1.below (((Below.refl _ _).alloc (Nat.le_refl _) (.cells #[.slice none 0 0, .slice none 0 0, .slice none 0 0] 174)).drew)); obtain ⟨w2, hrun2, D2, F2, B2⟩ := HU.out _ D1 (HB1.out _ U1); have HF1 : Hid _ := U1.size))
  go_region
  have ST2 := HST.out _ _ D2 F2 B2 HF1.out
  have KC2 := fun W b => HC1.out w2 W _ D2 b
  clear D2 F2 B2 D1 HST HU HCC HC1 HB1 same1 U1 hrun2 d0 d1 e0 e1
  have B20 : Below w2.heap.size w2 w2 := Below.refl _ _
  go_wp2
  go_region_held3 (fun W => W.cell? ⟨d, 1, none⟩ = some (.int .i64 (K.cr : Int))) (first | exact c14 | exact KC2 _ (by repeat' first | exact Below.refl _ _ | assumption | refine Below.alloc ?_ (by first | omega | (simp; omega) | (simp; done)) _ | refine Below.drew ?_)) (first
    | (go_at_call 138; refine (SC _).mono ?_; clear SC; rintro e w3 ⟨rfl, b3⟩; have B3 : Below w2.heap.size w2 w3 := Below.trans (by repeat' first | exact Below.refl _ _ | assumption | refine Below.alloc ?_ (by first | omega | (simp; omega) | (simp; done)) _ | refine Below.drew ?_) (b3.mono (by first | exact Nat.le_refl _ | omega | (simp; omega) | (simp; done))); clear b3; have z3 := B3.size)
    | (go_at_call 137; refine (ST2 _ (by repeat' first | exact Below.refl _ _ | assumption | refine Below.alloc ?_ (by first | omega | (simp; omega) | (simp; done)) _ | refine Below.drew ?_)).mono ?_; clear ST2; rintro e w4 ⟨rfl, c14, f14, q4⟩))
  go_wp2
  go_ret
  exact ⟨rfl, q4⟩
end Go.Proofs.YtgoafinbaiepmaaGreatDoor
