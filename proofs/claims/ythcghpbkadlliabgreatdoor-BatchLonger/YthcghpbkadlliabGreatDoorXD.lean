/-
  XD.
-/
import Derived.Test.YthcghpbkadlliabGreatDoorXC
namespace Go.Proofs.YthcghpbkadlliabGreatDoor
open Go.Shelf Go.RowKit
set_option maxRecDepth 100000

theorem HSS.keep {w0 w w' : World} {H Tb mb R g : Nat} {v pv : Value} {K : List Int} {t : Dst} (h : HSS w0 w H Tb mb R g v pv K t) {S : Nat → Prop} (hu : Upd S w w') (hS : ∀ k, S k → k < w0.heap.size) : w'.heap[H]? = some (.cells #[.pointer (some ⟨Tb, 0, none⟩), pv, .int .u64 0] 135 (0, 0)) ∧ IsTb w0.heap.size w' Tb mb v t.texts ∧ w'.ownsRow w0.heap.size 3 1 pv t.tpl.length (natsV t.tpl) := by
  obtain ⟨l1, l2, l3⟩ := h.lo
  have ne : ∀ k, w0.heap.size ≤ k → ¬ S k := fun k hk e => by have := hS k e; omega
  exact ⟨(hu.block _ (lt_of_block h.hb) (ne _ l3)).trans h.hb, h.tb.upd hu (ne _ l1) (ne _ l2) (fun k hk => ne _ (own_block h.tb.own hk).1), ownsRow_upd h.row hu (fun k hk => ne _ (own_block h.row hk).1)⟩
theorem HSR.keep {w0 w w' : World} {H Tb mb R g : Nat} {v pv : Value} {K : List Int} {t : Dst} (h : HSR w0 w H Tb mb R g v pv K t) {S : Nat → Prop} (hu : Upd S w w') (hS : ∀ k, S k → k < w0.heap.size) : w'.heap[H]? = some (.cells #[.pointer (some ⟨Tb, 0, none⟩), pv, .int .u64 0] 144 (0, 0)) ∧ IsTr w0.heap.size w' Tb mb v t.traces ∧ w'.ownsRow w0.heap.size 3 1 pv t.rpl.length (natsV t.rpl) := by
  obtain ⟨l1, l2, l3⟩ := h.lo
  have ne : ∀ k, w0.heap.size ≤ k → ¬ S k := fun k hk e => by have := hS k e; omega
  exact ⟨(hu.block _ (lt_of_block h.hb) (ne _ l3)).trans h.hb, h.tb.upd hu (ne _ l1) (ne _ l2) (fun k hk => ne _ (own_block h.tb.own hk).1), ownsRow_upd h.row hu (fun k hk => ne _ (own_block h.row hk).1)⟩

set_option maxHeartbeats 2000000 in
theorem taken_spans (b o : Nat) (n cp : Nat) (x : ByteArray) (K : List Int) (w : World) (h3 : ¬ (n : Int) < 3) (h1 : ¬ (65536 : Int) < n) (hc : (n : Int) ≤ cp) (hcv : (convert 24 9 (.slice (some ⟨b, o, none⟩) 3 cp)).run Tryz.prog w = .ok (.string x) w) (hx : (!x.toList == [83, 66, 1]) = false) (hH : Holds w (some ⟨b, o, none⟩) n K) (hK : ∀ x ∈ K, 0 ≤ x ∧ x < 256) (ht : Tabs w) (hg : 1 < w.heap.size ∧ 2 < w.heap.size) (L1 L2 : List Unit) (s1 s2 : Dst) (he1 : hearTD K d0 = .ok (L1, s1)) (he2 : hearRD K s1 = .ok (L2, s2)) (a no : Nat) (he : spansD K s2 = .error (a, no)) (hs1 : (s1.traces = [] ∧ s1.rpl = []) ∧ s1.pos ≤ K.length)
    (hs2 : (s2.tpl.length = s2.texts.length ∧ s2.rpl.length = s2.traces.length ∧ s2.tsp = 0 ∧ s2.rsp = 0 ∧ s2.start = 0 ∧ Inv K 0 s2) ∧ (s2.texts = s1.texts ∧ s2.tpl = s1.tpl) ∧ True) :
    Calls Tryz.prog 15 #[.slice (some ⟨b, o, none⟩) n cp] w fun e w' => Ups w' a no e ∧ Below w.heap.size w w' := by
  have h2 : decide ((n : Int) < 3) = false := decide_eq_false h3
  have h4 : (3 : Int) ≤ cp := by omega
  have hl := hH.len
  have NR := newReader_any (some ⟨b, o, none⟩) n cp K w hH (by omega) hK
  have hmf : ∀ (fn : Fn) (first cap : Array Value) (w : World), (Instr.makeFunc fn first cap).run Tryz.prog w = .ok (.func fn first cap) w := fun _ _ _ _ => rfl
  have RD : ∀ (R g : Nat) (w' : World), IsR w' R g K 0 → _ := fun R g w' h' => raw_ok R g K 0 3 w' h' (by omega) (by omega)
  have HT : Hid (Tabs w) := ht
  have HG : Hid _ := hg
  have HKK : Hid (∀ x ∈ K, 0 ≤ x ∧ x < 256) := hK
  have HLL : Hid (3 ≤ K.length ∧ K.length ≤ 65536) := (⟨by omega, by omega⟩ : 3 ≤ K.length ∧ K.length ≤ 65536)
  clear hl hH ht hK hg
  have HE1 : Hid (hearTD K d0 = .ok (L1, s1)) := he1
  have HE2 : Hid (hearRD K s1 = .ok (L2, s2)) := he2
  have HE : Hid (spansD K s2 = .error (a, no)) := he
  have HS1 : Hid _ := hs1
  have HS2 : Hid _ := hs2
  clear he he1 he2 hs1 hs2
  go_enter Tryz.func15, Tryz.ntmps15
  go_wp2_with (first
    | (go_at_call 26; refine NR.mono ?_; clear NR; rintro e w1 ⟨R, rfl, lR, r1, b1⟩; have ba : Below w1.heap.size w1 ((w1.alloc (.cells #[.pointer (some ⟨R, 0, none⟩), .pointer none, .pointer none, .int .i64 0] 80)).alloc (.cells #[.pointer (some ⟨w1.heap.size, 0, none⟩)] 74)) := ((Below.refl _ _).alloc (Nat.le_refl _) _).alloc (by simp) _; have r2 := r1.below ba; have T2 : ((w1.alloc (.cells #[.pointer (some ⟨R, 0, none⟩), .pointer none, .pointer none, .int .i64 0] 80)).alloc (.cells #[.pointer (some ⟨w1.heap.size, 0, none⟩)] 74)).heap[w1.heap.size]? = some (.cells #[.pointer (some ⟨R, 0, none⟩), .pointer none, .pointer none, .int .i64 0] 80 (0, 0)) := (Below.heap_alloc _ _ _ (by simp)).trans (heap_alloc_new _ _); have C2 : ((w1.alloc (.cells #[.pointer (some ⟨R, 0, none⟩), .pointer none, .pointer none, .int .i64 0] 80)).alloc (.cells #[.pointer (some ⟨w1.heap.size, 0, none⟩)] 74)).heap[w1.heap.size + 1]? = some (.cells #[.pointer (some ⟨w1.heap.size, 0, none⟩)] 74 (0, 0)) := alloc_at (by simp))
    | (go_at_call 28; refine (RD _ _ _ r2).mono ?_; clear RD; rintro e w2 ⟨q2, rfl, rr2, lq2, r3, u3⟩; have T3 := (u3.block _ (lt_of_block T2) (ne_of_types T2 r2.block (by decide))).trans T2; have C3 := (u3.block _ (lt_of_block C2) (ne_of_types C2 r2.block (by decide))).trans C2; have z3 := lt_of_block C3; have c3 : w2.cell? ⟨w1.heap.size + 1, 0, none⟩ = some (.pointer (some ⟨w1.heap.size, 0, none⟩)) := cell_of_one C3; have lw := b1.size; have B3 : Below w.heap.size w w2 := (b1.trans (ba.mono b1.size)).trans ((u3.below (B := w.heap.size) (by simp; omega) (fun k hk e => by omega))); clear T2 C2 r2 ba rr2)
    | (go_at_call 27; refine (mustB_ok _ _ _ _).mono ?_; rintro e w3 ⟨rfl, hw3⟩; obtain rfl := hw3.symm))
  have ud : Upd (fun _ => False) w2 (w2.drewN 1) := (Upd.refl _ w2).drewN 1
  have M1 := hearS_any (w1.heap.size + 1) w1.heap.size R w.heap.size K d0 (w2.drewN 1) (C3 : VarT w2 _ _) ⟨_, _, _, T3⟩ (r3.upd ud (fun h => h) (fun h => h)) ((HT.out.below B3).upd ud (fun h => h) (fun h => h)) HKK.out HLL.out.2 ⟨rfl, rfl⟩ HLL.out.1 (by have := HG.out; omega) (by have := HG.out; omega)
  rw [HE1.out] at M1
  unfold PostHS at M1
  simp only at M1
  have nT := ne_of_types T3 r3.block (by decide)
  have nC := ne_of_types C3 r3.block (by decide)
  have zT := lt_of_block T3
  go_region_held3 (fun w' => w'.cell? ⟨w1.heap.size + 1, 0, none⟩ = some (.pointer (some ⟨w1.heap.size, 0, none⟩))) (first | exact c3 | exact c4 | exact c5) (first
    | (go_at_call 29; refine M1.mono ?_; clear M1; rintro e w4 ⟨H1, B1, m1, v1, p1, rfl, hs⟩; have T4 := (hs.upd.block _ zT nT).trans T3; have C4 := (hs.upd.block _ (lt_of_block C3) nC).trans C3; have c4 : w4.cell? ⟨w1.heap.size + 1, 0, none⟩ = some (.pointer (some ⟨w1.heap.size, 0, none⟩)) := cell_of_one C4; have d4 : w4.cell? ⟨w1.heap.size, 1, none⟩ = some (.pointer none) := blk_cell T4 1 rfl; have f4 := blk_free T4 1; have us := upd_one w4 w1.heap.size 1 (.pointer (some ⟨H1, 0, none⟩)); have C5 := (us.block _ (lt_of_block C4) (by omega)).trans C4; have c5 : (w4.setCell ⟨w1.heap.size, 1, none⟩ (.pointer (some ⟨H1, 0, none⟩))).cell? ⟨w1.heap.size + 1, 0, none⟩ = some (.pointer (some ⟨w1.heap.size, 0, none⟩)) := cell_of_one C5))
  go_wp2
  obtain ⟨w5, hw5⟩ : ∃ W, w4.setCell ⟨w1.heap.size, 1, none⟩ (.pointer (some ⟨H1, 0, none⟩)) = W := ⟨_, rfl⟩
  have lR1 := lt_of_block r1.block
  have T5 := set_block T4 1 (.pointer (some ⟨H1, 0, none⟩))
  have B5 : Below w.heap.size w (w4.setCell ⟨w1.heap.size, 1, none⟩ (.pointer (some ⟨H1, 0, none⟩))) := ((below_drewN B3 1).trans (hs.upd.below (B := w.heap.size) (by show w.heap.size ≤ w2.heap.size; omega) (fun k hk e => by omega))).trans (us.below (B := w.heap.size) (by have := lt_of_block T4; omega) (fun k hk e => by omega))
  have r5 := hs.isR.upd us (by omega) (by omega)
  rw [hw5] at C5 c5 T5 B5 r5 us ⊢
  clear hw5
  have ud5 : Upd (fun _ => False) w5 (w5.drewN 1) := (Upd.refl _ w5).drewN 1
  have M2 := hearR_any (w1.heap.size + 1) w1.heap.size R w.heap.size K s1 (w5.drewN 1) (C5 : VarT w5 _ _) ⟨_, _, _, T5⟩ (r5.upd ud5 (fun h => h) (fun h => h)) ((HT.out.below B5).upd ud5 (fun h => h) (fun h => h)) HKK.out HLL.out.2 HS1.out.1 HS1.out.2 (by have := HG.out; omega) (by have := HG.out; omega)
  rw [HE2.out] at M2
  unfold PostHR at M2
  simp only at M2
  have nT5 := ne_of_types T5 r5.block (by decide)
  have nC5 := ne_of_types C5 r5.block (by decide)
  go_region_held3 (fun w' => w'.cell? ⟨w1.heap.size + 1, 0, none⟩ = some (.pointer (some ⟨w1.heap.size, 0, none⟩))) (first | exact c5 | exact c6 | exact c7) (first
    | (go_at_call 33; refine M2.mono ?_; clear M2; rintro e w6 ⟨H2, B2, m2, v2, p2, rfl, hr⟩; have T6 := (hr.upd.block _ (lt_of_block T5) nT5).trans T5; have C6 := (hr.upd.block _ (lt_of_block C5) nC5).trans C5; have c6 : w6.cell? ⟨w1.heap.size + 1, 0, none⟩ = some (.pointer (some ⟨w1.heap.size, 0, none⟩)) := cell_of_one C6; have d6 : w6.cell? ⟨w1.heap.size, 2, none⟩ = some (.pointer none) := blk_cell T6 2 rfl; have f6 := blk_free T6 2; have ut := upd_one w6 w1.heap.size 2 (.pointer (some ⟨H2, 0, none⟩)); have C7 := (ut.block _ (lt_of_block C6) (by omega)).trans C6; have c7 : (w6.setCell ⟨w1.heap.size, 2, none⟩ (.pointer (some ⟨H2, 0, none⟩))).cell? ⟨w1.heap.size + 1, 0, none⟩ = some (.pointer (some ⟨w1.heap.size, 0, none⟩)) := cell_of_one C7))
  obtain ⟨w7, hw7⟩ : ∃ W, w6.setCell ⟨w1.heap.size, 2, none⟩ (.pointer (some ⟨H2, 0, none⟩)) = W := ⟨_, rfl⟩
  have T7 := set_block T6 2 (.pointer (some ⟨H2, 0, none⟩))
  have z6 := lt_of_block T6
  have zz5 := lt_of_block T5
  have r7 := hr.isR.upd ut (by omega) (by omega)
  have B7 : Below w.heap.size w (w6.setCell ⟨w1.heap.size, 2, none⟩ (.pointer (some ⟨H2, 0, none⟩))) := ((below_drewN B5 1).trans (hr.upd.below (B := w.heap.size) (by show w.heap.size ≤ w5.heap.size; omega) (fun k hk e => by omega))).trans (ut.below (B := w.heap.size) (by omega) (fun k hk e => by omega))
  have zw2 : w2.heap.size ≤ w5.heap.size := by have := hs.upd.size; have := us.size; simp at *; omega
  have u47 : Upd (fun k => k = w1.heap.size ∨ k = R) w4 (w6.setCell ⟨w1.heap.size, 2, none⟩ (.pointer (some ⟨H2, 0, none⟩))) := (((us.mono (fun _ _ h => Or.inl h)).drewN 1).trans hr.upd (fun _ _ h => Or.inr h)).trans ut (fun _ _ h => Or.inl h)
  have k1 := hs.keep u47 (fun k e => by show k < w2.heap.size; omega)
  have k2 := hr.keep ut (fun k e => by show k < w5.heap.size; omega)
  rw [hw7] at C7 c7 T7 r7 B7 k1 k2 ⊢
  clear hw7
  have hs7 := HS2.out
  obtain ⟨c, ec0, ec1, ec2, ec3, ec4, ec5, hD⟩ := ds_make (n0 := w.heap.size) T7 r7 k1.1 (by rw [hs7.2.1.1]; exact k1.2.1) (by rw [hs7.2.1.2]; exact k1.2.2) k2.1 k2.2.1 k2.2.2 hs7.1.1 hs7.1.2.1 hs7.1.2.2.1 hs7.1.2.2.2.1 hs7.1.2.2.2.2.1 hs7.1.2.2.2.2.2 (HT.out.below B7) ⟨by omega, by omega, by have := hs.lo; have : w2.heap.size ≤ H1 := hs.lo.2.2; omega, by have : w5.heap.size ≤ H2 := hr.lo.2.2; omega⟩ HG.out
  have SC := dSpans c w7 w7 K s2 hD (by rw [hs7.1.2.2.2.2.1]; exact Int.le_refl 0) (by rw [hs7.1.2.2.2.2.1]; decide)
  rw [HE.out, ec1] at SC
  unfold PostSs at SC
  simp only at SC
  clear HKK HLL HT HG hs7
  go_wp2_with (go_at_call 36; refine SC.mono ?_; clear SC; rintro e w8 ⟨⟨q8, p8, rfl, G8⟩, u8⟩)
  exact ⟨rfl, ⟨q8, p8, rfl, G8⟩, B7.trans (u8.below (B := w.heap.size) B7.size (fun k hk e => by have h1 := hD.fx.lo _ e; omega))⟩
end Go.Proofs.YthcghpbkadlliabGreatDoor
