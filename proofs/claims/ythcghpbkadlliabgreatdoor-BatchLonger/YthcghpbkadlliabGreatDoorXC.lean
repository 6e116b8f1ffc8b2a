/-
  XC.
-/
import Derived.Test.YthcghpbkadlliabGreatDoorXB
namespace Go.Proofs.YthcghpbkadlliabGreatDoor
open Go.Shelf Go.RowKit
set_option maxRecDepth 100000

set_option maxHeartbeats 2000000 in
theorem taken_traces (b o : Nat) (n cp : Nat) (x : ByteArray) (K : List Int) (w : World) (h3 : ¬ (n : Int) < 3) (h1 : ¬ (65536 : Int) < n) (hc : (n : Int) ≤ cp) (hcv : (convert 24 9 (.slice (some ⟨b, o, none⟩) 3 cp)).run Tryz.prog w = .ok (.string x) w) (hx : (!x.toList == [83, 66, 1]) = false) (hH : Holds w (some ⟨b, o, none⟩) n K) (hK : ∀ x ∈ K, 0 ≤ x ∧ x < 256) (ht : Tabs w) (hg : 1 < w.heap.size ∧ 2 < w.heap.size) (L1 : List Unit) (s1 : Dst) (he1 : hearTD K d0 = .ok (L1, s1)) (a no : Nat) (he : hearRD K s1 = .error (a, no)) (hs1 : (s1.traces = [] ∧ s1.rpl = []) ∧ s1.pos ≤ K.length) :
    Calls Tryz.prog 15 #[.slice (some ⟨b, o, none⟩) n cp] w fun e w' => Ups w' a no e ∧ Below w.heap.size w w' := by
  have h2 : decide ((n : Int) < 3) = false := decide_eq_false h3
  have h4 : (3 : Int) ≤ cp := by omega
  have hl := hH.len
  have NR := newReader_any (some ⟨b, o, none⟩) n cp K w hH (by omega) hK
  have hmf : ∀ (fn : Fn) (first cap : Array Value) (w : World), (Instr.makeFunc fn first cap).run Tryz.prog w = .ok (.func fn first cap) w := fun _ _ _ _ => rfl
  have RD : ∀ (R g : Nat) (w' : World), IsR w' R g K 0 → _ := fun R g w' h' => raw_ok R g K 0 3 w' h' (by omega) (by omega)
  have HT : Hid (Tabs w) := ht
  have HG : Hid _ := hg
  have HKK : Hid (∀ x ∈ K, 0 ≤ x ∧ x < 256) := hK
  have HLL : Hid (3 ≤ K.length ∧ K.length ≤ 65536) := (⟨by omega, by omega⟩ : 3 ≤ K.length ∧ K.length ≤ 65536)
  clear hl hH ht hK hg
  have HE1 : Hid (hearTD K d0 = .ok (L1, s1)) := he1
  have HE : Hid (hearRD K s1 = .error (a, no)) := he
  have HS1 : Hid _ := hs1
  clear he he1 hs1
  go_enter Tryz.func15, Tryz.ntmps15
  go_wp2_with (first
    | (go_at_call 26; refine NR.mono ?_; clear NR; rintro e w1 ⟨R, rfl, lR, r1, b1⟩; have ba : Below w1.heap.size w1 ((w1.alloc (.cells #[.pointer (some ⟨R, 0, none⟩), .pointer none, .pointer none, .int .i64 0] 80)).alloc (.cells #[.pointer (some ⟨w1.heap.size, 0, none⟩)] 74)) := ((Below.refl _ _).alloc (Nat.le_refl _) _).alloc (by simp) _; have r2 := r1.below ba; have T2 : ((w1.alloc (.cells #[.pointer (some ⟨R, 0, none⟩), .pointer none, .pointer none, .int .i64 0] 80)).alloc (.cells #[.pointer (some ⟨w1.heap.size, 0, none⟩)] 74)).heap[w1.heap.size]? = some (.cells #[.pointer (some ⟨R, 0, none⟩), .pointer none, .pointer none, .int .i64 0] 80 (0, 0)) := (Below.heap_alloc _ _ _ (by simp)).trans (heap_alloc_new _ _); have C2 : ((w1.alloc (.cells #[.pointer (some ⟨R, 0, none⟩), .pointer none, .pointer none, .int .i64 0] 80)).alloc (.cells #[.pointer (some ⟨w1.heap.size, 0, none⟩)] 74)).heap[w1.heap.size + 1]? = some (.cells #[.pointer (some ⟨w1.heap.size, 0, none⟩)] 74 (0, 0)) := alloc_at (by simp))
    | (go_at_call 28; refine (RD _ _ _ r2).mono ?_; clear RD; rintro e w2 ⟨q2, rfl, rr2, lq2, r3, u3⟩; have T3 := (u3.block _ (lt_of_block T2) (ne_of_types T2 r2.block (by decide))).trans T2; have C3 := (u3.block _ (lt_of_block C2) (ne_of_types C2 r2.block (by decide))).trans C2; have z3 := lt_of_block C3; have c3 : w2.cell? ⟨w1.heap.size + 1, 0, none⟩ = some (.pointer (some ⟨w1.heap.size, 0, none⟩)) := cell_of_one C3; have lw := b1.size; have B3 : Below w.heap.size w w2 := (b1.trans (ba.mono b1.size)).trans ((u3.below (B := w.heap.size) (by simp; omega) (fun k hk e => by omega))); clear T2 C2 r2 ba rr2)
    | (go_at_call 27; refine (mustB_ok _ _ _ _).mono ?_; rintro e w3 ⟨rfl, hw3⟩; obtain rfl := hw3.symm))
  have ud : Upd (fun _ => False) w2 (w2.drewN 1) := (Upd.refl _ w2).drewN 1
  have M1 := hearS_any (w1.heap.size + 1) w1.heap.size R w.heap.size K d0 (w2.drewN 1) (C3 : VarT w2 _ _) ⟨_, _, _, T3⟩ (r3.upd ud (fun h => h) (fun h => h)) ((HT.out.below B3).upd ud (fun h => h) (fun h => h)) HKK.out HLL.out.2 ⟨rfl, rfl⟩ HLL.out.1 (by have := HG.out; omega) (by have := HG.out; omega)
  rw [HE1.out] at M1
  unfold PostHS at M1
  simp only at M1
  have nT := ne_of_types T3 r3.block (by decide)
  have nC := ne_of_types C3 r3.block (by decide)
  have zT := lt_of_block T3
  go_region_held3 (fun w' => w'.cell? ⟨w1.heap.size + 1, 0, none⟩ = some (.pointer (some ⟨w1.heap.size, 0, none⟩))) (first | exact c3 | exact c4 | exact c5) (first
    | (go_at_call 29; refine M1.mono ?_; clear M1; rintro e w4 ⟨H1, B1, m1, v1, p1, rfl, hs⟩; have T4 := (hs.upd.block _ zT nT).trans T3; have C4 := (hs.upd.block _ (lt_of_block C3) nC).trans C3; have c4 : w4.cell? ⟨w1.heap.size + 1, 0, none⟩ = some (.pointer (some ⟨w1.heap.size, 0, none⟩)) := cell_of_one C4; have d4 : w4.cell? ⟨w1.heap.size, 1, none⟩ = some (.pointer none) := blk_cell T4 1 rfl; have f4 := blk_free T4 1; have us := upd_one w4 w1.heap.size 1 (.pointer (some ⟨H1, 0, none⟩)); have C5 := (us.block _ (lt_of_block C4) (by omega)).trans C4; have c5 : (w4.setCell ⟨w1.heap.size, 1, none⟩ (.pointer (some ⟨H1, 0, none⟩))).cell? ⟨w1.heap.size + 1, 0, none⟩ = some (.pointer (some ⟨w1.heap.size, 0, none⟩)) := cell_of_one C5))
  go_wp2
  obtain ⟨w5, hw5⟩ : ∃ W, w4.setCell ⟨w1.heap.size, 1, none⟩ (.pointer (some ⟨H1, 0, none⟩)) = W := ⟨_, rfl⟩
  have lR1 := lt_of_block r1.block
  have T5 := set_block T4 1 (.pointer (some ⟨H1, 0, none⟩))
  have B5 : Below w.heap.size w (w4.setCell ⟨w1.heap.size, 1, none⟩ (.pointer (some ⟨H1, 0, none⟩))) := ((below_drewN B3 1).trans (hs.upd.below (B := w.heap.size) (by show w.heap.size ≤ w2.heap.size; omega) (fun k hk e => by omega))).trans (us.below (B := w.heap.size) (by have := lt_of_block T4; omega) (fun k hk e => by omega))
  have r5 := hs.isR.upd us (by omega) (by omega)
  rw [hw5] at C5 c5 T5 B5 r5 us ⊢
  clear hw5
  have ud5 : Upd (fun _ => False) w5 (w5.drewN 1) := (Upd.refl _ w5).drewN 1
  have M2 := hearR_any (w1.heap.size + 1) w1.heap.size R w.heap.size K s1 (w5.drewN 1) (C5 : VarT w5 _ _) ⟨_, _, _, T5⟩ (r5.upd ud5 (fun h => h) (fun h => h)) ((HT.out.below B5).upd ud5 (fun h => h) (fun h => h)) HKK.out HLL.out.2 HS1.out.1 HS1.out.2 (by have := HG.out; omega) (by have := HG.out; omega)
  rw [HE.out] at M2
  unfold PostHR at M2
  simp only at M2
  have z5 := B5.size
  clear HKK HLL HT HG T4 T3 C3 C4 r3 d4 f4 c4 c3 hs us
  go_region_with (first
    | (go_at_call 33; refine M2.mono ?_; clear M2; rintro e w6 ⟨⟨q6, p6, e6, G6⟩, u6⟩; rcases e with v6 | ch | _; rotate_left; (focus (cases e6; exact ⟨rfl, ⟨q6, p6, rfl, G6⟩, (below_drewN B5 1).trans ((u6.below (B := w.heap.size) z5 (fun k hk e => by omega)))⟩)); (focus (cases e6)); have habs : Abs := Abs.mk (by cases e6); obtain ⟨y6, rfl⟩ : ∃ y, v6 = .pointer (some ⟨y, 0, none⟩) := habs.el; have c6 : w6.cell? ⟨w1.heap.size + 1, 0, none⟩ = some (.pointer (some ⟨w1.heap.size, 0, none⟩)) := habs.el; have d6 : w6.cell? ⟨w1.heap.size, 2, none⟩ = some (.pointer none) := habs.el; have f6 : w6.frozen? ⟨w1.heap.size, 2, none⟩ = false := habs.el; clear e6 G6 u6))
  all_goals exact habs.el
end Go.Proofs.YthcghpbkadlliabGreatDoor
