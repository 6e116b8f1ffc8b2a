/-
  XB.
-/
import Derived.Test.YthcghpbkadlliabGreatDoorMa30
namespace Go.Proofs.YthcghpbkadlliabGreatDoor
open Go.Shelf Go.RowKit
set_option maxRecDepth 100000

set_option maxHeartbeats 2000000 in
theorem taken_texts (b o : Nat) (n cp : Nat) (x : ByteArray) (K : List Int) (w : World) (h3 : ¬ (n : Int) < 3) (h1 : ¬ (65536 : Int) < n) (hc : (n : Int) ≤ cp) (hcv : (convert 24 9 (.slice (some ⟨b, o, none⟩) 3 cp)).run Tryz.prog w = .ok (.string x) w) (hx : (!x.toList == [83, 66, 1]) = false) (hH : Holds w (some ⟨b, o, none⟩) n K) (hK : ∀ x ∈ K, 0 ≤ x ∧ x < 256) (ht : Tabs w) (hg : 1 < w.heap.size ∧ 2 < w.heap.size) (a no : Nat) (he : hearTD K d0 = .error (a, no)) :
    Calls Tryz.prog 15 #[.slice (some ⟨b, o, none⟩) n cp] w fun e w' => Ups w' a no e ∧ Below w.heap.size w w' := by
  have h2 : decide ((n : Int) < 3) = false := decide_eq_false h3
  have h4 : (3 : Int) ≤ cp := by omega
  have hl := hH.len
  have NR := newReader_any (some ⟨b, o, none⟩) n cp K w hH (by omega) hK
  have hmf : ∀ (fn : Fn) (first cap : Array Value) (w : World), (Instr.makeFunc fn first cap).run Tryz.prog w = .ok (.func fn first cap) w := fun _ _ _ _ => rfl
  have RD : ∀ (R g : Nat) (w' : World), IsR w' R g K 0 → _ := fun R g w' h' => raw_ok R g K 0 3 w' h' (by omega) (by omega)
  have HT : Hid (Tabs w) := ht
  have HG : Hid _ := hg
  have HKK : Hid (∀ x ∈ K, 0 ≤ x ∧ x < 256) := hK
  have HLL : Hid (3 ≤ K.length ∧ K.length ≤ 65536) := (⟨by omega, by omega⟩ : 3 ≤ K.length ∧ K.length ≤ 65536)
  clear hl hH ht hK hg
  have HE : Hid (hearTD K d0 = .error (a, no)) := he
  clear he
  go_enter Tryz.func15, Tryz.ntmps15
  go_wp2_with (first
    | (go_at_call 26; refine NR.mono ?_; clear NR; rintro e w1 ⟨R, rfl, lR, r1, b1⟩; have ba : Below w1.heap.size w1 ((w1.alloc (.cells #[.pointer (some ⟨R, 0, none⟩), .pointer none, .pointer none, .int .i64 0] 80)).alloc (.cells #[.pointer (some ⟨w1.heap.size, 0, none⟩)] 74)) := ((Below.refl _ _).alloc (Nat.le_refl _) _).alloc (by simp) _; have r2 := r1.below ba; have T2 : ((w1.alloc (.cells #[.pointer (some ⟨R, 0, none⟩), .pointer none, .pointer none, .int .i64 0] 80)).alloc (.cells #[.pointer (some ⟨w1.heap.size, 0, none⟩)] 74)).heap[w1.heap.size]? = some (.cells #[.pointer (some ⟨R, 0, none⟩), .pointer none, .pointer none, .int .i64 0] 80 (0, 0)) := (Below.heap_alloc _ _ _ (by simp)).trans (heap_alloc_new _ _); have C2 : ((w1.alloc (.cells #[.pointer (some ⟨R, 0, none⟩), .pointer none, .pointer none, .int .i64 0] 80)).alloc (.cells #[.pointer (some ⟨w1.heap.size, 0, none⟩)] 74)).heap[w1.heap.size + 1]? = some (.cells #[.pointer (some ⟨w1.heap.size, 0, none⟩)] 74 (0, 0)) := alloc_at (by simp))
    | (go_at_call 28; refine (RD _ _ _ r2).mono ?_; clear RD; rintro e w2 ⟨q2, rfl, rr2, lq2, r3, u3⟩; have T3 := (u3.block _ (lt_of_block T2) (ne_of_types T2 r2.block (by decide))).trans T2; have C3 := (u3.block _ (lt_of_block C2) (ne_of_types C2 r2.block (by decide))).trans C2; have z3 := lt_of_block C3; have c3 : w2.cell? ⟨w1.heap.size + 1, 0, none⟩ = some (.pointer (some ⟨w1.heap.size, 0, none⟩)) := cell_of_one C3; have lw := b1.size; have B3 : Below w.heap.size w w2 := (b1.trans (ba.mono b1.size)).trans ((u3.below (B := w.heap.size) (by simp; omega) (fun k hk e => by omega))); clear T2 C2 r2 ba rr2)
    | (go_at_call 27; refine (mustB_ok _ _ _ _).mono ?_; rintro e w3 ⟨rfl, hw3⟩; obtain rfl := hw3.symm))
  have ud : Upd (fun _ => False) w2 (w2.drewN 1) := (Upd.refl _ w2).drewN 1
  have M1 := hearS_any (w1.heap.size + 1) w1.heap.size R w.heap.size K d0 (w2.drewN 1) (C3 : VarT w2 _ _) ⟨_, _, _, T3⟩ (r3.upd ud (fun h => h) (fun h => h)) ((HT.out.below B3).upd ud (fun h => h) (fun h => h)) HKK.out HLL.out.2 ⟨rfl, rfl⟩ HLL.out.1 (by have := HG.out; omega) (by have := HG.out; omega)
  rw [HE.out] at M1
  unfold PostHS at M1
  simp only at M1
  clear HKK HLL HT HG
  go_region_with (first
    | (go_at_call 29; refine M1.mono ?_; clear M1; rintro e w4 ⟨⟨q4, p4, e4, G4⟩, u4⟩; rcases e with v4 | ch | _; rotate_left; (focus (cases e4; exact ⟨rfl, ⟨q4, p4, rfl, G4⟩, (below_drewN B3 1).trans ((u4.below (B := w.heap.size) (by show w.heap.size ≤ w2.heap.size; omega) (fun k hk e => by omega)))⟩)); (focus (cases e4)); have habs : Abs := Abs.mk (by cases e4); obtain ⟨y4, rfl⟩ : ∃ y, v4 = .pointer (some ⟨y, 0, none⟩) := habs.el; have c4 : w4.cell? ⟨w1.heap.size + 1, 0, none⟩ = some (.pointer (some ⟨w1.heap.size, 0, none⟩)) := habs.el; have d4 : w4.cell? ⟨w1.heap.size, 1, none⟩ = some (.pointer none) := habs.el; have f4 : w4.frozen? ⟨w1.heap.size, 1, none⟩ = false := habs.el; clear e4 G4 u4))
  all_goals exact habs.el
end Go.Proofs.YthcghpbkadlliabGreatDoor
