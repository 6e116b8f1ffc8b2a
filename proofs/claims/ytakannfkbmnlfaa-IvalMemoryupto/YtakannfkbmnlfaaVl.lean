/-
  Contracts of layer 6: alive.
-/
import Derived.Test.YtakannfkbmnlfaaVk
namespace Go.Proofs.Ytakannfkbmnlfaa
open Go.Shelf Go.RowKit Go.Lib
set_option maxRecDepth 100000

theorem heap_at {w : World} {o : Obj} {n : Nat} (h : n = w.heap.size) : (w.alloc o).heap[n]? = some o := by subst h; exact heap_alloc_new w o
theorem ivAt_row {w : World} {g : Nat} {cs : Array Value} {t : TypeId} {fz : Nat × Nat} {l : List (Int × Int)} {n : Nat} (h : w.heap[g]? = some (.cells cs t fz)) (hc : cs.toList = l.flatMap ivC) (hn : l.length = n) : IvAt w (some ⟨g, 0, none⟩) n l := by
  refine ⟨hn, fun _ => ⟨g, 0, rfl, fun i hi => ?_⟩⟩
  obtain ⟨a, b⟩ := ivC_at l i hi
  rw [← hc] at a b
  rw [Nat.zero_add]
  exact ⟨blk_cell h _ (by simpa using a), blk_cell h _ (by simpa using b)⟩
theorem in_lit {l : List (Int × Int)} (h : l.all (fun i => decide (-1000 ≤ i.1) && decide (i.1 ≤ 1000) && decide (-1000 ≤ i.2) && decide (i.2 ≤ 1000)) = true) : ∀ i ∈ l, In64 i := by
  intro i hi
  have := List.all_eq_true.mp h i hi
  simp at this
  unfold In64 in64
  omega
theorem one_a {L : List (Int × Int)} (hf : Form L) (hm : ∀ x, memI L x = memI [(5, 7), (1, 3), (7, 9), (4, 4), (2, 2)] x) : L = [(1, 3), (5, 9)] := by
  refine form_one hf ⟨by simp, by simp⟩ (fun x => ?_)
  rw [hm, Bool.eq_iff_iff]
  simp [memI]
  omega
theorem one_b {L : List (Int × Int)} (hf : Form L) (hm : ∀ x, memI L x = (memI [(1, 12)] x && !memI [(3, 4), (6, 8), (8, 9)] x)) : L = [(1, 3), (4, 6), (9, 12)] := by
  refine form_one hf ⟨by simp, by simp⟩ (fun x => ?_)
  rw [hm, Bool.eq_iff_iff]
  simp [memI]
  omega
theorem same_eq (ad bd : Option Addr) (n m ca cb : Nat) (X : List (Int × Int)) (w : World) (hX : IvAt w ad n X) (hY : IvAt w bd m X) (hn : n ≤ 1099511627776) :
    Calls Try.prog 7 #[.slice ad n ca, .slice bd m cb] w fun e w' => e = .returned (.bool true) ∧ Below w.heap.size w w' := by
  have := same_any ad bd n m ca cb X X w hX hY hn
  rw [decide_eq_true rfl] at this
  exact this
theorem OwnI.below {base : Nat} {w w' : World} {v : Value} {l : List (Int × Int)} (h : OwnI base w v l) (hb : Below w.heap.size w w') : OwnI base w' v l :=
  ownsRow_upd h (Upd.ofBelow (S := fun _ => False) hb (fun k hk hk' => by omega)) (fun _ _ h => h)
theorem OwnI.lo {base b : Nat} {w : World} {v : Value} {l : List (Int × Int)} (h : OwnI base w v l) (hb : b ≤ base) : OwnI b w v l := own_base h hb
theorem OwnI.len {base : Nat} {w : World} {ao : Option Addr} {n c : Nat} {l : List (Int × Int)} (h : OwnI base w (.slice ao n c) l) : n = l.length := (own_cap h).1
theorem clip_lit (w : World) :
    Calls Try.prog 23 #[.agg #[.int .i64 9, .int .i64 12], .agg #[.int .i64 5, .int .i64 9]] w fun e w' => e = .returned (.agg #[.int .i64 9, .int .i64 9]) ∧ Below w.heap.size w w' := clip_any (9, 12) (5, 9) w
theorem length_lit (w : World) :
    Calls Try.prog 24 #[.agg #[.int .i64 3, .int .i64 9]] w fun e w' => e = .returned (.int .u64 6) ∧ Below w.heap.size w w' := length_any (3, 9) w (by unfold In64 in64; omega)
set_option maxHeartbeats 2000000 in
theorem alive_any (w : World) :
    Calls Try.prog 5 #[] w fun e w' => e = .returned (.bool true) ∧ Below w.heap.size w w' := by
  have EQ : ∀ W : World, (binOp .eql 35 (.agg #[.int .i64 9, .int .i64 9]) (.agg #[.int .i64 9, .int .i64 9])).run Try.prog W = .ok (.bool true) W := fun W => run_eql_of (eqI_iv 9998 9 9 9 9 W)
  have gd := guard_iv
  go_enter Try.func5, Try.ntmps5
  go_wp2_with (first
    | (go_at_call 22; refine (of_any _ _ _).mono ?_; rintro e w1 ⟨rfl, rfl⟩)
    | (go_at_call 8; refine (normal_any _ 5 _ [(5, 7), (1, 3), (7, 9), (4, 4), (2, 2)] _ (ivAt_row (heap_at (by simp)) rfl rfl) (by omega) (in_lit rfl)).mono ?_; rintro e w2 ⟨v2, L2, rfl, t2, b2⟩; obtain ⟨ao2, l2, cp2, rfl⟩ := row_shape t2.own; have e2 := one_a t2.form t2.mem; subst e2; have B2 : Below w.heap.size w w2 := Below.trans (by repeat' first | exact Below.refl _ _ | assumption | refine Below.alloc ?_ (by first | omega | (simp; omega) | (simp; done)) _) (b2.mono (by simp; omega)); have O2 := t2.own.lo (b := w.heap.size) (by simp; omega); have z2 := B2.size; clear t2 b2)
    | (go_at_call 14; refine (minus_any _ _ 1 3 _ _ [(1, 12)] [(3, 4), (6, 8), (8, 9)] _ (ivAt_row (by repeat (first | exact heap_at (by simp; done) | rw [Below.heap_alloc _ _ _ (by first | omega | (simp; omega) | (simp; done))])) rfl rfl) (ivAt_row (by repeat (first | exact heap_at (by simp; done) | rw [Below.heap_alloc _ _ _ (by first | omega | (simp; omega) | (simp; done))])) rfl rfl) (by omega) (in_lit rfl) (in_lit rfl)).mono ?_; rintro e w3 ⟨v3, L3, rfl, t3, b3⟩; obtain ⟨ao3, l3, cp3, rfl⟩ := row_shape t3.own; have e3 := one_b t3.form t3.mem; subst e3; have B3 : Below w2.heap.size w2 w3 := Below.trans (by repeat' first | exact Below.refl _ _ | assumption | refine Below.alloc ?_ (by first | omega | (simp; omega) | (simp; done)) _) (b3.mono (by simp; omega)); have O3 := t3.own.lo (b := w.heap.size) (by simp; omega); have z3 := B3.size; clear t3 b3)
    | (go_at_call 23; refine (clip_lit _).mono ?_; rintro e w4 ⟨rfl, b4⟩; have B4 : Below w3.heap.size w3 w4 := Below.trans (by repeat' first | exact Below.refl _ _ | assumption | refine Below.alloc ?_ (by first | omega | (simp; omega) | (simp; done)) _) (b4.mono (by simp; omega)); have z4 := B4.size; clear b4))
  obtain ⟨w5, hw5⟩ : ∃ W, w4.alloc (.cells #[.int .i64 9, .int .i64 9] 35) = W := ⟨_, rfl⟩
  have C5 : w5.heap[w4.heap.size]? = some (.cells #[.int .i64 9, .int .i64 9] 35 (0, 0)) := hw5 ▸ heap_alloc_new _ _
  have b45 : Below w4.heap.size w4 w5 := hw5 ▸ (Below.refl _ _).alloc (Nat.le_refl _) _
  rw [hw5]
  clear hw5
  have b35 : Below w3.heap.size w3 w5 := B4.trans (b45.mono z4)
  have P3 := O3.below b35
  have P2 := O2.below (B3.trans (b35.mono z3))
  have B5 : Below w.heap.size w w5 := B2.trans ((B3.trans (b35.mono z3)).mono z2)
  have n2 := P2.len
  have n3 := P3.len
  simp at n2 n3
  have z5 := B5.size
  have hlt := lt_of_block C5
  have KC : ∀ W, Below w5.heap.size w5 W → (W.cell? ⟨w4.heap.size, 0, none⟩ = some (.int .i64 9) ∧ W.cell? ⟨w4.heap.size, 1, none⟩ = some (.int .i64 9)) := fun W hW => by
    have := (hW.block _ hlt).trans C5
    exact ⟨blk_cell this 0 rfl, blk_cell this 1 rfl⟩
  have H2 : Hid (l2 = 2) := n2
  have H3 : Hid (l3 = 3) := n3
  clear B2 B3 B4 O2 O3 b45 b35 n2 n3 C5 z2 z3 z4
  go_region_held3 (fun w' => w'.cell? ⟨w4.heap.size, 0, none⟩ = some (.int .i64 9) ∧ w'.cell? ⟨w4.heap.size, 1, none⟩ = some (.int .i64 9)) (exact KC _ (by repeat' first | exact Below.refl _ _ | assumption | refine Below.alloc ?_ (by first | omega | (simp; omega) | (simp; done)) _ | refine Below.drew ?_)) (first
    | (go_at_call 22; refine (of_any _ _ _).mono ?_; rintro e w1 ⟨rfl, rfl⟩)
    | (go_at_call 7; refine (same_eq _ _ _ _ _ _ [(1, 3), (5, 9)] _ (P2.below (by repeat' first | exact Below.refl _ _ | assumption | refine Below.alloc ?_ (by first | omega | (simp; omega) | (simp; done)) _ | refine Below.drew ?_)).at (ivAt_row (by repeat (first | exact heap_at (by simp; done) | rw [Below.heap_alloc _ _ _ (by first | omega | (simp; omega) | (simp; done))])) rfl rfl) (by have := H2.out; omega)).mono ?_; clear P2; rintro e w6 ⟨rfl, b6⟩; have B6 : Below w5.heap.size w5 w6 := Below.trans (by repeat' first | exact Below.refl _ _ | assumption | refine Below.alloc ?_ (by first | omega | (simp; omega) | (simp; done)) _ | refine Below.drew ?_) (b6.mono (by first | omega | (simp; omega) | (simp; done))); have z6 := B6.size; clear b6)
    | (go_at_call 7; refine (same_eq _ _ _ _ _ _ [(1, 3), (4, 6), (9, 12)] _ (P3.below (by repeat' first | exact Below.refl _ _ | assumption | refine Below.alloc ?_ (by first | omega | (simp; omega) | (simp; done)) _ | refine Below.drew ?_)).at (ivAt_row (by repeat (first | exact heap_at (by simp; done) | rw [Below.heap_alloc _ _ _ (by first | omega | (simp; omega) | (simp; done))])) rfl rfl) (by have := H3.out; omega)).mono ?_; clear P3; rintro e w7 ⟨rfl, b7⟩; have B7 : Below w5.heap.size w5 w7 := Below.trans (by repeat' first | exact Below.refl _ _ | assumption | refine Below.alloc ?_ (by first | omega | (simp; omega) | (simp; done)) _ | refine Below.drew ?_) (b7.mono (by first | omega | (simp; omega) | (simp; done))); have z7 := B7.size; clear b7)
    | (go_at_call 24; refine (length_lit _).mono ?_; rintro e w8 ⟨rfl, b8⟩; have B8 : Below w5.heap.size w5 w8 := Below.trans (by repeat' first | exact Below.refl _ _ | assumption | refine Below.alloc ?_ (by first | omega | (simp; omega) | (simp; done)) _ | refine Below.drew ?_) (b8.mono (by first | omega | (simp; omega) | (simp; done))); have z8 := B8.size; clear b8))
  go_wp2
  go_ret
  refine ⟨rfl, B5.trans (Below.mono ?_ z5)⟩
  repeat' first | assumption | refine Below.drew ?_ | refine Below.alloc ?_ (by first | omega | (simp; omega)) _
end Go.Proofs.Ytakannfkbmnlfaa
