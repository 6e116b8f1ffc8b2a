/-
  The walk of IvalCut (written by gen_vt.py).
-/
import Derived.Test.YtceecmmcjmnaeaaVs
import Derived.Test.YtceecmmcjmnaeaaVm
namespace Go.Proofs.Ytceecmmcjmnaeaa
open Go.Shelf Go.RowKit Go.Lib
set_option maxRecDepth 100000

theorem of_below (f t : Int) (w : World) :
    Calls Try.prog 6 #[.int .i64 f, .int .i64 t] w fun e w' => e = .returned (.agg #[.int .i64 f, .int .i64 t]) ∧ Below w.heap.size w w' :=
  (of_any f t w).mono fun _ _ ⟨h, h'⟩ => ⟨h, h' ▸ (Below.refl _ _).alloc (Nat.le_refl _) _⟩
theorem sing {i : Int × Int} (h : In64 i) : ∀ j ∈ [i], In64 j := fun j hj => by cases List.mem_singleton.mp hj; exact h
theorem clip_emp {a b : Int × Int} (h : b.2 ≤ b.1) : clipI a b = (b.1, b.1) := by unfold clipI; rw [if_pos h]
theorem clip_lies {a b : Int × Int} (h : ¬ b.2 ≤ b.1) : b.1 ≤ (clipI a b).1 ∧ (clipI a b).1 ≤ (clipI a b).2 ∧ (clipI a b).2 ≤ b.2 := by
  unfold clipI brI
  rw [if_neg h]
  split <;> simp only <;> omega
theorem clip_idem (a b : Int × Int) : clipI (clipI a b) b = clipI a b := by
  by_cases h : b.2 ≤ b.1
  · rw [clip_emp h, clip_emp h]
  · obtain ⟨h1, h2, h3⟩ := clip_lies (a := a) h
    generalize clipI a b = c at h1 h2 h3
    obtain ⟨c1, c2⟩ := c
    simp only at h1 h2 h3
    unfold clipI brI
    rw [if_neg h]
    by_cases k : c2 ≤ c1
    · simp only [k, if_true]
      exact Prod.ext (by simp only; omega) (by simp only; omega)
    · simp only [k, if_false]
      exact Prod.ext (by simp only; omega) (by simp only; omega)
theorem clip_mem (a b : Int × Int) (x : Int) : memI [clipI a b] x = (memI [a] x && memI [b] x) := by
  obtain ⟨a1, a2⟩ := a
  obtain ⟨b1, b2⟩ := b
  rw [Bool.eq_iff_iff]
  simp only [memI, List.any_cons, List.any_nil, Bool.or_false, Bool.and_eq_true, decide_eq_true_eq]
  unfold clipI brI
  try simp only
  split
  · simp only; omega
  · split
    · simp only; omega
    · simp only; omega
theorem sum_one {L : List (Int × Int)} {c : Int × Int} (hf : Form L) (hm : ∀ x, memI L x = memI [c] x) : sumI L = lenI c := by
  by_cases h : c.2 ≤ c.1
  · have : L = [] := form_one hf Form.nil (fun x => by
      rw [hm, memI_nil]
      exact memI_not.mpr (fun i hi h1 => by cases List.mem_singleton.mp hi; omega))
    rw [this]
    unfold lenI
    rw [if_pos h]; rfl
  · have : L = [c] := form_one hf ⟨fun i hi => by cases List.mem_singleton.mp hi; omega, List.pairwise_singleton _ _⟩ hm
    rw [this]
    simp [sumI]
theorem meas_one {base N : Nat} {ad : Option Addr} {n ca : Nat} {L : List (Int × Int)} {w w0 : World} {v : Value} {c : Int × Int} (h : IvAt w ad n L) (hn : n ≤ 268435456) (t : Tells base w0 v (memI [c]) N L) :
    Calls Try.prog 10 #[.slice ad n ca] w fun e w' => e = .returned (.int .u64 (lenI c)) ∧ Below w.heap.size w w' := by
  refine (measure_any ad n ca L w h hn t.in64).mono ?_
  rintro e w' ⟨L8, rfl, f8, m8, i8, b8⟩
  rw [sum_one f8 (fun x => (m8 x).trans (t.mem x))]
  exact ⟨rfl, b8⟩
set_option maxHeartbeats 4000000 in
theorem cut_thin (a1 a2 b1 b2 c1 c2 : Int) (w : World) (ha : In64 (a1, a2)) (hb : In64 (b1, b2)) (hc : clipI (a1, a2) (b1, b2) = (c1, c2)) (h1 : ¬ b2 ≤ b1) (h2 : c1 = c2) (h3 : b1 ≤ c1) (h4 : c2 ≤ b2) :
    Calls Try.prog 3 #[.agg #[.int .i64 a1, .int .i64 a2], .agg #[.int .i64 b1, .int .i64 b2]] w fun e w' => e = .returned (.bool true) ∧ Below w.heap.size w w' := by
  have hci := clip_in ha hb
  have idem := clip_idem (a1, a2) (b1, b2)
  have cmem := clip_mem (a1, a2) (b1, b2)
  have C := clip_any (a1, a2) (b1, b2)
  rw [hc] at hci idem cmem C
  have C2 := clip_any (c1, c2) (b1, b2)
  rw [idem] at C2
  have LC := fun W => length_any (c1, c2) W hci
  simp only at C C2 LC
  have EQ : ∀ W : World, (binOp .eql 23 (.agg #[.int .i64 c1, .int .i64 c2]) (.agg #[.int .i64 c1, .int .i64 c2])).run Try.prog W = .ok (.bool true) W := fun W => by
    have := run_eql_of (eqI_iv 9998 c1 c2 c1 c2 W)
    rw [decide_eq_true ⟨rfl, rfl⟩] at this
    exact this
  have gd := guard_iv
  have d1 : decide (b2 ≤ b1) = false := decide_eq_false h1
  have d2 : (c2 == c1) = true := by rw [h2]; simp
  have d3 : decide (b1 ≤ c1) = true := decide_eq_true h3
  have d4 : decide (c2 ≤ b2) = true := decide_eq_true h4
  have d5 : decide (c2 = c1) = true := decide_eq_true h2.symm
  clear h1 h2 h3 h4
  obtain ⟨W0, hW0⟩ : ∃ W, (w.alloc (.cells #[.int .i64 a1, .int .i64 a2] 23)).alloc (.cells #[.int .i64 b1, .int .i64 b2] 23) = W := ⟨_, rfl⟩
  have HZ : Hid (W0.heap.size = w.heap.size + 2) := by show _ = _; rw [← hW0]; simp
  have B0 : Below w.heap.size w W0 := by rw [← hW0]; exact ((Below.refl _ _).alloc (Nat.le_refl _) _).alloc (by simp) _
  have XA : W0.heap[w.heap.size]? = some (.cells #[.int .i64 a1, .int .i64 a2] 23 (0, 0)) := by rw [← hW0, Below.heap_alloc _ _ _ (by simp)]; exact heap_alloc_new _ _
  have XB : W0.heap[w.heap.size + 1]? = some (.cells #[.int .i64 b1, .int .i64 b2] 23 (0, 0)) := by rw [← hW0]; exact heap_at (by simp)
  have KA : ∀ W, Below W0.heap.size W0 W → (W.cell? ⟨w.heap.size, 0, none⟩ = some (.int .i64 a1) ∧ W.cell? ⟨w.heap.size, 1, none⟩ = some (.int .i64 a2) ∧ W.cell? ⟨w.heap.size + 1, 0, none⟩ = some (.int .i64 b1) ∧ W.cell? ⟨w.heap.size + 1, 1, none⟩ = some (.int .i64 b2)) := fun W hW => by
    have p := (hW.block _ (lt_of_block XA)).trans XA
    have q := (hW.block _ (lt_of_block XB)).trans XB
    exact ⟨blk_cell p 0 rfl, blk_cell p 1 rfl, blk_cell q 0 rfl, blk_cell q 1 rfl⟩
  go_enter Try.func3, Try.ntmps3
  go_wp2_with (first
    | (go_at_call 4; refine (alive_any _).mono ?_; rintro e w1 ⟨rfl, bw1⟩; obtain ⟨p0, p1, p2, p3⟩ := KA w1 bw1)
    | (go_at_call 5; refine (C _).mono ?_; clear C; rintro e w2 ⟨rfl, bw2⟩; have b02 := bw1.trans (bw2.mono bw1.size); have b03 := b02.alloc b02.size (.cells #[.int .i64 c1, .int .i64 c2] 23); obtain ⟨p0, p1, p2, p3⟩ := KA _ b03))
  obtain ⟨w3, hw3⟩ : ∃ W, w2.alloc (.cells #[.int .i64 c1, .int .i64 c2] 23) = W := ⟨_, rfl⟩
  have XC : w3.heap[w2.heap.size]? = some (.cells #[.int .i64 c1, .int .i64 c2] 23 (0, 0)) := hw3 ▸ heap_alloc_new _ _
  rw [hw3] at b03
  have z3 := b03.size
  rw [hw3]
  clear hw3 p0 p1 p2 p3
  have KC : ∀ W, Below w3.heap.size w3 W → (W.cell? ⟨w.heap.size, 0, none⟩ = some (.int .i64 a1) ∧ W.cell? ⟨w.heap.size, 1, none⟩ = some (.int .i64 a2) ∧ W.cell? ⟨w.heap.size + 1, 0, none⟩ = some (.int .i64 b1) ∧ W.cell? ⟨w.heap.size + 1, 1, none⟩ = some (.int .i64 b2) ∧ W.cell? ⟨w2.heap.size, 0, none⟩ = some (.int .i64 c1) ∧ W.cell? ⟨w2.heap.size, 1, none⟩ = some (.int .i64 c2)) := fun W hW => by
    obtain ⟨p0, p1, p2, p3⟩ := KA W (b03.trans (hW.mono z3))
    have p := (hW.block _ (lt_of_block XC)).trans XC
    exact ⟨p0, p1, p2, p3, blk_cell p 0 rfl, blk_cell p 1 rfl⟩
  have BW3 : Below w.heap.size w w3 := B0.trans (b03.mono (by have := HZ.out; omega))
  clear KA XA XB XC b02 bw1 bw2 hW0 b03 z3 B0 HZ
  obtain ⟨p0, p1, p2, p3, p4, p5⟩ := KC w3 (Below.refl _ _)
  go_quiet (fail)
  clear p0 p1 p2 p3 p4 p5
  obtain ⟨w4, hw4⟩ : ∃ W, w3.drewN nq = W := ⟨_, rfl⟩
  have B4 : Below w3.heap.size w3 w4 := hw4 ▸ ⟨rfl, rfl, rfl, Nat.le_refl _, fun _ _ => rfl⟩
  rw [hw4]
  clear hw4
  obtain ⟨p0, p1, p2, p3, p4, p5⟩ := KC w4 B4
  obtain ⟨q0, q1, q2, q3, q4, q5⟩ := KC (w4.alloc (.cells #[.int .i64 a1, .int .i64 a2] 23)) (B4.alloc B4.size _)
  have z4 := B4.size
  go_wp2_with (first
    | (go_at_call 7; refine (meet_any _ _ 1 1 _ _ [(a1, a2)] [(b1, b2)] _ (ivAt_row (by repeat (first | exact heap_at (by simp; done) | rw [Below.heap_alloc _ _ _ (by first | omega | (simp; omega) | (simp; done))])) rfl rfl) (ivAt_row (by repeat (first | exact heap_at (by simp; done) | rw [Below.heap_alloc _ _ _ (by first | omega | (simp; omega) | (simp; done))])) rfl rfl) (by omega) (sing ha) (sing hb)).mono ?_; rintro e w5 ⟨v5, L5, rfl, t5, b5⟩; obtain ⟨ao5, l5, cp5, rfl⟩ := row_shape t5.own; have B5 : Below w3.heap.size w3 w5 := Below.trans (by repeat' first | exact Below.refl _ _ | assumption | refine Below.alloc ?_ (by first | omega | (simp; omega) | (simp; done)) _ | refine Below.drew ?_) (b5.mono (by first | omega | (simp; omega) | (simp; done))); have z5 := B5.size; clear b5 p0 p1 p2 p3 p4 p5 q0 q1 q2 q3 q4 q5; obtain ⟨p0, p1, p2, p3, p4, p5⟩ := KC w5 B5)
    | (go_at_call 9; refine (normal_any _ 1 _ [(c1, c2)] _ (ivAt_row (by repeat (first | exact heap_at (by simp; done) | rw [Below.heap_alloc _ _ _ (by first | omega | (simp; omega) | (simp; done))])) rfl rfl) (by omega) (sing hci)).mono ?_; rintro e w6 ⟨v6, L6, rfl, t6, b6⟩; obtain ⟨ao6, l6, cp6, rfl⟩ := row_shape t6.own; have B56 : Below w5.heap.size w5 w6 := Below.trans (by repeat' first | exact Below.refl _ _ | assumption | refine Below.alloc ?_ (by first | omega | (simp; omega) | (simp; done)) _ | refine Below.drew ?_) (b6.mono (by first | omega | (simp; omega) | (simp; done))); have B6 := B5.trans (B56.mono z5); have z6 := B6.size; have e56 : L6 = L5 := form_one t6.form t5.form (fun x => by rw [t6.mem, t5.mem]; exact cmem x); subst e56; have O5 := t5.own.below B56; have O6 := t6.own; clear b6 p0 p1 p2 p3 p4 p5; obtain ⟨p0, p1, p2, p3, p4, p5⟩ := KC w6 B6)
    | (go_at_call 8; refine (same_eq _ _ _ _ _ _ L6 _ O6.at O5.at (by have := O6.len; have := t6.few; omega)).mono ?_; rintro e w7 ⟨rfl, b7⟩; have B7 := B6.trans (b7.mono z6); have z7 := B7.size; have P5 := O5.below b7; clear p0 p1 p2 p3 p4 p5))
  have KD : ∀ W, Below w7.heap.size w7 W → (W.cell? ⟨w.heap.size, 0, none⟩ = some (.int .i64 a1) ∧ W.cell? ⟨w.heap.size, 1, none⟩ = some (.int .i64 a2) ∧ W.cell? ⟨w.heap.size + 1, 0, none⟩ = some (.int .i64 b1) ∧ W.cell? ⟨w.heap.size + 1, 1, none⟩ = some (.int .i64 b2) ∧ W.cell? ⟨w2.heap.size, 0, none⟩ = some (.int .i64 c1) ∧ W.cell? ⟨w2.heap.size, 1, none⟩ = some (.int .i64 c2)) := fun W hW => KC W (B7.trans (hW.mono z7))
  have BW7 := BW3.trans (B7.mono BW3.size)
  have n5 : l5 ≤ 268435456 := by have := P5.len; have := t6.few; omega
  have MS := fun W (b : Below w7.heap.size w7 W) => meas_one (ca := cp5) (P5.below b).at n5 t6
  have zz := BW7.size
  generalize lenI (c1, c2) = lc at LC MS
  clear KC B4 B5 B56 B6 b7 O5 O6 t5 t6 z4 z5 z6 P5 n5 BW3 z7 B7
  go_region_held3 (fun W => (W.cell? ⟨w.heap.size, 0, none⟩ = some (.int .i64 a1) ∧ W.cell? ⟨w.heap.size, 1, none⟩ = some (.int .i64 a2) ∧ W.cell? ⟨w.heap.size + 1, 0, none⟩ = some (.int .i64 b1) ∧ W.cell? ⟨w.heap.size + 1, 1, none⟩ = some (.int .i64 b2) ∧ W.cell? ⟨w2.heap.size, 0, none⟩ = some (.int .i64 c1) ∧ W.cell? ⟨w2.heap.size, 1, none⟩ = some (.int .i64 c2))) (exact KD _ (by repeat' first | exact Below.refl _ _ | assumption | refine Below.alloc ?_ (by first | omega | (simp; omega) | (simp; done)) _ | refine Below.drew ?_)) (first
    | (go_at_call 5; refine (C2 _).mono ?_; clear C2; rintro e w8 ⟨rfl, b8⟩; have B8 : Below w7.heap.size w7 w8 := Below.trans (by repeat' first | exact Below.refl _ _ | assumption | refine Below.alloc ?_ (by first | omega | (simp; omega) | (simp; done)) _ | refine Below.drew ?_) (b8.mono (by first | omega | (simp; omega) | (simp; done))); have z8 := B8.size; clear b8)
    | (go_at_call 10; refine (MS _ (by repeat' first | exact Below.refl _ _ | assumption | refine Below.alloc ?_ (by first | omega | (simp; omega) | (simp; done)) _ | refine Below.drew ?_)).mono ?_; clear MS; rintro e w9 ⟨rfl, b9⟩; have B9 : Below w7.heap.size w7 w9 := Below.trans (by repeat' first | exact Below.refl _ _ | assumption | refine Below.alloc ?_ (by first | omega | (simp; omega) | (simp; done)) _ | refine Below.drew ?_) (b9.mono (by first | omega | (simp; omega) | (simp; done))); have z9 := B9.size; clear b9)
    | (go_at_call 11; refine (LC _).mono ?_; clear LC; rintro e w10 ⟨rfl, b10⟩; have B10 : Below w7.heap.size w7 w10 := Below.trans (by repeat' first | exact Below.refl _ _ | assumption | refine Below.alloc ?_ (by first | omega | (simp; omega) | (simp; done)) _ | refine Below.drew ?_) (b10.mono (by first | omega | (simp; omega) | (simp; done))); have z10 := B10.size; clear b10))
  go_wp2
  go_ret
  refine ⟨rfl, BW7.trans (Below.mono ?_ zz)⟩
  repeat' first | assumption | refine Below.drew ?_
set_option maxHeartbeats 4000000 in
theorem cut_wide (a1 a2 b1 b2 c1 c2 : Int) (w : World) (ha : In64 (a1, a2)) (hb : In64 (b1, b2)) (hc : clipI (a1, a2) (b1, b2) = (c1, c2)) (h1 : ¬ b2 ≤ b1) (h2 : c1 < c2) (h3 : b1 ≤ c1) (h4 : c2 ≤ b2) :
    Calls Try.prog 3 #[.agg #[.int .i64 a1, .int .i64 a2], .agg #[.int .i64 b1, .int .i64 b2]] w fun e w' => e = .returned (.bool true) ∧ Below w.heap.size w w' := by
  have hci := clip_in ha hb
  have idem := clip_idem (a1, a2) (b1, b2)
  have cmem := clip_mem (a1, a2) (b1, b2)
  have C := clip_any (a1, a2) (b1, b2)
  rw [hc] at hci idem cmem C
  have C2 := clip_any (c1, c2) (b1, b2)
  rw [idem] at C2
  have LC := fun W => length_any (c1, c2) W hci
  simp only at C C2 LC
  have EQ : ∀ W : World, (binOp .eql 23 (.agg #[.int .i64 c1, .int .i64 c2]) (.agg #[.int .i64 c1, .int .i64 c2])).run Try.prog W = .ok (.bool true) W := fun W => by
    have := run_eql_of (eqI_iv 9998 c1 c2 c1 c2 W)
    rw [decide_eq_true ⟨rfl, rfl⟩] at this
    exact this
  have gd := guard_iv
  have d1 : decide (b2 ≤ b1) = false := decide_eq_false h1
  have d2 : (c2 == c1) = false := beq_eq_false_iff_ne.mpr (by omega)
  have d3 : decide (b1 ≤ c1) = true := decide_eq_true h3
  have d4 : decide (c2 ≤ b2) = true := decide_eq_true h4
  have d5 : decide (c2 = c1) = false := decide_eq_false (by omega)
  have d6 : decide (c1 < c2) = true := decide_eq_true h2
  clear h1 h2 h3 h4
  obtain ⟨W0, hW0⟩ : ∃ W, (w.alloc (.cells #[.int .i64 a1, .int .i64 a2] 23)).alloc (.cells #[.int .i64 b1, .int .i64 b2] 23) = W := ⟨_, rfl⟩
  have HZ : Hid (W0.heap.size = w.heap.size + 2) := by show _ = _; rw [← hW0]; simp
  have B0 : Below w.heap.size w W0 := by rw [← hW0]; exact ((Below.refl _ _).alloc (Nat.le_refl _) _).alloc (by simp) _
  have XA : W0.heap[w.heap.size]? = some (.cells #[.int .i64 a1, .int .i64 a2] 23 (0, 0)) := by rw [← hW0, Below.heap_alloc _ _ _ (by simp)]; exact heap_alloc_new _ _
  have XB : W0.heap[w.heap.size + 1]? = some (.cells #[.int .i64 b1, .int .i64 b2] 23 (0, 0)) := by rw [← hW0]; exact heap_at (by simp)
  have KA : ∀ W, Below W0.heap.size W0 W → (W.cell? ⟨w.heap.size, 0, none⟩ = some (.int .i64 a1) ∧ W.cell? ⟨w.heap.size, 1, none⟩ = some (.int .i64 a2) ∧ W.cell? ⟨w.heap.size + 1, 0, none⟩ = some (.int .i64 b1) ∧ W.cell? ⟨w.heap.size + 1, 1, none⟩ = some (.int .i64 b2)) := fun W hW => by
    have p := (hW.block _ (lt_of_block XA)).trans XA
    have q := (hW.block _ (lt_of_block XB)).trans XB
    exact ⟨blk_cell p 0 rfl, blk_cell p 1 rfl, blk_cell q 0 rfl, blk_cell q 1 rfl⟩
  go_enter Try.func3, Try.ntmps3
  go_wp2_with (first
    | (go_at_call 4; refine (alive_any _).mono ?_; rintro e w1 ⟨rfl, bw1⟩; obtain ⟨p0, p1, p2, p3⟩ := KA w1 bw1)
    | (go_at_call 5; refine (C _).mono ?_; clear C; rintro e w2 ⟨rfl, bw2⟩; have b02 := bw1.trans (bw2.mono bw1.size); have b03 := b02.alloc b02.size (.cells #[.int .i64 c1, .int .i64 c2] 23); obtain ⟨p0, p1, p2, p3⟩ := KA _ b03))
  obtain ⟨w3, hw3⟩ : ∃ W, w2.alloc (.cells #[.int .i64 c1, .int .i64 c2] 23) = W := ⟨_, rfl⟩
  have XC : w3.heap[w2.heap.size]? = some (.cells #[.int .i64 c1, .int .i64 c2] 23 (0, 0)) := hw3 ▸ heap_alloc_new _ _
  rw [hw3] at b03
  have z3 := b03.size
  rw [hw3]
  clear hw3 p0 p1 p2 p3
  have KC : ∀ W, Below w3.heap.size w3 W → (W.cell? ⟨w.heap.size, 0, none⟩ = some (.int .i64 a1) ∧ W.cell? ⟨w.heap.size, 1, none⟩ = some (.int .i64 a2) ∧ W.cell? ⟨w.heap.size + 1, 0, none⟩ = some (.int .i64 b1) ∧ W.cell? ⟨w.heap.size + 1, 1, none⟩ = some (.int .i64 b2) ∧ W.cell? ⟨w2.heap.size, 0, none⟩ = some (.int .i64 c1) ∧ W.cell? ⟨w2.heap.size, 1, none⟩ = some (.int .i64 c2)) := fun W hW => by
    obtain ⟨p0, p1, p2, p3⟩ := KA W (b03.trans (hW.mono z3))
    have p := (hW.block _ (lt_of_block XC)).trans XC
    exact ⟨p0, p1, p2, p3, blk_cell p 0 rfl, blk_cell p 1 rfl⟩
  have BW3 : Below w.heap.size w w3 := B0.trans (b03.mono (by have := HZ.out; omega))
  clear KA XA XB XC b02 bw1 bw2 hW0 b03 z3 B0 HZ
  obtain ⟨p0, p1, p2, p3, p4, p5⟩ := KC w3 (Below.refl _ _)
  go_quiet (fail)
  clear p0 p1 p2 p3 p4 p5
  obtain ⟨w4, hw4⟩ : ∃ W, w3.drewN nq = W := ⟨_, rfl⟩
  have B4 : Below w3.heap.size w3 w4 := hw4 ▸ ⟨rfl, rfl, rfl, Nat.le_refl _, fun _ _ => rfl⟩
  rw [hw4]
  clear hw4
  obtain ⟨p0, p1, p2, p3, p4, p5⟩ := KC w4 B4
  obtain ⟨q0, q1, q2, q3, q4, q5⟩ := KC (w4.alloc (.cells #[.int .i64 a1, .int .i64 a2] 23)) (B4.alloc B4.size _)
  have z4 := B4.size
  go_wp2_with (first
    | (go_at_call 7; refine (meet_any _ _ 1 1 _ _ [(a1, a2)] [(b1, b2)] _ (ivAt_row (by repeat (first | exact heap_at (by simp; done) | rw [Below.heap_alloc _ _ _ (by first | omega | (simp; omega) | (simp; done))])) rfl rfl) (ivAt_row (by repeat (first | exact heap_at (by simp; done) | rw [Below.heap_alloc _ _ _ (by first | omega | (simp; omega) | (simp; done))])) rfl rfl) (by omega) (sing ha) (sing hb)).mono ?_; rintro e w5 ⟨v5, L5, rfl, t5, b5⟩; obtain ⟨ao5, l5, cp5, rfl⟩ := row_shape t5.own; have B5 : Below w3.heap.size w3 w5 := Below.trans (by repeat' first | exact Below.refl _ _ | assumption | refine Below.alloc ?_ (by first | omega | (simp; omega) | (simp; done)) _ | refine Below.drew ?_) (b5.mono (by first | omega | (simp; omega) | (simp; done))); have z5 := B5.size; clear b5 p0 p1 p2 p3 p4 p5 q0 q1 q2 q3 q4 q5; obtain ⟨p0, p1, p2, p3, p4, p5⟩ := KC w5 B5)
    | (go_at_call 9; refine (normal_any _ 1 _ [(c1, c2)] _ (ivAt_row (by repeat (first | exact heap_at (by simp; done) | rw [Below.heap_alloc _ _ _ (by first | omega | (simp; omega) | (simp; done))])) rfl rfl) (by omega) (sing hci)).mono ?_; rintro e w6 ⟨v6, L6, rfl, t6, b6⟩; obtain ⟨ao6, l6, cp6, rfl⟩ := row_shape t6.own; have B56 : Below w5.heap.size w5 w6 := Below.trans (by repeat' first | exact Below.refl _ _ | assumption | refine Below.alloc ?_ (by first | omega | (simp; omega) | (simp; done)) _ | refine Below.drew ?_) (b6.mono (by first | omega | (simp; omega) | (simp; done))); have B6 := B5.trans (B56.mono z5); have z6 := B6.size; have e56 : L6 = L5 := form_one t6.form t5.form (fun x => by rw [t6.mem, t5.mem]; exact cmem x); subst e56; have O5 := t5.own.below B56; have O6 := t6.own; clear b6 p0 p1 p2 p3 p4 p5; obtain ⟨p0, p1, p2, p3, p4, p5⟩ := KC w6 B6)
    | (go_at_call 8; refine (same_eq _ _ _ _ _ _ L6 _ O6.at O5.at (by have := O6.len; have := t6.few; omega)).mono ?_; rintro e w7 ⟨rfl, b7⟩; have B7 := B6.trans (b7.mono z6); have z7 := B7.size; have P5 := O5.below b7; clear p0 p1 p2 p3 p4 p5))
  have KD : ∀ W, Below w7.heap.size w7 W → (W.cell? ⟨w.heap.size, 0, none⟩ = some (.int .i64 a1) ∧ W.cell? ⟨w.heap.size, 1, none⟩ = some (.int .i64 a2) ∧ W.cell? ⟨w.heap.size + 1, 0, none⟩ = some (.int .i64 b1) ∧ W.cell? ⟨w.heap.size + 1, 1, none⟩ = some (.int .i64 b2) ∧ W.cell? ⟨w2.heap.size, 0, none⟩ = some (.int .i64 c1) ∧ W.cell? ⟨w2.heap.size, 1, none⟩ = some (.int .i64 c2)) := fun W hW => KC W (B7.trans (hW.mono z7))
  have BW7 := BW3.trans (B7.mono BW3.size)
  have n5 : l5 ≤ 268435456 := by have := P5.len; have := t6.few; omega
  have MS := fun W (b : Below w7.heap.size w7 W) => meas_one (ca := cp5) (P5.below b).at n5 t6
  have zz := BW7.size
  generalize lenI (c1, c2) = lc at LC MS
  clear KC B4 B5 B56 B6 b7 O5 O6 t5 t6 z4 z5 z6 P5 n5 BW3 z7 B7
  go_region_held3 (fun W => (W.cell? ⟨w.heap.size, 0, none⟩ = some (.int .i64 a1) ∧ W.cell? ⟨w.heap.size, 1, none⟩ = some (.int .i64 a2) ∧ W.cell? ⟨w.heap.size + 1, 0, none⟩ = some (.int .i64 b1) ∧ W.cell? ⟨w.heap.size + 1, 1, none⟩ = some (.int .i64 b2) ∧ W.cell? ⟨w2.heap.size, 0, none⟩ = some (.int .i64 c1) ∧ W.cell? ⟨w2.heap.size, 1, none⟩ = some (.int .i64 c2))) (exact KD _ (by repeat' first | exact Below.refl _ _ | assumption | refine Below.alloc ?_ (by first | omega | (simp; omega) | (simp; done)) _ | refine Below.drew ?_)) (first
    | (go_at_call 5; refine (C2 _).mono ?_; clear C2; rintro e w8 ⟨rfl, b8⟩; have B8 : Below w7.heap.size w7 w8 := Below.trans (by repeat' first | exact Below.refl _ _ | assumption | refine Below.alloc ?_ (by first | omega | (simp; omega) | (simp; done)) _ | refine Below.drew ?_) (b8.mono (by first | omega | (simp; omega) | (simp; done))); have z8 := B8.size; clear b8)
    | (go_at_call 10; refine (MS _ (by repeat' first | exact Below.refl _ _ | assumption | refine Below.alloc ?_ (by first | omega | (simp; omega) | (simp; done)) _ | refine Below.drew ?_)).mono ?_; clear MS; rintro e w9 ⟨rfl, b9⟩; have B9 : Below w7.heap.size w7 w9 := Below.trans (by repeat' first | exact Below.refl _ _ | assumption | refine Below.alloc ?_ (by first | omega | (simp; omega) | (simp; done)) _ | refine Below.drew ?_) (b9.mono (by first | omega | (simp; omega) | (simp; done))); have z9 := B9.size; clear b9)
    | (go_at_call 11; refine (LC _).mono ?_; clear LC; rintro e w10 ⟨rfl, b10⟩; have B10 : Below w7.heap.size w7 w10 := Below.trans (by repeat' first | exact Below.refl _ _ | assumption | refine Below.alloc ?_ (by first | omega | (simp; omega) | (simp; done)) _ | refine Below.drew ?_) (b10.mono (by first | omega | (simp; omega) | (simp; done))); have z10 := B10.size; clear b10))
  go_wp2
  go_ret
  refine ⟨rfl, BW7.trans (Below.mono ?_ zz)⟩
  repeat' first | assumption | refine Below.drew ?_
end Go.Proofs.Ytceecmmcjmnaeaa
