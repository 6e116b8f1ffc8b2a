/-
  The walk of IvalCut where within is empty (written by gen_vt.py).
-/
import Derived.Test.YtceecmmcjmnaeaaVt
import Derived.Deep.RegionHeld3
import Derived.Deep.RegionLaw
namespace Go.Proofs.Ytceecmmcjmnaeaa
open Go.Shelf Go.RowKit Go.Lib
open Go.Sort (grow size_grow alloc_eq_grow)
set_option maxRecDepth 100000

theorem takeH {P : Program} {Q : Exit → Act → World → Prop} {md : Region.Mode} {S : World → Prop} {l : List Oper} {i : Nat} {oi : Oper} {v : Value} {fuel : Nat} {listed : Array Bool} {a : Act} {w : World} (hi : l[i]? = some oi)
    (hs : Region.noSelect l.toArray = true) (hf : Region.free md l.toArray listed i = true) (hr : (Region.ready md l.toArray listed).contains i = true)
    (hQ : ∀ c a w, Q (.panic c) (a.put oi.dst v) w → Q (.panic c) a w) (hy : YieldsIf P l.toArray S oi v a) (hS : S w)
    (h : wpAnyH P md l.toArray Q S fuel (listed.setIfInBounds i true) (a.put oi.dst v) w) : wpAnyH P md l.toArray Q S (fuel + 1) listed a w :=
  wpAnyH_take (by simpa using hi) hs hf hr hQ hy hS h
theorem onlyH {P : Program} {Q : Exit → Act → World → Prop} {md : Region.Mode} {S : World → Prop} {l : List Oper} {i : Nat} {oi : Oper} {fuel : Nat} {listed : Array Bool} {a : Act} {w : World} (hi : l[i]? = some oi)
    (hr : Region.ready md l.toArray listed = [i])
    (h : ∀ K : Act → World → Prop, (∀ a' w', S w' ∧ wpAnyH P md l.toArray Q S fuel (listed.setIfInBounds i true) a' w' → K a' w') → if Region.wanted oi (yielded l.toArray a.tmps) = true then Oper.wp P oi a w K Q else K (a.put oi.dst undef) w) : wpAnyH P md l.toArray Q S (fuel + 1) listed a w := by
  refine wpAnyH_all hr (by simp) ?_
  intro j hj
  simp at hj
  subst hj
  have hi' : l.toArray[j]? = some oi := by simpa using hi
  unfold wpOp
  simp only [hi']
  have := h (fun a' w' => S w' ∧ wpAnyH P md l.toArray Q S fuel (listed.setIfInBounds j true) a' w') (fun _ _ h => h)
  split
  · rename_i hw; rw [if_pos hw] at this; exact Or.inl this
  · rename_i hw; rw [if_neg hw] at this; exact this
set_option maxHeartbeats 4000000 in
theorem cut_none (a1 a2 b1 b2 : Int) (w : World) (ha : In64 (a1, a2)) (hb : In64 (b1, b2)) (hc : clipI (a1, a2) (b1, b2) = (b1, b1)) (h1 : b2 ≤ b1) :
    Calls Try.prog 3 #[.agg #[.int .i64 a1, .int .i64 a2], .agg #[.int .i64 b1, .int .i64 b2]] w fun e w' => e = .returned (.bool true) ∧ Below w.heap.size w w' := by
  have hci := clip_in ha hb
  have idem := clip_idem (a1, a2) (b1, b2)
  have cmem := clip_mem (a1, a2) (b1, b2)
  have C := clip_any (a1, a2) (b1, b2)
  rw [hc] at hci idem cmem C
  have C2 := clip_any (b1, b1) (b1, b2)
  rw [idem] at C2
  have LC := fun W => length_any (b1, b1) W hci
  simp only at C C2 LC
  have EQ : ∀ W : World, (binOp .eql 23 (.agg #[.int .i64 b1, .int .i64 b1]) (.agg #[.int .i64 b1, .int .i64 b1])).run Try.prog W = .ok (.bool true) W := fun W => by
    have := run_eql_of (eqI_iv 9998 b1 b1 b1 b1 W)
    rw [decide_eq_true ⟨rfl, rfl⟩] at this
    exact this
  have gd := guard_iv
  have d1 : decide (b2 ≤ b1) = true := decide_eq_true h1
  clear h1
  obtain ⟨W0, hW0⟩ : ∃ W, (w.alloc (.cells #[.int .i64 a1, .int .i64 a2] 23)).alloc (.cells #[.int .i64 b1, .int .i64 b2] 23) = W := ⟨_, rfl⟩
  have HZ : Hid (W0.heap.size = w.heap.size + 2) := by show _ = _; rw [← hW0]; simp
  have B0 : Below w.heap.size w W0 := by rw [← hW0]; exact ((Below.refl _ _).alloc (Nat.le_refl _) _).alloc (by simp) _
  have XA : W0.heap[w.heap.size]? = some (.cells #[.int .i64 a1, .int .i64 a2] 23 (0, 0)) := by rw [← hW0, Below.heap_alloc _ _ _ (by simp)]; exact heap_alloc_new _ _
  have XB : W0.heap[w.heap.size + 1]? = some (.cells #[.int .i64 b1, .int .i64 b2] 23 (0, 0)) := by rw [← hW0]; exact heap_at (by simp)
  have KA : ∀ W, Below W0.heap.size W0 W → (W.cell? ⟨w.heap.size, 0, none⟩ = some (.int .i64 a1) ∧ W.cell? ⟨w.heap.size, 1, none⟩ = some (.int .i64 a2) ∧ W.cell? ⟨w.heap.size + 1, 0, none⟩ = some (.int .i64 b1) ∧ W.cell? ⟨w.heap.size + 1, 1, none⟩ = some (.int .i64 b2)) := fun W hW => by
    have p := (hW.block _ (lt_of_block XA)).trans XA
    have q := (hW.block _ (lt_of_block XB)).trans XB
    exact ⟨blk_cell p 0 rfl, blk_cell p 1 rfl, blk_cell q 0 rfl, blk_cell q 1 rfl⟩
  go_enter Try.func3, Try.ntmps3
  go_wp2_with (first
    | (go_at_call 4; refine (alive_any _).mono ?_; rintro e w1 ⟨rfl, bw1⟩; obtain ⟨p0, p1, p2, p3⟩ := KA w1 bw1)
    | (go_at_call 5; refine (C _).mono ?_; clear C; rintro e w2 ⟨rfl, bw2⟩; have b02 := bw1.trans (bw2.mono bw1.size); have b03 := b02.alloc b02.size (.cells #[.int .i64 b1, .int .i64 b1] 23); obtain ⟨p0, p1, p2, p3⟩ := KA _ b03))
  obtain ⟨w3, hw3⟩ : ∃ W, w2.alloc (.cells #[.int .i64 b1, .int .i64 b1] 23) = W := ⟨_, rfl⟩
  have XC : w3.heap[w2.heap.size]? = some (.cells #[.int .i64 b1, .int .i64 b1] 23 (0, 0)) := hw3 ▸ heap_alloc_new _ _
  rw [hw3] at b03
  have z3 := b03.size
  rw [hw3]
  clear hw3 p0 p1 p2 p3
  have KC : ∀ W, Below w3.heap.size w3 W → (W.cell? ⟨w.heap.size, 0, none⟩ = some (.int .i64 a1) ∧ W.cell? ⟨w.heap.size, 1, none⟩ = some (.int .i64 a2) ∧ W.cell? ⟨w.heap.size + 1, 0, none⟩ = some (.int .i64 b1) ∧ W.cell? ⟨w.heap.size + 1, 1, none⟩ = some (.int .i64 b2) ∧ W.cell? ⟨w2.heap.size, 0, none⟩ = some (.int .i64 b1) ∧ W.cell? ⟨w2.heap.size, 1, none⟩ = some (.int .i64 b1)) := fun W hW => by
    obtain ⟨p0, p1, p2, p3⟩ := KA W (b03.trans (hW.mono z3))
    have p := (hW.block _ (lt_of_block XC)).trans XC
    exact ⟨p0, p1, p2, p3, blk_cell p 0 rfl, blk_cell p 1 rfl⟩
  have BW3 : Below w.heap.size w w3 := B0.trans (b03.mono (by have := HZ.out; omega))
  clear KA XA XB XC b02 bw1 bw2 hW0 b03 z3 B0 HZ
  obtain ⟨p0, p1, p2, p3, p4, p5⟩ := KC w3 (Below.refl _ _)
  have HKC : Hid (∀ W, Below w3.heap.size w3 W → (W.cell? ⟨w.heap.size, 0, none⟩ = some (.int .i64 a1) ∧ W.cell? ⟨w.heap.size, 1, none⟩ = some (.int .i64 a2) ∧ W.cell? ⟨w.heap.size + 1, 0, none⟩ = some (.int .i64 b1) ∧ W.cell? ⟨w.heap.size + 1, 1, none⟩ = some (.int .i64 b2) ∧ W.cell? ⟨w2.heap.size, 0, none⟩ = some (.int .i64 b1) ∧ W.cell? ⟨w2.heap.size, 1, none⟩ = some (.int .i64 b1))) := KC
  have HC2 : Hid _ := C2
  have HLC : Hid _ := LC
  have HCM : Hid _ := cmem
  have HBW : Hid _ := BW3
  have HOF : Hid (∀ W, Calls Try.prog 6 #[.int .i64 b1, .int .i64 b1] W fun e w' => e = .returned (.agg #[.int .i64 b1, .int .i64 b1]) ∧ Below W.heap.size W w') := fun W => of_below b1 b1 W
  clear KC C2 LC cmem BW3 idem hc p0 p1 p2 p3 p4 p5
  refine wp_region_held (S := fun W => W.cell? ⟨w.heap.size, 0, none⟩ = some (.int .i64 a1) ∧ W.cell? ⟨w.heap.size, 1, none⟩ = some (.int .i64 a2) ∧ W.cell? ⟨w.heap.size + 1, 0, none⟩ = some (.int .i64 b1) ∧ W.cell? ⟨w.heap.size + 1, 1, none⟩ = some (.int .i64 b2) ∧ W.cell? ⟨w2.heap.size, 0, none⟩ = some (.int .i64 b1) ∧ W.cell? ⟨w2.heap.size, 1, none⟩ = some (.int .i64 b1)) (by kernel_rfl) ?_
  change wpAnyH _ _ _ _ _ _ _ _ (World.drew _)
  have hS := HKC.out w3.drew ((Below.refl _ _).drew)
  refine takeH (i := 0) (v := .pointer (some ⟨w.heap.size + 1, 1, none⟩)) rfl (by kernel_rfl) (by kernel_rfl) (by kernel_rfl) (fun _ _ _ h => h) (Or.inl ⟨by rfl, fun W hW => by go_simp⟩) hS ?_
  simp only [Act.put, List.setIfInBounds_toArray, List.set_cons_zero, List.set_cons_succ]
  refine takeH (i := 1) (v := .int .i64 b2) rfl (by kernel_rfl) (by kernel_rfl) (by kernel_rfl) (fun _ _ _ h => h) (Or.inl ⟨by rfl, fun W hW => by obtain ⟨s0, s1, s2, s3, s4, s5⟩ := hW; go_simp⟩) hS ?_
  simp only [Act.put, List.setIfInBounds_toArray, List.set_cons_zero, List.set_cons_succ]
  refine takeH (i := 2) (v := .pointer (some ⟨w.heap.size + 1, 0, none⟩)) rfl (by kernel_rfl) (by kernel_rfl) (by kernel_rfl) (fun _ _ _ h => h) (Or.inl ⟨by rfl, fun W hW => by go_simp⟩) hS ?_
  simp only [Act.put, List.setIfInBounds_toArray, List.set_cons_zero, List.set_cons_succ]
  refine takeH (i := 3) (v := .int .i64 b1) rfl (by kernel_rfl) (by kernel_rfl) (by kernel_rfl) (fun _ _ _ h => h) (Or.inl ⟨by rfl, fun W hW => by obtain ⟨s0, s1, s2, s3, s4, s5⟩ := hW; go_simp⟩) hS ?_
  simp only [Act.put, List.setIfInBounds_toArray, List.set_cons_zero, List.set_cons_succ]
  refine takeH (i := 4) (v := .bool true) rfl (by kernel_rfl) (by kernel_rfl) (by kernel_rfl) (fun _ _ _ h => h) (Or.inl ⟨by rfl, fun W hW => by go_simp⟩) hS ?_
  simp only [Act.put, List.setIfInBounds_toArray, List.set_cons_zero, List.set_cons_succ]
  refine takeH (i := 5) (v := .bool true) rfl (by kernel_rfl) (by kernel_rfl) (by kernel_rfl) (fun _ _ _ h => h) (Or.inl ⟨by rfl, fun W hW => by go_simp⟩) hS ?_
  simp only [Act.put, List.setIfInBounds_toArray, List.set_cons_zero, List.set_cons_succ]
  refine takeH (i := 6) (v := .agg #[.int .i64 b1, .int .i64 b1]) rfl (by kernel_rfl) (by kernel_rfl) (by kernel_rfl) (fun _ _ _ h => h) (Or.inl ⟨by rfl, fun W hW => by obtain ⟨s0, s1, s2, s3, s4, s5⟩ := hW; go_simp⟩) hS ?_
  simp only [Act.put, List.setIfInBounds_toArray, List.set_cons_zero, List.set_cons_succ]
  refine takeH (i := 7) (v := .pointer (some ⟨w.heap.size + 1, 0, none⟩)) rfl (by kernel_rfl) (by kernel_rfl) (by kernel_rfl) (fun _ _ _ h => h) (Or.inl ⟨by rfl, fun W hW => by go_simp⟩) hS ?_
  simp only [Act.put, List.setIfInBounds_toArray, List.set_cons_zero, List.set_cons_succ]
  refine takeH (i := 8) (v := .int .i64 b1) rfl (by kernel_rfl) (by kernel_rfl) (by kernel_rfl) (fun _ _ _ h => h) (Or.inl ⟨by rfl, fun W hW => by obtain ⟨s0, s1, s2, s3, s4, s5⟩ := hW; go_simp⟩) hS ?_
  simp only [Act.put, List.setIfInBounds_toArray, List.set_cons_zero, List.set_cons_succ]
  refine takeH (i := 9) (v := .pointer (some ⟨w.heap.size + 1, 0, none⟩)) rfl (by kernel_rfl) (by kernel_rfl) (by kernel_rfl) (fun _ _ _ h => h) (Or.inl ⟨by rfl, fun W hW => by go_simp⟩) hS ?_
  simp only [Act.put, List.setIfInBounds_toArray, List.set_cons_zero, List.set_cons_succ]
  refine takeH (i := 10) (v := .int .i64 b1) rfl (by kernel_rfl) (by kernel_rfl) (by kernel_rfl) (fun _ _ _ h => h) (Or.inl ⟨by rfl, fun W hW => by obtain ⟨s0, s1, s2, s3, s4, s5⟩ := hW; go_simp⟩) hS ?_
  simp only [Act.put, List.setIfInBounds_toArray, List.set_cons_zero, List.set_cons_succ]
  refine onlyH (i := 11) rfl (by kernel_rfl) (fun K hK => ?_)
  go_simp
  go_at_call 6
  (with_reducible refine (HOF.out _).mono ?_)
  clear hS
  rintro e w4 ⟨rfl, hb4'⟩
  have B4 : Below w3.heap.size w3 w4 := ⟨hb4'.os, hb4'.tape, hb4'.output, hb4'.size, hb4'.block⟩
  have hS := HKC.out w4 B4
  refine hK _ _ ⟨hS, ?_⟩
  clear hK K hb4'
  refine takeH (i := 12) (v := .bool true) rfl (by kernel_rfl) (by kernel_rfl) (by kernel_rfl) (fun _ _ _ h => h) (Or.inl ⟨by rfl, fun W hW => by go_simp⟩) hS ?_
  simp only [Act.put, List.setIfInBounds_toArray, List.set_cons_zero, List.set_cons_succ]
  refine takeH (i := 13) (v := .bool true) rfl (by kernel_rfl) (by kernel_rfl) (by kernel_rfl) (fun _ _ _ h => h) (Or.inl ⟨by rfl, fun W hW => by go_simp⟩) hS ?_
  simp only [Act.put, List.setIfInBounds_toArray, List.set_cons_zero, List.set_cons_succ]
  refine takeH (i := 14) (v := .bool true) rfl (by kernel_rfl) (by kernel_rfl) (by kernel_rfl) (fun _ _ _ h => h) (Or.inl ⟨by rfl, fun W hW => by go_simp⟩) hS ?_
  simp only [Act.put, List.setIfInBounds_toArray, List.set_cons_zero, List.set_cons_succ]
  refine takeH (i := 15) (v := undef) rfl (by kernel_rfl) (by kernel_rfl) (by kernel_rfl) (fun _ _ _ h => h) (Or.inr ⟨by rfl, rfl⟩) hS ?_
  simp only [Act.put, List.setIfInBounds_toArray, List.set_cons_zero, List.set_cons_succ]
  refine takeH (i := 16) (v := undef) rfl (by kernel_rfl) (by kernel_rfl) (by kernel_rfl) (fun _ _ _ h => h) (Or.inr ⟨by rfl, rfl⟩) hS ?_
  simp only [Act.put, List.setIfInBounds_toArray, List.set_cons_zero, List.set_cons_succ]
  refine takeH (i := 17) (v := undef) rfl (by kernel_rfl) (by kernel_rfl) (by kernel_rfl) (fun _ _ _ h => h) (Or.inr ⟨by rfl, rfl⟩) hS ?_
  simp only [Act.put, List.setIfInBounds_toArray, List.set_cons_zero, List.set_cons_succ]
  refine takeH (i := 18) (v := undef) rfl (by kernel_rfl) (by kernel_rfl) (by kernel_rfl) (fun _ _ _ h => h) (Or.inr ⟨by rfl, rfl⟩) hS ?_
  simp only [Act.put, List.setIfInBounds_toArray, List.set_cons_zero, List.set_cons_succ]
  refine takeH (i := 19) (v := undef) rfl (by kernel_rfl) (by kernel_rfl) (by kernel_rfl) (fun _ _ _ h => h) (Or.inr ⟨by rfl, rfl⟩) hS ?_
  simp only [Act.put, List.setIfInBounds_toArray, List.set_cons_zero, List.set_cons_succ]
  refine takeH (i := 20) (v := undef) rfl (by kernel_rfl) (by kernel_rfl) (by kernel_rfl) (fun _ _ _ h => h) (Or.inr ⟨by rfl, rfl⟩) hS ?_
  simp only [Act.put, List.setIfInBounds_toArray, List.set_cons_zero, List.set_cons_succ]
  refine takeH (i := 21) (v := undef) rfl (by kernel_rfl) (by kernel_rfl) (by kernel_rfl) (fun _ _ _ h => h) (Or.inr ⟨by rfl, rfl⟩) hS ?_
  simp only [Act.put, List.setIfInBounds_toArray, List.set_cons_zero, List.set_cons_succ]
  refine takeH (i := 22) (v := undef) rfl (by kernel_rfl) (by kernel_rfl) (by kernel_rfl) (fun _ _ _ h => h) (Or.inr ⟨by rfl, rfl⟩) hS ?_
  simp only [Act.put, List.setIfInBounds_toArray, List.set_cons_zero, List.set_cons_succ]
  refine takeH (i := 23) (v := undef) rfl (by kernel_rfl) (by kernel_rfl) (by kernel_rfl) (fun _ _ _ h => h) (Or.inr ⟨by rfl, rfl⟩) hS ?_
  simp only [Act.put, List.setIfInBounds_toArray, List.set_cons_zero, List.set_cons_succ]
  refine takeH (i := 24) (v := undef) rfl (by kernel_rfl) (by kernel_rfl) (by kernel_rfl) (fun _ _ _ h => h) (Or.inr ⟨by rfl, rfl⟩) hS ?_
  simp only [Act.put, List.setIfInBounds_toArray, List.set_cons_zero, List.set_cons_succ]
  refine takeH (i := 25) (v := undef) rfl (by kernel_rfl) (by kernel_rfl) (by kernel_rfl) (fun _ _ _ h => h) (Or.inr ⟨by rfl, rfl⟩) hS ?_
  simp only [Act.put, List.setIfInBounds_toArray, List.set_cons_zero, List.set_cons_succ]
  refine takeH (i := 26) (v := undef) rfl (by kernel_rfl) (by kernel_rfl) (by kernel_rfl) (fun _ _ _ h => h) (Or.inr ⟨by rfl, rfl⟩) hS ?_
  simp only [Act.put, List.setIfInBounds_toArray, List.set_cons_zero, List.set_cons_succ]
  refine takeH (i := 27) (v := .bool true) rfl (by kernel_rfl) (by kernel_rfl) (by kernel_rfl) (fun _ _ _ h => h) (Or.inl ⟨by rfl, fun W hW => by go_simp⟩) hS ?_
  simp only [Act.put, List.setIfInBounds_toArray, List.set_cons_zero, List.set_cons_succ]
  refine takeH (i := 28) (v := .bool true) rfl (by kernel_rfl) (by kernel_rfl) (by kernel_rfl) (fun _ _ _ h => h) (Or.inl ⟨by rfl, fun W hW => by go_simp⟩) hS ?_
  simp only [Act.put, List.setIfInBounds_toArray, List.set_cons_zero, List.set_cons_succ]
  refine wpAnyH_done (by kernel_rfl) ?_ _
  clear hS HOF
  have KC := HKC.out
  have C2 := HC2.out
  have LC := HLC.out
  have cmem := HCM.out
  have BW3 := HBW.out
  clear HKC HC2 HLC HCM HBW
  try simp only
  obtain ⟨p0, p1, p2, p3, p4, p5⟩ := KC w4 B4
  obtain ⟨q0, q1, q2, q3, q4, q5⟩ := KC (w4.alloc (.cells #[.int .i64 a1, .int .i64 a2] 23)) (B4.alloc B4.size _)
  have z4 := B4.size
  go_wp2_with (first
    | (go_at_call 7; refine (meet_any _ _ 1 1 _ _ [(a1, a2)] [(b1, b2)] _ (ivAt_row (by repeat (first | exact heap_at (by simp; done) | rw [Below.heap_alloc _ _ _ (by first | omega | (simp; omega) | (simp; done))])) rfl rfl) (ivAt_row (by repeat (first | exact heap_at (by simp; done) | rw [Below.heap_alloc _ _ _ (by first | omega | (simp; omega) | (simp; done))])) rfl rfl) (by omega) (sing ha) (sing hb)).mono ?_; rintro e w5 ⟨v5, L5, rfl, t5, b5⟩; obtain ⟨ao5, l5, cp5, rfl⟩ := row_shape t5.own; have B5 : Below w3.heap.size w3 w5 := Below.trans (by repeat' first | exact Below.refl _ _ | assumption | refine Below.alloc ?_ (by first | omega | (simp; omega) | (simp; done)) _ | refine Below.drew ?_) (b5.mono (by first | omega | (simp; omega) | (simp; done))); have z5 := B5.size; clear b5 p0 p1 p2 p3 p4 p5 q0 q1 q2 q3 q4 q5; obtain ⟨p0, p1, p2, p3, p4, p5⟩ := KC w5 B5)
    | (go_at_call 9; refine (normal_any _ 1 _ [(b1, b1)] _ (ivAt_row (by repeat (first | exact heap_at (by simp; done) | rw [Below.heap_alloc _ _ _ (by first | omega | (simp; omega) | (simp; done))])) rfl rfl) (by omega) (sing hci)).mono ?_; rintro e w6 ⟨v6, L6, rfl, t6, b6⟩; obtain ⟨ao6, l6, cp6, rfl⟩ := row_shape t6.own; have B56 : Below w5.heap.size w5 w6 := Below.trans (by repeat' first | exact Below.refl _ _ | assumption | refine Below.alloc ?_ (by first | omega | (simp; omega) | (simp; done)) _ | refine Below.drew ?_) (b6.mono (by first | omega | (simp; omega) | (simp; done))); have B6 := B5.trans (B56.mono z5); have z6 := B6.size; have e56 : L6 = L5 := form_one t6.form t5.form (fun x => by rw [t6.mem, t5.mem]; exact cmem x); subst e56; have O5 := t5.own.below B56; have O6 := t6.own; clear b6 p0 p1 p2 p3 p4 p5; obtain ⟨p0, p1, p2, p3, p4, p5⟩ := KC w6 B6)
    | (go_at_call 8; refine (same_eq _ _ _ _ _ _ L6 _ O6.at O5.at (by have := O6.len; have := t6.few; omega)).mono ?_; rintro e w7 ⟨rfl, b7⟩; have B7 := B6.trans (b7.mono z6); have z7 := B7.size; have P5 := O5.below b7; clear p0 p1 p2 p3 p4 p5))
  have KD : ∀ W, Below w7.heap.size w7 W → (W.cell? ⟨w.heap.size, 0, none⟩ = some (.int .i64 a1) ∧ W.cell? ⟨w.heap.size, 1, none⟩ = some (.int .i64 a2) ∧ W.cell? ⟨w.heap.size + 1, 0, none⟩ = some (.int .i64 b1) ∧ W.cell? ⟨w.heap.size + 1, 1, none⟩ = some (.int .i64 b2) ∧ W.cell? ⟨w2.heap.size, 0, none⟩ = some (.int .i64 b1) ∧ W.cell? ⟨w2.heap.size, 1, none⟩ = some (.int .i64 b1)) := fun W hW => KC W (B7.trans (hW.mono z7))
  have BW7 := BW3.trans (B7.mono BW3.size)
  have n5 : l5 ≤ 268435456 := by have := P5.len; have := t6.few; omega
  have MS := fun W (b : Below w7.heap.size w7 W) => meas_one (ca := cp5) (P5.below b).at n5 t6
  have zz := BW7.size
  generalize lenI (b1, b1) = lc at LC MS
  clear KC B4 B5 B56 B6 b7 O5 O6 t5 t6 z4 z5 z6 P5 n5 BW3 z7 B7
  go_region_held3 (fun W => (W.cell? ⟨w.heap.size, 0, none⟩ = some (.int .i64 a1) ∧ W.cell? ⟨w.heap.size, 1, none⟩ = some (.int .i64 a2) ∧ W.cell? ⟨w.heap.size + 1, 0, none⟩ = some (.int .i64 b1) ∧ W.cell? ⟨w.heap.size + 1, 1, none⟩ = some (.int .i64 b2) ∧ W.cell? ⟨w2.heap.size, 0, none⟩ = some (.int .i64 b1) ∧ W.cell? ⟨w2.heap.size, 1, none⟩ = some (.int .i64 b1))) (exact KD _ (by repeat' first | exact Below.refl _ _ | assumption | refine Below.alloc ?_ (by first | omega | (simp; omega) | (simp; done)) _ | refine Below.drew ?_)) (first
    | (go_at_call 5; refine (C2 _).mono ?_; clear C2; rintro e w8 ⟨rfl, b8⟩; have B8 : Below w7.heap.size w7 w8 := Below.trans (by repeat' first | exact Below.refl _ _ | assumption | refine Below.alloc ?_ (by first | omega | (simp; omega) | (simp; done)) _ | refine Below.drew ?_) (b8.mono (by first | omega | (simp; omega) | (simp; done))); have z8 := B8.size; clear b8)
    | (go_at_call 10; refine (MS _ (by repeat' first | exact Below.refl _ _ | assumption | refine Below.alloc ?_ (by first | omega | (simp; omega) | (simp; done)) _ | refine Below.drew ?_)).mono ?_; clear MS; rintro e w9 ⟨rfl, b9⟩; have B9 : Below w7.heap.size w7 w9 := Below.trans (by repeat' first | exact Below.refl _ _ | assumption | refine Below.alloc ?_ (by first | omega | (simp; omega) | (simp; done)) _ | refine Below.drew ?_) (b9.mono (by first | omega | (simp; omega) | (simp; done))); have z9 := B9.size; clear b9)
    | (go_at_call 11; refine (LC _).mono ?_; clear LC; rintro e w10 ⟨rfl, b10⟩; have B10 : Below w7.heap.size w7 w10 := Below.trans (by repeat' first | exact Below.refl _ _ | assumption | refine Below.alloc ?_ (by first | omega | (simp; omega) | (simp; done)) _ | refine Below.drew ?_) (b10.mono (by first | omega | (simp; omega) | (simp; done))); have z10 := B10.size; clear b10))
  go_wp2
  go_ret
  refine ⟨rfl, BW7.trans (Below.mono ?_ zz)⟩
  repeat' first | assumption | refine Below.drew ?_
theorem cut_any (a b : Int × Int) (w : World) (ha : In64 a) (hb : In64 b) :
    Calls Try.prog 3 #[.agg #[.int .i64 a.1, .int .i64 a.2], .agg #[.int .i64 b.1, .int .i64 b.2]] w fun e w' => e = .returned (.bool true) ∧ Below w.heap.size w w' := by
  obtain ⟨a1, a2⟩ := a
  obtain ⟨b1, b2⟩ := b
  by_cases h : b2 ≤ b1
  · exact cut_none a1 a2 b1 b2 w ha hb (clip_emp h) h
  · obtain ⟨h1, h2, h3⟩ := clip_lies (a := (a1, a2)) (b := (b1, b2)) h
    generalize hc : clipI (a1, a2) (b1, b2) = c at h1 h2 h3
    obtain ⟨c1, c2⟩ := c
    simp only at h1 h2 h3
    by_cases k : c1 = c2
    · exact cut_thin a1 a2 b1 b2 c1 c2 w ha hb hc h k h1 h3
    · exact cut_wide a1 a2 b1 b2 c1 c2 w ha hb hc h (by omega) h1 h3
end Go.Proofs.Ytceecmmcjmnaeaa
