/-
  Layer 8 (journal): a file gone along (the goto).
-/
import Derived.Test.YtgoafinbaiepmaaGreatDoorJC
import Derived.ScopeJumps
namespace Go.Proofs.YtgoafinbaiepmaaGreatDoor
open Go.RowKit Go.Shelf Go.Maps Go.WideMaps
set_option maxRecDepth 100000

/-- A segment that is being found. -/
def segC (bv : Value) : Array Value := #[.int .u64 0, .int .u64 0, bv]
theorem segNext (p : Nat) (g n c : Nat) (w : World) (hn : 1 ≤ n) (hm : n ≤ 1000) (h1 : w.cell? ⟨p, 1, none⟩ = some (.int .u64 0)) (h : w.cell? ⟨p, 2, none⟩ = some (.slice (some ⟨g, 0, none⟩) n c)) : Calls Tryz.prog 128 #[.pointer (some ⟨p, 0, none⟩)] w fun e w' => e = .returned (.int .u64 ((n : Int) - 1)) ∧ ∃ m, w' = w.drewN m := by
  have CN := fun q => segCount p (some ⟨g, 0, none⟩) n c (w.drewN q) hn (by omega) h
  have k1 : (n : Int) ≤ 1000 := by omega
  have k2 : (1 : Int) ≤ (n : Int) := by omega
  have k3 : IntKind.u64.wrap ((n : Int) - 1) = (n : Int) - 1 := by rw [IntKind.wrap_u64]; omega
  have k4 : IntKind.u64.wrap (0 + ((n : Int) - 1)) = (n : Int) - 1 := by rw [IntKind.wrap_u64]; omega
  clear hn hm h
  go_enter Tryz.func128, Tryz.ntmps128
  go_wp2
  go_quiet (first | (go_at_call 70; (with_reducible refine Calls.quiet_of_same (CN _))))
  go_wp2
  go_ret
  exact ⟨by first | rfl | (simp; omega), _, rfl⟩
/-- A scope in which the run jumps once: what comes behind the jump is walked where it jumps. -/
theorem wp_scope_once {P : Program} {a : Act} {w : World} {Q : Exit → Act → World → Prop} {c rest : Code} (l : Nat) (hf : findLabel c l = some rest)
    (first : c.wp P (Exit.jump l (fun a' w' => rest.wp P (Exit.jump l (fun _ _ => False) Q) a' w') Q) a w) : (Code.scope c).wp P Q a w :=
  wp_scope_jumps l _ (fun _ _ => 0) hf first (fun a w h => wp_mono h (fun e a' w' hq => by
    cases e with
    | goto l' => exact ⟨hq.1, hq.2.elim⟩
    | _ => exact hq))
/-- The file is gone along. -/
def Along (w : World) (sp : Nat) (w' : World) : Prop := ∃ gb nb cb, w'.heap[sp]? = some (.cells (segC (.slice (some ⟨gb, 0, none⟩) nb cb)) 120 (0, 0)) ∧ w'.ownsRow w.heap.size 3 1 (.slice (some ⟨gb, 0, none⟩) nb cb) 2 [.int .i64 32, .int .i64 59] ∧ Upd (fun k => k = sp) w w'
/-- At the jump. -/
def AtJump (w : World) (sp pb gb cb : Nat) (w' : World) : Prop := w'.heap[sp]? = some (.cells (segC (.slice (some ⟨gb, 0, none⟩) 1 cb)) 120 (0, 0)) ∧ w'.heap[pb]? = some (.cells #[.int .i64 2, .int .u64 0, .int .i64 56, .int .i64 3] 306 (0, 0)) ∧ w'.ownsRow w.heap.size 3 1 (.slice (some ⟨gb, 0, none⟩) 1 cb) 1 [.int .i64 32] ∧ Upd (fun k => k = sp) w w'
set_option maxHeartbeats 4000000 in
theorem along1 (w : World) (sp j d gp cp : Nat) (ab : Option Addr) (c : Nat) (hs : w.heap[sp]? = some (.cells (segC (.slice none 0 0)) 120 (0, 0))) (hj : Jz w j d) (hb : Holds w ab 59 all59) (hc : 59 ≤ c) (hgp : gp ≠ sp) (hp : ∀ (i : Nat) v, [Value.int .i64 1, .int .u64 0, .int .i64 24, .int .i64 8, .int .i64 2, .int .u64 0, .int .i64 56, .int .i64 3][i]? = some v → w.cell? ⟨gp, i, none⟩ = some v) (hcp : 2 ≤ cp) :
    Calls Tryz.prog 188 #[.pointer (some ⟨sp, 0, none⟩), .slice ab 59 c, .slice (some ⟨gp, 0, none⟩) 2 cp, .func (.func 189) #[.pointer (some ⟨j, 0, none⟩)] #[]] w fun e w' => e = .returned (.tuple #[.int .i64 59, .bool true]) ∧ Along w sp w' := by
  obtain ⟨g0, o0, rfl⟩ := hb.some_of (by rw [all59_len]; omega)
  have eb : ∀ args w, (callFunc 189 args).run Tryz.prog w = .ok (.enter 189 args) w := enters_of Tryz.func189 (by kernel_rfl) rfl
  have hsl := lt_of_block hs
  have p0 := hp 0 _ rfl
  have p1 := hp 1 _ rfl
  have p2 := hp 2 _ rfl
  have p3 := hp 3 _ rfl
  have hgl := World.block_lt_of_cell? w _ p0
  -- the world behind 'p := pieces[0]'
  obtain ⟨W1, hW1⟩ : ∃ W, w.alloc (.cells #[.int .i64 1, .int .u64 0, .int .i64 24, .int .i64 8] 306) = W := ⟨_, rfl⟩
  have B1 : Below w.heap.size w W1 := by rw [← hW1]; exact (Below.refl _ _).alloc (Nat.le_refl _) _
  have XP : W1.heap[w.heap.size]? = some (.cells #[.int .i64 1, .int .u64 0, .int .i64 24, .int .i64 8] 306 (0, 0)) := by rw [← hW1]; exact heap_alloc_new _ _
  have XS := (B1.block sp hsl).trans hs
  have k3 : (59 : Int) ≤ (c : Int) := by omega
  have k4 : (2 : Int) ≤ (cp : Int) := by omega
  have AFT : ∀ q, (W1.drewN q).cell? ⟨w.heap.size, 2, none⟩ = some (.int .i64 24) ∧ (W1.drewN q).cell? ⟨w.heap.size, 3, none⟩ = some (.int .i64 8) ∧ (W1.drewN q).cell? ⟨sp, 1, none⟩ = some (.int .u64 0) ∧ (W1.drewN q).frozen? ⟨sp, 1, none⟩ = false ∧ Calls Tryz.prog 218 #[.slice (some ⟨g0, o0 + 24, none⟩) 8 (c - 24)] (W1.drewN q) (fun e w' => e = .returned (.int .u64 0) ∧ w' = (W1.drewN q)) ∧ ∃ W2, ((W1.drewN q).setCell ⟨sp, 1, none⟩ (.int .u64 0)) = W2 ∧ W2.cell? ⟨sp, 1, none⟩ = some (.int .u64 0) ∧ Calls Tryz.prog 189 #[.pointer (some ⟨j, 0, none⟩), .int .u64 0] W2 (fun e w' => e = .returned (.bool true) ∧ w' = W2) ∧ W2.heap[w.heap.size]? = some (.cells #[.int .i64 1, .int .u64 0, .int .i64 24, .int .i64 8] 306 (0, 0)) ∧ W2.heap[sp]? = some (.cells (segC (.slice none 0 0)) 120 (0, 0)) ∧ Upd (fun k => k = sp) w W2 := by
    intro q
    have bq : Below w.heap.size w (W1.drewN q) := below_drewN B1 q
    have XSq : (W1.drewN q).heap[sp]? = some (.cells (segC (.slice none 0 0)) 120 (0, 0)) := XS
    have XPq : (W1.drewN q).heap[w.heap.size]? = some (.cells #[.int .i64 1, .int .u64 0, .int .i64 24, .int .i64 8] 306 (0, 0)) := XP
    have hH : Holds (W1.drewN q) (some ⟨g0, o0 + 24, none⟩) 8 [0, 0, 0, 0, 0, 0, 0, 0] := by
      have h1 := hb.below bq
      refine ⟨rfl, fun i u hi => ⟨_, rfl, ?_⟩⟩
      rw [← all59_first] at hi
      have h8 : i < 8 := by
        by_cases e : i < 8
        · exact e
        · rw [List.getElem?_map, List.getElem?_eq_none (by rw [List.length_take]; omega)] at hi; simp at hi
      rw [List.getElem?_map, List.getElem?_take, if_pos h8, List.getElem?_drop, ← List.getElem?_map] at hi
      obtain ⟨a, ha, hc'⟩ := h1.cells (24 + i) u hi
      simp at ha
      subst ha
      rw [Addr.add_lit] at hc' ⊢
      rw [show o0 + 24 + i = o0 + (24 + i) by omega]
      exact hc'
    have us : Upd (fun k => k = sp) (W1.drewN q) ((W1.drewN q).setCell ⟨sp, 1, none⟩ (.int .u64 0)) := (Upd.refl (fun k => k = sp) _).setCell (p := ⟨sp, 1, none⟩) (fun _ => rfl) _
    have ub : Upd (fun k => k = sp) w (W1.drewN q) := Upd.ofBelow bq (fun k h1 h2 => by omega)
    have jS : j ≠ sp := fun e => by
      subst e
      unfold Jz at hj
      rw [hs] at hj
      simp at hj
    have XS2 := blk_set XSq 1 (.int .u64 0)
    have hjq : Jz ((W1.drewN q).setCell ⟨sp, 1, none⟩ (.int .u64 0)) j d := (us.block j (by have := lt_of_block hj; have := bq.size; omega) jS).trans ((bq.block j (lt_of_block hj)).trans hj)
    refine ⟨blk_cell XPq 2 rfl, blk_cell XPq 3 rfl, blk_cell XSq 1 rfl, free3 XSq 1, readNumber0 _ _ _ hH, _, rfl, blk_cell XS2 1 rfl, mayBegin0 j d _ hjq, (us.block _ (lt_of_block XPq) (by omega)).trans XPq, XS2, ub.trans us (fun _ _ e => e)⟩
  obtain ⟨i0, hi, hz0, hz1, hz2⟩ := info_parts Tryz.info3
  have BN : ∀ W2, Upd (fun k => k = sp) w W2 → ∀ o v3 w3, W2.heap[w.heap.size]? = some (.cells #[.int .i64 1, .int .u64 0, .int .i64 24, .int .i64 8] 306 (0, 0)) → W2.heap[sp]? = some (.cells (segC (.slice none 0 0)) 120 (0, 0)) → w3.ownsRow w.heap.size 3 1 v3 (0 + 1) ([] ++ [.int .i64 32]) → (W2.alloc o).grownBy w3 none → ∃ gb cb, v3 = .slice (some ⟨gb, 0, none⟩) 1 cb ∧ w3.cell? ⟨sp, 2, none⟩ = some (.slice none 0 0) ∧ w3.frozen? ⟨sp, 2, none⟩ = false ∧ ∃ W4, w3.setCell ⟨sp, 2, none⟩ (.slice (some ⟨gb, 0, none⟩) 1 cb) = W4 ∧ W4.cell? ⟨gp, 4, none⟩ = some (.int .i64 2) ∧ W4.cell? ⟨gp, 5, none⟩ = some (.int .u64 0) ∧ W4.cell? ⟨gp, 6, none⟩ = some (.int .i64 56) ∧ W4.cell? ⟨gp, 7, none⟩ = some (.int .i64 3) ∧ W4.cell? ⟨w.heap.size, 0, none⟩ = some (.int .i64 1) ∧ W4.cell? ⟨w.heap.size, 1, none⟩ = some (.int .u64 0) ∧ W4.cell? ⟨w.heap.size, 2, none⟩ = some (.int .i64 24) ∧ W4.cell? ⟨w.heap.size, 3, none⟩ = some (.int .i64 8) ∧ (∀ i, W4.frozen? ⟨w.heap.size, i, none⟩ = false) ∧ ∃ W5, ((((W4.setCell ⟨w.heap.size, 0, none⟩ (.int .i64 2)).setCell ⟨w.heap.size, 1, none⟩ (.int .u64 0)).setCell ⟨w.heap.size, 2, none⟩ (.int .i64 56)).setCell ⟨w.heap.size, 3, none⟩ (.int .i64 3)) = W5 ∧ ∀ m, AtJump w sp w.heap.size gb cb (W5.drewN m) := by
    intro W2 U2 o v3 w3 XP2 XS2 o3 g3
    simp only [Nat.zero_add, List.nil_append] at o3
    have z2 := U2.size
    have u1 : Upd (fun _ => False) W2 w3 := ((Upd.refl _ W2).alloc o).grown g3 (fun _ _ e => by cases e)
    have XS3 := (u1.block sp (lt_of_block XS2) (fun h => h)).trans XS2
    have XP3 := (u1.block _ (lt_of_block XP2) (fun h => h)).trans XP2
    obtain ⟨a, l, cc, rfl⟩ := row_shape o3
    obtain ⟨gb, rfl, _⟩ := own_cell o3 (by omega)
    obtain rfl : l = 1 := (own_len o3).1
    have hgb := (own_lt o3 (j := gb) rfl).2
    refine ⟨gb, cc, rfl, blk_cell XS3 2 rfl, free3 XS3 2, _, rfl, ?_⟩
    have us : Upd (fun k => k = sp) w3 (w3.setCell ⟨sp, 2, none⟩ (.slice (some ⟨gb, 0, none⟩) 1 cc)) := (Upd.refl (fun k => k = sp) w3).setCell (p := ⟨sp, 2, none⟩) (fun _ => rfl) _
    have XS4 := blk_set XS3 2 (.slice (some ⟨gb, 0, none⟩) 1 cc)
    have XP4 := (us.block _ (lt_of_block XP3) (by omega)).trans XP3
    have o4 := ownsRow_upd o3 us (fun k e hh => by have := (own_lt o3 e).2; omega)
    have U4 : Upd (fun k => k = sp) w (w3.setCell ⟨sp, 2, none⟩ (.slice (some ⟨gb, 0, none⟩) 1 cc)) := (U2.trans u1 (fun _ _ h => h.elim)).trans us (fun _ _ e => e)
    generalize w3.setCell ⟨sp, 2, none⟩ (.slice (some ⟨gb, 0, none⟩) 1 cc) = W4 at *
    have hg4 := U4.block gp hgl hgp
    have hcell : ∀ (i : Nat) v, w.cell? ⟨gp, i, none⟩ = some v → W4.cell? ⟨gp, i, none⟩ = some v := fun i v h => by
      simp only [World.cell?, hg4] at h ⊢
      exact h
    have Y4 := blk_set (blk_set (blk_set (blk_set XP4 0 (.int .i64 2)) 1 (.int .u64 0)) 2 (.int .i64 56)) 3 (.int .i64 3)
    have u5 : Upd (fun k => k = w.heap.size) W4 ((((W4.setCell ⟨w.heap.size, 0, none⟩ (.int .i64 2)).setCell ⟨w.heap.size, 1, none⟩ (.int .u64 0)).setCell ⟨w.heap.size, 2, none⟩ (.int .i64 56)).setCell ⟨w.heap.size, 3, none⟩ (.int .i64 3)) := ((((Upd.refl (fun k => k = w.heap.size) W4).setCell (p := ⟨w.heap.size, 0, none⟩) (fun _ => rfl) _).setCell (p := ⟨w.heap.size, 1, none⟩) (fun _ => rfl) _).setCell (p := ⟨w.heap.size, 2, none⟩) (fun _ => rfl) _).setCell (p := ⟨w.heap.size, 3, none⟩) (fun _ => rfl) _
    refine ⟨hcell 4 _ (hp 4 _ rfl), hcell 5 _ (hp 5 _ rfl), hcell 6 _ (hp 6 _ rfl), hcell 7 _ (hp 7 _ rfl), blk_cell XP4 0 rfl, blk_cell XP4 1 rfl, blk_cell XP4 2 rfl, blk_cell XP4 3 rfl, fun i => free3 XP4 i, _, rfl, fun m => ⟨?_, ?_, ?_, ?_⟩⟩
    · exact (u5.block sp (lt_of_block XS4) (by omega)).trans XS4
    · exact Y4
    · have o5 := ownsRow_upd o4 u5 (fun k e hh => by
        subst hh
        obtain ⟨cs, hcs⟩ := own_type o4 e
        rw [XP4] at hcs
        simp at hcs)
      exact own_below o5 (below_drewN (Below.refl _ _) m)
    · have bm := Upd.ofBelow (S := fun k => k = sp) (below_drewN (Below.refl ((((W4.setCell ⟨w.heap.size, 0, none⟩ (.int .i64 2)).setCell ⟨w.heap.size, 1, none⟩ (.int .u64 0)).setCell ⟨w.heap.size, 2, none⟩ (.int .i64 56)).setCell ⟨w.heap.size, 3, none⟩ (.int .i64 3)).heap.size ((((W4.setCell ⟨w.heap.size, 0, none⟩ (.int .i64 2)).setCell ⟨w.heap.size, 1, none⟩ (.int .u64 0)).setCell ⟨w.heap.size, 2, none⟩ (.int .i64 56)).setCell ⟨w.heap.size, 3, none⟩ (.int .i64 3))) m) (fun k h1 h2 => by omega)
      exact (U4.trans u5 (fun k hk e => by omega)).trans bm (fun _ _ e => e)
  have B2 : ∀ gb cb W6, AtJump w sp w.heap.size gb cb W6 → W6.cell? ⟨w.heap.size, 2, none⟩ = some (.int .i64 56) ∧ W6.cell? ⟨w.heap.size, 3, none⟩ = some (.int .i64 3) ∧ W6.cell? ⟨sp, 2, none⟩ = some (.slice (some ⟨gb, 0, none⟩) 1 cb) ∧ W6.frozen? ⟨sp, 2, none⟩ = false ∧ (W6.alloc (.cells #[.int .i64 59] 3)).ownsRow w.heap.size 3 1 (.slice (some ⟨gb, 0, none⟩) 1 cb) 1 [.int .i64 32] ∧ ∀ v7 w7, w7.ownsRow w.heap.size 3 1 v7 (1 + 1) ([.int .i64 32] ++ [.int .i64 59]) → (W6.alloc (.cells #[.int .i64 59] 3)).grownBy w7 (Value.ownBlock (.slice (some ⟨gb, 0, none⟩) 1 cb)) → ∃ a l c, v7 = .slice a l c ∧ w7.cell? ⟨sp, 2, none⟩ = some (.slice (some ⟨gb, 0, none⟩) 1 cb) ∧ w7.frozen? ⟨sp, 2, none⟩ = false ∧ Along w sp (w7.setCell ⟨sp, 2, none⟩ (.slice a l c)) := by
    rintro gb cb W6 ⟨XS6, XP6, R6, U6⟩
    have ba : Below W6.heap.size W6 (W6.alloc (.cells #[.int .i64 59] 3)) := (Below.refl _ _).alloc (Nat.le_refl _) _
    refine ⟨blk_cell XP6 2 rfl, blk_cell XP6 3 rfl, blk_cell XS6 2 rfl, free3 XS6 2, own_below R6 ba, fun v7 w7 o7 g7 => ?_⟩
    have u1 : Upd (fun k => k = gb) W6 w7 := ((Upd.refl _ W6).alloc _).grown g7 (fun k _ e => by simp [Value.ownBlock] at e; exact e.symm)
    have ngs : sp ≠ gb := fun e => by
      have := (own_lt R6 (j := gb) rfl).2
      omega
    have XS7 := (u1.block sp (lt_of_block XS6) ngs).trans XS6
    obtain ⟨a, l, c, rfl⟩ := row_shape o7
    obtain ⟨g', rfl, _⟩ := own_cell o7 (by omega)
    have us : Upd (fun k => k = sp) w7 (w7.setCell ⟨sp, 2, none⟩ (.slice (some ⟨g', 0, none⟩) l c)) := (Upd.refl (fun k => k = sp) w7).setCell (p := ⟨sp, 2, none⟩) (fun _ => rfl) _
    refine ⟨_, l, c, rfl, blk_cell XS7 2 rfl, free3 XS7 2, g', l, c, blk_set XS7 2 _, ownsRow_upd o7 us (fun k e hh => by have := (own_lt o7 e).2; omega), ?_⟩
    exact (U6.trans u1 (fun k hk e => by have := (own_lt R6 (j := gb) rfl).2; omega)).trans us (fun _ _ e => e)
  have HB2 : Hid _ := B2
  clear B2
  have HBN : Hid _ := BN
  clear BN
  have HAF : Hid _ := AFT
  have HXP : Hid _ := XP
  have HXS : Hid _ := XS
  have HW1 : Hid _ := hW1
  have HP0 : Hid _ := hp
  clear AFT XP XS B1 hs hj hb hp
  go_enter Tryz.func188, Tryz.ntmps188
  go_wp2
  refine wp_scope_once 0 rfl ?_
  · skip
    have c0 := blk_cell HXP.out 0 (v := .int .i64 1) rfl
    have c1 := blk_cell HXP.out 1 (v := .int .u64 0) rfl
    have c2 := blk_cell HXP.out 3 (v := .int .i64 8) rfl
    have c3 := blk_cell HXS.out 0 (v := .int .u64 0) rfl
    go_upto_region 5 with fail
    go_quiet (fail)
    obtain ⟨e2, e3, e1, ef, RN, W2, hW2, s1, MB, XP2, XS2, U2⟩ := HAF.out nq
    go_upto_region 10 with (first
      | (go_at_call 218; refine RN.mono ?_; clear RN; rintro e w' ⟨rfl, hw⟩; obtain rfl := hw.symm)
      | (go_at_fn 189; refine MB.mono ?_; clear MB; rintro e w' ⟨rfl, hw⟩; obtain rfl := hw.symm))
    have x2 := blk_cell XP2 2 (v := .int .i64 24) rfl
    have x3 := blk_cell XP2 3 (v := .int .i64 8) rfl
    have y2 := blk_cell XS2 2 (v := .slice none 0 0) rfl
    have yf := free3 XS2 2
    have HB := HBN.out W2 U2
    clear e2 e3 e1 ef s1 hW2 c0 c1 c2 c3
    have R0 : (W2.alloc (.cells #[.int .i64 32] 3)).ownsRow w.heap.size 3 1 (.slice none 0 0) 0 [] := World.ownsRow_nil _ _ _ _
    go_step3
    go_upto_region 12 with (at_builtin; refine wpList_app _ rfl _ _ 43 43 rfl w.heap.size 3 i0 (.int .i64 0) 8 Tryz.underlying43 hi hz0 hz1 hz2 rfl (.slice none 0 0) 0 [] rfl R0 _ 1 [.int .i64 32] rfl (src_one Tryz.underlying43 _ _ _ rfl) (by unfold maxLen; omega) (by omega) (by rw [World.size_alloc]; have := U2.size; omega) ?_; intro v3 w3 o3 g3 m3; clear m3 R0; obtain ⟨gb, cb, rfl, y3, yf3, HW4⟩ := HB _ _ _ XP2 XS2 o3 g3; clear HB o3 g3)
    obtain ⟨W4, hW4, q0, q1, q2, q3, qp0, qp1, qp2, qp3, qf, FN⟩ := HW4
    have HFN : Hid _ := FN
    clear FN y2 yf x2 x3 y3 yf3 XP2 XS2
    rw [hW4]
    clear hW4
    go_upto_region 16 with fail
    obtain ⟨W5, hW5, FJ⟩ := HFN.out
    obtain ⟨XS5, XP5, _, _⟩ := FJ 0
    have HFJ : Hid _ := FJ
    rw [hW5]
    have z0 : W5.cell? ⟨w.heap.size, 0, none⟩ = some (.int .i64 2) := blk_cell XP5 0 rfl
    have z1 : W5.cell? ⟨w.heap.size, 1, none⟩ = some (.int .u64 0) := blk_cell XP5 1 rfl
    have y1 : W5.drew.cell? ⟨sp, 1, none⟩ = some (.int .u64 0) := blk_cell XS5 1 rfl
    have y2 : W5.drew.cell? ⟨sp, 2, none⟩ = some (.slice (some ⟨gb, 0, none⟩) 1 cb) := blk_cell XS5 2 rfl
    have NX := segNext sp gb 1 cb W5.drew (by omega) (by omega) y1 y2
    have e0 : ((1 : Nat) : Int) - 1 = 0 := by omega
    rw [e0] at NX
    clear FJ HFN hW5 XS5 XP5 y1 y2 q0 q1 q2 q3 qp0 qp1 qp2 qp3 qf e0
    go_region_held3 (fun W => W.cell? ⟨w.heap.size, 0, none⟩ = some (.int .i64 2) ∧ W.cell? ⟨w.heap.size, 1, none⟩ = some (.int .u64 0)) (exact ⟨z0, z1⟩) (first
      | (go_at_call 128; (with_reducible refine NX.mono ?_); clear NX; rintro e w6 ⟨rfl, m6, hw6⟩; have z0 : w6.cell? ⟨w.heap.size, 0, none⟩ = some (.int .i64 2) := (by rw [hw6]; exact z0); have z1 : w6.cell? ⟨w.heap.size, 1, none⟩ = some (.int .u64 0) := (by rw [hw6]; exact z1); have q6 : AtJump w sp w.heap.size gb cb w6 := (by rw [hw6, show W5.drew.drewN m6 = W5.drewN (1 + m6) from drewN_add W5 1 m6]; exact HFJ.out (1 + m6)); clear hw6 HFJ))
    go_wp2
    go_step3
    refine ⟨rfl, ?_⟩
    clear z0 z1
    obtain ⟨x2, x3, y2, yf, R1, BN2⟩ := HB2.out _ _ _ q6
    have HBN2 : Hid _ := BN2
    have z6 : w.heap.size ≤ w6.heap.size := q6.2.2.2.size
    clear BN2 q6
    go_upto_region 12 with (at_builtin; refine wpList_app _ rfl _ _ 43 43 rfl w.heap.size 3 i0 (.int .i64 0) 8 Tryz.underlying43 hi hz0 hz1 hz2 rfl (.slice (some ⟨gb, 0, none⟩) 1 cb) 1 [.int .i64 32] rfl R1 _ 1 [.int .i64 59] rfl (src_one Tryz.underlying43 _ _ _ rfl) (by unfold maxLen; omega) (by omega) (by rw [World.size_alloc]; omega) ?_; intro v7 w7 o7 g7 m7; clear m7 R1; obtain ⟨a7, l7, c7, rfl, y7, yf7, q7⟩ := HBN2.out _ _ o7 g7; clear HBN2 o7 g7)
    go_wp2
    all_goals (simp only [Exit.jump]; go_ret2)
    all_goals exact ⟨rfl, q7⟩
end Go.Proofs.YtgoafinbaiepmaaGreatDoor
