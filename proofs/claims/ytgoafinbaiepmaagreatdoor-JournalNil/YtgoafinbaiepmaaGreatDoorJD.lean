import Derived.Test.YtgoafinbaiepmaaGreatDoorJP
/-
  Layer 8 (journal): what is found in the file (lookAt).
-/
namespace Go.Proofs.YtgoafinbaiepmaaGreatDoor
open Go.RowKit Go.Shelf Go.Maps Go.WideMaps
set_option maxRecDepth 100000

/-- The file is found. -/
def Found (b d j : Nat) (w w' : World) : Prop := (∃ gf cf gb nb cb, Jn b w' j d gf cf gb nb cb 1 0 [32, 59]) ∧ Upd (fun k => k = j) w w'
set_option maxHeartbeats 4000000 in
theorem lookAt1 (b d j : Nat) (w : World) {N : Nat} {K : Dk} {f : Nat} {F : Fl} {s : Nat} (J : Jd b w d N K f F all59 s 1) (hj : Jz w j d) (hb : b ≤ w.heap.size) :
    Calls Tryz.prog 164 #[.pointer (some ⟨j, 0, none⟩), .int .u64 0, .bool true] w fun e w' => e = .returned (.tuple #[.int .i64 0, .pointer none]) ∧ Found b d j w w' := by
  have FN := fileName_zero w
  have LD := load1 b d j w J hj (by rw [all59_len]; omega)
  rw [all59_len] at LD
  have hjl := lt_of_block hj
  obtain ⟨i0, hi, hz0, hz1, hz2⟩ := info_parts Tryz.info120
  have SC : ∀ w1 (a1 : Option Addr) (c1 : Nat), Below w.heap.size w w1 → 59 ≤ c1 → OwnB w.heap.size w1 (.slice a1 59 c1) all59 → Calls Tryz.prog 187 #[.slice a1 59 c1] (w1.alloc (.cells #[.int .u64 0, .int .u64 0, .slice none 0 0] 120)) fun e w3 => ∃ gp cp, e = .returned (.tuple #[.slice (some ⟨gp, 0, none⟩) 2 cp, .int .i64 59, .int .i64 0]) ∧ Below w1.heap.size w1 w3 ∧ Calls Tryz.prog 188 #[.pointer (some ⟨w1.heap.size, 0, none⟩), .slice a1 59 c1, .slice (some ⟨gp, 0, none⟩) 2 cp, .func (.func 189) #[.pointer (some ⟨j, 0, none⟩)] #[]] w3 fun e w4 => e = .returned (.tuple #[.int .i64 59, .bool true]) ∧ Along w3 w1.heap.size w4 := fun w1 a1 c1 b1 h1 o1 => by
    have ba : Below w1.heap.size w1 (w1.alloc (.cells #[.int .u64 0, .int .u64 0, .slice none 0 0] 120)) := (Below.refl _ _).alloc (Nat.le_refl _) _
    have hH := (o1.below ba).holds
    have S := fr.scan_any a1 59 c1 all59 _ ⟨hH.len, hH.cells⟩ all59_bytes h1 (by omega)
    rw [scan59] at S
    refine S.mono ?_
    rintro e w3 ⟨v, rfl, o3, b3⟩
    obtain ⟨a, l, cp, rfl⟩ := row_shape o3
    have hl := own_len o3
    have hsz : (w1.alloc (.cells #[.int .u64 0, .int .u64 0, .slice none 0 0] 120)).heap.size = w1.heap.size + 1 := World.size_alloc _ _
    rcases o3.2 with ⟨e, _⟩ | ⟨gp, cap, cur, e, q2, q3, q4, q5, q6, q7⟩
    · simp at e
      simp at hl
      omega
    · simp at e
      obtain ⟨rfl, rfl, rfl⟩ := e
      have hc : ∀ (i : Nat) v, [Value.int .i64 1, .int .u64 0, .int .i64 24, .int .i64 8, .int .i64 2, .int .u64 0, .int .i64 56, .int .i64 3][i]? = some v → w3.cell? ⟨gp, i, none⟩ = some v := fun i v hv => by
        refine blk_cell q3 i ?_
        have e7 : cur.toList.take 8 = [Value.int .i64 1, .int .u64 0, .int .i64 24, .int .i64 8, .int .i64 2, .int .u64 0, .int .i64 56, .int .i64 3] := q7
        rw [← e7, List.getElem?_take] at hv
        split at hv
        · simpa using hv
        · cases hv
      have XS := (b3.block w1.heap.size (by rw [hsz]; omega)).trans (heap_alloc_new w1 _)
      have bw3 : Below w1.heap.size w1 w3 := ba.trans (b3.mono (by rw [hsz]; omega))
      have bw : Below w.heap.size w w3 := b1.trans (bw3.mono b1.size)
      exact ⟨gp, cp, rfl, bw3, along1 w3 w1.heap.size j d gp cp a1 c1 XS (hj.keep (KeepC.ofBelow bw)) ((o1.below bw3).holds) h1 (by rw [hsz] at q2; omega) hc hl.2.1⟩
  have EN : ∀ w1 w3 w4, Below w.heap.size w w1 → Below w1.heap.size w1 w3 → Along w3 w1.heap.size w4 → ∃ gb cb, (w4.cell? ⟨j, 2, none⟩ = some (.slice none 0 0) ∧ w4.cell? ⟨w1.heap.size, 0, none⟩ = some (.int .u64 0) ∧ w4.cell? ⟨w1.heap.size, 1, none⟩ = some (.int .u64 0) ∧ w4.cell? ⟨w1.heap.size, 2, none⟩ = some (.slice (some ⟨gb, 0, none⟩) 2 cb)) ∧ ∀ W5, Below w4.heap.size w4 W5 → W5.heap[w4.heap.size]? = some (.cells #[.int .u64 0, .int .u64 0, .slice (some ⟨gb, 0, none⟩) 2 cb] 120 (0, 0)) → b ≤ W5.heap.size ∧ Src Tryz.prog 3 114 (.slice (some ⟨w4.heap.size, 0, none⟩) 1 1) 1 [.int .u64 0, .int .u64 0, .slice (some ⟨gb, 0, none⟩) 2 cb] W5 ∧ ∀ v w', w'.ownsRow b 120 3 v (0 + 1) ([] ++ [.int .u64 0, .int .u64 0, .slice (some ⟨gb, 0, none⟩) 2 cb]) → W5.grownBy w' none → ∃ gf cf, v = .slice (some ⟨gf, 0, none⟩) 1 cf ∧ (w'.cell? ⟨j, 2, none⟩ = some (.slice none 0 0) ∧ w'.frozen? ⟨j, 2, none⟩ = false) ∧ ∀ m, Calls Tryz.prog 128 #[.pointer (some ⟨w1.heap.size, 0, none⟩)] ((w'.setCell ⟨j, 2, none⟩ (.slice (some ⟨gf, 0, none⟩) 1 cf)).drewN m) fun e w8 => e = .returned (.int .u64 1) ∧ (w8.cell? ⟨j, 3, none⟩ = some (.int .u64 0) ∧ w8.frozen? ⟨j, 3, none⟩ = false) ∧ Found b d j w (w8.setCell ⟨j, 3, none⟩ (.int .u64 1)) := by
    rintro w1 w3 w4 b1 b3 ⟨gb, nb, cb, XS4, R4, U4⟩
    obtain rfl : nb = 2 := (own_len R4).1
    have z1 := b1.size
    have z3 := b3.size
    have z4 := U4.size
    have bw : Below w.heap.size w w3 := b1.trans (b3.mono z1)
    have hj3 : Jz w3 j d := hj.keep (KeepC.ofBelow bw)
    have jne : j ≠ w1.heap.size := by omega
    have hj4 : Jz w4 j d := (U4.block j (lt_of_block hj3) jne).trans hj3
    refine ⟨gb, cb, ⟨blk_cell hj4 2 rfl, blk_cell XS4 0 rfl, blk_cell XS4 1 rfl, blk_cell XS4 2 rfl⟩, fun W5 B5 X5 => ⟨by have := B5.size; omega, ?_, fun v w' ho hg => ?_⟩⟩
    · refine Src.ofSlice _ Tryz.underlying114 ⟨w4.heap.size, 0, none⟩ 1 1 _ rfl (fun i u hi => ?_) (fun u hu => ?_)
      · rw [Addr.add_lit, Nat.zero_add]
        exact blk_cell X5 i (by simpa using hi)
      · simp at hu
        rcases hu with rfl | rfl
        · rfl
        · rfl
    simp only [Nat.zero_add, List.nil_append] at ho
    have bg : Below W5.heap.size W5 w' := (Below.refl _ _).grown hg (Nat.le_refl _) (fun k e => by cases e)
    have B6 : Below w4.heap.size w4 w' := B5.trans (bg.mono B5.size)
    obtain ⟨a, l, cf, rfl⟩ := row_shape ho
    have hgf : ∃ gf, a = some ⟨gf, 0, none⟩ ∧ l = 1 := by
      rcases ho.2 with ⟨_, e⟩ | ⟨g, cap, cur, e, _⟩
      · omega
      · simp at e
        exact ⟨g, e.1, e.2.1⟩
    obtain ⟨gf, rfl, rfl⟩ := hgf
    have hj6 : Jz w' j d := (B6.block j (lt_of_block hj4)).trans hj4
    have XS6 := (B6.block _ (lt_of_block XS4)).trans XS4
    have R6 := own_below R4 B6
    refine ⟨gf, cf, rfl, ⟨blk_cell hj6 2 rfl, free3 hj6 2⟩, fun m => ?_⟩
    have us : Upd (fun i => i = j) w' (w'.setCell ⟨j, 2, none⟩ (.slice (some ⟨gf, 0, none⟩) 1 cf)) := (Upd.refl (fun i => i = j) w').setCell (p := ⟨j, 2, none⟩) (fun _ => rfl) _
    have XS7 := (us.block _ (lt_of_block XS6) (fun e => jne e.symm)).trans XS6
    have XS8 : ((w'.setCell ⟨j, 2, none⟩ (.slice (some ⟨gf, 0, none⟩) 1 cf)).drewN m).heap[w1.heap.size]? = some (.cells (segC (.slice (some ⟨gb, 0, none⟩) 2 cb)) 120 (0, 0)) := XS7
    refine (segNext w1.heap.size gb 2 cb _ (by omega) (by omega) (blk_cell XS8 1 rfl) (blk_cell XS8 2 rfl)).mono ?_
    rintro e w8 ⟨rfl, q, rfl⟩
    have n7 : Jn b (w'.setCell ⟨j, 2, none⟩ (.slice (some ⟨gf, 0, none⟩) 1 cf)) j d gf cf gb 2 cb 0 0 [32, 59] := by
      refine ⟨setJ hj6, ownsRow_upd ho us (fun k e hh => ?_), ownsRow_upd (ownsRow_base_a R6 (by omega)) us (fun k e hh => ?_)⟩
      · subst hh
        obtain ⟨cs, hc⟩ := own_type ho e
        rw [hj6] at hc
        simp at hc
      · subst hh
        obtain ⟨cs, hc⟩ := own_type R6 e
        rw [hj6] at hc
        simp at hc
    have bm : Below (w'.setCell ⟨j, 2, none⟩ (.slice (some ⟨gf, 0, none⟩) 1 cf)).heap.size (w'.setCell ⟨j, 2, none⟩ (.slice (some ⟨gf, 0, none⟩) 1 cf)) (((w'.setCell ⟨j, 2, none⟩ (.slice (some ⟨gf, 0, none⟩) 1 cf)).drewN m).drewN q) := below_drewN (below_drewN (Below.refl _ _) m) q
    have n8 := n7.keep (KeepC.ofBelow bm)
    have u8 : Upd (fun i => i = j) (((w'.setCell ⟨j, 2, none⟩ (.slice (some ⟨gf, 0, none⟩) 1 cf)).drewN m).drewN q) ((((w'.setCell ⟨j, 2, none⟩ (.slice (some ⟨gf, 0, none⟩) 1 cf)).drewN m).drewN q).setCell ⟨j, 3, none⟩ (.int .u64 1)) := (Upd.refl (fun i => i = j) _).setCell (p := ⟨j, 3, none⟩) (fun _ => rfl) _
    refine ⟨by rw [show ((2 : Nat) : Int) - 1 = 1 by omega], ⟨blk_cell n8.blk 3 rfl, free3 n8.blk 3⟩, ⟨gf, cf, gb, 2, cb, n8.apartJ u8 (blk_set n8.blk 3 _)⟩, ?_⟩
    have ub : Upd (fun k => k = j) w w' := ((Upd.ofBelow (S := fun k => k = j) bw (fun k h1 h2 => by omega)).trans U4 (fun k hk e => by omega)).trans (Upd.ofBelow (S := fun k => k = j) B6 (fun k h1 h2 => by omega)) (fun _ _ e => e)
    exact ((ub.trans us (fun _ _ e => e)).trans (Upd.ofBelow (S := fun k => k = j) bm (fun k h1 h2 => by omega)) (fun _ _ e => e)).trans u8 (fun _ _ e => e)
  have HSC : Hid _ := SC
  have HEN : Hid _ := EN
  clear SC EN J hj hjl
  generalize Found b d j w = R at *
  go_enter Tryz.func164, Tryz.ntmps164
  go_upto_region 14 with (first
    | (go_at_call 107; refine FN.mono ?_; clear FN; rintro e w' ⟨rfl, hw⟩; obtain rfl := hw.symm)
    | (go_at_call 186; refine LD.mono ?_; clear LD; rintro e w1 ⟨a1, c1, rfl, h1, o1, b1⟩; have SC1 := HSC.out _ _ _ b1 h1 o1; clear HSC o1)
    | (go_at_call 187; refine SC1.mono ?_; clear SC1; rintro e w3 ⟨gp, cp, rfl, b3, AL⟩)
    | (go_at_call 188; refine AL.mono ?_; clear AL; rintro e w4 ⟨rfl, q4⟩; obtain ⟨gb, cb, ⟨j2, s0, s1, s2⟩, E5⟩ := HEN.out _ _ _ b1 b3 q4; clear HEN q4))
  have HE5 : Hid _ := E5
  have x1 := fun (o : Obj) => (World.cell?_alloc_lt w4 o ⟨j, 2, none⟩ (World.block_lt_of_cell? w4 _ j2)).trans j2
  clear E5
  go_region_law (refine step_appW _ (by rfl) _ _ 114 114 (by rfl) b 120 i0 _ 3 40 Tryz.underlying114 hi hz0 hz1 hz2 rfl (.slice none 0 0) 0 [] (by rfl) (World.ownsRow_nil _ _ _ _) (.slice (some ⟨w4.heap.size, 0, none⟩) 1 1) 1 [.int .u64 0, .int .u64 0, .slice (some ⟨gb, 0, none⟩) 2 cb] (by rfl) (HE5.out _ (by repeat' first | exact Below.refl _ _ | refine Below.alloc ?_ (by first | omega | (simp; omega) | (simp; done)) _ | refine Below.drew ?_) (by first | exact heap_alloc_new _ _ | exact heap_alloc_new w4.drew _)).2.1 (by unfold maxLen; omega) (by omega) (HE5.out _ (by repeat' first | exact Below.refl _ _ | refine Below.alloc ?_ (by first | omega | (simp; omega) | (simp; done)) _ | refine Below.drew ?_) (by first | exact heap_alloc_new _ _ | exact heap_alloc_new w4.drew _)).1 ?_; intro v8 w8 o8 g8 m8; obtain ⟨gf, cf8, rfl, ⟨e8, f8⟩, q8⟩ := (HE5.out _ (by repeat' first | exact Below.refl _ _ | refine Below.alloc ?_ (by first | omega | (simp; omega) | (simp; done)) _ | refine Below.drew ?_) (by first | exact heap_alloc_new _ _ | exact heap_alloc_new w4.drew _)).2.2 _ _ o8 g8; clear o8 g8 m8 HE5)
  all_goals (go_wp2_with (go_at_call 128; first | (with_reducible refine (q8 0).mono ?_) | refine (q8 0).mono ?_; rintro e w9 ⟨rfl, ⟨e9, f9⟩, q9⟩))
  all_goals go_ret2
  all_goals exact ⟨rfl, q9⟩
end Go.Proofs.YtgoafinbaiepmaaGreatDoor
/-
  Layer 8 (journal): look, settle, find of the file that is there.
-/
namespace Go.Proofs.YtgoafinbaiepmaaGreatDoor
open Go.RowKit Go.Shelf Go.Maps Go.WideMaps
set_option maxRecDepth 100000

set_option maxHeartbeats 1000000 in
theorem look1 (b d j : Nat) (w : World) {N : Nat} {K : Dk} {f : Nat} {F : Fl} {s : Nat} (J : Jd b w d N K f F all59 s 1) (hj : Jz w j d) (hb : b ≤ w.heap.size) (g c : Nat) (hn : w.cell? ⟨g, 0, none⟩ = some (.int .u64 0)) :
    Calls Tryz.prog 105 #[.pointer (some ⟨j, 0, none⟩), .slice (some ⟨g, 0, none⟩) 1 c] w fun e w' => e = .returned (.tuple #[.int .i64 0, .pointer none]) ∧ Found b d j w w' := by
  have LA := lookAt1 b d j w J hj hb
  clear J hj
  go_enter Tryz.func105, Tryz.ntmps105
  go_wp2
  refine wp_loop_rounds 2 ?_
  rw [rounds_succ]
  go_wp2_with (go_at_call 164; refine LA.mono ?_; clear LA; rintro e w1 ⟨rfl, q1⟩)
  rw [rounds_succ]
  go_wp2
  go_ret2
  exact ⟨rfl, q1⟩
/-- All that was found lasts. -/
def Setd (b d j : Nat) (w w' : World) : Prop := (∃ N K f F, Jd b w' d N K f F all59 59 1 ∧ N ≤ 20) ∧ (∃ gf cf gb nb cb, Jn b w' j d gf cf gb nb cb 1 0 [32, 59]) ∧ Below b w w' ∧ KeepC w w'
set_option maxHeartbeats 1000000 in
theorem settle1 (b d j : Nat) (w : World) {N : Nat} {K : Dk} {f : Nat} {F : Fl} {s : Nat} (J : Jd b w d N K f F all59 s 1) (hN : N ≤ 10) {gf cf gb nb cb : Nat} (hn : Jn b w j d gf cf gb nb cb 1 0 [32, 59]) (hb : b ≤ w.heap.size) :
    Calls Tryz.prog 110 #[.pointer (some ⟨j, 0, none⟩)] w fun e w' => e = .returned (.pointer none) ∧ Setd b d j w w' := by
  have LA := jlast hn
  have NM : ∀ W, KeepC w W → Calls Tryz.prog 66 #[.pointer (some ⟨gf, 0, none⟩)] W fun e w' => e = .returned (.string seg0) ∧ w' = W := fun W k => segName gf W (seg_cells (hn.keep k).seg).1
  have CJ : ∀ W, KeepC w W → W.cell? ⟨j, 0, none⟩ = some (.pointer (some ⟨d, 0, none⟩)) := fun W k => (hn.keep k).cells.1
  have SY : ∀ W, Below w.heap.size w W → Calls Tryz.prog 125 #[.pointer (some ⟨d, 0, none⟩), .string seg0] W fun e w' => e = .returned (.int .i64 0) ∧ (∃ G, Jd b w' d N K f G all59 59 1) ∧ (KeepC w w' ∧ Below b w w' ∧ b ≤ w'.heap.size) := fun W bW => by
    refine ((J.below bW).sync (Nat.le_trans hb bW.size)).mono ?_
    rintro e w' ⟨rfl, ⟨G, J2, _⟩, b2, k2⟩
    rw [all59_len] at J2
    have bb := (bW.mono hb).trans b2
    exact ⟨rfl, ⟨G, J2⟩, (KeepC.ofBelow bW).trans k2, bb, Nat.le_trans hb bb.size⟩
  have SN : ∀ W G, Jd b W d N K f G all59 59 1 → (KeepC w W ∧ Below b w W ∧ b ≤ W.heap.size) → Calls Tryz.prog 73 #[.pointer (some ⟨d, 0, none⟩)] W fun e w' => e = .returned (.int .i64 0) ∧ Setd b d j w w' := fun W G J2 ⟨k, bW, hbW⟩ => by
    refine (J2.names hbW (by omega)).mono ?_
    rintro e w' ⟨rfl, ⟨N3, K3, n3, J3⟩, b3, k3⟩
    exact ⟨rfl, ⟨N3, K3, f, G, J3, by omega⟩, ⟨gf, cf, gb, nb, cb, hn.keep (k.trans k3)⟩, bW.trans b3, k.trans k3⟩
  have HNM : Hid _ := NM
  have HCJ : Hid _ := CJ
  have HSY : Hid _ := SY
  have HSN : Hid _ := SN
  clear NM CJ SY SN J hn
  generalize Setd b d j w = R at *
  go_enter Tryz.func110, Tryz.ntmps110
  go_wp2_with (first
    | (go_at_call 124; refine LA.mono ?_; clear LA; rintro e w1 ⟨rfl, m1, hw1⟩; have b1 : Below w.heap.size w w1 := (by rw [hw1]; exact below_drewN (Below.refl _ _) _); clear hw1; have NM1 := HNM.out _ (KeepC.ofBelow b1); have c1 := HCJ.out _ (KeepC.ofBelow b1); have SY1 := HSY.out _ b1; clear HNM HSY)
    | (go_at_call 66; refine NM1.mono ?_; clear NM1; rintro e w' ⟨rfl, hw⟩; obtain rfl := hw.symm)
    | (go_at_call 125; refine SY1.mono ?_; clear SY1; rintro e w2 ⟨rfl, ⟨G2, J2⟩, T2⟩; have c2 := HCJ.out _ T2.1; have SN2 := HSN.out _ _ J2 T2; clear HSN HCJ)
    | (go_at_call 73; refine SN2.mono ?_; clear SN2; rintro e w3 ⟨rfl, q3⟩))
  go_ret
  exact ⟨rfl, q3⟩
/-- What Open finds. -/
def FindD (b d j : Nat) (w w' : World) : Prop := (∃ N K f F, Jd b w' d N K f F all59 59 1 ∧ N ≤ 20) ∧ (∃ gf cf gb nb cb, Jn b w' j d gf cf gb nb cb 1 0 [32, 59]) ∧ Below b w w' ∧ KeepX j w w'
set_option maxHeartbeats 1000000 in
theorem find1 (b d j : Nat) (w : World) {N : Nat} {K : Dk} {f : Nat} {F : Fl} {s : Nat} (J : Jd b w d N K f F all59 s 1) (hN : N ≤ 10) (hj : Jz w j d) (hb : b ≤ w.heap.size) (hjb : b ≤ j) :
    Calls Tryz.prog 52 #[.pointer (some ⟨j, 0, none⟩)] w fun e w' => e = .returned (.tuple #[.int .i64 0, .pointer none]) ∧ FindD b d j w w' := by
  have NU := numbers1 b d j w J hj
  have LO : ∀ w1 g c, Below w.heap.size w w1 → w1.ownsRow w.heap.size 42 1 (.slice (some ⟨g, 0, none⟩) 1 c) 1 [.int .u64 0] → Calls Tryz.prog 105 #[.pointer (some ⟨j, 0, none⟩), .slice (some ⟨g, 0, none⟩) 1 c] w1 fun e w' => e = .returned (.tuple #[.int .i64 0, .pointer none]) ∧ Found b d j w1 w' := fun w1 g c b1 o1 => by
    obtain ⟨g', e, hc⟩ := own_cell o1 (by omega)
    simp at e
    subst e
    exact look1 b d j w1 (J.below b1) (hj.keep (KeepC.ofBelow b1)) (Nat.le_trans hb b1.size) g c (hc 0 _ rfl)
  have SE : ∀ w1 w2, Below w.heap.size w w1 → Found b d j w1 w2 → ∃ gf cf, w2.cell? ⟨j, 2, none⟩ = some (.slice (some ⟨gf, 0, none⟩) 1 cf) ∧ Calls Tryz.prog 110 #[.pointer (some ⟨j, 0, none⟩)] w2 fun e w' => e = .returned (.pointer none) ∧ FindD b d j w w' := fun w1 w2 b1 ⟨⟨gf, cf, gb, nb, cb, hn⟩, u⟩ => by
    have hj1 := hj.keep (KeepC.ofBelow b1)
    have J2 : Jd b w2 d N K f F all59 s 1 := (J.below b1).oth u (fun k e _ => by subst e; exact ⟨_, _, _, hj1, ot_jou⟩)
    have z1 := b1.size
    have z2 := u.size
    refine ⟨gf, cf, hn.cells.2.2.1, (settle1 b d j w2 J2 hN hn (by omega)).mono ?_⟩
    rintro e w' ⟨rfl, p1, p2, p3, p4⟩
    refine ⟨rfl, p1, p2, (b1.mono hb).trans ((u.below (by omega) (fun k hk e => by omega)).trans p3), fun k hk hkj => ?_⟩
    have e1 := b1.block k hk.lt
    obtain ⟨cs, t, fz, hc, ht⟩ := hk
    have h1 := e1.trans hc
    have e2 := u.block k (lt_of_block h1) hkj
    exact (p4 k ⟨cs, t, fz, e2.trans h1, ht⟩).trans (e2.trans e1)
  have HLO : Hid _ := LO
  have HSE : Hid _ := SE
  clear LO SE J hj
  generalize FindD b d j w = R at *
  go_enter Tryz.func52, Tryz.ntmps52
  go_wp2_with (first
    | (go_at_call 104; refine NU.mono ?_; clear NU; rintro e w1 ⟨g1, c1, rfl, o1, b1⟩; have LO1 := HLO.out _ _ _ b1 o1; clear HLO o1)
    | (go_at_call 105; refine LO1.mono ?_; clear LO1; rintro e w2 ⟨rfl, q2⟩; obtain ⟨gf, cf, j2, SE2⟩ := HSE.out _ _ b1 q2; clear HSE q2)
    | (go_at_call 110; refine SE2.mono ?_; clear SE2; rintro e w3 ⟨rfl, q3⟩))
  go_ret2
  exact ⟨rfl, q3⟩
end Go.Proofs.YtgoafinbaiepmaaGreatDoor
/-
  Layer 8 (journal): Read of the record.
-/
namespace Go.Proofs.YtgoafinbaiepmaaGreatDoor
open Go.RowKit Go.Shelf Go.Maps Go.WideMaps
set_option maxRecDepth 100000

theorem first0 (w : World) (b1 b2 : Nat) {b j d gf cf gb nb cb : Nat} {nx fl : Int} {X : List Int} (hn : Jn b w j d gf cf gb nb cb nx fl X) (h1 : w.cell? ⟨b1, 0, none⟩ = some (.pointer (some ⟨j, 0, none⟩))) (h2 : w.cell? ⟨b2, 0, none⟩ = some (.int .u64 0)) :
    Calls Tryz.prog 127 #[.int .i64 0, .pointer (some ⟨b1, 0, none⟩), .pointer (some ⟨b2, 0, none⟩)] w fun e w' => e = .returned (.bool false) ∧ ∃ m, w' = w.drewN m := by
  obtain ⟨_, _, c2, _⟩ := hn.cells
  obtain ⟨_, s1, _, _⟩ := seg_cells hn.seg
  clear hn
  go_enter Tryz.func127, Tryz.ntmps127
  go_wp2
  go_quiet (fail)
  go_wp2
  go_ret
  exact ⟨rfl, _, rfl⟩
set_option maxHeartbeats 1000000 in
theorem search1 (w : World) (b1 b2 : Nat) (CL : Calls Tryz.prog 127 #[.int .i64 0, .pointer (some ⟨b1, 0, none⟩), .pointer (some ⟨b2, 0, none⟩)] w fun e w' => e = .returned (.bool false) ∧ ∃ m, w' = w.drewN m) :
    Calls Tryz.prog 126 #[.int .i64 1, .func (.func 127) #[] #[.pointer (some ⟨b1, 0, none⟩), .pointer (some ⟨b2, 0, none⟩)]] w fun e w' => e = .returned (.int .i64 1) ∧ ∃ m, w' = w.drewN m := by
  have eb : ∀ args w, (callFunc 127 args).run Tryz.prog w = .ok (.enter 127 args) w := enters_of Tryz.func127 (by kernel_rfl) rfl
  go_enter Tryz.func126, Tryz.ntmps126
  go_wp2
  refine wp_loop_rounds 2 ?_
  rw [rounds_succ]
  go_wp2_with (go_at_fn 127; refine CL.mono ?_; clear CL; rintro e w1 ⟨rfl, m1, hw1⟩)
  rw [rounds_succ]
  go_wp2
  go_ret
  exact ⟨rfl, m1, rfl⟩
set_option maxHeartbeats 1000000 in
theorem fileOf1 (w : World) {b j d gf cf gb cb : Nat} {nx fl : Int} (hn : Jn b w j d gf cf gb 2 cb nx fl [32, 59]) :
    Calls Tryz.prog 64 #[.pointer (some ⟨j, 0, none⟩), .int .u64 0] w fun e w' => e = .returned (.tuple #[.pointer (some ⟨gf, 0, none⟩), .bool true]) ∧ Below w.heap.size w w' := by
  obtain ⟨W2, hW2⟩ : ∃ W, (w.alloc (.cells #[.pointer (some ⟨j, 0, none⟩)] 35)).alloc (.cells #[.int .u64 0] 42) = W := ⟨_, rfl⟩
  have B2 : Below w.heap.size w W2 := by rw [← hW2]; exact ((Below.refl _ _).alloc (Nat.le_refl _) _).alloc (by simp) _
  have X1 : W2.heap[w.heap.size]? = some (.cells #[.pointer (some ⟨j, 0, none⟩)] 35 (0, 0)) := by rw [← hW2, Below.heap_alloc _ _ _ (by simp)]; exact heap_alloc_new _ _
  have X2 : W2.heap[w.heap.size + 1]? = some (.cells #[.int .u64 0] 42 (0, 0)) := by rw [← hW2]; exact heap_at (by simp)
  have n2 := hn.keep (KeepC.ofBelow B2)
  have h1 := blk_cell X1 0 (v := .pointer (some ⟨j, 0, none⟩)) rfl
  have h2 := blk_cell X2 0 (v := .int .u64 0) rfl
  have SE := search1 W2 w.heap.size (w.heap.size + 1) (first0 W2 _ _ n2 h1 h2)
  obtain ⟨_, _, c2, _⟩ := n2.cells
  obtain ⟨_, s1, s2, _⟩ := seg_cells n2.seg
  have NX : ∀ m, Calls Tryz.prog 128 #[.pointer (some ⟨gf, 0, none⟩)] (W2.drewN m) fun e w' => e = .returned (.int .u64 1) ∧ ∃ q, w' = (W2.drewN m).drewN q := fun m => by
    have := segNext gf gb 2 cb (W2.drewN m) (by omega) (by omega) s1 s2
    rw [show ((2 : Nat) : Int) - 1 = 1 by omega] at this
    exact this
  have HNX : Hid _ := NX
  clear NX n2 hn X1 X2
  go_enter Tryz.func64, Tryz.ntmps64
  go_upto_region 5 with (go_at_call 126; refine SE.mono ?_; clear SE; rintro e w1 ⟨rfl, m1, rfl⟩)
  obtain ⟨W3, hW3⟩ : ∃ W, W2.drewN m1 = W := ⟨_, rfl⟩
  have NX3 := HNX.out (m1 + 1)
  rw [show W2.drewN (m1 + 1) = W3.drew by rw [← hW3]; rfl] at NX3
  have h3 : W3.cell? ⟨w.heap.size + 1, 0, none⟩ = some (.int .u64 0) := by rw [← hW3]; exact h2
  have B3 : Below w.heap.size w W3 := by rw [← hW3]; exact below_drewN B2 _
  rw [hW3]
  have HB3 : Hid _ := B3
  clear hW3 HNX h1 h2 c2 s1 s2 B3 B2 hW2
  go_region_held3 (fun W => W.cell? ⟨w.heap.size + 1, 0, none⟩ = some (.int .u64 0)) (exact h3) (first
    | (go_at_call 128; (with_reducible refine NX3.mono ?_); clear NX3; rintro e w4 ⟨rfl, q4, hw4⟩; have h3 : w4.cell? ⟨w.heap.size + 1, 0, none⟩ = some (.int .u64 0) := (by rw [hw4]; exact h3); have B4 : Below w.heap.size w w4 := (by rw [hw4]; exact below_drewN HB3.out.drew _); clear hw4))
  go_wp2
  go_ret2
  exact ⟨rfl, B4⟩
set_option maxHeartbeats 1000000 in
theorem payload1 (w : World) {b j d gf cf gb cb : Nat} {nx fl : Int} (hn : Jn b w j d gf cf gb 2 cb nx fl [32, 59]) :
    Calls Tryz.prog 65 #[.pointer (some ⟨gf, 0, none⟩), .int .u64 0] w fun e w' => e = .returned (.tuple #[.int .i64 56, .int .i64 3]) ∧ ∃ m, w' = w.drewN m := by
  obtain ⟨_, s1, s2, _⟩ := seg_cells hn.seg
  obtain ⟨g, e, hc⟩ := own_cell hn.bnd (by simp)
  simp at e
  subst e
  have d0 : w.cell? ⟨gb, 0, none⟩ = some (.int .i64 32) := hc 0 _ rfl
  have d1 : w.cell? ⟨gb, 1, none⟩ = some (.int .i64 59) := hc 1 _ rfl
  clear hn hc
  go_enter Tryz.func65, Tryz.ntmps65
  go_wp2
  go_quiet (fail)
  go_wp2
  go_ret2
  exact ⟨rfl, _, rfl⟩
set_option maxHeartbeats 1000000 in
theorem read1 (b d j : Nat) (w : World) {N : Nat} {K : Dk} {f : Nat} {F : Fl} (J : Jd b w d N K f F all59 59 1) {gf cf gb cb : Nat} {nx fl : Int} (hn : Jn b w j d gf cf gb 2 cb nx fl [32, 59]) :
    Calls Tryz.prog 28 #[.pointer (some ⟨j, 0, none⟩), .int .u64 0] w fun e w' => ∃ a c, e = .returned (.tuple #[.slice a 3 c, .int .i64 0]) ∧ OwnB w.heap.size w' (.slice a 3 c) [97, 98, 99] ∧ Below w.heap.size w w' := by
  have FO := fileOf1 w hn
  have PA : ∀ W, Below w.heap.size w W → Calls Tryz.prog 65 #[.pointer (some ⟨gf, 0, none⟩), .int .u64 0] W fun e w' => e = .returned (.tuple #[.int .i64 56, .int .i64 3]) ∧ ∃ m, w' = W.drewN m := fun W bW => payload1 W (hn.keep (KeepC.ofBelow bW))
  have NM : ∀ W, Below w.heap.size w W → Calls Tryz.prog 66 #[.pointer (some ⟨gf, 0, none⟩)] W fun e w' => e = .returned (.string seg0) ∧ w' = W := fun W k => segName gf W (seg_cells (hn.keep (KeepC.ofBelow k)).seg).1
  have CJ : ∀ W, Below w.heap.size w W → W.cell? ⟨j, 0, none⟩ = some (.pointer (some ⟨d, 0, none⟩)) := fun W bW => (hn.keep (KeepC.ofBelow bW)).cells.1
  have RD : ∀ W, Below w.heap.size w W → Calls Tryz.prog 45 #[.pointer (some ⟨d, 0, none⟩), .string seg0, .int .i64 56, .int .i64 3] W fun e w' => ∃ a c, e = .returned (.tuple #[.slice a 3 c, .int .i64 0]) ∧ (OwnB w.heap.size w' (.slice a 3 c) [97, 98, 99] ∧ Below w.heap.size w w') := fun W bW => by
    have O := (J.below bW).one
    have e1 : F.B = all59 := J.fil.bytes
    have R := readAt b d N K seg0 0 f F 56 3 W O (by rw [e1, all59_len]; omega) (by omega) (by rw [e1, all59_len]; omega)
    rw [e1, all59_last] at R
    refine R.mono ?_
    rintro e w' ⟨a, c, rfl, _, o, b2⟩
    exact ⟨a, c, rfl, o.base bW.size, bW.trans (b2.mono bW.size)⟩
  have HPA : Hid _ := PA
  have HNM : Hid _ := NM
  have HCJ : Hid _ := CJ
  have HRD : Hid _ := RD
  clear PA NM CJ RD J hn
  go_enter Tryz.func28, Tryz.ntmps28
  go_upto_region 5 with (first
    | (go_at_call 64; refine FO.mono ?_; clear FO; rintro e w1 ⟨rfl, b1⟩; have PA1 := HPA.out _ b1; clear HPA)
    | (go_at_call 65; refine PA1.mono ?_; clear PA1; rintro e w2 ⟨rfl, m2, hw2⟩; have b2 : Below w.heap.size w w2 := (by rw [hw2]; exact below_drewN b1 _); clear hw2 b1))
  have c0 := HCJ.out _ b2
  have NM2 := HNM.out w2.drew b2.drew
  have RD2 := HRD.out w2.drew b2.drew
  have HCJ2 : Hid _ := fun (W : World) (bW : Below w.heap.size w W) => HCJ.out W bW
  clear HNM HRD HCJ b2
  go_region_held3 (fun W => W.cell? ⟨j, 0, none⟩ = some (.pointer (some ⟨d, 0, none⟩))) (first | exact c0 | exact c5) (first
    | (go_at_call 66; (with_reducible refine NM2.mono ?_); clear NM2; rintro e w' ⟨rfl, hw⟩; obtain rfl := hw.symm)
    | (go_at_call 45; (with_reducible refine RD2.mono ?_); clear RD2; rintro e w5 ⟨a5, cc5, rfl, q5⟩; have c5 := HCJ2.out _ q5.2))
  go_wp2
  go_ret2
  exact ⟨a5, cc5, rfl, q5⟩
end Go.Proofs.YtgoafinbaiepmaaGreatDoor
/-
  Layer 8 (journal): a record's life (shown).
-/
namespace Go.Proofs.YtgoafinbaiepmaaGreatDoor
open Go.RowKit Go.Shelf Go.Maps Go.WideMaps
set_option maxRecDepth 100000

/-- A disk of the journal's file, as Open finds it. -/
def Q0 (b d : Nat) (w : World) : Prop := ∃ N K f F, Jd b w d N K f F head32 32 1 ∧ F.S = [] ∧ N ≤ 10
def Q1 (b d : Nat) (w : World) : Prop := ∃ N K f F, Jd b w d N K f F all59 59 1 ∧ N ≤ 20
theorem open0 (b d : Nat) (w : World) (hb : b ≤ w.heap.size) (D : DiskAt b w d 0 ⟨b, b + 1, b + 2, 0, .slice none 0 0, [], 0, 0, 0, false, .map [], .map [], .map []⟩) :
    Calls Tryz.prog 16 #[.pointer (some ⟨d, 0, none⟩), .int .i64 64] w fun e w' => e = .returned (.tuple #[.pointer (some ⟨w.heap.size + 1, 0, none⟩), .agg #[.int .i64 1, .int .u64 0, .int .u64 0, .int .i64 0], .nilIface]) ∧ Q0 b d w' ∧ Jo b w' (w.heap.size + 1) d 0 [32] ∧ Below b w w' := by
  refine open_of b d w 0 [32] (Q0 b d) hb (fun w1 b1 hj ho => ?_) (fun w2 w3 ⟨N, K, f, F, J, hS, hN⟩ u ho => ⟨N, K, f, F, J.oth u (fun k hk _ => ho k hk), hS, hN⟩)
  refine (find0 b d (w.heap.size + 1) w1 (D.below b1) (Nat.le_trans hb b1.size) (by omega) hj).mono ?_
  rintro e w2 ⟨rfl, w1', ⟨p1, ⟨gf, cf, gb, cb, p2⟩, p3, p4⟩, b1'⟩
  have z1 := b1.size
  have z1' := b1'.size
  have e1 := b1'.block _ ho.lt
  obtain ⟨cs, t, fz, hc, ht⟩ := ho
  exact ⟨rfl, p1, (b1'.mono (by omega)).trans p3, (p4 _ ⟨cs, t, fz, e1.trans hc, ht⟩ (by omega)).trans e1, gf, cf, gb, 1, cb, 0, p2⟩
theorem open1 (b d : Nat) (w : World) (hb : b ≤ w.heap.size) {N : Nat} {K : Dk} {f : Nat} {F : Fl} {s : Nat} (J : Jd b w d N K f F all59 s 1) (hN : N ≤ 10) :
    Calls Tryz.prog 16 #[.pointer (some ⟨d, 0, none⟩), .int .i64 64] w fun e w' => e = .returned (.tuple #[.pointer (some ⟨w.heap.size + 1, 0, none⟩), .agg #[.int .i64 1, .int .u64 0, .int .u64 1, .int .i64 0], .nilIface]) ∧ Q1 b d w' ∧ Jo b w' (w.heap.size + 1) d 1 [32, 59] ∧ Below b w w' := by
  refine open_of b d w 1 [32, 59] (Q1 b d) hb (fun w1 b1 hj ho => ?_) (fun w2 w3 ⟨N, K, f, F, J, hN⟩ u ho => ⟨N, K, f, F, J.oth u (fun k hk _ => ho k hk), hN⟩)
  refine (find1 b d (w.heap.size + 1) w1 (J.below b1) hN hj (Nat.le_trans hb b1.size) (by omega)).mono ?_
  rintro e w2 ⟨rfl, p1, ⟨gf, cf, gb, nb, cb, p2⟩, p3, p4⟩
  exact ⟨rfl, p1, p3, p4 _ ho (by omega), gf, cf, gb, nb, cb, 0, p2⟩
theorem Jo.low {b : Nat} {w w' : World} {j d : Nat} {nx : Int} {X : List Int} (h : Jo b w j d nx X) (hb : Below w.heap.size w w') : Jo b w' j d nx X := by
  obtain ⟨gf, cf, gb, nb, cb, hn⟩ := h.ex
  exact ⟨gf, cf, gb, nb, cb, hn.keep (KeepC.ofBelow hb)⟩
theorem jappend {b d j : Nat} {w : World} (q : Q0 b d w) (h : Jo b w j d 0 [32]) (hb : b ≤ w.heap.size) (hjb : b ≤ j) (ad : Option Addr) (c : Nat) (hP : Holds w ad 3 [97, 98, 99]) :
    Calls Tryz.prog 26 #[.pointer (some ⟨j, 0, none⟩), .slice ad 3 c] w fun e w' => e = .returned (.tuple #[.int .u64 0, .int .i64 0]) ∧ Appd b d j w w' := by
  obtain ⟨N, K, f, F, J, hS, hN⟩ := q
  obtain ⟨gf, cf, gb, nb, cb, hn⟩ := h.ex
  obtain rfl : nb = 1 := (own_len hn.bnd).1
  exact append1 b d j w J hS hN hn hb hjb ad c ⟨hP.len, hP.cells⟩
theorem jrestart {b d j : Nat} {w w' : World} (h : Flsd b d j w w') (hb : b ≤ w'.heap.size) :
    Calls Tryz.prog 24 #[.pointer (some ⟨d, 0, none⟩), .agg #[.int .i64 0, .slice none 0 0]] w' fun e w2 => e = .returned (.tuple #[]) ∧ (∃ N K f F s, Jd b w2 d N K f F all59 s 1 ∧ N ≤ 10) ∧ Below b w' w2 := by
  obtain ⟨⟨N, K, f, F, J, hS, hN⟩, _, _⟩ := h
  refine (J.restart hb).mono ?_
  rintro e w2 ⟨rfl, ⟨K', G, J2, _⟩, b2, _⟩
  have e : (head32 ++ rec27).take 59 = all59 := List.take_of_length_le (by rw [List.length_append, head32_len, rec27_len]; omega)
  rw [e] at J2
  exact ⟨rfl, ⟨N, K', f, G, _, J2, hN⟩, b2⟩
theorem jread {b d j : Nat} {w : World} (q : Q1 b d w) (h : Jo b w j d 1 [32, 59]) :
    Calls Tryz.prog 28 #[.pointer (some ⟨j, 0, none⟩), .int .u64 0] w fun e w' => ∃ a c, e = .returned (.tuple #[.slice a 3 c, .int .i64 0]) ∧ OwnB w.heap.size w' (.slice a 3 c) [97, 98, 99] ∧ Below w.heap.size w w' := by
  obtain ⟨N, K, f, F, J, hN⟩ := q
  obtain ⟨gf, cf, gb, nb, cb, hn⟩ := h.ex
  obtain rfl : nb = 2 := (own_len hn.bnd).1
  exact read1 b d j w J hn
theorem Q0.low {b d : Nat} {w w' : World} (h : Q0 b d w) (hb : Below w.heap.size w w') : Q0 b d w' := by
  obtain ⟨N, K, f, F, J, hS, hN⟩ := h
  exact ⟨N, K, f, F, J.below hb, hS, hN⟩
theorem Q1.low {b d : Nat} {w w' : World} (h : Q1 b d w) (hb : Below w.heap.size w w') : Q1 b d w' := by
  obtain ⟨N, K, f, F, J, hN⟩ := h
  exact ⟨N, K, f, F, J.below hb, hN⟩
theorem Appd.self {b d j : Nat} {w w' : World} (h : Appd b d j w w') : Appd b d j w' w' := ⟨h.1, h.2.1, Below.refl _ _⟩
theorem strI_abc : strI [97, 98, 99] = ⟨#[97, 98, 99]⟩ := by kernel_rfl
set_option maxHeartbeats 4000000 in
theorem shown_any (w : World) : Calls Tryz.prog 9 #[] w fun e w' => e = .returned (.bool true) ∧ Below w.heap.size w w' := by
  have N1 := new_any w
  have KA := fun (w : World) => Lib.run_convert_bytes_const (P := Tryz.prog) w 37 5 #[.int .u8 97, .int .u8 98, .int .u8 99] 3 3 Tryz.underlying37 Tryz.underlying5
  have HA := fun (w : World) => holds_const w [97, 98, 99] (3, 4)
  have HHA : Hid _ := HA
  have E0 : ∀ W : World, (binOp .neq 49 (.agg #[.int .i64 1, .int .u64 0, .int .u64 0, .int .i64 0]) (.agg #[.int .i64 1, .int .u64 0, .int .u64 0, .int .i64 0])).run Tryz.prog W = .ok (.bool false) W := fun W => by kernel_rfl
  have E1 : ∀ W : World, (binOp .neq 49 (.agg #[.int .i64 1, .int .u64 0, .int .u64 1, .int .i64 0]) (.agg #[.int .i64 1, .int .u64 0, .int .u64 1, .int .i64 0])).run Tryz.prog W = .ok (.bool false) W := fun W => by kernel_rfl
  clear HA
  go_enter Tryz.func9, Tryz.ntmps9
  go_upto_region 5 with (first
    | (go_at_call 11; refine N1.mono ?_; clear N1; rintro e w1 ⟨rfl, D1, b1⟩; have z1 := b1.size; have O1 := open0 w.heap.size (w.heap.size + 3) w1 z1 D1; clear D1)
    | (go_at_call 16; refine O1.mono ?_; clear O1; rintro e w2 ⟨rfl, q2, j2, b2⟩))
  obtain ⟨W3, hW3⟩ : ∃ W, w2.alloc (.cells #[.int .i64 1, .int .u64 0, .int .u64 0, .int .i64 0] 49) = W := ⟨_, rfl⟩
  have B3 : Below w2.heap.size w2 W3 := by rw [← hW3]; exact (Below.refl _ _).alloc (Nat.le_refl _) _
  have X3 : W3.heap[w2.heap.size]? = some (.cells #[.int .i64 1, .int .u64 0, .int .u64 0, .int .i64 0] 49 (0, 0)) := by rw [← hW3]; exact heap_alloc_new _ _
  rw [hW3]
  have c0 := blk_cell X3 0 (v := .int .i64 1) rfl
  have c1 := blk_cell X3 1 (v := .int .u64 0) rfl
  have c2 := blk_cell X3 2 (v := .int .u64 0) rfl
  have c3 := blk_cell X3 3 (v := .int .i64 0) rfl
  have z2 : w.heap.size ≤ w2.heap.size := Nat.le_trans z1 b2.size
  have BW3 : Below w.heap.size w W3 := b1.trans (b2.trans (B3.mono z2))
  have z3 := BW3.size
  have AP := fun W (bW : Below W3.heap.size W3 W) (ad : Option Addr) (c : Nat) (h : Holds W ad 3 [97, 98, 99]) => jappend (q2.low (B3.trans (bW.mono B3.size))) (j2.low (B3.trans (bW.mono B3.size))) (Nat.le_trans z3 bW.size) (by omega) ad c h
  have HAP : Hid _ := AP
  have hjb : Hid (w.heap.size ≤ w1.heap.size + 1) := (by omega : w.heap.size ≤ w1.heap.size + 1)
  clear AP q2 j2 X3 hW3 B3 b1 b2
  go_upto_region 11 with (first
    | (go_at_call 26; refine (HAP.out _ ((Below.refl _ _).alloc (Nat.le_refl _) _) _ _ (HHA.out W3)).mono ?_; clear HAP HHA; rintro e w4 ⟨rfl, a4⟩; have BW4 : Below w.heap.size w w4 := (BW3.alloc z3 _).trans a4.2.2; have z4 := BW4.size; have FL := flush1 _ _ _ w4 z4 hjb.out a4.self; clear a4 BW3 z3 c0 c1 c2 c3)
    | (go_at_call 27; refine FL.mono ?_; clear FL; rintro e w5 ⟨rfl, f5⟩; have BW5 : Below w.heap.size w w5 := BW4.trans f5.2.2; have z5 := BW5.size; have RS := jrestart f5 z5; clear f5 BW4 z4)
    | (go_at_call 24; refine RS.mono ?_; clear RS; rintro e w6 ⟨rfl, ⟨N6, K6, f6, F6, s6, J6, n6⟩, b6⟩; have BW6 : Below w.heap.size w w6 := BW5.trans b6; have z6 := BW6.size; have O6 := open1 _ _ w6 z6 J6 n6; clear J6 n6 b6 BW5 z5)
    | (go_at_call 16; refine O6.mono ?_; clear O6; rintro e w7 ⟨rfl, q7, j7, b7⟩; have BW7 : Below w.heap.size w w7 := BW6.trans b7; have z7 := BW7.size; clear b7 BW6 z6))
  obtain ⟨W8, hW8⟩ : ∃ W, w7.alloc (.cells #[.int .i64 1, .int .u64 0, .int .u64 1, .int .i64 0] 49) = W := ⟨_, rfl⟩
  have B8 : Below w7.heap.size w7 W8 := by rw [← hW8]; exact (Below.refl _ _).alloc (Nat.le_refl _) _
  have X8 : W8.heap[w7.heap.size]? = some (.cells #[.int .i64 1, .int .u64 0, .int .u64 1, .int .i64 0] 49 (0, 0)) := by rw [← hW8]; exact heap_alloc_new _ _
  rw [hW8]
  have e0 := blk_cell X8 0 (v := .int .i64 1) rfl
  have e1 := blk_cell X8 1 (v := .int .u64 0) rfl
  have e2 := blk_cell X8 2 (v := .int .u64 1) rfl
  have e3 := blk_cell X8 3 (v := .int .i64 0) rfl
  have BW8 : Below w.heap.size w W8 := BW7.trans (B8.mono z7)
  have z8 := BW8.size
  have RD := jread (q7.low B8) (j7.low B8)
  clear q7 j7 hW8 X8 B8 BW7
  go_wp2_with (go_at_call 28; refine RD.mono ?_; clear RD; rintro e w9 ⟨a9, c9, rfl, o9, b9⟩; have BW9 : Below w.heap.size w w9 := BW8.trans (b9.mono z8); have cv := conv_holds o9.holds c9; rw [strI_abc] at cv; clear o9 b9)
  go_ret
  exact ⟨rfl, BW9⟩
set_option maxHeartbeats 1000000 in
theorem journalNames_any (w : World) : Calls Tryz.prog 3 #[] w fun e w' => e = .returned (.bool true) ∧ Below w.heap.size w w' := by
  have A := shown_any w
  have NU : ∀ (x : Int) W, Calls Tryz.prog 10 #[.int .i64 x] W fun e w' => e = .returned (.int .i64 x) ∧ w' = W := fun x W => by
    go_enter Tryz.func10, Tryz.ntmps10
    go_wp2
    go_ret
    exact ⟨rfl, rfl⟩
  go_enter Tryz.func3, Tryz.ntmps3
  go_wp2_with (first
    | (go_at_call 9; refine A.mono ?_; clear A; rintro e w1 ⟨rfl, b1⟩)
    | (go_at_call 10; refine (NU _ _).mono ?_; rintro e w' ⟨rfl, hw⟩; obtain rfl := hw.symm))
  go_ret
  exact ⟨rfl, b1⟩
end Go.Proofs.YtgoafinbaiepmaaGreatDoor
