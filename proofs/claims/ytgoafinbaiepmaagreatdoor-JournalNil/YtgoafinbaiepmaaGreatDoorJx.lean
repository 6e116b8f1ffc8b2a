/-
  Layer 8 (journal): Open on an empty disk, of any size that may be (written by gen_jz.py).
-/
import Derived.Test.YtgoafinbaiepmaaGreatDoorJD
import Derived.BigRegion
import Derived.Handy
namespace Go.Proofs.YtgoafinbaiepmaaGreatDoor.jz
open Go.RowKit Go.Shelf Go.Maps Go.WideMaps
set_option maxRecDepth 100000
set_option linter.unusedSectionVars false
structure Sz where
  z : Int
  lo : 64 ≤ z
  hi : z ≤ 16777216
variable [Inhabited Sz]
def jC (d : Nat) (fv : Value) (nx fl : Int) : Array Value := #[.pointer (some ⟨d, 0, none⟩), .int .i64 (default : Sz).z, fv, .int .u64 nx, .int .u64 fl, .bool false]
/-- A journal of one file. -/
structure Jn (b : Nat) (w : World) (j d gf cf gb nb cb : Nat) (nx fl : Int) (X : List Int) : Prop where
  blk : w.heap[j]? = some (.cells (jC d (.slice (some ⟨gf, 0, none⟩) 1 cf) nx fl) 116 (0, 0))
  seg : w.ownsRow b 120 3 (.slice (some ⟨gf, 0, none⟩) 1 cf) 1 [.int .u64 0, .int .u64 0, .slice (some ⟨gb, 0, none⟩) nb cb]
  bnd : w.ownsRow b 3 1 (.slice (some ⟨gb, 0, none⟩) nb cb) X.length (X.map iV)
theorem Jn.keep {b : Nat} {w w' : World} {j d gf cf gb nb cb : Nat} {nx fl : Int} {X : List Int} (h : Jn b w j d gf cf gb nb cb nx fl X) (hk : KeepC w w') : Jn b w' j d gf cf gb nb cb nx fl X :=
  ⟨(hk j ⟨_, _, _, h.blk, ot_jou⟩).trans h.blk, row_keep h.seg ot_seg hk, row_keep h.bnd ot_int hk⟩
/-- Behind begin. -/
def Begun (b d j : Nat) (w w' : World) : Prop := (∃ N K f F, Jd b w' d N K f F head32 32 1 ∧ F.S = [] ∧ N ≤ 10) ∧ (∃ gf cf gb cb, Jn b w' j d gf cf gb 1 cb 0 0 [32]) ∧ Below b w w' ∧ KeepX j w w'
theorem setJ {w : World} {j d : Nat} {fv fv' : Value} {nx fl : Int} (h : w.heap[j]? = some (.cells (jC d fv nx fl) 116 (0, 0))) : (w.setCell ⟨j, 2, none⟩ fv').heap[j]? = some (.cells (jC d fv' nx fl) 116 (0, 0)) := by
  have := blk_set h 2 fv'
  exact this
set_option maxHeartbeats 4000000 in
theorem begin0 (b d j : Nat) (w : World) (D : DiskAt b w d 0 ⟨b, b + 1, b + 2, 0, .slice none 0 0, [], 0, 0, 0, false, .map [], .map [], .map []⟩) (hb : b ≤ w.heap.size) (hjb : b ≤ j) (hj : w.heap[j]? = some (.cells (jC d (.slice none 0 0) 0 0) 116 (0, 0))) :
    Calls Tryz.prog 109 #[.pointer (some ⟨j, 0, none⟩), .int .u64 0, .int .u64 0] w fun e w' => e = .returned (.pointer none) ∧ Begun b d j w w' := by
  obtain ⟨W2, hW2⟩ : ∃ W, (w.alloc (.cells #[.int .i64 32] 3)).alloc (.cells #[.int .u64 0, .int .u64 0, .slice (some ⟨w.heap.size, 0, none⟩) 1 1] 120) = W := ⟨_, rfl⟩
  have B2 : Below w.heap.size w W2 := by rw [← hW2]; exact ((Below.refl _ _).alloc (Nat.le_refl _) _).alloc (by simp) _
  have z2 : W2.heap.size = w.heap.size + 2 := by rw [← hW2]; simp
  have XG : W2.heap[w.heap.size]? = some (.cells #[.int .i64 32] 3 (0, 0)) := by rw [← hW2, Below.heap_alloc _ _ _ (by simp)]; exact heap_alloc_new _ _
  have XS : W2.heap[w.heap.size + 1]? = some (.cells #[.int .u64 0, .int .u64 0, .slice (some ⟨w.heap.size, 0, none⟩) 1 1] 120 (0, 0)) := by rw [← hW2]; exact heap_at (by simp)
  have XJ := (B2.block j (lt_of_block hj)).trans hj
  have KJ : ∀ W, KeepC W2 W → W.cell? ⟨j, 0, none⟩ = some (.pointer (some ⟨d, 0, none⟩)) ∧ W.cell? ⟨j, 2, none⟩ = some (.slice none 0 0) ∧ W.frozen? ⟨j, 2, none⟩ = false ∧ W.cell? ⟨w.heap.size + 1, 0, none⟩ = some (.int .u64 0) ∧ W.cell? ⟨w.heap.size + 1, 1, none⟩ = some (.int .u64 0) ∧ W.cell? ⟨w.heap.size + 1, 2, none⟩ = some (.slice (some ⟨w.heap.size, 0, none⟩) 1 1) := fun W k => by
    have q1 := (k _ ⟨_, _, _, XJ, ot_jou⟩).trans XJ
    have q2 := (k _ ⟨_, _, _, XS, ot_seg⟩).trans XS
    exact ⟨blk_cell q1 0 rfl, blk_cell q1 2 rfl, free3 q1 2, blk_cell q2 0 rfl, blk_cell q2 1 rfl, blk_cell q2 2 rfl⟩
  have CR := jcreate (D.below B2) (Nat.le_trans hb B2.size)
  have NM := segName (w.heap.size + 1) W2 (KJ W2 (KeepC.refl _)).2.2.2.1
  have HD : ∀ W, KeepC W2 W → Calls Tryz.prog 167 #[.pointer (some ⟨w.heap.size + 1, 0, none⟩)] W fun e w' => ∃ a c, e = .returned (.slice a 32 c) ∧ OwnB W.heap.size w' (.slice a 32 c) head32 ∧ Below W.heap.size W w' := fun W k => head0 (w.heap.size + 1) W (KJ W k).2.2.2.1 (KJ W k).2.2.2.2.1
  have AP : ∀ W W' K f (a : Option Addr) (c : Nat), Jd b W d 2 K f noF [] 0 0 → KeepC W2 W → b ≤ W.heap.size → Below b W2 W → Below W.heap.size W W' → OwnB W.heap.size W' (.slice a 32 c) head32 → Calls Tryz.prog 80 #[.pointer (some ⟨d, 0, none⟩), .string seg0, .slice a 32 c] W' fun e w' => e = .returned (.int .i64 0) ∧ (∃ G, Jd b w' d 2 K f G head32 0 0) ∧ (KeepC W2 w' ∧ Below b W2 w' ∧ b ≤ w'.heap.size) := fun W W' K f a c J k hbW bW b' o => by
    have hcap := (own_len o).2.1
    rw [head32_len] at hcap
    refine ((J.below b').append (Nat.le_trans hbW b'.size) a 32 c head32 o.holds (by omega) hcap (by simp [noF]) (by simp)).mono ?_
    rintro e w' ⟨rfl, ⟨G, J2, _⟩, b2, k2⟩
    have bb := bW.trans ((b'.mono hbW).trans b2)
    exact ⟨rfl, ⟨G, J2⟩, k.trans ((KeepC.ofBelow b').trans k2), bb, Nat.le_trans (Nat.le_trans hb B2.size) bb.size⟩
  have SY : ∀ W K f G, Jd b W d 2 K f G head32 0 0 → (KeepC W2 W ∧ Below b W2 W ∧ b ≤ W.heap.size) → Calls Tryz.prog 125 #[.pointer (some ⟨d, 0, none⟩), .string seg0] W fun e w' => e = .returned (.int .i64 0) ∧ (∃ G, Jd b w' d 2 K f G head32 32 0 ∧ G.S = []) ∧ (KeepC W2 w' ∧ Below b W2 w' ∧ b ≤ w'.heap.size) := fun W K f G J ⟨k, bW, hbW⟩ => by
    refine (J.sync hbW).mono ?_
    rintro e w' ⟨rfl, ⟨G2, J2, g2⟩, b2, k2⟩
    rw [head32_len] at J2
    exact ⟨rfl, ⟨G2, J2, g2⟩, k.trans k2, bW.trans b2, Nat.le_trans hbW b2.size⟩
  have SN : ∀ W K f G, Jd b W d 2 K f G head32 32 0 → G.S = [] → (KeepC W2 W ∧ Below b W2 W ∧ b ≤ W.heap.size) → Calls Tryz.prog 73 #[.pointer (some ⟨d, 0, none⟩)] W fun e w' => e = .returned (.int .i64 0) ∧ (∃ N K f F, Jd b w' d N K f F head32 32 1 ∧ F.S = [] ∧ N ≤ 10) ∧ (KeepC W2 w' ∧ Below b W2 w' ∧ b ≤ w'.heap.size) := fun W K f G J g ⟨k, bW, hbW⟩ => by
    refine (J.names hbW (by omega)).mono ?_
    rintro e w' ⟨rfl, ⟨N2, K2, n2, J2⟩, b2, k2⟩
    exact ⟨rfl, ⟨N2, K2, f, G, J2, g, by omega⟩, k.trans k2, bW.trans b2, Nat.le_trans hbW b2.size⟩
  obtain ⟨i0, hi, hz0, hz1, hz2⟩ := info_parts Tryz.info120
  have EN : ∀ W, (∃ N K f F, Jd b W d N K f F head32 32 1 ∧ F.S = [] ∧ N ≤ 10) → (KeepC W2 W ∧ Below b W2 W ∧ b ≤ W.heap.size) → ∀ W3, Below W.heap.size W W3 → W3.heap[W.heap.size]? = some (.cells #[.int .u64 0, .int .u64 0, .slice (some ⟨w.heap.size, 0, none⟩) 1 1] 120 (0, 0)) → b ≤ W3.heap.size ∧ Src Tryz.prog 3 114 (.slice (some ⟨W.heap.size, 0, none⟩) 1 1) 1 [.int .u64 0, .int .u64 0, .slice (some ⟨w.heap.size, 0, none⟩) 1 1] W3 ∧ ∀ v w', w'.ownsRow b 120 3 v (0 + 1) ([] ++ [.int .u64 0, .int .u64 0, .slice (some ⟨w.heap.size, 0, none⟩) 1 1]) → W3.grownBy w' none → ∃ gf cf, v = .slice (some ⟨gf, 0, none⟩) 1 cf ∧ (w'.cell? ⟨j, 2, none⟩ = some (.slice none 0 0) ∧ w'.frozen? ⟨j, 2, none⟩ = false) ∧ ∀ m, Begun b d j w ((w'.setCell ⟨j, 2, none⟩ (.slice (some ⟨gf, 0, none⟩) 1 cf)).drewN m) := by
    rintro W ⟨N, K, f, F, J, hS, hN⟩ ⟨k, bW, hbW⟩ W3 B3 X3
    refine ⟨Nat.le_trans hbW B3.size, ?_, fun v w' ho hg => ?_⟩
    · refine Src.ofSlice _ Tryz.underlying114 ⟨W.heap.size, 0, none⟩ 1 1 _ rfl (fun i u hi => ?_) (fun u hu => ?_)
      · rw [Addr.add_lit, Nat.zero_add]
        exact blk_cell X3 i (by simpa using hi)
      · simp at hu
        rcases hu with rfl | rfl
        · rfl
        · rfl
    simp only [Nat.zero_add, List.nil_append] at ho
    have bg : Below W3.heap.size W3 w' := (Below.refl _ _).grown hg (Nat.le_refl _) (fun k e => by cases e)
    have B4 : Below W.heap.size W w' := B3.trans (bg.mono B3.size)
    have k4 := k.trans (KeepC.ofBelow B4)
    obtain ⟨q1, q2, q3, _⟩ := KJ w' k4
    have XJ4 := (k4 _ ⟨_, _, _, XJ, ot_jou⟩).trans XJ
    have XG4 := (k4 _ ⟨_, _, _, XG, ot_int⟩).trans XG
    have us : Upd (fun i => i = j) w' (w'.setCell ⟨j, 2, none⟩ v) := (Upd.refl (fun i => i = j) w').setCell (p := ⟨j, 2, none⟩) (fun _ => rfl) _
    obtain ⟨a, l, cf, rfl⟩ := row_shape ho
    have hgf : ∃ gf, a = some ⟨gf, 0, none⟩ ∧ l = 1 := by
      rcases ho.2 with ⟨_, e⟩ | ⟨g, cap, cur, e, _⟩
      · omega
      · simp at e
        exact ⟨g, e.1, e.2.1⟩
    obtain ⟨gf, rfl, rfl⟩ := hgf
    have njs : ∀ i, Value.ownBlock (.slice (some ⟨gf, 0, none⟩) 1 cf) = some i → i ≠ j := fun i e hh => by
      subst hh
      obtain ⟨cs, hc⟩ := own_type ho e
      rw [hc] at XJ4
      simp at XJ4
    have oj : ∀ i, i = j → i < w'.heap.size → Oth w' i := fun i e _ => by subst e; exact ⟨_, _, _, XJ4, ot_jou⟩
    have hG : w'.ownsRow b 3 1 (.slice (some ⟨w.heap.size, 0, none⟩) 1 1) [(32 : Int)].length ([(32 : Int)].map iV) := ⟨rfl, Or.inr ⟨w.heap.size, 1, _, rfl, hb, XG4, Nat.le_refl _, by unfold maxLen; omega, rfl, rfl⟩⟩
    have njg : w.heap.size ≠ j := by
      intro e
      rw [e] at XG4
      rw [XG4] at XJ4
      simp at XJ4
    refine ⟨gf, cf, rfl, ⟨q2, q3⟩, fun m => ?_⟩
    have bm : Below (w'.setCell ⟨j, 2, none⟩ (.slice (some ⟨gf, 0, none⟩) 1 cf)).heap.size (w'.setCell ⟨j, 2, none⟩ (.slice (some ⟨gf, 0, none⟩) 1 cf)) ((w'.setCell ⟨j, 2, none⟩ (.slice (some ⟨gf, 0, none⟩) 1 cf)).drewN m) := below_drewN (Below.refl _ _) m
    refine ⟨⟨N, K, f, F, ((J.below B4).oth us oj).below bm, hS, hN⟩, ⟨gf, cf, w.heap.size, 1, Jn.keep ⟨setJ XJ4, ownsRow_upd ho us njs, ownsRow_upd hG us (fun i e hh => by simp [Value.ownBlock] at e; omega)⟩ (KeepC.ofBelow bm)⟩, ?_⟩
    have b9 : Below b w (w'.setCell ⟨j, 2, none⟩ (.slice (some ⟨gf, 0, none⟩) 1 cf)) := (B2.mono hb).trans (bW.trans ((B4.mono hbW).trans (us.below (by have := B4.size; omega) (fun i hi e => by omega))))
    refine ⟨b9.trans (bm.mono (by have := b9.size; omega)), fun i hi hij => ?_⟩
    have e1 := B2.block i hi.lt
    obtain ⟨cs, t, fz, hcs, ht⟩ := hi
    have e2 := k4 i ⟨cs, t, fz, e1.trans hcs, ht⟩
    have hl : i < w'.heap.size := lt_of_block (e2.trans (e1.trans hcs))
    exact (us.block i hl hij).trans (e2.trans e1)
  have HKJ : Hid _ := KJ
  have HHD : Hid _ := HD
  have HAP : Hid _ := AP
  have HSY : Hid _ := SY
  have HSN : Hid _ := SN
  have HEN : Hid _ := EN
  have HB2 : Hid _ := B2
  have Hbb : Hid (b ≤ W2.heap.size) := Nat.le_trans hb B2.size
  clear KJ HD AP SY SN EN D hj XJ XS XG B2 z2
  generalize Begun b d j w = R at *
  go_enter Tryz.func109, Tryz.ntmps109
  go_upto_region 2 with fail
  clear hW2
  obtain ⟨c0, c2, cf, s0, s1, s2⟩ := HKJ.out W2 (KeepC.refl _)
  go_upto_region 6 with (first
    | (go_at_call 66; refine NM.mono ?_; clear NM; rintro e w' ⟨rfl, hw⟩; obtain rfl := hw.symm)
    | (go_at_call 78; refine CR.mono ?_; clear CR; rintro e w3 ⟨rfl, ⟨K3, f3, J3⟩, b3, k3⟩))
  obtain ⟨d0, _, _, _, _, _⟩ := HKJ.out w3 k3
  have HD3 := HHD.out w3.drew (k3.trans (KeepC.ofBelow (Below.refl _ _).drew))
  have AP3 := fun W' a c => HAP.out w3.drew W' K3 f3 a c (J3.below (Below.refl _ _).drew) (k3.trans (KeepC.ofBelow (Below.refl _ _).drew)) (Nat.le_trans Hbb.out b3.size) (b3.trans ((Below.refl _ _).drew.mono (Nat.le_trans Hbb.out b3.size)))
  have KJ4 : ∀ W', Below w3.drew.heap.size w3.drew W' → W'.cell? ⟨j, 0, none⟩ = some (.pointer (some ⟨d, 0, none⟩)) := fun W' b' => (HKJ.out W' ((k3.trans (KeepC.ofBelow (Below.refl _ _).drew)).trans (KeepC.ofBelow b'))).1
  have HK4 : Hid _ := KJ4
  have HAP3 : Hid _ := AP3
  clear HHD HAP J3 b3 k3 KJ4 AP3 c0 c2 cf s0 s1 s2
  go_region_held3 (fun W => W.cell? ⟨j, 0, none⟩ = some (.pointer (some ⟨d, 0, none⟩))) (first | exact d0 | exact d4 | exact d5) (first
    | (go_at_call 167; (with_reducible refine HD3.mono ?_); clear HD3; rintro e w4 ⟨a4, cc4, rfl, o4, b4⟩; have d4 := HK4.out _ b4; have A4 := HAP3.out _ _ _ b4 o4; clear HAP3 HK4)
    | (go_at_call 80; (with_reducible refine A4.mono ?_); clear A4; rintro e w5 ⟨rfl, ⟨G5, J5⟩, T5⟩; obtain ⟨d5, _, _, _, _, _⟩ := HKJ.out _ T5.1; have S5 := HSY.out _ _ _ _ J5 T5; clear HSY J5))
  go_upto_region 15 with (first
    | (go_at_call 125; refine S5.mono ?_; clear S5; rintro e w6 ⟨rfl, ⟨G6, J6, g6⟩, T6⟩; obtain ⟨d6, _, _, _, _, _⟩ := HKJ.out _ T6.1; have S6 := HSN.out _ _ _ _ J6 g6 T6; clear HSN J6)
    | (go_at_call 73; refine S6.mono ?_; clear S6; rintro e w7 ⟨rfl, J7, T7⟩; obtain ⟨d7, d72, d7f, e70, e71, e72⟩ := HKJ.out _ T7.1; have EN7 := HEN.out _ J7 T7; clear HEN))
  have HE7 : Hid _ := EN7
  clear HKJ T7 T6 T5 J7 EN7
  have x1 := fun (o : Obj) => (World.cell?_alloc_lt w7 o ⟨j, 2, none⟩ (World.block_lt_of_cell? w7 _ d72)).trans d72
  go_region_law (refine step_appW _ (by rfl) _ _ 114 114 (by rfl) b 120 i0 _ 3 40 Tryz.underlying114 hi hz0 hz1 hz2 rfl (.slice none 0 0) 0 [] (by rfl) (World.ownsRow_nil _ _ _ _) (.slice (some ⟨w7.heap.size, 0, none⟩) 1 1) 1 [.int .u64 0, .int .u64 0, .slice (some ⟨w.heap.size, 0, none⟩) 1 1] (by rfl) (HE7.out _ (by repeat' first | exact Below.refl _ _ | refine Below.alloc ?_ (by first | omega | (simp; omega) | (simp; done)) _ | refine Below.drew ?_) (by first | exact heap_alloc_new _ _ | exact heap_alloc_new w7.drew _)).2.1 (by unfold maxLen; omega) (by omega) (HE7.out _ (by repeat' first | exact Below.refl _ _ | refine Below.alloc ?_ (by first | omega | (simp; omega) | (simp; done)) _ | refine Below.drew ?_) (by first | exact heap_alloc_new _ _ | exact heap_alloc_new w7.drew _)).1 ?_; intro v8 w8 o8 g8 m8; obtain ⟨gf, cf8, rfl, ⟨e8, f8⟩, q8⟩ := (HE7.out _ (by repeat' first | exact Below.refl _ _ | refine Below.alloc ?_ (by first | omega | (simp; omega) | (simp; done)) _ | refine Below.drew ?_) (by first | exact heap_alloc_new _ _ | exact heap_alloc_new w7.drew _)).2.2 _ _ o8 g8; clear o8 g8 m8 HE7)
  all_goals (go_wp2; go_ret)
  all_goals first | exact ⟨rfl, q8 0⟩ | exact ⟨rfl, q8 1⟩ | exact ⟨rfl, q8 2⟩ | exact ⟨rfl, q8 3⟩
/-- No names: no numbers. -/
theorem numbers0 (b d j : Nat) (w : World) (D : DiskAt b w d 0 ⟨b, b + 1, b + 2, 0, .slice none 0 0, [], 0, 0, 0, false, .map [], .map [], .map []⟩) (hj : w.heap[j]? = some (.cells (jC d (.slice none 0 0) 0 0) 116 (0, 0))) :
    Calls Tryz.prog 104 #[.pointer (some ⟨j, 0, none⟩)] w fun e w' => e = .returned (.tuple #[.slice none 0 0, .pointer none]) ∧ Below w.heap.size w w' := by
  have c0 := blk_cell hj 0 (v := .pointer (some ⟨d, 0, none⟩)) rfl
  have NA := names_any b d 0 _ w D rfl (by omega)
  have hz : Maps.size (DataW.map [] : DataW Unit) = 0 := rfl
  simp only [hz] at NA
  clear D hj hz
  go_enter Tryz.func104, Tryz.ntmps104
  go_wp2_with (go_at_call 41; refine NA.mono ?_; clear NA; rintro e w1 ⟨a1, c1, ss1, rfl, _, _, b1⟩)
  refine wp_loop_rounds 1 ?_
  rw [rounds_succ]
  go_wp2
  go_ret2
  exact ⟨rfl, b1⟩
theorem find0 (b d j : Nat) (w : World) (D : DiskAt b w d 0 ⟨b, b + 1, b + 2, 0, .slice none 0 0, [], 0, 0, 0, false, .map [], .map [], .map []⟩) (hb : b ≤ w.heap.size) (hjb : b ≤ j) (hj : w.heap[j]? = some (.cells (jC d (.slice none 0 0) 0 0) 116 (0, 0))) :
    Calls Tryz.prog 52 #[.pointer (some ⟨j, 0, none⟩)] w fun e w' => e = .returned (.tuple #[.int .i64 0, .pointer none]) ∧ ∃ w1, Begun b d j w1 w' ∧ Below w.heap.size w w1 := by
  have NU := numbers0 b d j w D hj
  have LO := fun W => look0 j W
  have C2 : ∀ W, Below w.heap.size w W → W.cell? ⟨j, 2, none⟩ = some (.slice none 0 0) := fun W bW => blk_cell ((bW.block j (lt_of_block hj)).trans hj) 2 rfl
  have BE := fun W (bW : Below w.heap.size w W) => begin0 b d j W (D.below bW) (Nat.le_trans hb bW.size) hjb ((bW.block j (lt_of_block hj)).trans hj)
  have HBE : Hid _ := BE
  have HC2 : Hid _ := C2
  clear BE C2 D hj
  go_enter Tryz.func52, Tryz.ntmps52
  go_wp2_with (first
    | (go_at_call 104; refine NU.mono ?_; clear NU; rintro e w1 ⟨rfl, b1⟩; have c2 := HC2.out _ b1)
    | (go_at_call 105; refine (LO _).mono ?_; clear LO; rintro e w2 ⟨rfl, hw⟩; obtain rfl := hw.symm; have BE1 := HBE.out _ b1)
    | (go_at_call 109; refine BE1.mono ?_; clear BE1; rintro e w3 ⟨rfl, q3⟩))
  go_ret2
  exact ⟨rfl, _, q3, b1⟩
/-- A journal that is open. -/
structure Jo (b : Nat) (w : World) (j d : Nat) (nx : Int) (X : List Int) : Prop where
  ex : ∃ gf cf gb nb cb, Jn b w j d gf cf gb nb cb nx nx X
theorem Jn.flush {b : Nat} {w : World} {j d gf cf gb nb cb : Nat} {nx fl fl' : Int} {X : List Int} (h : Jn b w j d gf cf gb nb cb nx fl X) : Jn b (w.setCell ⟨j, 4, none⟩ (.int .u64 fl')) j d gf cf gb nb cb nx fl' X := by
  have us : Upd (fun k => k = j) w (w.setCell ⟨j, 4, none⟩ (.int .u64 fl')) := (Upd.refl (fun k => k = j) w).setCell (p := ⟨j, 4, none⟩) (fun _ => rfl) _
  refine ⟨blk_set h.blk 4 _, ownsRow_upd h.seg us (fun k e hh => ?_), ownsRow_upd h.bnd us (fun k e hh => ?_)⟩
  · subst hh
    obtain ⟨cs, hc⟩ := own_type h.seg e
    rw [h.blk] at hc
    simp at hc
  · subst hh
    obtain ⟨cs, hc⟩ := own_type h.bnd e
    rw [h.blk] at hc
    simp at hc
set_option maxHeartbeats 4000000 in
theorem open_of (b d : Nat) (w : World) (nx : Int) (X : List Int) (Q : World → Prop) (hb : b ≤ w.heap.size)
    (FI : ∀ w1, Below w.heap.size w w1 → w1.heap[w.heap.size + 1]? = some (.cells (jC d (.slice none 0 0) 0 0) 116 (0, 0)) → Oth w1 w.heap.size → Calls Tryz.prog 52 #[.pointer (some ⟨w.heap.size + 1, 0, none⟩)] w1 fun e w2 => e = .returned (.tuple #[.int .i64 0, .pointer none]) ∧ Q w2 ∧ Below b w1 w2 ∧ w2.heap[w.heap.size]? = w1.heap[w.heap.size]? ∧ ∃ gf cf gb nb cb fl, Jn b w2 (w.heap.size + 1) d gf cf gb nb cb nx fl X)
    (QS : ∀ w2 w3, Q w2 → Upd (fun k => k = w.heap.size + 1 ∨ k = w.heap.size) w2 w3 → (∀ k, k = w.heap.size + 1 ∨ k = w.heap.size → Oth w2 k) → Q w3) :
    Calls Tryz.prog 16 #[.pointer (some ⟨d, 0, none⟩), .int .i64 (default : Sz).z] w fun e w' => e = .returned (.tuple #[.pointer (some ⟨w.heap.size + 1, 0, none⟩), .agg #[.int .i64 1, .int .u64 0, .int .u64 nx, .int .i64 0], .nilIface]) ∧ Q w' ∧ Jo b w' (w.heap.size + 1) d nx X ∧ Below b w w' := by
  obtain ⟨W1, hW1⟩ : ∃ W, (w.alloc (.cells #[.int .i64 0, .int .u64 0, .int .u64 0, .int .i64 0] 49)).alloc (.cells #[.pointer (some ⟨d, 0, none⟩), .int .i64 (default : Sz).z, .slice none 0 0, .int .u64 0, .int .u64 0, .bool false] 116) = W := ⟨_, rfl⟩
  have B1 : Below w.heap.size w W1 := by rw [← hW1]; exact ((Below.refl _ _).alloc (Nat.le_refl _) _).alloc (by simp) _
  have XR : W1.heap[w.heap.size]? = some (.cells #[.int .i64 0, .int .u64 0, .int .u64 0, .int .i64 0] 49 (0, 0)) := by rw [← hW1, Below.heap_alloc _ _ _ (by simp)]; exact heap_alloc_new _ _
  have XJ : W1.heap[w.heap.size + 1]? = some (.cells (jC d (.slice none 0 0) 0 0) 116 (0, 0)) := by rw [← hW1]; exact heap_at (by simp)
  have FI1 := FI W1 B1 XJ ⟨_, _, _, XR, ot_rec⟩
  have AFT : ∀ w2, Q w2 → Below b W1 w2 → w2.heap[w.heap.size]? = W1.heap[w.heap.size]? → (∃ gf cf gb nb cb fl, Jn b w2 (w.heap.size + 1) d gf cf gb nb cb nx fl X) → ∃ gf cf fl, (w2.cell? ⟨w.heap.size + 1, 3, none⟩ = some (.int .u64 nx) ∧ w2.cell? ⟨w.heap.size + 1, 4, none⟩ = some (.int .u64 fl) ∧ w2.frozen? ⟨w.heap.size + 1, 4, none⟩ = false) ∧ (∀ W, Below (w2.setCell ⟨w.heap.size + 1, 4, none⟩ (.int .u64 nx)).heap.size (w2.setCell ⟨w.heap.size + 1, 4, none⟩ (.int .u64 nx)) W → W.cell? ⟨w.heap.size + 1, 2, none⟩ = some (.slice (some ⟨gf, 0, none⟩) 1 cf) ∧ W.cell? ⟨w.heap.size + 1, 3, none⟩ = some (.int .u64 nx) ∧ W.cell? ⟨gf, 1, none⟩ = some (.int .u64 0) ∧ W.heap[w.heap.size]? = some (.cells #[.int .i64 0, .int .u64 0, .int .u64 0, .int .i64 0] 49 (0, 0)) ∧ ∀ W', Upd (fun k => k = w.heap.size) W W' → Q W' ∧ Jo b W' (w.heap.size + 1) d nx X ∧ Below b w W') := by
    rintro w2 q b2 k2 ⟨gf, cf, gb, nb, cb, fl, J⟩
    have XR2 := k2.trans XR
    refine ⟨gf, cf, fl, ⟨blk_cell J.blk 3 rfl, blk_cell J.blk 4 rfl, free3 J.blk 4⟩, fun W bW => ?_⟩
    have us : Upd (fun k => k = w.heap.size + 1) w2 (w2.setCell ⟨w.heap.size + 1, 4, none⟩ (.int .u64 nx)) := (Upd.refl (fun k => k = w.heap.size + 1) w2).setCell (p := ⟨w.heap.size + 1, 4, none⟩) (fun _ => rfl) _
    have J3 := (J.flush (fl' := nx)).keep (KeepC.ofBelow bW)
    have XR3 := (bW.block _ (by rw [size_set]; exact lt_of_block XR2)).trans ((us.block _ (lt_of_block XR2) (by omega)).trans XR2)
    obtain ⟨g0, g1, g2, _⟩ := seg_cells J3.seg
    have hz1 := B1.size
    have hz2 := b2.size
    refine ⟨blk_cell J3.blk 2 rfl, blk_cell J3.blk 3 rfl, g1, XR3, fun W' u => ?_⟩
    have uW := Upd.ofBelow (S := fun _ => False) bW (fun k hk hk' => by omega)
    have u2 : Upd (fun k => k = w.heap.size + 1 ∨ k = w.heap.size) w2 W' := ((us.mono (fun _ _ h => Or.inl h)).trans uW (fun _ _ h => h.elim)).trans u (fun _ _ h => Or.inr h)
    refine ⟨QS w2 W' q u2 (fun k hk => by
      rcases hk with rfl | rfl
      · exact ⟨_, _, _, J.blk, ot_jou⟩
      · exact ⟨_, _, _, XR2, ot_rec⟩), ⟨gf, cf, gb, nb, cb, ?_⟩, ?_⟩
    · refine ⟨(u.block _ (lt_of_block J3.blk) (by omega)).trans J3.blk, ownsRow_upd J3.seg u (fun k e hh => ?_), ownsRow_upd J3.bnd u (fun k e hh => ?_)⟩
      · subst hh
        obtain ⟨cs, hc⟩ := own_type J3.seg e
        rw [XR3] at hc
        simp at hc
      · subst hh
        obtain ⟨cs, hc⟩ := own_type J3.bnd e
        rw [XR3] at hc
        simp at hc
    · exact ((B1.mono hb).trans b2).trans (u2.below (by omega) (fun k hk e => by omega))
  have HAF : Hid _ := AFT
  clear AFT FI QS XR XJ B1
  have l1 := (default : Sz).lo
  have l2 := (default : Sz).hi
  have l3 : decide ((default : Sz).z < 64) = false := decide_eq_false (by omega)
  have l4 : decide (16777216 < (default : Sz).z) = false := decide_eq_false (by omega)
  go_enter Tryz.func16, Tryz.ntmps16
  go_upto_region 8 with (go_at_call 52; refine FI1.mono ?_; clear FI1; rintro e w2 ⟨rfl, q2, b2, k2, J2⟩; obtain ⟨gf, cf, fl, ⟨j3, j4, j4f⟩, FX⟩ := HAF.out _ q2 b2 k2 J2; clear HAF q2 b2 k2 J2 hW1)
  have HFX : Hid _ := FX
  obtain ⟨e2, e3, e1, _, _⟩ := FX _ (Below.refl _ _)
  clear FX
  generalize (w2.setCell ⟨w.heap.size + 1, 4, none⟩ (.int .u64 nx)) = w3 at *
  clear j3 j4 j4f
  obtain ⟨p2, p3, p1, _, _⟩ := HFX.out (w3.alloc (.cells #[.int .i64 0, .int .u64 0, .int .u64 0, .int .i64 0] 49)) ((Below.refl _ _).alloc (Nat.le_refl _) _)
  go_region
  obtain ⟨W4, hW4⟩ : ∃ W4, (w3.alloc (.cells #[.int .i64 1, .int .u64 0, .int .u64 nx, .int .i64 0] 49)).drew = W4 := ⟨_, rfl⟩
  have B4 : Below w3.heap.size w3 W4 := by rw [← hW4]; exact ((Below.refl _ _).alloc (Nat.le_refl _) _).drew
  have X4 : W4.heap[w3.heap.size]? = some (.cells #[.int .i64 1, .int .u64 0, .int .u64 nx, .int .i64 0] 49 (0, 0)) := by rw [← hW4]; exact heap_alloc_new _ _
  rw [hW4]
  obtain ⟨_, _, _, XR4, FIN⟩ := HFX.out W4 B4
  have s0 := blk_cell XR4 0 (v := .int .i64 0) rfl
  have s1 := blk_cell XR4 1 (v := .int .u64 0) rfl
  have s2 := blk_cell XR4 2 (v := .int .u64 0) rfl
  have s3 := blk_cell XR4 3 (v := .int .i64 0) rfl
  have f0 := free3 XR4 0
  have f1 := free3 XR4 1
  have f2 := free3 XR4 2
  have f3 := free3 XR4 3
  have t0 := blk_cell X4 0 (v := .int .i64 1) rfl
  have t1 := blk_cell X4 1 (v := .int .u64 0) rfl
  have t2 := blk_cell X4 2 (v := .int .u64 nx) rfl
  have t3 := blk_cell X4 3 (v := .int .i64 0) rfl
  have Y4 := blk_set (blk_set (blk_set (blk_set XR4 0 (.int .i64 1)) 1 (.int .u64 0)) 2 (.int .u64 nx)) 3 (.int .i64 0)
  have HY4 : Hid _ := Y4
  have HFN : Hid _ := FIN
  clear FIN HFX hW4 p1 p2 p3 e1 e2 e3 X4 B4 XR4 Y4
  go_wp2
  go_region
  obtain ⟨W5, hW5⟩ : ∃ W5, ((((W4.setCell ⟨w.heap.size, 0, none⟩ (.int .i64 1)).setCell ⟨w.heap.size, 1, none⟩ (.int .u64 0)).setCell ⟨w.heap.size, 2, none⟩ (.int .u64 nx)).setCell ⟨w.heap.size, 3, none⟩ (.int .i64 0)).drew = W5 := ⟨_, rfl⟩
  have Z5 : W5.heap[w.heap.size]? = some (.cells #[.int .i64 1, .int .u64 0, .int .u64 nx, .int .i64 0] 49 (0, 0)) := by rw [← hW5]; exact HY4.out
  have U5 : Upd (fun k => k = w.heap.size) W4 W5 := by
    rw [← hW5]
    exact (((((Upd.refl (fun k => k = w.heap.size) W4).setCell (p := ⟨w.heap.size, 0, none⟩) (fun _ => rfl) _).setCell (p := ⟨w.heap.size, 1, none⟩) (fun _ => rfl) _).setCell (p := ⟨w.heap.size, 2, none⟩) (fun _ => rfl) _).setCell (p := ⟨w.heap.size, 3, none⟩) (fun _ => rfl) _).drew
  rw [hW5]
  have q5 := HFN.out _ U5
  have u0 := blk_cell Z5 0 (v := .int .i64 1) rfl
  have u1 := blk_cell Z5 1 (v := .int .u64 0) rfl
  have u2 := blk_cell Z5 2 (v := .int .u64 nx) rfl
  have u3 := blk_cell Z5 3 (v := .int .i64 0) rfl
  clear hW5 HFN HY4 Z5 U5 s0 s1 s2 s3 f0 f1 f2 f3 t0 t1 t2 t3
  go_wp2
  refine bodyPost_ret (by simp [results, Tryz.results16, go_sem, u0, u1, u2, u3]; try rfl) rfl ?_
  exact ⟨rfl, q5⟩
theorem open0 (b d : Nat) (w : World) (hb : b ≤ w.heap.size) (D : DiskAt b w d 0 ⟨b, b + 1, b + 2, 0, .slice none 0 0, [], 0, 0, 0, false, .map [], .map [], .map []⟩) :
    Calls Tryz.prog 16 #[.pointer (some ⟨d, 0, none⟩), .int .i64 (default : Sz).z] w fun e w' => e = .returned (.tuple #[.pointer (some ⟨w.heap.size + 1, 0, none⟩), .agg #[.int .i64 1, .int .u64 0, .int .u64 0, .int .i64 0], .nilIface]) ∧ Q0 b d w' ∧ Jo b w' (w.heap.size + 1) d 0 [32] ∧ Below b w w' := by
  refine open_of b d w 0 [32] (Q0 b d) hb (fun w1 b1 hj ho => ?_) (fun w2 w3 ⟨N, K, f, F, J, hS, hN⟩ u ho => ⟨N, K, f, F, J.oth u (fun k hk _ => ho k hk), hS, hN⟩)
  refine (find0 b d (w.heap.size + 1) w1 (D.below b1) (Nat.le_trans hb b1.size) (by omega) hj).mono ?_
  rintro e w2 ⟨rfl, w1', ⟨p1, ⟨gf, cf, gb, cb, p2⟩, p3, p4⟩, b1'⟩
  have z1 := b1.size
  have z1' := b1'.size
  have e1 := b1'.block _ ho.lt
  obtain ⟨cs, t, fz, hc, ht⟩ := ho
  exact ⟨rfl, p1, (b1'.mono (by omega)).trans p3, (p4 _ ⟨cs, t, fz, e1.trans hc, ht⟩ (by omega)).trans e1, gf, cf, gb, 1, cb, 0, p2⟩
end Go.Proofs.YtgoafinbaiepmaaGreatDoor.jz
