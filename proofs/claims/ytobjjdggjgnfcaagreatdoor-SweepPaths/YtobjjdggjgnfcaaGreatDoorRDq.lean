/-
  Merged: RD, RE, RF.
-/
import Derived.Test.YtobjjdggjgnfcaaGreatDoorRAq
import Derived.Test.YtobjjdggjgnfcaaGreatDoorNGq
import Derived.Test.YtobjjdggjgnfcaaGreatDoorPMq
namespace Go.Proofs.YtobjjdggjgnfcaaGreatDoor
open Go Go.RowKit
set_option maxRecDepth 100000

theorem tileF_mem {hi : Int} : ∀ (M : List (Nat × Int × Int)) (lo : Int), TileF hi lo M → lo ≤ hi ∧ ∀ l ∈ M, lo ≤ l.2.1 ∧ l.2.1 < l.2.2 ∧ l.2.2 ≤ hi
  | [], lo, h => ⟨by have e : lo = hi := h; omega, fun l hl => by cases hl⟩
  | (y, a, b) :: r, lo, h => by
    obtain ⟨h1, h2, h3⟩ := h
    obtain ⟨k1, k2⟩ := tileF_mem r b h3
    refine ⟨by omega, fun l hl => ?_⟩
    rcases List.mem_cons.1 hl with rfl | hl
    · exact ⟨by simp only; omega, h2, k1⟩
    · obtain ⟨m1, m2, m3⟩ := k2 l hl
      exact ⟨by omega, m2, m3⟩
theorem FoB.legB {Y : List Sp} {C : List Int} {dp : Nat → Nat} {fin : Nat → Nod} {X : List Spot} {K : Nat → List Int} {R : List Int} (h : FoB Y C dp fin X K R) {x : Nat} (hx : x < Y.length) {L : List (Nat × Int × Int)} (hP : PathR fin (cnK fin K) x (fin x).til L) {l : Nat × Int × Int} (hl : l ∈ L) : l.1 < Y.length ∧ 0 ≤ l.2.1 ∧ l.2.1 < l.2.2 ∧ l.2.2 ≤ 4611686018427387904 := by
  have hi := h.inn (dp x) x rfl hx
  obtain ⟨a, b, c⟩ := (tileF_mem _ _ (h.legs hx hP).1).2 l (List.mem_reverse.2 hl)
  exact ⟨(h.bel (hP.bel l hl) hx).1, by omega, b, by omega⟩
theorem blk_all {w : World} {b : Nat} {l cs : List Value} {T : TypeId} (hB : Blk w b l.toArray T) (hl : l.length = cs.length) : Blk (w.setCells b 0 cs) b cs.toArray T := by
  have := setCells_blk cs 0 l w hB
  rw [putL_eq cs l 0 (by omega)] at this
  simp only [List.take_zero, List.nil_append, Nat.zero_add, ← hl, List.drop_length, List.append_nil] at this
  exact this
section
variable {w : World} {g : Nat} {sa : Option Addr} {sc : Nat} {L : List Sq} {nb cn : Nat} {V : List Nod} {Z : List Spot}
set_option maxHeartbeats 1000000 in
theorem rRoot_yes {d : Nod} {id : Int} (ho : d.org ≠ 0) (ND : ∀ W, Below w.heap.size w W → Calls Tryz.prog 58 #[.pointer (some ⟨g, 0, none⟩), .int .u64 id] W fun e w' => e = .returned (.tuple #[ndV d, .bool true]) ∧ Below W.heap.size W w') : Calls Tryz.prog 34 #[.pointer (some ⟨g, 0, none⟩), .int .u64 id] w fun e w' => e = .returned (.tuple #[ndV d, .bool true]) ∧ Below w.heap.size w w' := by
  have hN : Hid _ := ND
  have BB : Hid (Below w.heap.size w (w.alloc (.cells #[.int .u64 0, .int .u64 0, .int .i64 0, .int .u64 0, .int .i64 0, .int .i64 0, .int .i64 0] 48))) := (Below.refl _ _).alloc (Nat.le_refl _) _
  have N1 := ND _ BB.out
  have dor : (d.org != 0) = true := by simp [ho]
  clear ND hN ho
  unfold ndV at N1
  go_enter Tryz.func34, Tryz.ntmps34
  go_upto_region 2 with (go_at_call 58; refine N1.mono ?_; clear N1; rintro e w1 ⟨rfl, hb1⟩; have HB1 : Hid (Below w.heap.size w w1 ∧ Blk w1 w.heap.size (ndL zNd).toArray 48) := ⟨BB.out.trans (hb1.mono BB.out.size), Blk.below (Blk.new w (ndL zNd).toArray 48) hb1 (by simp)⟩; clear hb1)
  obtain ⟨V, hV⟩ : ∃ V, w1.alloc (.cells #[.int .u64 d.id, .int .u64 d.par, .int .i64 d.org, .int .u64 d.tree, .int .i64 d.dep, .int .i64 d.fr, .int .i64 d.til] 48) = V := ⟨_, rfl⟩
  have HV : Hid (Below w.heap.size w V ∧ Blk V w.heap.size (ndL zNd).toArray 48 ∧ Blk V w1.heap.size (ndL d).toArray 48) := by
    rw [← hV]
    exact ⟨HB1.out.1.alloc HB1.out.1.size _, HB1.out.2.alloc _, Blk.new _ _ _⟩
  obtain ⟨rb, hrb⟩ : ∃ b, w1.heap.size = b := ⟨_, rfl⟩
  rw [hrb] at HV ⊢
  rw [hV]
  have r0 : V.cell? ⟨rb, 0, none⟩ = some (.int .u64 d.id) := HV.out.2.2.cell 0 rfl
  have r1 : V.cell? ⟨rb, 1, none⟩ = some (.int .u64 d.par) := HV.out.2.2.cell 1 rfl
  have r2 : V.cell? ⟨rb, 2, none⟩ = some (.int .i64 d.org) := HV.out.2.2.cell 2 rfl
  have r3 : V.cell? ⟨rb, 3, none⟩ = some (.int .u64 d.tree) := HV.out.2.2.cell 3 rfl
  have r4 : V.cell? ⟨rb, 4, none⟩ = some (.int .i64 d.dep) := HV.out.2.2.cell 4 rfl
  have r5 : V.cell? ⟨rb, 5, none⟩ = some (.int .i64 d.fr) := HV.out.2.2.cell 5 rfl
  have r6 : V.cell? ⟨rb, 6, none⟩ = some (.int .i64 d.til) := HV.out.2.2.cell 6 rfl
  have HZ : Hid (∀ m, Blk (V.drewN m) w.heap.size (ndL zNd).toArray 48 ∧ Below w.heap.size w (V.drewN m)) := fun m => ⟨HV.out.2.1.below (below_drewN (Below.refl _ _) m) HV.out.2.1.lt, below_drewN HV.out.1 m⟩
  have hne : rb ≠ w.heap.size := fun e => by have h1 := HB1.out.2.lt; rw [hrb] at h1; omega
  have hne2 : w.heap.size ≠ rb := fun e => hne e.symm
  have HZ0 : Hid (Blk V w.heap.size (ndL zNd).toArray 48) := HV.out.2.1
  obtain ⟨U, hU⟩ : ∃ U, (V.setCells w.heap.size 0 (ndL d)).drew = U := ⟨_, rfl⟩
  have HU : Hid ((V.setCells w.heap.size 0 (ndL d)).drew = U) := hU
  have HW4 : Hid (Blk U w.heap.size (ndL d).toArray 48 ∧ Below w.heap.size w U) := by
    rw [← hU]
    have q1 : Blk (V.setCells w.heap.size 0 (ndL d)) w.heap.size (ndL d).toArray 48 := blk_all (cs := ndL d) HV.out.2.1 (by simp [ndL])
    exact ⟨q1.below ((Below.refl _ _).drew) q1.lt, (HV.out.1.trans ((setCells_upd w.heap.size (ndL d) 0 V).below HV.out.1.size (fun k hk e => by omega))).drew⟩
  clear hV hrb HB1 HV BB hU
  have z0 : V.cell? ⟨w.heap.size, 0, none⟩ = some (.int .u64 0) := HZ0.out.cell 0 rfl
  have f0 : V.frozen? ⟨w.heap.size, 0, none⟩ = false := HZ0.out.frozen 0
  have z1 : V.cell? ⟨w.heap.size, 1, none⟩ = some (.int .u64 0) := HZ0.out.cell 1 rfl
  have f1 : V.frozen? ⟨w.heap.size, 1, none⟩ = false := HZ0.out.frozen 1
  have z2 : V.cell? ⟨w.heap.size, 2, none⟩ = some (.int .i64 0) := HZ0.out.cell 2 rfl
  have f2 : V.frozen? ⟨w.heap.size, 2, none⟩ = false := HZ0.out.frozen 2
  have z3 : V.cell? ⟨w.heap.size, 3, none⟩ = some (.int .u64 0) := HZ0.out.cell 3 rfl
  have f3 : V.frozen? ⟨w.heap.size, 3, none⟩ = false := HZ0.out.frozen 3
  have z4 : V.cell? ⟨w.heap.size, 4, none⟩ = some (.int .i64 0) := HZ0.out.cell 4 rfl
  have f4 : V.frozen? ⟨w.heap.size, 4, none⟩ = false := HZ0.out.frozen 4
  have z5 : V.cell? ⟨w.heap.size, 5, none⟩ = some (.int .i64 0) := HZ0.out.cell 5 rfl
  have f5 : V.frozen? ⟨w.heap.size, 5, none⟩ = false := HZ0.out.frozen 5
  have z6 : V.cell? ⟨w.heap.size, 6, none⟩ = some (.int .i64 0) := HZ0.out.cell 6 rfl
  have f6 : V.frozen? ⟨w.heap.size, 6, none⟩ = false := HZ0.out.frozen 6
  go_region
  all_goals
    go_wp2
    (try simp only [Exit.inBlock, Exit.then])
    change bodyPost _ _ _ _ _ (V.setCells w.heap.size 0 (ndL d)).drew
    rw [HU.out]
    refine bodyPost_ret (v := .tuple #[ndV d, .bool true]) ?_ rfl ⟨rfl, HW4.out.2⟩
    rw [results_cell_tmp rfl]
    simp [asAddr, Result.andThen, blk_loadN HW4.out.1]
set_option maxHeartbeats 1000000 in
theorem rRoot_inner {d : Nod} {id : Int} (ho : d.org = 0) (ND : ∀ W, Below w.heap.size w W → Calls Tryz.prog 58 #[.pointer (some ⟨g, 0, none⟩), .int .u64 id] W fun e w' => e = .returned (.tuple #[ndV d, .bool true]) ∧ Below W.heap.size W w') : Calls Tryz.prog 34 #[.pointer (some ⟨g, 0, none⟩), .int .u64 id] w fun e w' => e = .returned (.tuple #[ndV d, .bool false]) ∧ Below w.heap.size w w' := by
  have hN : Hid _ := ND
  have BB : Hid (Below w.heap.size w (w.alloc (.cells #[.int .u64 0, .int .u64 0, .int .i64 0, .int .u64 0, .int .i64 0, .int .i64 0, .int .i64 0] 48))) := (Below.refl _ _).alloc (Nat.le_refl _) _
  have N1 := ND _ BB.out
  have dor : (d.org != 0) = false := by simp [ho]
  clear ND hN ho
  unfold ndV at N1
  go_enter Tryz.func34, Tryz.ntmps34
  go_upto_region 2 with (go_at_call 58; refine N1.mono ?_; clear N1; rintro e w1 ⟨rfl, hb1⟩; have HB1 : Hid (Below w.heap.size w w1 ∧ Blk w1 w.heap.size (ndL zNd).toArray 48) := ⟨BB.out.trans (hb1.mono BB.out.size), Blk.below (Blk.new w (ndL zNd).toArray 48) hb1 (by simp)⟩; clear hb1)
  obtain ⟨V, hV⟩ : ∃ V, w1.alloc (.cells #[.int .u64 d.id, .int .u64 d.par, .int .i64 d.org, .int .u64 d.tree, .int .i64 d.dep, .int .i64 d.fr, .int .i64 d.til] 48) = V := ⟨_, rfl⟩
  have HV : Hid (Below w.heap.size w V ∧ Blk V w.heap.size (ndL zNd).toArray 48 ∧ Blk V w1.heap.size (ndL d).toArray 48) := by
    rw [← hV]
    exact ⟨HB1.out.1.alloc HB1.out.1.size _, HB1.out.2.alloc _, Blk.new _ _ _⟩
  obtain ⟨rb, hrb⟩ : ∃ b, w1.heap.size = b := ⟨_, rfl⟩
  rw [hrb] at HV ⊢
  rw [hV]
  have r0 : V.cell? ⟨rb, 0, none⟩ = some (.int .u64 d.id) := HV.out.2.2.cell 0 rfl
  have r1 : V.cell? ⟨rb, 1, none⟩ = some (.int .u64 d.par) := HV.out.2.2.cell 1 rfl
  have r2 : V.cell? ⟨rb, 2, none⟩ = some (.int .i64 d.org) := HV.out.2.2.cell 2 rfl
  have r3 : V.cell? ⟨rb, 3, none⟩ = some (.int .u64 d.tree) := HV.out.2.2.cell 3 rfl
  have r4 : V.cell? ⟨rb, 4, none⟩ = some (.int .i64 d.dep) := HV.out.2.2.cell 4 rfl
  have r5 : V.cell? ⟨rb, 5, none⟩ = some (.int .i64 d.fr) := HV.out.2.2.cell 5 rfl
  have r6 : V.cell? ⟨rb, 6, none⟩ = some (.int .i64 d.til) := HV.out.2.2.cell 6 rfl
  have HZ : Hid (∀ m, Blk (V.drewN m) w.heap.size (ndL zNd).toArray 48 ∧ Below w.heap.size w (V.drewN m)) := fun m => ⟨HV.out.2.1.below (below_drewN (Below.refl _ _) m) HV.out.2.1.lt, below_drewN HV.out.1 m⟩
  have hne : rb ≠ w.heap.size := fun e => by have h1 := HB1.out.2.lt; rw [hrb] at h1; omega
  have hne2 : w.heap.size ≠ rb := fun e => hne e.symm
  have HZ0 : Hid (Blk V w.heap.size (ndL zNd).toArray 48) := HV.out.2.1
  obtain ⟨U, hU⟩ : ∃ U, (V.setCells w.heap.size 0 (ndL d)).drew = U := ⟨_, rfl⟩
  have HU : Hid ((V.setCells w.heap.size 0 (ndL d)).drew = U) := hU
  have HW4 : Hid (Blk U w.heap.size (ndL d).toArray 48 ∧ Below w.heap.size w U) := by
    rw [← hU]
    have q1 : Blk (V.setCells w.heap.size 0 (ndL d)) w.heap.size (ndL d).toArray 48 := blk_all (cs := ndL d) HV.out.2.1 (by simp [ndL])
    exact ⟨q1.below ((Below.refl _ _).drew) q1.lt, (HV.out.1.trans ((setCells_upd w.heap.size (ndL d) 0 V).below HV.out.1.size (fun k hk e => by omega))).drew⟩
  clear hV hrb HB1 HV BB hU
  have z0 : V.cell? ⟨w.heap.size, 0, none⟩ = some (.int .u64 0) := HZ0.out.cell 0 rfl
  have f0 : V.frozen? ⟨w.heap.size, 0, none⟩ = false := HZ0.out.frozen 0
  have z1 : V.cell? ⟨w.heap.size, 1, none⟩ = some (.int .u64 0) := HZ0.out.cell 1 rfl
  have f1 : V.frozen? ⟨w.heap.size, 1, none⟩ = false := HZ0.out.frozen 1
  have z2 : V.cell? ⟨w.heap.size, 2, none⟩ = some (.int .i64 0) := HZ0.out.cell 2 rfl
  have f2 : V.frozen? ⟨w.heap.size, 2, none⟩ = false := HZ0.out.frozen 2
  have z3 : V.cell? ⟨w.heap.size, 3, none⟩ = some (.int .u64 0) := HZ0.out.cell 3 rfl
  have f3 : V.frozen? ⟨w.heap.size, 3, none⟩ = false := HZ0.out.frozen 3
  have z4 : V.cell? ⟨w.heap.size, 4, none⟩ = some (.int .i64 0) := HZ0.out.cell 4 rfl
  have f4 : V.frozen? ⟨w.heap.size, 4, none⟩ = false := HZ0.out.frozen 4
  have z5 : V.cell? ⟨w.heap.size, 5, none⟩ = some (.int .i64 0) := HZ0.out.cell 5 rfl
  have f5 : V.frozen? ⟨w.heap.size, 5, none⟩ = false := HZ0.out.frozen 5
  have z6 : V.cell? ⟨w.heap.size, 6, none⟩ = some (.int .i64 0) := HZ0.out.cell 6 rfl
  have f6 : V.frozen? ⟨w.heap.size, 6, none⟩ = false := HZ0.out.frozen 6
  go_region
  all_goals
    go_wp2
    (try simp only [Exit.inBlock, Exit.then])
    change bodyPost _ _ _ _ _ (V.setCells w.heap.size 0 (ndL d)).drew
    rw [HU.out]
    refine bodyPost_ret (v := .tuple #[ndV d, .bool false]) ?_ rfl ⟨rfl, HW4.out.2⟩
    rw [results_cell_tmp rfl]
    simp [asAddr, Result.andThen, blk_loadN HW4.out.1]
set_option maxHeartbeats 1000000 in
theorem rRoot_none {d : Nod} {id : Int} (ND : ∀ W, Below w.heap.size w W → Calls Tryz.prog 58 #[.pointer (some ⟨g, 0, none⟩), .int .u64 id] W fun e w' => e = .returned (.tuple #[ndV d, .bool false]) ∧ Below W.heap.size W w') : Calls Tryz.prog 34 #[.pointer (some ⟨g, 0, none⟩), .int .u64 id] w fun e w' => e = .returned (.tuple #[ndV d, .bool false]) ∧ Below w.heap.size w w' := by
  have hN : Hid _ := ND
  have BB : Hid (Below w.heap.size w (w.alloc (.cells #[.int .u64 0, .int .u64 0, .int .i64 0, .int .u64 0, .int .i64 0, .int .i64 0, .int .i64 0] 48))) := (Below.refl _ _).alloc (Nat.le_refl _) _
  have N1 := ND _ BB.out
  clear ND hN
  unfold ndV at N1
  go_enter Tryz.func34, Tryz.ntmps34
  go_upto_region 2 with (go_at_call 58; refine N1.mono ?_; clear N1; rintro e w1 ⟨rfl, hb1⟩; have HB1 : Hid (Below w.heap.size w w1 ∧ Blk w1 w.heap.size (ndL zNd).toArray 48) := ⟨BB.out.trans (hb1.mono BB.out.size), Blk.below (Blk.new w (ndL zNd).toArray 48) hb1 (by simp)⟩; clear hb1)
  obtain ⟨V, hV⟩ : ∃ V, w1.alloc (.cells #[.int .u64 d.id, .int .u64 d.par, .int .i64 d.org, .int .u64 d.tree, .int .i64 d.dep, .int .i64 d.fr, .int .i64 d.til] 48) = V := ⟨_, rfl⟩
  have HV : Hid (Below w.heap.size w V ∧ Blk V w.heap.size (ndL zNd).toArray 48 ∧ Blk V w1.heap.size (ndL d).toArray 48) := by
    rw [← hV]
    exact ⟨HB1.out.1.alloc HB1.out.1.size _, HB1.out.2.alloc _, Blk.new _ _ _⟩
  obtain ⟨rb, hrb⟩ : ∃ b, w1.heap.size = b := ⟨_, rfl⟩
  rw [hrb] at HV ⊢
  rw [hV]
  have r0 : V.cell? ⟨rb, 0, none⟩ = some (.int .u64 d.id) := HV.out.2.2.cell 0 rfl
  have r1 : V.cell? ⟨rb, 1, none⟩ = some (.int .u64 d.par) := HV.out.2.2.cell 1 rfl
  have r2 : V.cell? ⟨rb, 2, none⟩ = some (.int .i64 d.org) := HV.out.2.2.cell 2 rfl
  have r3 : V.cell? ⟨rb, 3, none⟩ = some (.int .u64 d.tree) := HV.out.2.2.cell 3 rfl
  have r4 : V.cell? ⟨rb, 4, none⟩ = some (.int .i64 d.dep) := HV.out.2.2.cell 4 rfl
  have r5 : V.cell? ⟨rb, 5, none⟩ = some (.int .i64 d.fr) := HV.out.2.2.cell 5 rfl
  have r6 : V.cell? ⟨rb, 6, none⟩ = some (.int .i64 d.til) := HV.out.2.2.cell 6 rfl
  have HZ : Hid (∀ m, Blk (V.drewN m) w.heap.size (ndL zNd).toArray 48 ∧ Below w.heap.size w (V.drewN m)) := fun m => ⟨HV.out.2.1.below (below_drewN (Below.refl _ _) m) HV.out.2.1.lt, below_drewN HV.out.1 m⟩
  have hne : rb ≠ w.heap.size := fun e => by have h1 := HB1.out.2.lt; rw [hrb] at h1; omega
  have hne2 : w.heap.size ≠ rb := fun e => hne e.symm
  have HZ0 : Hid (Blk V w.heap.size (ndL zNd).toArray 48) := HV.out.2.1
  obtain ⟨U, hU⟩ : ∃ U, (V.setCells w.heap.size 0 (ndL d)).drew = U := ⟨_, rfl⟩
  have HU : Hid ((V.setCells w.heap.size 0 (ndL d)).drew = U) := hU
  have HW4 : Hid (Blk U w.heap.size (ndL d).toArray 48 ∧ Below w.heap.size w U) := by
    rw [← hU]
    have q1 : Blk (V.setCells w.heap.size 0 (ndL d)) w.heap.size (ndL d).toArray 48 := blk_all (cs := ndL d) HV.out.2.1 (by simp [ndL])
    exact ⟨q1.below ((Below.refl _ _).drew) q1.lt, (HV.out.1.trans ((setCells_upd w.heap.size (ndL d) 0 V).below HV.out.1.size (fun k hk e => by omega))).drew⟩
  clear hV hrb HB1 HV BB hU
  have z0 : V.cell? ⟨w.heap.size, 0, none⟩ = some (.int .u64 0) := HZ0.out.cell 0 rfl
  have f0 : V.frozen? ⟨w.heap.size, 0, none⟩ = false := HZ0.out.frozen 0
  have z1 : V.cell? ⟨w.heap.size, 1, none⟩ = some (.int .u64 0) := HZ0.out.cell 1 rfl
  have f1 : V.frozen? ⟨w.heap.size, 1, none⟩ = false := HZ0.out.frozen 1
  have z2 : V.cell? ⟨w.heap.size, 2, none⟩ = some (.int .i64 0) := HZ0.out.cell 2 rfl
  have f2 : V.frozen? ⟨w.heap.size, 2, none⟩ = false := HZ0.out.frozen 2
  have z3 : V.cell? ⟨w.heap.size, 3, none⟩ = some (.int .u64 0) := HZ0.out.cell 3 rfl
  have f3 : V.frozen? ⟨w.heap.size, 3, none⟩ = false := HZ0.out.frozen 3
  have z4 : V.cell? ⟨w.heap.size, 4, none⟩ = some (.int .i64 0) := HZ0.out.cell 4 rfl
  have f4 : V.frozen? ⟨w.heap.size, 4, none⟩ = false := HZ0.out.frozen 4
  have z5 : V.cell? ⟨w.heap.size, 5, none⟩ = some (.int .i64 0) := HZ0.out.cell 5 rfl
  have f5 : V.frozen? ⟨w.heap.size, 5, none⟩ = false := HZ0.out.frozen 5
  have z6 : V.cell? ⟨w.heap.size, 6, none⟩ = some (.int .i64 0) := HZ0.out.cell 6 rfl
  have f6 : V.frozen? ⟨w.heap.size, 6, none⟩ = false := HZ0.out.frozen 6
  go_region
  all_goals
    go_wp2
    (try simp only [Exit.inBlock, Exit.then])
    change bodyPost _ _ _ _ _ (V.setCells w.heap.size 0 (ndL d)).drew
    rw [HU.out]
    refine bodyPost_ret (v := .tuple #[ndV d, .bool false]) ?_ rfl ⟨rfl, HW4.out.2⟩
    rw [results_cell_tmp rfl]
    simp [asAddr, Result.andThen, blk_loadN HW4.out.1]
end
end Go.Proofs.YtobjjdggjgnfcaaGreatDoor

namespace Go.Proofs.YtobjjdggjgnfcaaGreatDoor
open Go Go.RowKit
set_option maxRecDepth 100000

theorem lgX_len (fin : Nat → Nod) (l : Nat × Int × Int) : (lgX fin l).length = 3 := rfl
def GoneR (w : World) (g : Nat) (id : Int) : Prop := ∀ W, Below w.heap.size w W → Calls Tryz.prog 34 #[.pointer (some ⟨g, 0, none⟩), .int .u64 id] W fun e w' => ∃ d, e = .returned (.tuple #[ndV d, .bool false]) ∧ Below W.heap.size W w'
theorem GoneR.below {w w' : World} {g : Nat} {id : Int} (h : GoneR w g id) (hb : Below w.heap.size w w') : GoneR w' g id := fun W hW => h W (hb.trans (hW.mono hb.size))
theorem rPathF_no {w : World} {g : Nat} {id : Int} (h : GoneR w g id) : Calls Tryz.prog 10 #[.pointer (some ⟨g, 0, none⟩), .int .u64 id] w fun e w' => e = .returned (.tuple #[.slice none 0 0, .int .i64 111]) ∧ Below w.heap.size w w' := by
  have RT := h w (Below.refl _ _)
  unfold ndV at RT
  clear h
  go_enter Tryz.func10, Tryz.ntmps10
  go_wp2_with (go_at_call 34; refine RT.mono ?_; clear RT; rintro e w1 ⟨d, rfl, hb1⟩)
  go_ret2
  exact ⟨rfl, hb1.alloc hb1.size _⟩
section
variable {Y : List Sp} {C : List Int} {dp : Nat → Nat} {fin : Nat → Nod} {X : List Spot} {K : Nat → List Int} {R : List Int} {W : World} {g : Nat} {sa : Option Addr} {sc : Nat} {S : List Sq} {nb cn : Nat} {V : List Nod} {qa : Option Addr} {qc : Nat} {O : List Nat}
def PthP (fin : Nat → Nod) (K : Nat → List Int) (x : Nat) (w : World) (e : Ending) (w' : World) : Prop := ∃ va vl vc L, e = .returned (.tuple #[.slice va vl vc, .int .i64 0]) ∧ Hid (L.length = vl ∧ PathR fin (cnK fin K) x (fin x).til L ∧ LieIn (lgX fin) 3 w' va L.reverse ∧ vl ≤ 2000) ∧ Below w.heap.size w w'
set_option maxHeartbeats 1000000 in
theorem rPathF_any (hB : FoB Y C dp fin X K R) (hpar : ∀ i, i < Y.length → (fin i).org ≠ 0 → (fin i).par = 0) (hZ : RZ W g sa sc S nb cn V X) (hO : OrdZ W g qa qc X.length O) (x : Nat) (hx : x < Y.length) (ho : (fin x).org ≠ 0) :
    Calls Tryz.prog 10 #[.pointer (some ⟨g, 0, none⟩), .int .u64 (fin x).id] W (PthP fin K x W) := by
  have hl := hB.fo.len
  have hX := hB.fo.each x hx (by omega)
  have RT := rRoot_yes (w := W) (g := g) (d := fin x) (id := (fin x).id) ho (fun W' hb => by
    have ND := rNode_at (hZ.below hb) x (by omega)
    rwa [hX.2] at ND)
  have PT : Hid (∀ W1, Below W.heap.size W W1 → Calls Tryz.prog 35 #[.pointer (some ⟨g, 0, none⟩), ndV (fin x)] W1 fun e W' => ∃ va vl vc L, e = .returned (.slice va vl vc) ∧ Hid (L.length = vl ∧ PathR fin (cnK fin K) x (fin x).til L ∧ LieIn (lgX fin) 3 W' va L.reverse ∧ vl ≤ 2000) ∧ Below W1.heap.size W1 W') := fun W1 hb => by
    refine (rPath_of hB hpar (hZ.below hb) (hO.below hb) x hx).mono ?_
    rintro e W' ⟨va, vl, vc, L, rfl, h1, h2, h3, h4, h5⟩
    exact ⟨va, vl, vc, L, rfl, ⟨h1, h2, LieIn.of_owns (lgX_len fin) h3 (by rw [List.length_reverse]; exact h1), h4⟩, h5⟩
  have HE : Hid (∀ va vl vc L w', Hid (L.length = vl ∧ PathR fin (cnK fin K) x (fin x).til L ∧ LieIn (lgX fin) 3 w' va L.reverse ∧ vl ≤ 2000) → Below W.heap.size W w' → PthP fin K x W (.returned (.tuple #[.slice va vl vc, .int .i64 0])) w') := fun va vl vc L w' h1 h2 => ⟨va, vl, vc, L, rfl, h1, h2⟩
  generalize PthP fin K x W = POST at *
  clear hB hpar hZ hO hX hl ho
  unfold ndV at RT PT
  go_enter Tryz.func10, Tryz.ntmps10
  go_wp2_with (first
    | (go_at_call 34; refine RT.mono ?_; clear RT; rintro e w1 ⟨rfl, hb1⟩; have HB1 : Hid (Below W.heap.size W (w1.alloc (.cells #[.int .u64 (fin x).id, .int .u64 (fin x).par, .int .i64 (fin x).org, .int .u64 (fin x).tree, .int .i64 (fin x).dep, .int .i64 (fin x).fr, .int .i64 (fin x).til] 48))) := hb1.alloc hb1.size _; have PT1 := PT.out _ HB1.out; clear hb1 PT)
    | (go_at_call 35; refine PT1.mono ?_; clear PT1; rintro e w2 ⟨va, vl, vc, L, rfl, hL, hb2⟩; have HB2 : Hid (Below W.heap.size W w2) := HB1.out.trans (hb2.mono HB1.out.size); clear hb2 HB1))
  exact HE.out va vl vc L w2 hL HB2.out
set_option maxHeartbeats 2000000 in
theorem rOwner_any (hB : FoB Y C dp fin X K R) (hpar : ∀ i, i < Y.length → (fin i).org ≠ 0 → (fin i).par = 0) (hZ : RZ W g sa sc S nb cn V X) (hO : OrdZ W g qa qc X.length O) (x : Nat) (hx : x < Y.length) (ho : (fin x).org ≠ 0) (at_ : Int) :
    Calls Tryz.prog 29 #[.pointer (some ⟨g, 0, none⟩), .int .u64 (fin x).id, .int .i64 at_] W fun e w' => ∃ o er L, e = .returned (.tuple #[.int .u64 o, .int .i64 er]) ∧ Hid (PathR fin (cnK fin K) x (fin x).til L ∧ OwnW (spAt Y) L at_ o er) ∧ Below W.heap.size W w' := by
  have PT := rPathF_any hB hpar hZ hO x hx ho
  have HID : Hid (∀ L, PathR fin (cnK fin K) x (fin x).til L → ∀ l ∈ L, (fin l.1).id = (spAt Y l.1).id) := fun L hP l hl => (hB.ids _ (hB.bel (hP.bel l hl) hx).1).symm
  clear hB hpar hZ hO ho
  unfold PthP at PT
  go_enter Tryz.func29, Tryz.ntmps29
  go_wp2_with (go_at_call 10; refine PT.mono ?_; clear PT; rintro e w1 ⟨va, q, vc, L, rfl, HL, hb1⟩; have HB1 : Hid (Below W.heap.size W w1) := hb1; clear hb1)
  have hq2 : q ≤ 2000 := HL.out.2.2.2
  go_loopw [10] (fun z wr => ∃ i : Nat, z = .int .i64 i ∧ i ≤ q ∧ Hid (∀ l ∈ L.reverse.take i, ¬ (l.2.1 ≤ at_ ∧ at_ < l.2.2)) ∧ Hid (Below w1.heap.size w1 wr)) (fun z _ => q - (intOf z).toNat)
  case atStart => exact ⟨0, rfl, by omega, fun l hl => by simp at hl, Below.refl _ _⟩
  case round =>
    obtain ⟨i, rfl, hi, HN, HBR⟩ := hrel
    by_cases hlt : i < q
    · have hin : (i : Int) < (q : Int) := by omega
      have hiL : i < L.reverse.length := by rw [List.length_reverse, HL.out.1]; exact hlt
      obtain ⟨lb, e, _, hc⟩ := (HL.out.2.2.1.below HBR.out) (fun e => by rw [e] at hiL; simp at hiL)
      subst e
      have c0 : wr.cell? ⟨lb, i * 3, none⟩ = some (.int .u64 (fin L.reverse[i].1).id) := hc i hiL 0 _ rfl
      have c1 : wr.cell? ⟨lb, i * 3 + 1, none⟩ = some (.int .i64 L.reverse[i].2.1) := hc i hiL 1 _ rfl
      have c2 : wr.cell? ⟨lb, i * 3 + 2, none⟩ = some (.int .i64 L.reverse[i].2.2) := hc i hiL 2 _ rfl
      have HM : Hid (L.reverse[i] ∈ L) := List.mem_reverse.1 (List.getElem_mem hiL)
      have HTK : Hid (L.reverse.take (i + 1) = L.reverse.take i ++ [L.reverse[i]]) := (by rw [List.take_add_one, List.getElem?_eq_getElem hiL]; rfl : L.reverse.take (i + 1) = L.reverse.take i ++ [L.reverse[i]])
      clear hc
      generalize L.reverse[i] = l at *
      by_cases h1 : l.2.1 ≤ at_
      · by_cases h2 : at_ < l.2.2
        · have HO : Hid (OwnW (spAt Y) L at_ (fin l.1).id 0) := Or.inl ⟨rfl, l, HM.out, h1, h2, HID.out L HL.out.2.1 l HM.out⟩
          have d1 : decide (l.2.1 ≤ at_) = true := decide_eq_true h1
          have d2 : decide (at_ < l.2.2) = true := decide_eq_true h2
          clear h1 h2
          go_wp2
          go_ret2
          exact ⟨_, _, L, rfl, ⟨HL.out.2.1, HO.out⟩, HB1.out.trans (HBR.out.mono HB1.out.size)⟩
        · have HN' : Hid (∀ l ∈ L.reverse.take (i + 1), ¬ (l.2.1 ≤ at_ ∧ at_ < l.2.2)) := fun m hm => by
            rw [HTK.out] at hm
            rcases List.mem_append.1 hm with hm | hm
            · exact HN.out m hm
            · rw [List.mem_singleton] at hm; subst hm; omega
          have d1 : decide (l.2.1 ≤ at_) = true := decide_eq_true h1
          have d2 : decide (at_ < l.2.2) = false := decide_eq_false h2
          clear h1 h2 HN HTK
          go_wp2
          go_roundw
          case rel => exact ⟨i + 1, by go_num, by omega, HN', HBR⟩
          case measure => (simp [intOf]; omega)
      · have HN' : Hid (∀ l ∈ L.reverse.take (i + 1), ¬ (l.2.1 ≤ at_ ∧ at_ < l.2.2)) := fun m hm => by
          rw [HTK.out] at hm
          rcases List.mem_append.1 hm with hm | hm
          · exact HN.out m hm
          · rw [List.mem_singleton] at hm; subst hm; omega
        have d1 : decide (l.2.1 ≤ at_) = false := decide_eq_false h1
        clear h1 HN HTK
        go_wp2
        go_roundw
        case rel => exact ⟨i + 1, by go_num, by omega, HN', HBR⟩
        case measure => (simp [intOf]; omega)
    · obtain rfl : i = q := by omega
      have HO : Hid (OwnW (spAt Y) L at_ 0 112) := Or.inr ⟨rfl, rfl, fun l hl => HN.out l (by rw [List.take_of_length_le (by rw [List.length_reverse, HL.out.1]; exact Nat.le_refl _)]; exact List.mem_reverse.2 hl)⟩
      clear HN
      go_wp2
      go_ret2
      exact ⟨_, _, L, rfl, ⟨HL.out.2.1, HO.out⟩, HB1.out.trans (HBR.out.mono HB1.out.size)⟩
end
end Go.Proofs.YtobjjdggjgnfcaaGreatDoor

namespace Go.Proofs.YtobjjdggjgnfcaaGreatDoor
open Go Go.RowKit
set_option maxRecDepth 100000

def RsI (W2 : World) (fin : Nat → Nod) (L : List (Nat × Int × Int)) (i ll : Nat) (va : Option Addr) (vc : Nat) (wr : World) : Prop := ((List.range i).filter (fun y => decide (0 < hungI L y))).length = ll ∧ wr.ownsRow W2.heap.size 58 2 (.slice va ll vc) ll (((List.range i).filter (fun y => decide (0 < hungI L y))).flatMap (shC fin L)) ∧ Below W2.heap.size W2 wr
theorem wpList_appS {ops : Array Oper} {rest : List Oper} {o : Oper} {a : Act} {Q : Exit → Act → World → Prop} (wr : World) (hgd : o.guard = none) (s x : Operand)
    (ho : o.op = .call { callee := .builtin .append, args := #[s, x], argTypes := #[51, 51] })
    (base : Nat) (v : Value) (n : Nat) (xs : List Value) (p q : Int) (b : Nat) (hb : b = wr.heap.size) (hv : a.eval s = v) (hown : wr.ownsRow base 58 2 v n xs) (hx : a.eval x = .slice (some ⟨b, 0, none⟩) 1 1) (hn : n ≤ 1000000) (hbase : base ≤ wr.heap.size)
    (h : ∀ va vc w', w'.ownsRow base 58 2 (.slice va (n + 1) vc) (n + 1) (xs ++ [.int .u64 p, .int .u64 q]) → Upd (fun k => v.ownBlock = some k) wr w' → wpList Tryz.prog ops Q rest (a.put o.dst (.slice va (n + 1) vc)) w') : wpList Tryz.prog ops Q (o :: rest) a (wr.alloc (.cells #[.int .u64 p, .int .u64 q] 58)) := by
  subst hb
  obtain ⟨i0, hi0, hz0, hz1, hz2⟩ := infoShare_parts
  have hown' : (wr.alloc (.cells #[.int .u64 p, .int .u64 q] 58)).ownsRow base 58 2 v n xs := ownsRow_upd hown ((Upd.refl (fun _ => False) wr).alloc _) (fun _ _ h => h)
  refine wpList_appW _ hgd s x 51 51 ho base 58 i0 (.agg #[.int .u64 0, .int .u64 0]) 2 16 Tryz.underlying51 hi0 hz0 hz1 hz2 rfl v n _ hv hown' _ 1 [.int .u64 p, .int .u64 q] hx (src_two Tryz.underlying51 (heap_alloc_new wr _) rfl rfl) (by unfold maxLen; omega) (by omega) (by simp; omega) ?_
  intro v1 w1 o1 g1 m1
  obtain ⟨va, vc, rfl⟩ := owns_sliceS o1
  exact h va vc w1 o1 (((Upd.refl _ wr).alloc _).grown g1 (fun k _ e => e))
section
variable {Y : List Sp} {C : List Int} {dp : Nat → Nat} {fin : Nat → Nod} {X : List Spot} {K : Nat → List Int} {R : List Int} {W : World} {g : Nat} {sa : Option Addr} {sc : Nat} {S : List Sq} {nb cn : Nat} {V : List Nod} {qa : Option Addr} {qc : Nat} {O : List Nat}
set_option maxHeartbeats 4000000 in
theorem rShares_any (hB : FoB Y C dp fin X K R) (hpar : ∀ i, i < Y.length → (fin i).org ≠ 0 → (fin i).par = 0) (hZ : RZ W g sa sc S nb cn V X) (hO : OrdZ W g qa qc X.length O) (x : Nat) (hx : x < Y.length) (ho : (fin x).org ≠ 0) :
    Calls Tryz.prog 30 #[.pointer (some ⟨g, 0, none⟩), .int .u64 (fin x).id] W fun e W' => ∃ ad n cap L, e = .returned (.tuple #[.slice ad n cap, .int .i64 0]) ∧ Hid (PathR fin (cnK fin K) x (fin x).til L ∧ (shL L Y.length).length = n ∧ LieIn (shC fin L) 2 W' ad (shL L Y.length)) ∧ Below W.heap.size W W' := by
  have PT := rPathF_any hB hpar hZ hO x hx ho
  have hl := hB.fo.len
  have IDS : Hid (∀ W1, Below W.heap.size W W1 → Calls Tryz.prog 66 #[.pointer (some ⟨g, 0, none⟩)] W1 fun e w' => ∃ va vl vc, e = .returned (.slice va vl vc) ∧ Hid (vl = Y.length ∧ LieIn (fun y : Nat => uL (fin y).id) 1 w' va (List.range Y.length)) ∧ Below W1.heap.size W1 w') := fun W1 hb => by
    refine (rIDs_any (hZ.below hb)).mono ?_
    rintro e w' ⟨va, vl, vc, rfl, h1, h2⟩
    refine ⟨va, vl, vc, rfl, ⟨by rw [h1.out.1]; exact hl, ?_⟩, h2⟩
    have e1 : ((X.map (fun x => x.nd.id)).take X.length).flatMap uL = (List.range Y.length).flatMap (fun y : Nat => uL (fin y).id) := by
      rw [List.take_of_length_le (by simp)]
      have : X.map (fun x => x.nd.id) = (List.range Y.length).map (fun y => (fin y).id) := by
        apply List.ext_getElem
        · simp [hl]
        · intro i h1 h2
          simp at h1 h2
          simp [(hB.fo.each i (by omega) h1).2]
      rw [this, List.flatMap_map]
    have h1' := h1.out.2
    rw [e1] at h1'
    exact LieIn.of_owns (f := fun y : Nat => uL (fin y).id) (l := List.range Y.length) (fun _ => rfl) h1' (by rw [List.length_range, h1.out.1]; exact hl.symm)
  have HBB : Hid (∀ L, PathR fin (cnK fin K) x (fin x).til L → ∀ l ∈ L, l.1 < Y.length ∧ 0 ≤ l.2.1 ∧ l.2.1 < l.2.2 ∧ l.2.2 ≤ 4611686018427387904) := fun L hP l hl => hB.legB hx hP hl
  have HINJ : Hid (∀ a b, a < Y.length → b < Y.length → (fin a).id = (fin b).id → a = b) := fun a b ha hb e => hB.idInj ha hb e
  have hn1 : Y.length ≤ 1000 := hB.one.len
  clear hB hpar hZ hO ho hx hl
  unfold PthP at PT
  obtain ⟨m, hm⟩ : ∃ m, Y.length = m := ⟨_, rfl⟩
  rw [hm] at IDS HBB HINJ hn1 ⊢
  clear hm
  go_enter Tryz.func30, Tryz.ntmps30
  go_wp2_with (first
    | (go_at_call 10; refine PT.mono ?_; clear PT; rintro e w1 ⟨va, q, vc, L, rfl, HL, hb1⟩; have ID1 := IDS.out w1 hb1; have HB1 : Hid (Below W.heap.size W w1) := hb1; clear hb1 IDS)
    | (go_at_call 66; refine ID1.mono ?_; clear ID1; rintro e w2 ⟨ia, il, ic, rfl, HI, hb2⟩; have HB2 : Hid (Below W.heap.size W w2) := HB1.out.trans (hb2.mono HB1.out.size); have HLL : Hid (LieIn (lgX fin) 3 w2 va L.reverse) := HL.out.2.2.1.below hb2; clear hb2 HB1))
  have hq2 : q ≤ 2000 := HL.out.2.2.2
  have HS0 : Hid (RsI w2 fin L 0 0 none 0 w2) := ⟨rfl, World.ownsRow_nil _ _ _ _, Below.refl _ _⟩
  obtain rfl : il = m := HI.out.1
  go_loopw [9, 10] (fun z9 z10 wr => ∃ (i ll : Nat) (oa : Option Addr) (oc : Nat), z9 = .slice oa ll oc ∧ z10 = .int .i64 i ∧ i ≤ il ∧ Hid (RsI w2 fin L i ll oa oc wr)) (fun _ z10 _ => il - (intOf z10).toNat)
  case atStart => exact ⟨0, 0, none, 0, rfl, rfl, by omega, HS0⟩
  case round =>
    clear HS0
    obtain ⟨i, ll, oa, oc, rfl, rfl, hi, HR⟩ := hrel
    by_cases hlt : i < il
    · have hin : (i : Int) < (il : Int) := by omega
      obtain ⟨ib, e, _, hci⟩ := HI.out.2 (fun e => by have := congrArg List.length e; simp at this; omega)
      subst e
      have HCI : Hid (∀ V, Below w2.heap.size w2 V → V.cell? ⟨ib, i, none⟩ = some (.int .u64 (fin i).id)) := fun V hb => by
        obtain ⟨ib', e', _, hc'⟩ := (HI.out.2.below hb) (fun e => by have := congrArg List.length e; simp at this; omega)
        simp at e'
        subst e'
        have := hc' i (by simpa using hlt) 0 (.int .u64 (fin i).id) (by simp [uL])
        simpa using this
      have hll : ll ≤ 1000 := by
        have e := HR.out.1
        have := List.length_filter_le (fun y => decide (0 < hungI L y)) (List.range i)
        rw [List.length_range] at this
        omega
      clear hci
      have HRG : Hid (List.range (i + 1) = List.range i ++ [i]) := List.range_succ
      go_wp2
      go_loopw [11, 12] (fun z11 z12 wq => ∃ k : Nat, z11 = .int .u64 (hungI (L.reverse.take k) i) ∧ z12 = .int .i64 k ∧ k ≤ q ∧ Hid (RsI w2 fin L i ll oa oc wq)) (fun _ z12 _ => q - (intOf z12).toNat)
      case atStart => exact ⟨0, by simp [hungI], rfl, by omega, HR⟩
      case round =>
        clear HR
        obtain ⟨k, rfl, rfl, hk, HQ⟩ := hrel
        by_cases hkq : k < q
        · have hkn : (k : Int) < (q : Int) := by omega
          have hkL : k < L.reverse.length := by rw [List.length_reverse, HL.out.1]; exact hkq
          have ci := HCI.out wr HQ.out.2.2
          obtain ⟨lb, e, _, hc⟩ := (HLL.out.below HQ.out.2.2) (fun e => by rw [e] at hkL; simp at hkL)
          subst e
          have HC : Hid (∀ j, (wr.drewN j).cell? ⟨lb, k * 3 + 1, none⟩ = some (.int .i64 L.reverse[k].2.1) ∧ (wr.drewN j).cell? ⟨lb, k * 3 + 2, none⟩ = some (.int .i64 L.reverse[k].2.2)) := fun j => ⟨hc k hkL 1 _ rfl, hc k hkL 2 _ rfl⟩
          have c0 : wr.cell? ⟨lb, k * 3, none⟩ = some (.int .u64 (fin L.reverse[k].1).id) := hc k hkL 0 _ rfl
          have HBL := HBB.out L HL.out.2.1 L.reverse[k] (List.mem_reverse.1 (List.getElem_mem hkL))
          have HST : Hid (hungI (L.reverse.take (k + 1)) i = if L.reverse[k].1 = i then IntKind.u64.wrap (hungI (L.reverse.take k) i + lenI (L.reverse[k].2.1, L.reverse[k].2.2)) else hungI (L.reverse.take k) i) := by
            show _ = _
            rw [List.take_add_one, List.getElem?_eq_getElem hkL]
            exact hungI_snoc _ _ _
          have HD : Hid (∀ j, RsI w2 fin L i ll oa oc (wr.drewN j)) := fun j => ⟨HQ.out.1, ownsRow_upd HQ.out.2.1 (Upd.ofBelow (S := fun _ => False) (below_drewN (Below.refl wr.heap.size wr) j) (fun k h1 h2 => by omega)) (fun _ _ h => h), below_drewN HQ.out.2.2 j⟩
          clear hc
          generalize L.reverse[k] = l at *
          obtain ⟨h2, hh2⟩ : ∃ h2, hungI (L.reverse.take (k + 1)) i = h2 := ⟨_, rfl⟩
          have HH2 : Hid (hungI (L.reverse.take (k + 1)) i = h2) := hh2
          rw [hh2] at HST
          clear hh2
          generalize hungI (L.reverse.take k) i = h1 at *
          obtain ⟨y, fr, tl⟩ := l
          simp only at HC c0 HBL HST
          by_cases hy : y = i
          · subst hy
            have e2 : IntKind.u64.wrap (h1 + (tl - fr)) = h2 := by
              rw [HST.out, if_pos rfl]
              have : lenI (fr, tl) = tl - fr := by unfold lenI; simp only; rw [if_neg (by omega)]
              rw [this]
            have e3 : IntKind.i64.wrap (tl - fr) = tl - fr := by rw [IntWalk.i64_left]; unfold wrap64; omega
            have e4 : IntKind.u64.wrap (tl - fr) = tl - fr := by rw [IntKind.wrap_u64]; omega
            have e5 : wrap64 (tl - fr) = tl - fr := by unfold wrap64; omega
            clear HBL HST
            go_upto_region 13 with fail
            go_quiet (fail)
            go_upto_region 14 with fail
            obtain ⟨U, hU⟩ : ∃ U, wr.drewN nq = U := ⟨_, rfl⟩
            have c1 : U.cell? ⟨lb, k * 3 + 1, none⟩ = some (.int .i64 fr) := by rw [← hU]; exact (HC.out nq).1
            have c2 : U.cell? ⟨lb, k * 3 + 2, none⟩ = some (.int .i64 tl) := by rw [← hU]; exact (HC.out nq).2
            have HD2 : Hid (∀ j, RsI w2 fin L y ll oa oc (U.drewN j)) := fun j => by
              have h := HD.out nq
              rw [hU] at h
              exact ⟨h.1, ownsRow_upd h.2.1 (Upd.ofBelow (S := fun _ => False) (below_drewN (Below.refl U.heap.size U) j) (fun k h1 h2 => by omega)) (fun _ _ h => h), below_drewN h.2.2 j⟩
            rw [hU]
            clear hU c0 ci HC HD
            go_quiet (fail)
            go_wp2
            go_roundw
            case rel => exact ⟨k + 1, by rw [HH2.out], by go_num, by omega, HD2.out _⟩
            case measure => (simp [intOf]; omega)
          · have de : ((fin y).id == (fin i).id) = false := by
              simp only [beq_eq_false_iff_ne, ne_eq]
              exact fun e => hy (HINJ.out y i HBL.1 hlt e)
            obtain rfl : h2 = h1 := by rw [HST.out, if_neg hy]
            clear HBL HST hy HC
            go_upto_region 13 with fail
            go_quiet (fail)
            go_wp2
            go_roundw
            case rel => exact ⟨k + 1, by rw [HH2.out], by go_num, by omega, HD.out _⟩
            case measure => (simp [intOf]; omega)
        · obtain rfl : k = q := by omega
          have ci := HCI.out wr HQ.out.2.2
          have eh : hungI (L.reverse.take k) i = hungI L i := by rw [List.take_of_length_le (by rw [List.length_reverse, HL.out.1]; exact Nat.le_refl _), hungI_rev]
          rw [eh]
          have hnn := hungI_nn L i
          have HHP : Hid ((0 < hungI L i → (List.range (i + 1)).filter (fun y => decide (0 < hungI L y)) = (List.range i).filter (fun y => decide (0 < hungI L y)) ++ [i]) ∧ (¬ 0 < hungI L i → (List.range (i + 1)).filter (fun y => decide (0 < hungI L y)) = (List.range i).filter (fun y => decide (0 < hungI L y)))) := by
            refine ⟨fun h0 => ?_, fun h0 => ?_⟩
            · rw [HRG.out, List.filter_append]
              simp [h0]
            · rw [HRG.out, List.filter_append]
              simp [h0]
          have HSH : Hid (shC fin L i = [.int .u64 (fin i).id, .int .u64 (hungI L i)]) := (rfl : shC fin L i = _)
          clear eh
          generalize hungI L i = h at *
          by_cases h0 : 0 < h
          · have HNX : Hid (∀ va' vc' w', w'.ownsRow w2.heap.size 58 2 (.slice va' (ll + 1) vc') (ll + 1) (((List.range i).filter (fun y => decide (0 < hungI L y))).flatMap (shC fin L) ++ [.int .u64 (fin i).id, .int .u64 h]) → Upd (fun q => (Value.slice oa ll oc).ownBlock = some q) wr w' → RsI w2 fin L (i + 1) (ll + 1) va' vc' w') := fun va' vc' w' ho uu => by
              refine ⟨by rw [HHP.out.1 h0, List.length_append, HQ.out.1]; rfl, ?_, HQ.out.2.2.trans (uu.below HQ.out.2.2.size (fun k hk e => by have := (owns_lt HQ.out.2.1 e).1; omega))⟩
              rw [HHP.out.1 h0, List.flatMap_append]
              have : [i].flatMap (shC fin L) = [.int .u64 (fin i).id, .int .u64 h] := by rw [List.flatMap_cons, List.flatMap_nil, List.append_nil]; exact HSH.out
              rw [this]
              exact ho
            clear HHP HSH HRG
            go_wp2_with (at_builtin; (refine wpList_appS wr rfl _ _ rfl w2.heap.size (.slice oa ll oc) ll _ (fin i).id h _ rfl rfl HQ.out.2.1 rfl (by omega) HQ.out.2.2.size ?_; intro va9 vc9 w9 o9 u9); have HI9 : Hid (RsI w2 fin L (i + 1) (ll + 1) va9 vc9 w9) := HNX.out va9 vc9 w9 o9 u9; clear o9 u9 HNX)
            go_roundw
            case rel => exact ⟨i + 1, ll + 1, va9, vc9, rfl, by go_num, by omega, HI9⟩
            case measure => (simp [intOf]; omega)
          · have HI9 : Hid (RsI w2 fin L (i + 1) ll oa oc wr) := ⟨by rw [HHP.out.2 h0]; exact HQ.out.1, by rw [HHP.out.2 h0]; exact HQ.out.2.1, HQ.out.2.2⟩
            obtain rfl : h = 0 := by omega
            clear HHP HSH HRG h0
            go_wp2
            go_roundw
            case rel => exact ⟨i + 1, ll, oa, oc, rfl, by go_num, by omega, HI9⟩
            case measure => (simp [intOf]; omega)
    · obtain rfl : i = il := by omega
      clear HI
      go_wp2
      go_ret2
      exact ⟨_, _, _, L, rfl, ⟨HL.out.2.1, HR.out.1, LieIn.of_owns (shC_len fin L) HR.out.2.1 HR.out.1⟩, HB2.out.trans (HR.out.2.2.mono HB2.out.size)⟩
end
end Go.Proofs.YtobjjdggjgnfcaaGreatDoor
