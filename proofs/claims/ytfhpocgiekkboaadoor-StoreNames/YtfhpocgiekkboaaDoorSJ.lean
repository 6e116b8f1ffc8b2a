/-
  Layer 9 (store): New, Count, Get; what Fits says, by the spans alone.
-/
import Derived.Test.YtfhpocgiekkboaaDoorSI
namespace Go.Proofs.YtfhpocgiekkboaaDoor
open Go.RowKit Go.Maps Go.WideMaps
set_option maxRecDepth 100000

theorem new_any (w : World) :
    Calls Tryd.prog 5 #[] w fun e w' => e = .returned (.pointer (some ⟨w.heap.size + 1, 0, none⟩)) ∧ StoreAt w' (w.heap.size + 1) w.heap.size (fun _ => 0) [] [] ∧ Below w.heap.size w w' ∧ w'.heap.size = w.heap.size + 2 := by
  have hmm := @run_makeMap Tryd.prog
  go_enter Tryd.func5, Tryd.ntmps5
  go_wp2
  go_returns
  refine ⟨rfl, ⟨⟨?_, fun x hx => by simp at hx, fun x hx => by simp at hx, by simp, fun t ht => by simp at ht, by simp⟩, alloc_at (by simp)⟩, ((Below.refl _ _).alloc (Nat.le_refl _) _).alloc (by simp) _, by simp⟩
  exact (Nest.made w).upd (S := fun _ => False) ((Upd.refl _ _).alloc _) (fun h => h) (fun _ _ h => h)
theorem count_any (s b : Nat) (M : Tc → Nat) (T : List Tc) (X : List It) (w : World) (h : StoreAt w s b M T X) :
    Calls Tryd.prog 9 #[.pointer (some ⟨s, 0, none⟩)] w fun e w' => e = .returned (.int .i64 (X.length : Int)) ∧ w' = w := by
  have c1 := blk_cell h.block 1 rfl
  clear h
  generalize (X.length : Int) = n at *
  go_enter Tryd.func9, Tryd.ntmps9
  go_wp2
  go_returns
  exact ⟨rfl, rfl⟩
def cntL (L : List Sp) (t : Tc) : Nat := (L.filter (fun a => decide ((nmS a).1 = t))).length
def newLS (L : List Sp) (E : List (Nm × Value)) (a : Sp) : List (Nm × Value) := if (findL L (nmS a)).isSome = true then E else setE E (nmS a) unV
def newL (L : List Sp) (Y : List Sp) : List (Nm × Value) := Y.foldl (newLS L) []
def roomL (L : List Sp) (N : List (Nm × Value)) : Int :=
  if N.any (fun e => decide (1000 < cntL L e.1.1 + cntE N e.1.1)) = true then 91 else if 100000 < L.length + N.length then 92 else 0
def fitsL (L : List Sp) (Y : List Sp) : Int := match Y.find? (fun a => decide (chkS a ≠ 0)) with | some a => chkS a | none => roomL L (newL L Y)
theorem cnt_sps (t : Tc) : ∀ X : List It, cntE (entE X) t = cntL (spsX X) t
  | [] => rfl
  | x :: r => by
    have ih := cnt_sps t r
    unfold cntE entE cntL spsX at ih ⊢
    by_cases h : (nmS x.a).1 = t <;> simp [h] at ih ⊢ <;> exact ih
theorem new_sps (X : List It) (Y : List Sp) : newE X Y = newL (spsX X) Y := by
  unfold newE newL
  congr 1
  funext E a
  unfold newS newLS
  rw [find_sps, Option.isSome_map]
theorem fits_sps (X : List It) (Y : List Sp) : fitsI X Y = fitsL (spsX X) Y := by
  have hr : ∀ N, roomI X N = roomL (spsX X) N := fun N => by
    unfold roomI roomL
    simp only [cnt_sps]
    rw [show (spsX X).length = X.length by simp [spsX]]
  unfold fitsI fitsL
  rw [hr, new_sps]
  cases List.find? (fun a => decide (chkS a ≠ 0)) Y <;> rfl
set_option maxHeartbeats 4000000 in
theorem get_found (s b : Nat) (M : Tc → Nat) (T : List Tc) (X : List It) (n : Nm) (hn : NmOk n) (y : It) (w : World) (h : StoreAt w s b M T X) (hy : findX X n = some y) :
    Calls Tryd.prog 8 #[.pointer (some ⟨s, 0, none⟩), tcV n.1, .int .u64 n.2] w fun e w' => ∃ p', e = .returned (.tuple #[spV y.a p', .bool true]) ∧ Below w.heap.size w w' := by
  have hI := h.each y (find_mem hy).1
  have hG := chk_good hI.chk
  have CL := fun W (hb : Below w.heap.size w W) => clone_any y.a y.p W (hI.at.below hb) (Nat.le_trans hG.links (by omega)) (Nat.le_trans hG.attrs (by omega)) (Nat.le_trans hG.events (by omega))
  have hin := in_of_find h hy
  have B1 : Below w.heap.size w (((w.alloc (.cells #[.int .u64 n.1.1, .int .u64 n.1.2] 31)).alloc (.cells zC 39)).drew) := (((Below.refl _ _).alloc (Nat.le_refl _) _).alloc (by simp) _).drew
  have B2 : ∀ o, Below w.heap.size w ((((w.alloc (.cells #[.int .u64 n.1.1, .int .u64 n.1.2] 31)).alloc (.cells zC 39)).alloc o).drew) := fun o => ((((Below.refl _ _).alloc (Nat.le_refl _) _).alloc (by simp) _).alloc (by simp; omega) _).drew
  have LL : ∀ W, Below w.heap.size w W → (Instr.lookup 46 (.map (some b)) (tcV n.1) false).run Tryd.prog W = .ok (.map (some (M n.1))) W ∧ (Instr.lookup 52 (.map (some (M n.1))) (.int .u64 n.2) true).run Tryd.prog W = .ok (.tuple #[spV y.a y.p, .bool true]) W ∧ W.cell? ⟨s, 0, none⟩ = some (.map (some b)) := fun W hb => by
    have l1 := (h.below hb).nest.look Tryd.underlying46 (zT _) n.1 hn.1
    have l2 := (h.below hb).nest.look2 Tryd.underlying52 (zS _) n.1 n.2 hn.2
    rw [inV, if_pos hin] at l1 l2
    rw [show ((n.1, n.2) : Nm) = n from rfl, look_ent, hy] at l2
    exact ⟨l1, l2, blk_cell (h.below hb).block 0 rfl⟩
  obtain ⟨L1, L2, c1⟩ := LL _ B1
  obtain ⟨L3, L4, c2⟩ := LL _ (B2 (.cells zC 39))
  have sz : ∀ o, (((w.alloc (.cells #[.int .u64 n.1.1, .int .u64 n.1.2] 31)).alloc (.cells zC 39)).alloc o).heap.size = w.heap.size + 3 := fun o => by rw [World.size_alloc, World.size_alloc, World.size_alloc]
  have BX : ∀ o, (((w.alloc (.cells #[.int .u64 n.1.1, .int .u64 n.1.2] 31)).alloc (.cells zC 39)).alloc o).heap[w.heap.size + 1]? = some (.cells zC 39 (0, 0)) := fun o => (Below.heap_alloc _ _ _ (by rw [World.size_alloc, World.size_alloc]; omega)).trans (alloc_at (by rw [World.size_alloc]))
  have RES : ∀ o w5, Below ((((w.alloc (.cells #[.int .u64 n.1.1, .int .u64 n.1.2] 31)).alloc (.cells zC 39)).alloc o).drew).heap.size ((((w.alloc (.cells #[.int .u64 n.1.1, .int .u64 n.1.2] 31)).alloc (.cells zC 39)).alloc o).drew) w5 → w5.heap[w.heap.size + 1]? = some (.cells zC 39 (0, 0)) ∧ Below w.heap.size w w5 := fun o w5 hb => ⟨(hb.block (w.heap.size + 1) (by show _ < (((w.alloc _).alloc _).alloc o).heap.size; rw [sz]; omega)).trans (BX o), (B2 o).trans (hb.mono (B2 o).size)⟩
  have HCL : Hid _ := CL
  have HRES : Hid _ := RES
  have HB2 : Hid _ := B2
  clear LL CL RES B1 B2 BX sz h hn hy hI hG hin
  obtain ⟨⟨n1, n2⟩, n3⟩ := n
  generalize M (n1, n2) = mb at *
  unfold tcV zC spV spC at *
  go_enter Tryd.func8, Tryd.ntmps8
  go_wp2
  go_region
  all_goals
    go_wp2_with (go_at_call 12; refine (HCL.out _ (HB2.out _)).mono ?_; rintro e w5 ⟨p', rfl, hst, hb5⟩; obtain ⟨R5, bw⟩ := HRES.out _ _ hb5; have o0 := blk_cell R5 0 rfl; have f0 := blk_free R5 0; have o1 := blk_cell R5 1 rfl; have f1 := blk_free R5 1; have o2 := blk_cell R5 2 rfl; have f2 := blk_free R5 2; have o3 := blk_cell R5 3 rfl; have f3 := blk_free R5 3; have o4 := blk_cell R5 4 rfl; have f4 := blk_free R5 4; have o5 := blk_cell R5 5 rfl; have f5 := blk_free R5 5; have o6 := blk_cell R5 6 rfl; have f6 := blk_free R5 6; have o7 := blk_cell R5 7 rfl; have f7 := blk_free R5 7; have o8 := blk_cell R5 8 rfl; have f8 := blk_free R5 8; have o9 := blk_cell R5 9 rfl; have f9 := blk_free R5 9; have o10 := blk_cell R5 10 rfl; have f10 := blk_free R5 10; have o11 := blk_cell R5 11 rfl; have f11 := blk_free R5 11; have o12 := blk_cell R5 12 rfl; have f12 := blk_free R5 12)
    (try simp only [Exit.inBlock, Exit.then])
    rw [set13_eq w5 (w.heap.size + 1) 39 _ _ _ _ _ _ _ _ _ _ _ _ _ _ _ _ _ _ _ _ _ _ _ _ _ _ R5]
    have hrow := setRow_heap w5 (w.heap.size + 1) _ #[.int .u64 y.a.hi, .int .u64 y.a.lo, .int .u64 y.a.id, .int .u64 y.a.par, .slice p'.la y.a.links.length p'.lc, .string y.a.svc, .string y.a.op, .int .i64 y.a.kind, .int .i64 y.a.status, .int .i64 y.a.start, .int .i64 y.a.fin, .slice p'.aa y.a.attrs.length p'.ac, .slice p'.ea y.a.events.length p'.ec] 39 (0, 0) R5
    have hld := run_loadVar_row (P := Tryd.prog) (w5.setRow (w.heap.size + 1) #[.int .u64 y.a.hi, .int .u64 y.a.lo, .int .u64 y.a.id, .int .u64 y.a.par, .slice p'.la y.a.links.length p'.lc, .string y.a.svc, .string y.a.op, .int .i64 y.a.kind, .int .i64 y.a.status, .int .i64 y.a.start, .int .i64 y.a.fin, .slice p'.aa y.a.attrs.length p'.ac, .slice p'.ea y.a.events.length p'.ec]) (w.heap.size + 1) 39 39 #[.int .u64 y.a.hi, .int .u64 y.a.lo, .int .u64 y.a.id, .int .u64 y.a.par, .slice p'.la y.a.links.length p'.lc, .string y.a.svc, .string y.a.op, .int .i64 y.a.kind, .int .i64 y.a.status, .int .i64 y.a.start, .int .i64 y.a.fin, .slice p'.aa y.a.attrs.length p'.ac, .slice p'.ea y.a.events.length p'.ec] (0, 0) _ hrow Tryd.underlying39 rfl Tryd.info39
    refine bodyPost_ret (v := .tuple #[.agg #[.int .u64 y.a.hi, .int .u64 y.a.lo, .int .u64 y.a.id, .int .u64 y.a.par, .slice p'.la y.a.links.length p'.lc, .string y.a.svc, .string y.a.op, .int .i64 y.a.kind, .int .i64 y.a.status, .int .i64 y.a.start, .int .i64 y.a.fin, .slice p'.aa y.a.attrs.length p'.ac, .slice p'.ea y.a.events.length p'.ec], .bool true]) ?_ rfl ⟨p', rfl, below_setRow bw (by omega) _⟩
    rw [results_cell_tmp rfl]
    simp [asAddr, Result.andThen, hld]
end Go.Proofs.YtfhpocgiekkboaaDoor
