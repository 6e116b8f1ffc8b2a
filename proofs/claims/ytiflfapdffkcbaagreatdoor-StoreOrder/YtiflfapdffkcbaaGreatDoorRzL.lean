/-
  RzL.
-/
import Derived.Test.YtiflfapdffkcbaaGreatDoorRzK
namespace Go.Proofs.YtiflfapdffkcbaaGreatDoor
open Go.RowKit Go.Maps Go.WideMaps
set_option maxRecDepth 100000

theorem setRow_other9 (w : World) (b : Nat) (cs : Array Value) (j : Nat) (hj : j ≠ b) : (w.setRow b cs).heap[j]? = w.heap[j]? := by
  unfold World.setRow
  simp [Array.getElem?_modify, Ne.symm hj]
set_option maxHeartbeats 4000000 in
theorem get_found9 (s b : Nat) (M : Tc → Nat) (T : List Tc) (X : List It) (n : Nm) (hn : NmOk n) (y : It) (w : World) (h : StoreAt w s b M T X) (hy : findX X n = some y) :
    Calls Tryz.prog 12 #[.pointer (some ⟨s, 0, none⟩), tcV n.1, .int .u64 n.2] w fun e w' => ∃ p', e = .returned (.tuple #[spV y.a p', .bool true]) ∧ (∀ W : World, (∀ j, w.heap.size ≤ j → W.heap[j]? = w'.heap[j]?) → SpAt W y.a p') ∧ Below w.heap.size w w' := by
  have hI := h.each y (find_mem hy).1
  have hG := chk_good hI.chk
  have CL := fun W (hb : Below w.heap.size w W) => clone_any y.a y.p W (hI.at.below hb) (Nat.le_trans hG.links (by omega)) (Nat.le_trans hG.attrs (by omega)) (Nat.le_trans hG.events (by omega))
  have hin := in_of_find h hy
  have B1 : Below w.heap.size w (((w.alloc (.cells #[.int .u64 n.1.1, .int .u64 n.1.2] 33)).alloc (.cells zC 41)).drew) := (((Below.refl _ _).alloc (Nat.le_refl _) _).alloc (by simp) _).drew
  have B2 : ∀ o, Below w.heap.size w ((((w.alloc (.cells #[.int .u64 n.1.1, .int .u64 n.1.2] 33)).alloc (.cells zC 41)).alloc o).drew) := fun o => ((((Below.refl _ _).alloc (Nat.le_refl _) _).alloc (by simp) _).alloc (by simp; omega) _).drew
  have LL : ∀ W, Below w.heap.size w W → (Instr.lookup 53 (.map (some b)) (tcV n.1) false).run Tryz.prog W = .ok (.map (some (M n.1))) W ∧ (Instr.lookup 61 (.map (some (M n.1))) (.int .u64 n.2) true).run Tryz.prog W = .ok (.tuple #[spV y.a y.p, .bool true]) W ∧ W.cell? ⟨s, 0, none⟩ = some (.map (some b)) := fun W hb => by
    have l1 := (h.below hb).nest.look Tryz.underlying53 (zT _) n.1 hn.1
    have l2 := (h.below hb).nest.look2 Tryz.underlying61 (zS _) n.1 n.2 hn.2
    rw [inV, if_pos hin] at l1 l2
    rw [show ((n.1, n.2) : Nm) = n from rfl, look_ent, hy] at l2
    exact ⟨l1, l2, blk_cell (h.below hb).block 0 rfl⟩
  obtain ⟨L1, L2, c1⟩ := LL _ B1
  obtain ⟨L3, L4, c2⟩ := LL _ (B2 (.cells zC 41))
  have sz : ∀ o, (((w.alloc (.cells #[.int .u64 n.1.1, .int .u64 n.1.2] 33)).alloc (.cells zC 41)).alloc o).heap.size = w.heap.size + 3 := fun o => by rw [World.size_alloc, World.size_alloc, World.size_alloc]
  have BX : ∀ o, (((w.alloc (.cells #[.int .u64 n.1.1, .int .u64 n.1.2] 33)).alloc (.cells zC 41)).alloc o).heap[w.heap.size + 1]? = some (.cells zC 41 (0, 0)) := fun o => (Below.heap_alloc _ _ _ (by rw [World.size_alloc, World.size_alloc]; omega)).trans (alloc_at (by rw [World.size_alloc]))
  have RES : ∀ o w5, Below ((((w.alloc (.cells #[.int .u64 n.1.1, .int .u64 n.1.2] 33)).alloc (.cells zC 41)).alloc o).drew).heap.size ((((w.alloc (.cells #[.int .u64 n.1.1, .int .u64 n.1.2] 33)).alloc (.cells zC 41)).alloc o).drew) w5 → w5.heap[w.heap.size + 1]? = some (.cells zC 41 (0, 0)) ∧ Below w.heap.size w w5 := fun o w5 hb => ⟨(hb.block (w.heap.size + 1) (by show _ < (((w.alloc _).alloc _).alloc o).heap.size; rw [sz]; omega)).trans (BX o), (B2 o).trans (hb.mono (B2 o).size)⟩
  have HCL : Hid _ := CL
  have HRES : Hid _ := RES
  have HB2 : Hid _ := B2
  clear LL CL RES B1 B2 BX sz h hn hy hI hG hin
  obtain ⟨⟨n1, n2⟩, n3⟩ := n
  generalize M (n1, n2) = mb at *
  unfold tcV zC spV spC at *
  go_enter Tryz.func12, Tryz.ntmps12
  go_wp2
  go_region
  all_goals
    go_wp2_with (go_at_call 20; refine (HCL.out _ (HB2.out _)).mono ?_; rintro e w5 ⟨p', rfl, hst, hb5⟩; have HST : Hid (∀ W : World, (∀ j, w.heap.size + 2 ≤ j → W.heap[j]? = w5.heap[j]?) → SpAt W y.a p') := (fun W hW => hst W (fun j h1 h2 => hW j (by have h3 : (((w.alloc _).alloc _).alloc _).heap.size ≤ j := h1; simp only [World.size_alloc] at h3; omega))); obtain ⟨R5, bw⟩ := HRES.out _ _ hb5; have o0 := blk_cell R5 0 rfl; have f0 := blk_free R5 0; have o1 := blk_cell R5 1 rfl; have f1 := blk_free R5 1; have o2 := blk_cell R5 2 rfl; have f2 := blk_free R5 2; have o3 := blk_cell R5 3 rfl; have f3 := blk_free R5 3; have o4 := blk_cell R5 4 rfl; have f4 := blk_free R5 4; have o5 := blk_cell R5 5 rfl; have f5 := blk_free R5 5; have o6 := blk_cell R5 6 rfl; have f6 := blk_free R5 6; have o7 := blk_cell R5 7 rfl; have f7 := blk_free R5 7; have o8 := blk_cell R5 8 rfl; have f8 := blk_free R5 8; have o9 := blk_cell R5 9 rfl; have f9 := blk_free R5 9; have o10 := blk_cell R5 10 rfl; have f10 := blk_free R5 10; have o11 := blk_cell R5 11 rfl; have f11 := blk_free R5 11; have o12 := blk_cell R5 12 rfl; have f12 := blk_free R5 12)
    (try simp only [Exit.inBlock, Exit.then])
    rw [set13_eq w5 (w.heap.size + 1) 41 _ _ _ _ _ _ _ _ _ _ _ _ _ _ _ _ _ _ _ _ _ _ _ _ _ _ R5]
    have hrow := setRow_heap w5 (w.heap.size + 1) _ #[.int .u64 y.a.hi, .int .u64 y.a.lo, .int .u64 y.a.id, .int .u64 y.a.par, .slice p'.la y.a.links.length p'.lc, .string y.a.svc, .string y.a.op, .int .i64 y.a.kind, .int .i64 y.a.status, .int .i64 y.a.start, .int .i64 y.a.fin, .slice p'.aa y.a.attrs.length p'.ac, .slice p'.ea y.a.events.length p'.ec] 41 (0, 0) R5
    have hld := run_loadVar_row (P := Tryz.prog) (w5.setRow (w.heap.size + 1) #[.int .u64 y.a.hi, .int .u64 y.a.lo, .int .u64 y.a.id, .int .u64 y.a.par, .slice p'.la y.a.links.length p'.lc, .string y.a.svc, .string y.a.op, .int .i64 y.a.kind, .int .i64 y.a.status, .int .i64 y.a.start, .int .i64 y.a.fin, .slice p'.aa y.a.attrs.length p'.ac, .slice p'.ea y.a.events.length p'.ec]) (w.heap.size + 1) 41 41 #[.int .u64 y.a.hi, .int .u64 y.a.lo, .int .u64 y.a.id, .int .u64 y.a.par, .slice p'.la y.a.links.length p'.lc, .string y.a.svc, .string y.a.op, .int .i64 y.a.kind, .int .i64 y.a.status, .int .i64 y.a.start, .int .i64 y.a.fin, .slice p'.aa y.a.attrs.length p'.ac, .slice p'.ea y.a.events.length p'.ec] (0, 0) _ hrow Tryz.underlying41 rfl Tryz.info41
    refine bodyPost_ret (v := .tuple #[.agg #[.int .u64 y.a.hi, .int .u64 y.a.lo, .int .u64 y.a.id, .int .u64 y.a.par, .slice p'.la y.a.links.length p'.lc, .string y.a.svc, .string y.a.op, .int .i64 y.a.kind, .int .i64 y.a.status, .int .i64 y.a.start, .int .i64 y.a.fin, .slice p'.aa y.a.attrs.length p'.ac, .slice p'.ea y.a.events.length p'.ec], .bool true]) ?_ rfl ⟨p', rfl, fun W hW => HST.out W (fun j hj => (hW j (by omega)).trans (setRow_other9 w5 _ _ j (by omega))), below_setRow bw (by omega) _⟩
    rw [results_cell_tmp rfl]
    simp [asAddr, Result.andThen, hld]
theorem get9 {w : World} {s : Nat} {S : Nat → Prop} {L : List Sp} (h : StQ w s S L) (n : Nm) (hn : NmOk n) {y : Sp} (hy : findL L n = some y) :
    Calls Tryz.prog 12 #[.pointer (some ⟨s, 0, none⟩), tcV n.1, .int .u64 n.2] w fun e w' => ∃ p', e = .returned (.tuple #[spV y p', .bool true]) ∧ (∀ W : World, (∀ j, w.heap.size ≤ j → W.heap[j]? = w'.heap[j]?) → SpAt W y p') ∧ Below w.heap.size w w' := by
  obtain ⟨b, M, T, X, h1, rfl, _⟩ := h.ex
  rw [find_sps] at hy
  obtain ⟨z, hz, rfl⟩ := Option.map_eq_some_iff.1 hy
  exact get_found9 s b M T X n hn z w h1 hz
/-- Rows of puts whose spans are among those of a list that fits. -/
theorem sub_room {L K : List Sp} (hL : fitsL [] L = 0) (hK : ∀ x ∈ K, x ∈ L) : (∀ t, cntL (K.foldl putLs []) t ≤ 1000) ∧ (K.foldl putLs []).length ≤ 100000 := by
  have h0 : ∀ t, cntL ([] : List Sp) t ≤ 1000 := fun t => by simp [cntL]
  have h1 := hL
  rw [fits_put h0 (fits_all0 hL), run_eq] at h1
  have h2 := roomR_zero.1 h1
  have hn := (fold_top K (L := []) List.nodup_nil).1
  have h3 := names_le hn (B := L.foldl putLs []) (fun x hx => by
    obtain ⟨z, hz, e⟩ := (fold_names (L := []) List.nodup_nil K (nmS x)).1 ⟨x, hx, rfl⟩
    rcases hz with hz | hz
    · cases hz
    · exact (fold_names (L := []) List.nodup_nil L (nmS x)).2 ⟨z, Or.inr (hK z hz), e⟩)
  exact ⟨fun t => Nat.le_trans (h3.2 t) (h2.1 t), Nat.le_trans h3.1 h2.2⟩
/-- One more of the names that a list has fits wherever the list does. -/
theorem fits_one {L K : List Sp} {a : Sp} (hL : fitsL [] L = 0) (hK : ∀ x ∈ K, x ∈ L) (ha : a ∈ L) : fitsL (runP [] K).1 [a] = 0 ∧ (runP (runP [] K).1 [a]).1 = (runP [] (K ++ [a])).1 := by
  have h1 := sub_room hL hK
  have h2 := sub_room (K := K ++ [a]) hL (fun x hx => by
    rcases List.mem_append.1 hx with h | h
    · exact hK x h
    · rw [List.mem_singleton.1 h]; exact ha)
  have e : (runP (runP [] K).1 [a]).1 = (runP [] (K ++ [a])).1 := by
    rw [run_eq, run_eq, run_eq, List.foldl_append]
  refine ⟨?_, e⟩
  rw [fits_put (by rw [run_eq]; exact h1.1) (fun x hx => by rw [List.mem_singleton.1 hx]; exact fits_all0 hL a ha), e, run_eq]
  exact roomR_zero.2 h2
/-- All spans of a list, from the last one on, twice. -/
def backL (L : List Sp) : Nat → List Sp
  | 0 => []
  | k + 1 => backL L k ++ (match L[(2 * L.length - 1 - k) % L.length]? with | some a => [a] | none => [])
theorem backL_next (L : List Sp) (k i : Nat) (_hk : k < 2 * L.length) (hi : i = (2 * L.length - 1 - k) % L.length) (hl : i < L.length) : backL L (k + 1) = backL L k ++ [L[i]] := by
  subst hi
  rw [backL, List.getElem?_eq_getElem hl]
theorem backL_sub (L : List Sp) : ∀ k, ∀ x ∈ backL L k, x ∈ L
  | 0, x, hx => by cases hx
  | k + 1, x, hx => by
    rw [backL] at hx
    rcases List.mem_append.1 hx with h | h
    · exact backL_sub L k x h
    · split at h
      · rename_i a ha
        rw [List.mem_singleton.1 h]
        exact List.mem_of_getElem? ha
      · cases h
theorem backL_all (L : List Sp) : ∀ x, x ∈ backL L (2 * L.length) ↔ x ∈ L := by
  refine fun x => ⟨backL_sub L _ x, fun hx => ?_⟩
  have mono : ∀ k j, k ≤ j → ∀ x, x ∈ backL L k → x ∈ backL L j := by
    intro k j h
    induction h with
    | refl => exact fun x h => h
    | step _ ih => exact fun x h => List.mem_append.2 (Or.inl (ih x h))
  obtain ⟨i, hi, rfl⟩ := List.mem_iff_getElem.1 hx
  have hk : 2 * L.length - 1 - (L.length - 1 - i) = L.length + i := by omega
  have hm : (L.length + i) % L.length = i := by rw [Nat.add_mod_left, Nat.mod_eq_of_lt hi]
  refine mono (L.length - 1 - i + 1) _ (by omega) _ ?_
  rw [backL_next L (L.length - 1 - i) i (by omega) (by rw [hk, hm]) hi]
  exact List.mem_append.2 (Or.inr (by simp))
end Go.Proofs.YtiflfapdffkcbaaGreatDoor
