/-
  Merged: SY, SQ, SZ.
-/
import Derived.Test.YtiflfapdffkcbaaGreatDoorSIq
import Derived.Test.YtiflfapdffkcbaaGreatDoorSGq
namespace Go.Proofs.YtiflfapdffkcbaaGreatDoor
open Go.RowKit Go.Maps Go.WideMaps
set_option maxRecDepth 100000

def zS0 : Sp := ⟨0, 0, 0, 0, [], ⟨#[]⟩, ⟨#[]⟩, 0, 0, 0, 0, [], []⟩
def plZ : Pl := ⟨none, 0, none, 0, none, 0⟩
theorem at_zero (w : World) : SpAt w zS0 plZ :=
  ⟨⟨rfl, fun j u hj => by simp [zS0, intsV] at hj⟩, ⟨rfl, fun h => by cases h⟩, ⟨rfl, fun h => by cases h⟩, by simp [zS0], by simp [zS0], by simp [zS0]⟩
set_option maxHeartbeats 4000000 in
theorem get_none (s b : Nat) (M : Tc → Nat) (T : List Tc) (X : List It) (n : Nm) (hn : NmOk n) (w : World) (h : StoreAt w s b M T X) (hy : findX X n = none) :
    Calls Tryz.prog 12 #[.pointer (some ⟨s, 0, none⟩), tcV n.1, .int .u64 n.2] w fun e w' => ∃ p', e = .returned (.tuple #[spV zS0 p', .bool false]) ∧ Below w.heap.size w w' := by
  have CL := fun W => clone_any zS0 plZ W (at_zero W) (by simp [zS0]) (by simp [zS0]) (by simp [zS0])
  have B1 : Below w.heap.size w (((w.alloc (.cells #[.int .u64 n.1.1, .int .u64 n.1.2] 33)).alloc (.cells zC 41)).drew) := (((Below.refl _ _).alloc (Nat.le_refl _) _).alloc (by simp) _).drew
  have B2 : ∀ o, Below w.heap.size w ((((w.alloc (.cells #[.int .u64 n.1.1, .int .u64 n.1.2] 33)).alloc (.cells zC 41)).alloc o).drew) := fun o => ((((Below.refl _ _).alloc (Nat.le_refl _) _).alloc (by simp) _).alloc (by simp; omega) _).drew
  have LL : ∀ W, Below w.heap.size w W → (Instr.lookup 53 (.map (some b)) (tcV n.1) false).run Tryz.prog W = .ok (inV M T n.1) W ∧ (Instr.lookup 61 (inV M T n.1) (.int .u64 n.2) true).run Tryz.prog W = .ok (.tuple #[zSp, .bool false]) W ∧ W.cell? ⟨s, 0, none⟩ = some (.map (some b)) := fun W hb => by
    have l1 := (h.below hb).nest.look Tryz.underlying53 (zT _) n.1 hn.1
    have l2 := (h.below hb).nest.look2 Tryz.underlying61 (zS _) n.1 n.2 hn.2
    rw [show ((n.1, n.2) : Nm) = n from rfl, look_ent, hy] at l2
    exact ⟨l1, l2, blk_cell (h.below hb).block 0 rfl⟩
  obtain ⟨L1, L2, c1⟩ := LL _ B1
  obtain ⟨L3, L4, c2⟩ := LL _ (B2 (.cells zC 41))
  have sz : ∀ o, (((w.alloc (.cells #[.int .u64 n.1.1, .int .u64 n.1.2] 33)).alloc (.cells zC 41)).alloc o).heap.size = w.heap.size + 3 := fun o => by rw [World.size_alloc, World.size_alloc, World.size_alloc]
  have BX : ∀ o, (((w.alloc (.cells #[.int .u64 n.1.1, .int .u64 n.1.2] 33)).alloc (.cells zC 41)).alloc o).heap[w.heap.size + 1]? = some (.cells zC 41 (0, 0)) := fun o => (Below.heap_alloc _ _ _ (by rw [World.size_alloc, World.size_alloc]; omega)).trans (alloc_at (by rw [World.size_alloc]))
  have RES : ∀ o w5, Below ((((w.alloc (.cells #[.int .u64 n.1.1, .int .u64 n.1.2] 33)).alloc (.cells zC 41)).alloc o).drew).heap.size ((((w.alloc (.cells #[.int .u64 n.1.1, .int .u64 n.1.2] 33)).alloc (.cells zC 41)).alloc o).drew) w5 → w5.heap[w.heap.size + 1]? = some (.cells zC 41 (0, 0)) ∧ Below w.heap.size w w5 := fun o w5 hb => ⟨(hb.block (w.heap.size + 1) (by show _ < (((w.alloc _).alloc _).alloc o).heap.size; rw [sz]; omega)).trans (BX o), (B2 o).trans (hb.mono (B2 o).size)⟩
  have HCL : Hid _ := CL
  have HRES : Hid _ := RES
  have HB2 : Hid _ := B2
  clear LL CL RES B1 B2 BX sz h hn hy
  obtain ⟨⟨n1, n2⟩, n3⟩ := n
  generalize inV M T (n1, n2) = iv at *
  unfold zSp tcV zC spV spC at *
  simp only [zS0, plZ, List.length_nil] at *
  go_enter Tryz.func12, Tryz.ntmps12
  go_wp2
  go_region
  all_goals
    go_wp2_with (go_at_call 20; refine (HCL.out _).mono ?_; rintro e w5 ⟨p', rfl, hst, hb5⟩; obtain ⟨R5, bw⟩ := HRES.out _ _ hb5; have o0 := blk_cell R5 0 rfl; have f0 := blk_free R5 0; have o1 := blk_cell R5 1 rfl; have f1 := blk_free R5 1; have o2 := blk_cell R5 2 rfl; have f2 := blk_free R5 2; have o3 := blk_cell R5 3 rfl; have f3 := blk_free R5 3; have o4 := blk_cell R5 4 rfl; have f4 := blk_free R5 4; have o5 := blk_cell R5 5 rfl; have f5 := blk_free R5 5; have o6 := blk_cell R5 6 rfl; have f6 := blk_free R5 6; have o7 := blk_cell R5 7 rfl; have f7 := blk_free R5 7; have o8 := blk_cell R5 8 rfl; have f8 := blk_free R5 8; have o9 := blk_cell R5 9 rfl; have f9 := blk_free R5 9; have o10 := blk_cell R5 10 rfl; have f10 := blk_free R5 10; have o11 := blk_cell R5 11 rfl; have f11 := blk_free R5 11; have o12 := blk_cell R5 12 rfl; have f12 := blk_free R5 12)
    (try simp only [Exit.inBlock, Exit.then])
    rw [set13_eq w5 (w.heap.size + 1) 41 _ _ _ _ _ _ _ _ _ _ _ _ _ _ _ _ _ _ _ _ _ _ _ _ _ _ R5]
    have hrow := setRow_heap w5 (w.heap.size + 1) _ #[.int .u64 0, .int .u64 0, .int .u64 0, .int .u64 0, .slice p'.la 0 p'.lc, .string ⟨#[]⟩, .string ⟨#[]⟩, .int .i64 0, .int .i64 0, .int .i64 0, .int .i64 0, .slice p'.aa 0 p'.ac, .slice p'.ea 0 p'.ec] 41 (0, 0) R5
    have hld := run_loadVar_row (P := Tryz.prog) (w5.setRow (w.heap.size + 1) #[.int .u64 0, .int .u64 0, .int .u64 0, .int .u64 0, .slice p'.la 0 p'.lc, .string ⟨#[]⟩, .string ⟨#[]⟩, .int .i64 0, .int .i64 0, .int .i64 0, .int .i64 0, .slice p'.aa 0 p'.ac, .slice p'.ea 0 p'.ec]) (w.heap.size + 1) 41 41 #[.int .u64 0, .int .u64 0, .int .u64 0, .int .u64 0, .slice p'.la 0 p'.lc, .string ⟨#[]⟩, .string ⟨#[]⟩, .int .i64 0, .int .i64 0, .int .i64 0, .int .i64 0, .slice p'.aa 0 p'.ac, .slice p'.ea 0 p'.ec] (0, 0) _ hrow Tryz.underlying41 rfl Tryz.info41
    refine bodyPost_ret (v := .tuple #[.agg #[.int .u64 0, .int .u64 0, .int .u64 0, .int .u64 0, .slice p'.la 0 p'.lc, .string ⟨#[]⟩, .string ⟨#[]⟩, .int .i64 0, .int .i64 0, .int .i64 0, .int .i64 0, .slice p'.aa 0 p'.ac, .slice p'.ea 0 p'.ec], .bool false]) ?_ rfl ⟨p', rfl, below_setRow bw (by omega) _⟩
    rw [results_cell_tmp rfl]
    simp [asAddr, Result.andThen, hld]
end Go.Proofs.YtiflfapdffkcbaaGreatDoor

namespace Go.Proofs.YtiflfapdffkcbaaGreatDoor
set_option maxRecDepth 100000

def Names (L : List Sp) : Prop := (L.map nmS).Nodup
theorem names_one {L : List Sp} (h : Names L) {x y : Sp} (hx : x ∈ L) (hy : y ∈ L) (e : nmS x = nmS y) : x = y := by
  unfold Names at h
  induction L with
  | nil => simp at hx
  | cons a r ih =>
    rw [List.map_cons, List.nodup_cons] at h
    rcases List.mem_cons.1 hx with hx | hx
    · rcases List.mem_cons.1 hy with hy | hy
      · exact hx.trans hy.symm
      · exact absurd (List.mem_map.2 ⟨y, hy, by rw [← e, hx]⟩) h.1
    · rcases List.mem_cons.1 hy with hy | hy
      · exact absurd (List.mem_map.2 ⟨x, hx, by rw [e, hy]⟩) h.1
      · exact ih h.2 hx hy
theorem findL_none {L : List Sp} {n : Nm} (h : findL L n = none) : ∀ x ∈ L, nmS x ≠ n := by
  intro x hx
  have := List.find?_eq_none.1 h x hx
  simpa using this
theorem findL_some {L : List Sp} {n : Nm} {y : Sp} (h : findL L n = some y) : y ∈ L ∧ nmS y = n :=
  ⟨List.mem_of_find?_eq_some h, by simpa using List.find?_some h⟩
theorem cmp_self (x : Sp) : cmpP x x = 0 := (good_cmpP.eq x x).2 rfl
theorem map_put_names (a : Sp) (L : List Sp) : (L.map (fun z => if nmS z = nmS a then a else z)).map nmS = L.map nmS := by
  rw [List.map_map]
  refine List.map_congr_left fun x _ => ?_
  by_cases h : nmS x = nmS a <;> simp [h]
theorem put_names {L : List Sp} (a : Sp) (h : Names L) : Names (putLs L a) := by
  unfold putLs
  cases hf : findL L (nmS a) with
  | none =>
    show Names (L ++ [a])
    unfold Names
    rw [List.map_append, List.nodup_append]
    refine ⟨h, by simp, fun n hn m hm => ?_⟩
    obtain ⟨x, hx, rfl⟩ := List.mem_map.1 hn
    simp at hm
    subst hm
    exact findL_none hf x hx
  | some y =>
    show Names (if cmpP a y ≤ 0 then L else L.map (fun z => if nmS z = nmS a then a else z))
    split
    · exact h
    · unfold Names
      rw [map_put_names]
      exact h
/-- The greatest of its name among those of S. -/
def Top (S : Sp → Prop) (x : Sp) : Prop := S x ∧ ∀ y, S y → nmS y = nmS x → cmpP y x ≤ 0
theorem put_top {L : List Sp} (a : Sp) (h : Names L) (x : Sp) : x ∈ putLs L a ↔ Top (fun y => y ∈ L ∨ y = a) x := by
  unfold putLs
  cases hf : findL L (nmS a) with
  | none =>
    have hno := findL_none hf
    show x ∈ L ++ [a] ↔ _
    rw [List.mem_append, List.mem_singleton]
    constructor
    · intro hx
      refine ⟨hx, fun y hy e => ?_⟩
      rcases hx with hx | rfl
      · rcases hy with hy | rfl
        · rw [names_one h hy hx e, cmp_self]; omega
        · exact absurd e.symm (hno x hx)
      · rcases hy with hy | rfl
        · exact absurd e (hno y hy)
        · rw [cmp_self]; omega
    · exact fun hx => hx.1
  | some z =>
    obtain ⟨hz, ez⟩ := findL_some hf
    show x ∈ (if cmpP a z ≤ 0 then L else L.map (fun w => if nmS w = nmS a then a else w)) ↔ _
    split
    · rename_i hle
      constructor
      · intro hx
        refine ⟨Or.inl hx, fun y hy e => ?_⟩
        rcases hy with hy | rfl
        · rw [names_one h hy hx e, cmp_self]; omega
        · rw [names_one h hx hz (e.symm.trans ez.symm)]; exact hle
      · rintro ⟨hx | rfl, ht⟩
        · exact hx
        · have h1 := ht z (Or.inl hz) ez
          have h2 := good_cmpP.anti z x
          have : z = x := (good_cmpP.eq z x).1 (by omega)
          exact this ▸ hz
    · rename_i hle
      rw [List.mem_map]
      constructor
      · rintro ⟨w, hw, rfl⟩
        by_cases e : nmS w = nmS a
        · rw [if_pos e]
          refine ⟨Or.inr rfl, fun y hy ey => ?_⟩
          rcases hy with hy | rfl
          · rw [names_one h hy hz (ey.trans ez.symm)]
            have := good_cmpP.anti z a
            omega
          · rw [cmp_self]; omega
        · rw [if_neg e]
          refine ⟨Or.inl hw, fun y hy ey => ?_⟩
          rcases hy with hy | rfl
          · rw [names_one h hy hw ey, cmp_self]; omega
          · exact absurd ey.symm e
      · rintro ⟨hx, ht⟩
        by_cases e : nmS x = nmS a
        · rcases hx with hx | rfl
          · have := ht a (Or.inr rfl) e.symm
            rw [names_one h hx hz (e.trans ez.symm)] at this
            exact absurd this hle
          · exact ⟨z, hz, by rw [if_pos ez]⟩
        · rcases hx with hx | rfl
          · exact ⟨x, hx, by rw [if_neg e]⟩
          · exact absurd rfl e
theorem put_dom {L : List Sp} (a : Sp) (h : Names L) (y : Sp) (hy : y ∈ L ∨ y = a) : ∃ z, z ∈ putLs L a ∧ nmS z = nmS y ∧ cmpP y z ≤ 0 := by
  by_cases hm : y ∈ putLs L a
  · exact ⟨y, hm, rfl, by rw [cmp_self]; omega⟩
  · rw [put_top a h] at hm
    have hx : ∃ z, (z ∈ L ∨ z = a) ∧ nmS z = nmS y ∧ ¬ cmpP z y ≤ 0 := Classical.byContradiction fun hn => hm ⟨hy, fun z hz e => Classical.byContradiction fun hc => hn ⟨z, hz, e, hc⟩⟩
    obtain ⟨z, hz, ez, hc⟩ := hx
    refine ⟨z, (put_top a h z).2 ⟨hz, fun v hv ev => ?_⟩, ez, by have := good_cmpP.anti z y; omega⟩
    have hzy := good_cmpP.anti z y
    rcases hz with hz | rfl
    · rcases hy with hy | rfl
      · exact absurd (by rw [names_one h hz hy ez, cmp_self]; omega : cmpP z y ≤ 0) hc
      · rcases hv with hv | rfl
        · rw [names_one h hv hz ev, cmp_self]; omega
        · omega
    · rcases hy with hy | rfl
      · rcases hv with hv | rfl
        · rw [names_one h hv hy (ev.trans ez)]; omega
        · rw [cmp_self]; omega
      · exact absurd (by rw [cmp_self]; omega : cmpP y y ≤ 0) hc
theorem run_fold : ∀ (Y : List Sp) (L : List Sp) (cs : List Int), (Y.foldl stP (L, cs)).1 = Y.foldl putLs L
  | [], _, _ => rfl
  | a :: r, L, cs => run_fold r (putLs L a) (cs ++ [becI L a])
theorem run_eq (L Y : List Sp) : (runP L Y).1 = Y.foldl putLs L := run_fold Y L []
theorem fold_top : ∀ (Y : List Sp) {L : List Sp}, Names L → Names (Y.foldl putLs L) ∧ ∀ x, x ∈ Y.foldl putLs L ↔ Top (fun y => y ∈ L ∨ y ∈ Y) x
  | [], L, h => by
    refine ⟨h, fun x => ⟨fun hx => ⟨Or.inl hx, fun y hy e => ?_⟩, fun hx => ?_⟩⟩
    · rcases hy with hy | hy
      · rw [names_one h hy hx e, cmp_self]; omega
      · simp at hy
    · rcases hx.1 with hx | hx
      · exact hx
      · simp at hx
  | a :: r, L, h => by
    obtain ⟨h1, h2⟩ := fold_top r (put_names a h)
    refine ⟨h1, fun x => (h2 x).trans ⟨fun hx => ⟨?_, fun y hy e => ?_⟩, fun hx => ⟨?_, fun y hy e => ?_⟩⟩⟩
    · rcases hx.1 with hx | hx
      · rcases ((put_top a h x).1 hx).1 with hx | rfl
        · exact Or.inl hx
        · exact Or.inr (List.mem_cons_self ..)
      · exact Or.inr (List.mem_cons_of_mem _ hx)
    · have hc : (y ∈ L ∨ y = a) ∨ y ∈ r := by
        rcases hy with hy | hy
        · exact Or.inl (Or.inl hy)
        · rcases List.mem_cons.1 hy with rfl | hy
          · exact Or.inl (Or.inr rfl)
          · exact Or.inr hy
      rcases hc with hc | hc
      · obtain ⟨z, hz, ez, hle⟩ := put_dom a h y hc
        exact good_cmpP.trans y z x hle (hx.2 z (Or.inl hz) (ez.trans e))
      · exact hx.2 y (Or.inr hc) e
    · have hc : (x ∈ L ∨ x = a) ∨ x ∈ r := by
        rcases hx.1 with hy | hy
        · exact Or.inl (Or.inl hy)
        · rcases List.mem_cons.1 hy with rfl | hy
          · exact Or.inl (Or.inr rfl)
          · exact Or.inr hy
      rcases hc with hc | hc
      · refine Or.inl ((put_top a h x).2 ⟨hc, fun y hy e => hx.2 y ?_ e⟩)
        rcases hy with hy | rfl
        · exact Or.inl hy
        · exact Or.inr (List.mem_cons_self ..)
      · exact Or.inr hc
    · refine hx.2 y ?_ e
      rcases hy with hy | hy
      · rcases ((put_top a h y).1 hy).1 with hy | rfl
        · exact Or.inl hy
        · exact Or.inr (List.mem_cons_self ..)
      · exact Or.inr (List.mem_cons_of_mem _ hy)
/-- Rising by name, each name once. -/
def Rise (L : List Sp) : Prop := L.Pairwise (fun a b => cmpN a b < 0)
theorem cmpN_anti (a b : Sp) : cmpN b a = - cmpN a b := by
  have h1 := good_cmpI.anti a.hi b.hi
  have h2 := good_cmpI.anti a.lo b.lo
  have h3 := good_cmpI.anti a.id b.id
  simp only [cmpN, orL, orI_zero]
  simp only [orI]
  repeat' split
  all_goals omega
theorem rise_ext : ∀ {L K : List Sp}, Rise L → Rise K → (∀ x, x ∈ L ↔ x ∈ K) → L = K
  | [], [], _, _, _ => rfl
  | [], b :: _, _, _, h => by have := (h b).2 (List.mem_cons_self ..); simp at this
  | a :: _, [], _, _, h => by have := (h a).1 (List.mem_cons_self ..); simp at this
  | a :: l, b :: k, hL, hK, h => by
    obtain ⟨h1, h2⟩ := List.pairwise_cons.1 hL
    obtain ⟨k1, k2⟩ := List.pairwise_cons.1 hK
    have self : ∀ x : Sp, ¬ cmpN x x < 0 := fun x hx => by have := (cmpN_zero x x).2 ⟨rfl, rfl, rfl⟩; omega
    have e : a = b := by
      rcases List.mem_cons.1 ((h a).1 (List.mem_cons_self ..)) with e | ha
      · exact e
      · rcases List.mem_cons.1 ((h b).2 (List.mem_cons_self ..)) with e | hb
        · exact e.symm
        · have q1 := h1 b hb
          have q2 := k1 a ha
          have := cmpN_anti a b
          omega
    subst e
    rw [rise_ext h2 k2 (fun x => ⟨fun hx => ?_, fun hx => ?_⟩)]
    · rcases List.mem_cons.1 ((h x).1 (List.mem_cons_of_mem _ hx)) with rfl | hx'
      · exact absurd (h1 _ hx) (self _)
      · exact hx'
    · rcases List.mem_cons.1 ((h x).2 (List.mem_cons_of_mem _ hx)) with rfl | hx'
      · exact absurd (k1 _ hx) (self _)
      · exact hx'
/-- Any order, doubles, other cuts: the same rising list. -/
theorem fold_order {Y Z A B : List Sp} (hYZ : ∀ x, x ∈ Y ↔ x ∈ Z) (hA : Rise A) (hB : Rise B) (eA : ∀ x, x ∈ A ↔ x ∈ Y.foldl putLs []) (eB : ∀ x, x ∈ B ↔ x ∈ Z.foldl putLs []) : A = B := by
  refine rise_ext hA hB (fun x => ?_)
  rw [eA, eB, (fold_top Y (L := []) List.nodup_nil).2, (fold_top Z (L := []) List.nodup_nil).2]
  unfold Top
  simp only [hYZ]
end Go.Proofs.YtiflfapdffkcbaaGreatDoor

namespace Go.Proofs.YtiflfapdffkcbaaGreatDoor
set_option maxRecDepth 100000

theorem fold_dom : ∀ (Y : List Sp) {L : List Sp}, Names L → ∀ y, (y ∈ L ∨ y ∈ Y) → ∃ z, z ∈ Y.foldl putLs L ∧ nmS z = nmS y ∧ cmpP y z ≤ 0
  | [], L, _, y, hy => by
    rcases hy with hy | hy
    · exact ⟨y, hy, rfl, by rw [cmp_self]; omega⟩
    · simp at hy
  | a :: r, L, h, y, hy => by
    have hc : (y ∈ L ∨ y = a) ∨ y ∈ r := by
      rcases hy with hy | hy
      · exact Or.inl (Or.inl hy)
      · rcases List.mem_cons.1 hy with rfl | hy
        · exact Or.inl (Or.inr rfl)
        · exact Or.inr hy
    rcases hc with hc | hc
    · obtain ⟨z, hz, ez, hle⟩ := put_dom a h y hc
      obtain ⟨v, hv, ev, hle2⟩ := fold_dom r (put_names a h) z (Or.inl hz)
      exact ⟨v, hv, ev.trans ez, good_cmpP.trans y z v hle hle2⟩
    · exact fold_dom r (put_names a h) y (Or.inr hc)
theorem kept_again {L : List Sp} {a : Sp} (h : Names L) (hz : ∃ z, z ∈ L ∧ nmS z = nmS a ∧ cmpP a z ≤ 0) : becI L a = 2 ∧ putLs L a = L := by
  obtain ⟨z, hz, ez, hle⟩ := hz
  unfold becI putLs
  cases hf : findL L (nmS a) with
  | none => exact absurd ez (findL_none hf z hz)
  | some y =>
    obtain ⟨hy, ey⟩ := findL_some hf
    rw [names_one h hy hz (ey.trans ez.symm)]
    simp [hle]
theorem run_kept : ∀ (Y : List Sp) {L : List Sp} (cs : List Int), Names L → (∀ a ∈ Y, ∃ z, z ∈ L ∧ nmS z = nmS a ∧ cmpP a z ≤ 0) → Y.foldl stP (L, cs) = (L, cs ++ List.replicate Y.length 2)
  | [], _, cs, _, _ => by simp
  | a :: r, L, cs, h, hk => by
    obtain ⟨h1, h2⟩ := kept_again h (hk a (List.mem_cons_self ..))
    show r.foldl stP (putLs L a, cs ++ [becI L a]) = _
    rw [h1, h2, run_kept r (cs ++ [2]) h (fun x hx => hk x (List.mem_cons_of_mem _ hx))]
    simp [List.replicate_succ]
/-- The same list once more: all are kept, nothing changes. -/
theorem run_again {L Y : List Sp} (h : Names L) : runP (runP L Y).1 Y = ((runP L Y).1, List.replicate Y.length 2) := by
  rw [run_eq]
  have := run_kept Y [] (fold_top Y h).1 (fun a ha => fold_dom Y h a (Or.inr ha))
  simpa [runP] using this
theorem put_len (L : List Sp) (a : Sp) : (putLs L a).length = L.length + if becI L a = 0 then 1 else 0 := by
  unfold putLs becI
  cases findL L (nmS a) with
  | none => simp
  | some y =>
    by_cases hle : cmpP a y ≤ 0 <;> simp [hle]
/-- Each fresh one makes one more. -/
theorem run_count : ∀ (Y : List Sp) (L : List Sp) (cs : List Int), (Y.foldl stP (L, cs)).1.length + cs.countP (fun c => decide (c = 0)) = L.length + (Y.foldl stP (L, cs)).2.countP (fun c => decide (c = 0))
  | [], _, _ => rfl
  | a :: r, L, cs => by
    have ih := run_count r (putLs L a) (cs ++ [becI L a])
    rw [put_len, List.countP_append] at ih
    show (r.foldl stP (putLs L a, cs ++ [becI L a])).1.length + _ = _ + (r.foldl stP (putLs L a, cs ++ [becI L a])).2.countP _
    by_cases h0 : becI L a = 0
    · simp [h0] at ih ⊢
      omega
    · simp [h0] at ih ⊢
      omega
end Go.Proofs.YtiflfapdffkcbaaGreatDoor
