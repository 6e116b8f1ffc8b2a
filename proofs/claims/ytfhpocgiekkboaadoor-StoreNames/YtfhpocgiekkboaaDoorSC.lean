/-
  Layer 9 (store): put.
-/
import Derived.Test.YtfhpocgiekkboaaDoorSB
namespace Go.Proofs.YtfhpocgiekkboaaDoor
open Go.RowKit Go.Maps Go.WideMaps
set_option maxRecDepth 100000

set_option maxHeartbeats 1000000 in
theorem put_kept (s b : Nat) (M : Tc → Nat) (T : List Tc) (X : List It) (a : Sp) (p : Pl) (y : It) (w : World) (h : StoreAt w s b M T X) (ha : SpAt w a p) (hf : a.Fits) (hy : findX X (nmS a) = some y) (hle : cmpP a y.a ≤ 0) :
    Calls Tryd.prog 11 #[.pointer (some ⟨s, 0, none⟩), spV a p] w fun e w' => e = .returned (.int .i64 2) ∧ Below w.heap.size w w' := by
  have hya := (h.each y (find_mem hy).1).at
  have CM := fun W (hb : Below w.heap.size w W) => compare_any a y.a p y.p W (ha.below hb) (hya.below hb)
  have B1 : Below w.heap.size w ((w.alloc (.cells (spC a p) 39)).drew) := ((Below.refl _ _).alloc (Nat.le_refl _) _).drew
  have B2 : Below w.heap.size w (((w.alloc (.cells (spC a p) 39)).alloc (.cells zC 39)).drew) := (((Below.refl _ _).alloc (Nat.le_refl _) _).alloc (by simp) _).drew
  have hin := in_of_find h hy
  have LL : ∀ W, Below w.heap.size w W → (Instr.lookup 46 (.map (some b)) (tcV (nmS a).1) false).run Tryd.prog W = .ok (.map (some (M (nmS a).1))) W ∧ (Instr.lookup 52 (.map (some (M (nmS a).1))) (.int .u64 (nmS a).2) true).run Tryd.prog W = .ok (.tuple #[spV y.a y.p, .bool true]) W ∧ W.cell? ⟨s, 0, none⟩ = some (.map (some b)) := fun W hb => by
    have l1 := (h.below hb).nest.look Tryd.underlying46 (zT _) (nmS a).1 (nmS_ok hf).1
    have l2 := (h.below hb).nest.look2 Tryd.underlying52 (zS _) (nmS a).1 (nmS a).2 (nmS_ok hf).2
    rw [inV, if_pos hin] at l1 l2
    rw [show (((nmS a).1, (nmS a).2) : Nm) = nmS a from rfl, look_ent, hy] at l2
    exact ⟨l1, l2, blk_cell (h.below hb).block 0 rfl⟩
  obtain ⟨L1, L2, c1⟩ := LL _ B1
  obtain ⟨L3, L4, c2⟩ := LL _ B2
  have BX := heap_alloc_new w (.cells (spC a p) 39)
  have BY := (Below.heap_alloc (w.alloc (.cells (spC a p) 39)) (.cells zC 39) w.heap.size (by simp)).trans BX
  have bx0 := blk_cell BX 0 rfl
  have bx1 := blk_cell BX 1 rfl
  have bx2 := blk_cell BX 2 rfl
  have by0 := blk_cell BY 0 rfl
  have by1 := blk_cell BY 1 rfl
  have by2 := blk_cell BY 2 rfl
  clear LL B1 B2 BX BY
  clear h ha hya hf hy hin
  unfold tcV nmS at *
  unfold spV spC zC at *
  generalize M (a.hi, a.lo) = mb at *
  go_enter Tryd.func11, Tryd.ntmps11
  go_wp2
  go_region
  all_goals
    go_wp2_with (go_at_call 16; refine (CM _ (((Below.refl _ _).alloc (Nat.le_refl _) _).alloc (by simp) _).drew).mono ?_; rintro e w' ⟨rfl, hb⟩)
    go_ret
    exact ⟨rfl, ((((Below.refl _ _).alloc (Nat.le_refl _) _).alloc (by simp) _).drew).trans (hb.mono (by simp; omega))⟩
/-- Behind a span that was put in. -/
def PutIn (w : World) (s b : Nat) (M : Tc → Nat) (T : List Tc) (X : List It) (a : Sp) (w' : World) : Prop := ∃ (M' : Tc → Nat) (T' : List Tc) (z : It), StoreAt w' s b M' T' (setX X z) ∧ z.a = a ∧ Upd (FT s b M T) w w' ∧ (∀ k, FT s b M' T' k → FT s b M T k ∨ w.heap.size ≤ k) ∧ w.heap.size ≤ z.lo
set_option maxHeartbeats 2000000 in
theorem put_better (s b : Nat) (M : Tc → Nat) (T : List Tc) (X : List It) (a : Sp) (p : Pl) (y : It) (w : World) (h : StoreAt w s b M T X) (ha : SpAt w a p) (hf : a.Fits) (hsm : a.Small) (hck : chkS a = 0) (hll : a.links.length ≤ 1000) (hal : a.attrs.length ≤ 1000) (hel : a.events.length ≤ 1000) (hy : findX X (nmS a) = some y) (hle : ¬ cmpP a y.a ≤ 0) (hX : X.length < 1000000000000000) :
    Calls Tryd.prog 11 #[.pointer (some ⟨s, 0, none⟩), spV a p] w fun e w' => e = .returned (.int .i64 1) ∧ PutIn w s b M T X a w' := by
  have hya := (h.each y (find_mem hy).1).at
  have CM := fun W (hb : Below w.heap.size w W) => compare_any a y.a p y.p W (ha.below hb) (hya.below hb)
  have CL := fun W (hb : Below w.heap.size w W) => clone_any a p W (ha.below hb) hll hal hel
  have B1 : Below w.heap.size w ((w.alloc (.cells (spC a p) 39)).drew) := ((Below.refl _ _).alloc (Nat.le_refl _) _).drew
  have B2 : Below w.heap.size w (((w.alloc (.cells (spC a p) 39)).alloc (.cells zC 39)).drew) := (((Below.refl _ _).alloc (Nat.le_refl _) _).alloc (by simp) _).drew
  have hin := in_of_find h hy
  have LL : ∀ W, Below w.heap.size w W → (Instr.lookup 46 (.map (some b)) (tcV (nmS a).1) false).run Tryd.prog W = .ok (.map (some (M (nmS a).1))) W ∧ (Instr.lookup 52 (.map (some (M (nmS a).1))) (.int .u64 (nmS a).2) true).run Tryd.prog W = .ok (.tuple #[spV y.a y.p, .bool true]) W ∧ W.cell? ⟨s, 0, none⟩ = some (.map (some b)) := fun W hb => by
    have l1 := (h.below hb).nest.look Tryd.underlying46 (zT _) (nmS a).1 (nmS_ok hf).1
    have l2 := (h.below hb).nest.look2 Tryd.underlying52 (zS _) (nmS a).1 (nmS a).2 (nmS_ok hf).2
    rw [inV, if_pos hin] at l1 l2
    rw [show (((nmS a).1, (nmS a).2) : Nm) = nmS a from rfl, look_ent, hy] at l2
    exact ⟨l1, l2, blk_cell (h.below hb).block 0 rfl⟩
  obtain ⟨L1, L2, c1⟩ := LL _ B1
  obtain ⟨L3, L4, c2⟩ := LL _ B2
  have SET : ∀ (W w9 : World) (p' : Pl), Below w.heap.size w W → (∀ w5 : World, (∀ k, W.heap.size ≤ k → k < w9.heap.size → w5.heap[k]? = w9.heap[k]?) → SpAt w5 a p') → Below W.heap.size W w9 → w9.heap[w.heap.size]? = some (.cells (spC a p) 39 (0, 0)) → ∃ w10, (Instr.mapUpdate 52 (.map (some (M (nmS a).1))) (.int .u64 (nmS a).2) (spV a p')).run Tryd.prog w9 = .ok () w10 ∧ PutIn w s b M T X a w10 ∧ Boxed w10 w.heap.size a p ∧ w10.cell? ⟨s, 0, none⟩ = some (.map (some b)) ∧ (Instr.lookup 46 (.map (some b)) (tcV (nmS a).1) false).run Tryd.prog w10 = .ok (.map (some (M (nmS a).1))) w10 := by
    intro W w9 p' hbW hst hb9 hbx
    have hb : Below w.heap.size w w9 := hbW.trans (hb9.mono hbW.size)
    have h9 := h.below hb
    have hfl : ∀ k, FT s b M T k → k < W.heap.size := fun k hk => (h.below hbW).ft_lt hk
    obtain ⟨w10, hr, B, u, hs⟩ := body_set (s := s) h9.nest h9.each h9.apart h9.nodup ⟨a, p', W.heap.size, w9.heap.size⟩ (fun t ht => Or.inr (h9.full t ht)) ⟨Nat.le_refl _, hst, hf, hsm, hck⟩ (fun k hk hh => by have := hfl k hk; have := hh.1; simp at this; omega) hin (by unfold maxLen; omega) (by rw [set_len]; simp [hy]; exact h.tl)
    have hns : s ≠ M (nmS a).1 := fun e => (h9.nest.not h9.block).2 _ hin e.symm
    have hnb : w.heap.size ≠ M (nmS a).1 := fun e => (h9.nest.not hbx).2 _ hin e.symm
    have bl := (u.block s (lt_of_block h9.block) hns).trans h9.block
    have lk := B.nest.look Tryd.underlying46 (zT _) (nmS a).1 (nmS_ok hf).1
    rw [inV, if_pos hin] at lk
    refine ⟨w10, hr, ⟨M, T, _, ⟨B, ?_⟩, rfl, ?_, fun k hk => Or.inl hk, hbW.size⟩, boxed_of ((u.block _ (lt_of_block hbx) hnb).trans hbx), blk_cell bl 0 rfl, lk⟩
    · have hlen : (setX X ⟨a, p', W.heap.size, w9.heap.size⟩).length = X.length := by rw [set_len]; simp [hy]
      rw [hlen]
      exact bl
    · exact (Upd.ofBelow hb (fun k h1 h2 => by omega)).trans u (fun k _ e => Or.inr (Or.inr ⟨_, hin, e.symm⟩))
  have BX := heap_alloc_new w (.cells (spC a p) 39)
  have BY := (Below.heap_alloc (w.alloc (.cells (spC a p) 39)) (.cells zC 39) w.heap.size (by simp)).trans BX
  have bx0 := blk_cell BX 0 rfl
  have bx1 := blk_cell BX 1 rfl
  have bx2 := blk_cell BX 2 rfl
  have by0 := blk_cell BY 0 rfl
  have by1 := blk_cell BY 1 rfl
  have by2 := blk_cell BY 2 rfl
  have BO : ∀ W : World, Below (w.heap.size + 1) (w.alloc (.cells (spC a p) 39)) W → Boxed W w.heap.size a p ∧ W.heap[w.heap.size]? = some (.cells (spC a p) 39 (0, 0)) := fun W hb => ⟨boxed_of ((hb.block w.heap.size (by omega)).trans BX), (hb.block w.heap.size (by omega)).trans BX⟩
  have EQ := fun W => eqT (M (nmS a).1) W
  have HLL : Hid _ := LL
  have HSET : Hid _ := SET
  have HCL : Hid _ := CL
  have HBO : Hid _ := BO
  have BW : ∀ (o : Obj) (W : World), Below (((w.alloc (.cells (spC a p) 39)).alloc o).drew).heap.size (((w.alloc (.cells (spC a p) 39)).alloc o).drew) W → Below w.heap.size w W ∧ Below (w.heap.size + 1) (w.alloc (.cells (spC a p) 39)) W := fun o W hb => ⟨((((Below.refl _ _).alloc (Nat.le_refl _) _).alloc (by simp) _).drew).trans (hb.mono (by simp; omega)), (((Below.refl _ _).alloc (by simp) o).drew).trans (hb.mono (by simp))⟩
  have HBW : Hid _ := BW
  clear LL SET CL BO B1 B2 BX BY BW h ha hya hf hy hin hX hsm hck
  generalize PutIn w s b M T X a = R at *
  unfold tcV nmS at *
  unfold spV spC zC at *
  generalize M (a.hi, a.lo) = mb at *
  go_enter Tryd.func11, Tryd.ntmps11
  go_wp2
  go_region
  all_goals
    go_wp2_with (go_at_call 16; refine (CM _ (((Below.refl _ _).alloc (Nat.le_refl _) _).alloc (by simp) _).drew).mono ?_; rintro e w5 ⟨rfl, hb5⟩; obtain ⟨z1, z2⟩ := HBW.out _ _ hb5; obtain ⟨m1, m2, m3⟩ := HLL.out _ z1.drew; have bo := (HBO.out _ z2).1)
    obtain ⟨d0, d1, d2, d3, d4, d5, d6, d7, d8, d9, d10, d11, d12⟩ := bo
    go_region
    go_wp2
    obtain ⟨n1, _, n3⟩ := HLL.out _ z1.drew.drew
    have n2 := (HBO.out _ z2.drew.drew).1
    have HZ1 : Hid _ := z1
    have HZ2 : Hid _ := z2
    have HZ3 : Hid (w.heap.size + 1 ≤ w5.heap.size) := by have := z2.size; rw [World.size_alloc] at this; exact this
    clear m1 m2 m3 L1 L2 L3 L4 c1 c2 bx0 bx1 bx2 by0 by1 by2 d0 d1 d2 d3 d4 d5 d6 d7 d8 d9 d10 d11 d12 hb5 z1 z2 CM
    go_region_held3 (fun W => W.cell? ⟨s, 0, none⟩ = some (.map (some b)) ∧ W.cell? ⟨w.heap.size, 0, none⟩ = some (.int .u64 a.hi) ∧ W.cell? ⟨w.heap.size, 1, none⟩ = some (.int .u64 a.lo) ∧ W.cell? ⟨w.heap.size, 2, none⟩ = some (.int .u64 a.id) ∧ W.cell? ⟨w.heap.size, 3, none⟩ = some (.int .u64 a.par) ∧ W.cell? ⟨w.heap.size, 4, none⟩ = some (.slice p.la a.links.length p.lc) ∧ W.cell? ⟨w.heap.size, 5, none⟩ = some (.string a.svc) ∧ W.cell? ⟨w.heap.size, 6, none⟩ = some (.string a.op) ∧ W.cell? ⟨w.heap.size, 7, none⟩ = some (.int .i64 a.kind) ∧ W.cell? ⟨w.heap.size, 8, none⟩ = some (.int .i64 a.status) ∧ W.cell? ⟨w.heap.size, 9, none⟩ = some (.int .i64 a.start) ∧ W.cell? ⟨w.heap.size, 10, none⟩ = some (.int .i64 a.fin) ∧ W.cell? ⟨w.heap.size, 11, none⟩ = some (.slice p.aa a.attrs.length p.ac) ∧ W.cell? ⟨w.heap.size, 12, none⟩ = some (.slice p.ea a.events.length p.ec) ∧ (Instr.lookup 46 (.map (some b)) (.agg #[.int .u64 a.hi, .int .u64 a.lo]) false).run Tryd.prog W = .ok (.map (some mb)) W)
      (first | exact ⟨n3, n2.c0, n2.c1, n2.c2, n2.c3, n2.c4, n2.c5, n2.c6, n2.c7, n2.c8, n2.c9, n2.c10, n2.c11, n2.c12, n1⟩ | exact ⟨o3, o2.c0, o2.c1, o2.c2, o2.c3, o2.c4, o2.c5, o2.c6, o2.c7, o2.c8, o2.c9, o2.c10, o2.c11, o2.c12, o1⟩ | exact ⟨r3, r2.c0, r2.c1, r2.c2, r2.c3, r2.c4, r2.c5, r2.c6, r2.c7, r2.c8, r2.c9, r2.c10, r2.c11, r2.c12, r1⟩)
      (first | (go_at_call 12; refine (HCL.out _ HZ1.out.drew.drew).mono ?_; rintro e w9 ⟨p', rfl, hst, hb9⟩; obtain ⟨o2, o4⟩ := HBO.out _ (HZ2.out.drew.drew.trans (hb9.mono HZ3.out)); obtain ⟨w10, hrun, hR, r2, r3, r1⟩ := HSET.out _ w9 p' HZ1.out.drew.drew hst hb9 o4; obtain ⟨o1, _, o3⟩ := HLL.out _ (HZ1.out.drew.drew.trans (hb9.mono HZ1.out.size))))
    all_goals
      go_wp2
      go_ret
      exact ⟨rfl, hR⟩
end Go.Proofs.YtfhpocgiekkboaaDoor
