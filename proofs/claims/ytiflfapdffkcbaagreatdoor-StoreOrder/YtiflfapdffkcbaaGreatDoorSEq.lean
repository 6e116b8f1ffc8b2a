/-
  Merged: SE, SF.
-/
import Derived.Test.YtiflfapdffkcbaaGreatDoorSCq
namespace Go.Proofs.YtiflfapdffkcbaaGreatDoor
open Go.RowKit Go.Maps Go.WideMaps
set_option maxRecDepth 100000

/-- A store on the way: there is a map for the trace. -/
structure Mid (w V : World) (s b : Nat) (M : Tc → Nat) (T : List Tc) (X : List It) (M' : Tc → Nat) (T' : List Tc) (t : Tc) : Prop where
  upd : Upd (fun k => k = b) w V
  nest : Nest V b M' T' (entE X)
  hin : t ∈ T'
  ft : ∀ k, FT s b M' T' k → FT s b M T k ∨ w.heap.size ≤ k
  full : ∀ x, x ∈ T' → x = t ∨ ∃ y, y ∈ X ∧ (nmS y.a).1 = x
  tl : T'.length ≤ X.length + 1
theorem fresh_set {w V : World} {s b : Nat} {M M' : Tc → Nat} {T T' : List Tc} {X : List It} {a : Sp} (h : StoreAt w s b M T X) (hm : Mid w V s b M T X M' T' (nmS a).1) (hf : a.Fits) (hsm : a.Small) (hck : chkS a = 0) (hy : findX X (nmS a) = none) (hX : X.length < 1000000000000000)
    (W w9 : World) (p' : Pl) (hbW : Below V.heap.size V W) (hst : ∀ w5 : World, (∀ k, W.heap.size ≤ k → k < w9.heap.size → w5.heap[k]? = w9.heap[k]?) → SpAt w5 a p') (hb9 : Below W.heap.size W w9) (g : Nat) (p : Pl) (hbx : w9.heap[g]? = some (.cells (spC a p) 41 (0, 0))) :
    ∃ w10, (Instr.mapUpdate 61 (.map (some (M' (nmS a).1))) (.int .u64 (nmS a).2) (spV a p')).run Tryz.prog w9 = .ok () w10 ∧ PutIn w s b M T X a (w10.setCell ⟨s, 1, none⟩ (.int .i64 ((X.length : Int) + 1))) ∧ Boxed w10 g a p ∧ w10.cell? ⟨s, 0, none⟩ = some (.map (some b)) ∧ w10.cell? ⟨s, 1, none⟩ = some (.int .i64 (X.length : Int)) ∧ w10.frozen? ⟨s, 1, none⟩ = false ∧ (Instr.lookup 53 (.map (some b)) (tcV (nmS a).1) false).run Tryz.prog w10 = .ok (.map (some (M' (nmS a).1))) w10 := by
  have hb : Below V.heap.size V w9 := hbW.trans (hb9.mono hbW.size)
  have uV : Upd (fun k => k = b) w w9 := hm.upd.trans (S' := fun _ => False) (Upd.ofBelow hb (fun k h1 h2 => by omega)) (fun _ _ h => h.elim)
  have hbs : b ≠ s := (h.nest.not h.block).1
  have b9 : w9.heap[s]? = _ := (uV.block s (lt_of_block h.block) (fun e => hbs e.symm)).trans h.block
  have n9 : Nest w9 b M' T' (entE X) := hm.nest.upd (S := fun _ => False) (Upd.ofBelow hb (fun k h1 h2 => by omega)) (fun h => h) (fun _ _ h => h)
  have e9 : ∀ x, x ∈ X → ItOk w9 x := fun x hx => (h.each x hx).upd uV (fun k h1 h2 e => h.apart x hx k (Or.inr (Or.inl e)) ⟨h1, h2⟩)
  have a9 : ∀ x, x ∈ X → ∀ k, FT s b M' T' k → ¬ (x.lo ≤ k ∧ k < x.hi) := fun x hx k hk hh => by
    rcases hm.ft k hk with hk | hk
    · exact h.apart x hx k hk hh
    · have := (h.each x hx).le
      omega
  have hfl : ∀ k, FT s b M' T' k → k < W.heap.size := fun k hk => by
    have hV := hbW.size
    rcases hk with rfl | rfl | ⟨t, ht, rfl⟩
    · have := lt_of_block h.block
      have := hm.upd.size
      omega
    · have := hm.nest.lt.1
      omega
    · have := hm.nest.lt.2 t ht
      omega
  obtain ⟨w10, hr, B, u, hs⟩ := body_set (s := s) n9 e9 a9 h.nodup ⟨a, p', W.heap.size, w9.heap.size⟩ hm.full ⟨Nat.le_refl _, hst, hf, hsm, hck⟩ (fun k hk hh => by have := hfl k hk; have := hh.1; simp at this; omega) hm.hin (by unfold maxLen; omega) (by rw [set_len]; simp [hy]; exact hm.tl)
  have hns : ∀ t, t ∈ T' → M' t ≠ s := (n9.not b9).2
  have hnb : g ≠ M' (nmS a).1 := fun e => (n9.not hbx).2 _ hm.hin e.symm
  have bl := (u.block s (lt_of_block b9) (fun e => hns _ hm.hin e.symm)).trans b9
  have lk := B.nest.look Tryz.underlying53 (zT _) (nmS a).1 (nmS_ok hf).1
  rw [inV, if_pos hm.hin] at lk
  have us : Upd (fun k => k = s) w10 (w10.setCell ⟨s, 1, none⟩ (.int .i64 ((X.length : Int) + 1))) := (Upd.refl (fun k => k = s) w10).setCell (p := ⟨s, 1, none⟩) (fun _ => rfl) _
  refine ⟨w10, hr, ⟨M', T', _, ⟨B.upd us (fun k hk _ e => hk e) hns hbs (fun x hx k h1 h2 e => B.apart x hx k (Or.inl e) ⟨h1, h2⟩), ?_⟩, rfl, ?_, hm.ft, Nat.le_trans hm.upd.size hbW.size⟩, boxed_of ((u.block _ (lt_of_block hbx) hnb).trans hbx), blk_cell bl 0 rfl, blk_cell bl 1 rfl, blk_free bl 1, lk⟩
  · have hlen : (setX X ⟨a, p', W.heap.size, w9.heap.size⟩).length = X.length + 1 := by rw [set_len]; simp [hy]
    rw [hlen]
    have k5 := set_block bl 1 (.int .i64 ((X.length : Int) + 1))
    simpa using k5
  · refine ((uV.mono (fun k _ e => Or.inr (Or.inl e))).trans u (fun k hk e => ?_)).trans us (fun k _ e => Or.inl e)
    rcases hm.ft k (Or.inr (Or.inr ⟨_, hm.hin, e.symm⟩)) with hk' | hk'
    · exact hk'
    · omega
/-- A span's lists stay where a map is written. -/
theorem spAt_map {w W : World} {s b : Nat} {M : Tc → Nat} {T : List Tc} {X : List It} {a : Sp} {p : Pl} (ha : SpAt w a p) (h : StoreAt w s b M T X) (hu : Upd (fun k => k = b) w W) : SpAt W a p := by
  obtain ⟨D, d1, _⟩ := h.nest.outer
  have hc : ∀ (x : Addr) (u : Value), w.cell? x = some u → W.cell? x = some u := fun x u hx => by
    have hl := World.block_lt_of_cell? w x hx
    have hne : x.block ≠ b := by
      rintro rfl
      obtain ⟨es, ck, hb, _⟩ := d1
      unfold World.cell? at hx
      rw [hb] at hx
      simp at hx
    exact (World.cell?_of_block (hu.block _ hl hne)).trans hx
  refine ⟨⟨ha.links.len, fun j u hj => ?_⟩, ?_, ?_, ha.sl, ha.sa, ha.se⟩
  · obtain ⟨x, hx, hcx⟩ := ha.links.cells j u hj
    exact ⟨x, hx, hc _ _ hcx⟩
  · refine ⟨ha.attrs.len, fun hp => ?_⟩
    obtain ⟨b', off, ha', hcc⟩ := ha.attrs.lies hp
    exact ⟨b', off, ha', fun i hi => ⟨hc _ _ (hcc i hi).1, hc _ _ (hcc i hi).2.1, hc _ _ (hcc i hi).2.2.1, hc _ _ (hcc i hi).2.2.2⟩⟩
  · refine ⟨ha.events.len, fun hp => ?_⟩
    obtain ⟨b', off, ha', hcc⟩ := ha.events.lies hp
    exact ⟨b', off, ha', fun i hi => ⟨hc _ _ (hcc i hi).1, hc _ _ (hcc i hi).2⟩⟩
set_option maxHeartbeats 2000000 in
theorem put_in (s b : Nat) (M : Tc → Nat) (T : List Tc) (X : List It) (a : Sp) (p : Pl) (w : World) (h : StoreAt w s b M T X) (ha : SpAt w a p) (hf : a.Fits) (hsm : a.Small) (hck : chkS a = 0) (hll : a.links.length ≤ 1000) (hal : a.attrs.length ≤ 1000) (hel : a.events.length ≤ 1000) (hy : findX X (nmS a) = none) (hX : X.length < 1000000000000000) (hin : (nmS a).1 ∈ T) :
    Calls Tryz.prog 18 #[.pointer (some ⟨s, 0, none⟩), spV a p] w fun e w' => e = .returned (.int .i64 0) ∧ PutIn w s b M T X a w' := by
  have CL := fun W (hb : Upd (fun k => k = b) w W) => clone_any a p W (spAt_map ha h hb) hll hal hel
  have B1 : Below w.heap.size w ((w.alloc (.cells (spC a p) 41)).drew) := ((Below.refl _ _).alloc (Nat.le_refl _) _).drew
  have B2 : Below w.heap.size w (((w.alloc (.cells (spC a p) 41)).alloc (.cells zC 41)).drew) := (((Below.refl _ _).alloc (Nat.le_refl _) _).alloc (by simp) _).drew
  have LL : ∀ W, Below w.heap.size w W → (Instr.lookup 53 (.map (some b)) (tcV (nmS a).1) false).run Tryz.prog W = .ok (.map (some (M (nmS a).1))) W ∧ (Instr.lookup 61 (.map (some (M (nmS a).1))) (.int .u64 (nmS a).2) true).run Tryz.prog W = .ok (.tuple #[zSp, .bool false]) W ∧ W.cell? ⟨s, 0, none⟩ = some (.map (some b)) := fun W hb => by
    have l1 := (h.below hb).nest.look Tryz.underlying53 (zT _) (nmS a).1 (nmS_ok hf).1
    have l2 := (h.below hb).nest.look2 Tryz.underlying61 (zS _) (nmS a).1 (nmS a).2 (nmS_ok hf).2
    rw [inV, if_pos hin] at l1 l2
    rw [show (((nmS a).1, (nmS a).2) : Nm) = nmS a from rfl, look_ent, hy] at l2
    exact ⟨l1, l2, blk_cell (h.below hb).block 0 rfl⟩
  obtain ⟨L1, L2, c1⟩ := LL _ B1
  obtain ⟨L3, L4, c2⟩ := LL _ B2
  obtain ⟨L5, _, c3⟩ := LL _ B2.drew
  have BX := heap_alloc_new w (.cells (spC a p) 41)
  have BY := (Below.heap_alloc (w.alloc (.cells (spC a p) 41)) (.cells zC 41) w.heap.size (by simp)).trans BX
  have bx0 := blk_cell BX 0 rfl
  have bx1 := blk_cell BX 1 rfl
  have bx2 := blk_cell BX 2 rfl
  have by0 := blk_cell BY 0 rfl
  have by1 := blk_cell BY 1 rfl
  have by2 := blk_cell BY 2 rfl
  have MD : Mid w (((w.alloc (.cells (spC a p) 41)).alloc (.cells zC 41)).drew.drew) s b M T X M T (nmS a).1 := ⟨Upd.ofBelow B2.drew (fun k h1 h2 => by omega), (h.below B2.drew).nest, hin, fun k hk => Or.inl hk, fun x hx => Or.inr (h.full x hx), Nat.le_succ_of_le h.tl⟩
  have BV : (((w.alloc (.cells (spC a p) 41)).alloc (.cells zC 41)).drew.drew).heap[w.heap.size]? = some (.cells (spC a p) 41 (0, 0)) := BY
  obtain ⟨V, hV⟩ : ∃ V, ((w.alloc (.cells (spC a p) 41)).alloc (.cells zC 41)).drew.drew = V := ⟨_, rfl⟩
  rw [hV] at MD BV
  obtain ⟨M', hM'⟩ : ∃ M', M = M' := ⟨_, rfl⟩
  obtain ⟨T', hT'⟩ : ∃ T', T = T' := ⟨_, rfl⟩
  have MD' : Mid w V s b M T X M' T' (nmS a).1 := by rw [← hM', ← hT']; exact MD
  have SET := fun W w9 p' h1 h2 h3 g q h4 => fresh_set h MD' hf hsm hck hy hX W w9 p' h1 h2 h3 g q h4
  have VV : ∀ W, Below V.heap.size V W → Upd (fun k => k = b) w W ∧ Boxed W w.heap.size a p ∧ W.heap[w.heap.size]? = some (.cells (spC a p) 41 (0, 0)) ∧ W.cell? ⟨s, 0, none⟩ = some (.map (some b)) ∧ (Instr.lookup 53 (.map (some b)) (tcV (nmS a).1) false).run Tryz.prog W = .ok (.map (some (M' (nmS a).1))) W := by
    intro W hb
    have uW : Upd (fun k => k = b) w W := MD'.upd.trans (S' := fun _ => False) (Upd.ofBelow hb (fun k h1 h2 => by omega)) (fun _ _ h => h.elim)
    have hbs : b ≠ s := (h.nest.not h.block).1
    have bW := (hb.block _ (lt_of_block BV)).trans BV
    have lk := (MD'.nest.upd (S := fun _ => False) (Upd.ofBelow hb (fun k h1 h2 => by omega)) (fun h => h) (fun _ _ h => h)).look Tryz.underlying53 (zT _) (nmS a).1 (nmS_ok hf).1
    rw [inV, if_pos MD'.hin] at lk
    exact ⟨uW, boxed_of bW, bW, blk_cell ((uW.block s (lt_of_block h.block) (fun e => hbs e.symm)).trans h.block) 0 rfl, lk⟩
  have EQ := fun W => eqT (M (nmS a).1) W
  have EQ0 := eqT0
  have HSET : Hid _ := SET
  have HCL : Hid _ := CL
  have HVV : Hid _ := VV
  have hxl : (X.length : Int) < 1000000000000000 := by omega
  obtain ⟨m1, m2, m3, m4, m5⟩ := VV _ (Below.refl _ V).drew
  clear LL SET CL VV B1 B2 BX BY BV MD' h ha hf hy hX hsm hck
  clear MD hin EQ0
  generalize PutIn w s b M T X a = R at *
  unfold tcV nmS at *
  unfold zSp spV spC zC at *
  generalize M (a.hi, a.lo) = mm at *
  generalize M' (a.hi, a.lo) = mb at *
  have HV : Hid _ := hV
  clear hV
  go_enter Tryz.func18, Tryz.ntmps18
  go_wp2
  go_region
  all_goals
    go_wp2
    go_region
    go_wp2
    rw [HV.out]
    clear L1 L2 L3 L4 L5 c1 c2 c3 bx0 bx1 bx2 by0 by1 by2
    go_region_held3 (fun W => W.cell? ⟨s, 0, none⟩ = some (.map (some b)) ∧ W.cell? ⟨w.heap.size, 0, none⟩ = some (.int .u64 a.hi) ∧ W.cell? ⟨w.heap.size, 1, none⟩ = some (.int .u64 a.lo) ∧ W.cell? ⟨w.heap.size, 2, none⟩ = some (.int .u64 a.id) ∧ W.cell? ⟨w.heap.size, 3, none⟩ = some (.int .u64 a.par) ∧ W.cell? ⟨w.heap.size, 4, none⟩ = some (.slice p.la a.links.length p.lc) ∧ W.cell? ⟨w.heap.size, 5, none⟩ = some (.string a.svc) ∧ W.cell? ⟨w.heap.size, 6, none⟩ = some (.string a.op) ∧ W.cell? ⟨w.heap.size, 7, none⟩ = some (.int .i64 a.kind) ∧ W.cell? ⟨w.heap.size, 8, none⟩ = some (.int .i64 a.status) ∧ W.cell? ⟨w.heap.size, 9, none⟩ = some (.int .i64 a.start) ∧ W.cell? ⟨w.heap.size, 10, none⟩ = some (.int .i64 a.fin) ∧ W.cell? ⟨w.heap.size, 11, none⟩ = some (.slice p.aa a.attrs.length p.ac) ∧ W.cell? ⟨w.heap.size, 12, none⟩ = some (.slice p.ea a.events.length p.ec) ∧ (Instr.lookup 53 (.map (some b)) (.agg #[.int .u64 a.hi, .int .u64 a.lo]) false).run Tryz.prog W = .ok (.map (some mb)) W)
      (first | exact ⟨m4, m2.c0, m2.c1, m2.c2, m2.c3, m2.c4, m2.c5, m2.c6, m2.c7, m2.c8, m2.c9, m2.c10, m2.c11, m2.c12, m5⟩ | exact ⟨o4, o2.c0, o2.c1, o2.c2, o2.c3, o2.c4, o2.c5, o2.c6, o2.c7, o2.c8, o2.c9, o2.c10, o2.c11, o2.c12, o5⟩ | exact ⟨r3, r2.c0, r2.c1, r2.c2, r2.c3, r2.c4, r2.c5, r2.c6, r2.c7, r2.c8, r2.c9, r2.c10, r2.c11, r2.c12, r1⟩)
      (first | (go_at_call 20; refine (HCL.out _ m1).mono ?_; rintro e w9 ⟨p', rfl, hst, hb9⟩; obtain ⟨o1, o2, o3, o4, o5⟩ := HVV.out w9 ((Below.refl _ V).drew.trans hb9); obtain ⟨w10, hrun, hR, r2, r3, r4, r5, r1⟩ := HSET.out _ w9 p' ((Below.refl _ V).drew) hst hb9 w.heap.size p o3))
    all_goals
      go_wp2
      go_ret
      exact ⟨rfl, hR⟩
set_option maxHeartbeats 2000000 in
theorem put_out (s b : Nat) (M : Tc → Nat) (T : List Tc) (X : List It) (a : Sp) (p : Pl) (w : World) (h : StoreAt w s b M T X) (ha : SpAt w a p) (hf : a.Fits) (hsm : a.Small) (hck : chkS a = 0) (hll : a.links.length ≤ 1000) (hal : a.attrs.length ≤ 1000) (hel : a.events.length ≤ 1000) (hy : findX X (nmS a) = none) (hX : X.length < 1000000000000000) (hno : (nmS a).1 ∉ T) :
    Calls Tryz.prog 18 #[.pointer (some ⟨s, 0, none⟩), spV a p] w fun e w' => e = .returned (.int .i64 0) ∧ PutIn w s b M T X a w' := by
  have CL := fun W (hb : Upd (fun k => k = b) w W) => clone_any a p W (spAt_map ha h hb) hll hal hel
  have B1 : Below w.heap.size w ((w.alloc (.cells (spC a p) 41)).drew) := ((Below.refl _ _).alloc (Nat.le_refl _) _).drew
  have B2 : Below w.heap.size w (((w.alloc (.cells (spC a p) 41)).alloc (.cells zC 41)).drew) := (((Below.refl _ _).alloc (Nat.le_refl _) _).alloc (by simp) _).drew
  have LL : ∀ W, Below w.heap.size w W → (Instr.lookup 53 (.map (some b)) (tcV (nmS a).1) false).run Tryz.prog W = .ok (.map none) W ∧ (Instr.lookup 61 (.map none) (.int .u64 (nmS a).2) true).run Tryz.prog W = .ok (.tuple #[zSp, .bool false]) W ∧ W.cell? ⟨s, 0, none⟩ = some (.map (some b)) := fun W hb => by
    have l1 := (h.below hb).nest.look Tryz.underlying53 (zT _) (nmS a).1 (nmS_ok hf).1
    have l2 := (h.below hb).nest.look2 Tryz.underlying61 (zS _) (nmS a).1 (nmS a).2 (nmS_ok hf).2
    rw [inV, if_neg hno] at l1 l2
    rw [show (((nmS a).1, (nmS a).2) : Nm) = nmS a from rfl, look_ent, hy] at l2
    exact ⟨l1, l2, blk_cell (h.below hb).block 0 rfl⟩
  obtain ⟨L1, L2, c1⟩ := LL _ B1
  obtain ⟨L3, L4, c2⟩ := LL _ B2
  obtain ⟨L5, _, c3⟩ := LL _ B2.drew
  have BX := heap_alloc_new w (.cells (spC a p) 41)
  have BY := (Below.heap_alloc (w.alloc (.cells (spC a p) 41)) (.cells zC 41) w.heap.size (by simp)).trans BX
  have bx0 := blk_cell BX 0 rfl
  have bx1 := blk_cell BX 1 rfl
  have bx2 := blk_cell BX 2 rfl
  have by0 := blk_cell BY 0 rfl
  have by1 := blk_cell BY 1 rfl
  have by2 := blk_cell BY 2 rfl
  obtain ⟨V, hmk, NV, UV, sV⟩ := (h.below B2.drew).nest.add Tryz.underlying53 (nmS a).1 (nmS_ok hf).1 hno (by have := h.tl; unfold maxLen; omega)
  have sz2 : (((w.alloc (.cells (spC a p) 41)).alloc (.cells zC 41)).drew.drew).heap.size = w.heap.size + 2 := by
    show ((w.alloc (.cells (spC a p) 41)).alloc (.cells zC 41)).heap.size = w.heap.size + 2
    rw [World.size_alloc, World.size_alloc]
  have hmk' : (Instr.mapUpdate 53 (.map (some b)) (tcV (nmS a).1) (.map (some (w.heap.size + 2)))).run Tryz.prog ((((w.alloc (.cells (spC a p) 41)).alloc (.cells zC 41)).alloc (.map #[] 0)).drew.drew.drew) = .ok () V := by
    rw [sz2] at hmk
    exact hmk
  have UW : Upd (fun k => k = b) w V := (Upd.ofBelow (S := fun k => k = b) B2.drew (fun k h1 h2 => by omega)).trans UV (fun _ _ h => h)
  have BV : V.heap[w.heap.size]? = some (.cells (spC a p) 41 (0, 0)) := by
    have hne : w.heap.size ≠ b := by have := h.nest.lt.1; omega
    exact (UV.block w.heap.size (by rw [sz2]; omega) hne).trans BY
  obtain ⟨c4, c5, c6, c7⟩ : (((w.alloc (.cells (spC a p) 41)).alloc (.cells zC 41)).alloc (.map #[] 0)).cell? ⟨s, 0, none⟩ = some (.map (some b)) ∧ (((w.alloc (.cells (spC a p) 41)).alloc (.cells zC 41)).alloc (.map #[] 0)).cell? ⟨w.heap.size, 0, none⟩ = some (.int .u64 a.hi) ∧ (((w.alloc (.cells (spC a p) 41)).alloc (.cells zC 41)).alloc (.map #[] 0)).cell? ⟨w.heap.size, 1, none⟩ = some (.int .u64 a.lo) ∧ (((w.alloc (.cells (spC a p) 41)).alloc (.cells zC 41)).alloc (.map #[] 0)).heap.size = w.heap.size + 3 := by
    have q := (Below.heap_alloc ((w.alloc (.cells (spC a p) 41)).alloc (.cells zC 41)) (.map #[] 0) w.heap.size (by rw [World.size_alloc, World.size_alloc]; omega)).trans BY
    have q2 := (Below.heap_alloc ((w.alloc (.cells (spC a p) 41)).alloc (.cells zC 41)) (.map #[] 0) s (by have := lt_of_block h.block; simp; omega)).trans (h.below B2).block
    exact ⟨blk_cell q2 0 rfl, blk_cell q 0 rfl, blk_cell q 1 rfl, by simp⟩
  obtain ⟨M', hM'⟩ : ∃ M' : Tc → Nat, (fun x => if x = (nmS a).1 then (((w.alloc (.cells (spC a p) 41)).alloc (.cells zC 41)).drew.drew).heap.size else M x) = M' := ⟨_, rfl⟩
  obtain ⟨T', hT'⟩ : ∃ T', T ++ [(nmS a).1] = T' := ⟨_, rfl⟩
  have MD' : Mid w V s b M T X M' T' (nmS a).1 := by
    rw [← hM', ← hT']
    refine ⟨UW, NV, by simp, fun k hk => ?_, fun x hx => ?_, by simpa using h.tl⟩
    · rcases hk with hk | hk | ⟨t, ht, hk⟩
      · exact Or.inl (Or.inl hk)
      · exact Or.inl (Or.inr (Or.inl hk))
      · by_cases e : t = (nmS a).1
        · subst e
          simp only [if_true] at hk
          rw [sz2] at hk
          exact Or.inr (by omega)
        · simp only [if_neg e] at hk
          exact Or.inl (Or.inr (Or.inr ⟨t, by simpa [e] using ht, hk⟩))
    · by_cases e : x = (nmS a).1
      · exact Or.inl e
      · exact Or.inr (h.full x (by simpa [e] using hx))
  have SET := fun W w9 p' h1 h2 h3 g q h4 => fresh_set h MD' hf hsm hck hy hX W w9 p' h1 h2 h3 g q h4
  have VV : ∀ W, Below V.heap.size V W → Upd (fun k => k = b) w W ∧ Boxed W w.heap.size a p ∧ W.heap[w.heap.size]? = some (.cells (spC a p) 41 (0, 0)) ∧ W.cell? ⟨s, 0, none⟩ = some (.map (some b)) ∧ (Instr.lookup 53 (.map (some b)) (tcV (nmS a).1) false).run Tryz.prog W = .ok (.map (some (M' (nmS a).1))) W := by
    intro W hb
    have uW : Upd (fun k => k = b) w W := MD'.upd.trans (S' := fun _ => False) (Upd.ofBelow hb (fun k h1 h2 => by omega)) (fun _ _ h => h.elim)
    have hbs : b ≠ s := (h.nest.not h.block).1
    have bW := (hb.block _ (lt_of_block BV)).trans BV
    have lk := (MD'.nest.upd (S := fun _ => False) (Upd.ofBelow hb (fun k h1 h2 => by omega)) (fun h => h) (fun _ _ h => h)).look Tryz.underlying53 (zT _) (nmS a).1 (nmS_ok hf).1
    rw [inV, if_pos MD'.hin] at lk
    exact ⟨uW, boxed_of bW, bW, blk_cell ((uW.block s (lt_of_block h.block) (fun e => hbs e.symm)).trans h.block) 0 rfl, lk⟩
  have EQ := fun W => eqT (M (nmS a).1) W
  have EQ0 := eqT0
  have HSET : Hid _ := SET
  have HCL : Hid _ := CL
  have HVV : Hid _ := VV
  have hxl : (X.length : Int) < 1000000000000000 := by omega
  obtain ⟨m1, m2, m3, m4, m5⟩ := VV _ (Below.refl _ V).drew
  clear LL SET CL VV B1 B2 BX BY BV MD' h ha hf hy hX hsm hck
  clear hno hmk NV UV sV sz2 UW EQ
  generalize PutIn w s b M T X a = R at *
  unfold tcV nmS at *
  unfold zSp spV spC zC at *
  generalize M' (a.hi, a.lo) = mb at *
  have hmm := @run_makeMap Tryz.prog
  go_enter Tryz.func18, Tryz.ntmps18
  go_wp2
  go_region
  all_goals
    go_wp2
    go_region
    go_wp2
    go_region
    all_goals
      go_wp2
    clear L1 L2 L3 L4 L5 c1 c2 c3 bx0 bx1 bx2 by0 by1 by2 c4 c5 c6 c7 hmk'
    go_region_held3 (fun W => W.cell? ⟨s, 0, none⟩ = some (.map (some b)) ∧ W.cell? ⟨w.heap.size, 0, none⟩ = some (.int .u64 a.hi) ∧ W.cell? ⟨w.heap.size, 1, none⟩ = some (.int .u64 a.lo) ∧ W.cell? ⟨w.heap.size, 2, none⟩ = some (.int .u64 a.id) ∧ W.cell? ⟨w.heap.size, 3, none⟩ = some (.int .u64 a.par) ∧ W.cell? ⟨w.heap.size, 4, none⟩ = some (.slice p.la a.links.length p.lc) ∧ W.cell? ⟨w.heap.size, 5, none⟩ = some (.string a.svc) ∧ W.cell? ⟨w.heap.size, 6, none⟩ = some (.string a.op) ∧ W.cell? ⟨w.heap.size, 7, none⟩ = some (.int .i64 a.kind) ∧ W.cell? ⟨w.heap.size, 8, none⟩ = some (.int .i64 a.status) ∧ W.cell? ⟨w.heap.size, 9, none⟩ = some (.int .i64 a.start) ∧ W.cell? ⟨w.heap.size, 10, none⟩ = some (.int .i64 a.fin) ∧ W.cell? ⟨w.heap.size, 11, none⟩ = some (.slice p.aa a.attrs.length p.ac) ∧ W.cell? ⟨w.heap.size, 12, none⟩ = some (.slice p.ea a.events.length p.ec) ∧ (Instr.lookup 53 (.map (some b)) (.agg #[.int .u64 a.hi, .int .u64 a.lo]) false).run Tryz.prog W = .ok (.map (some mb)) W)
      (first | exact ⟨m4, m2.c0, m2.c1, m2.c2, m2.c3, m2.c4, m2.c5, m2.c6, m2.c7, m2.c8, m2.c9, m2.c10, m2.c11, m2.c12, m5⟩ | exact ⟨o4, o2.c0, o2.c1, o2.c2, o2.c3, o2.c4, o2.c5, o2.c6, o2.c7, o2.c8, o2.c9, o2.c10, o2.c11, o2.c12, o5⟩ | exact ⟨r3, r2.c0, r2.c1, r2.c2, r2.c3, r2.c4, r2.c5, r2.c6, r2.c7, r2.c8, r2.c9, r2.c10, r2.c11, r2.c12, r1⟩)
      (first | (go_at_call 20; refine (HCL.out _ m1).mono ?_; rintro e w9 ⟨p', rfl, hst, hb9⟩; obtain ⟨o1, o2, o3, o4, o5⟩ := HVV.out w9 ((Below.refl _ V).drew.trans hb9); obtain ⟨w10, hrun, hR, r2, r3, r4, r5, r1⟩ := HSET.out _ w9 p' ((Below.refl _ V).drew) hst hb9 w.heap.size p o3))
    all_goals
      go_wp2
      go_ret
      exact ⟨rfl, hR⟩
end Go.Proofs.YtiflfapdffkcbaaGreatDoor

namespace Go.Proofs.YtiflfapdffkcbaaGreatDoor
open Go.RowKit Go.Maps Go.WideMaps
set_option maxRecDepth 100000

def unV : Value := .agg #[]
def newS (X : List It) (E : List (Nm × Value)) (a : Sp) : List (Nm × Value) := if (findX X (nmS a)).isSome = true then E else setE E (nmS a) unV
def newE (X : List It) (Y : List Sp) : List (Nm × Value) := Y.foldl (newS X) []
theorem new_snoc (X : List It) (Y : List Sp) (k : Nat) (hk : k < Y.length) : newE X (Y.take (k + 1)) = newS X (newE X (Y.take k)) Y[k] := by
  unfold newE
  rw [List.take_succ_eq_append_getElem hk, List.foldl_append]
  rfl
theorem mem_setE {E : List (Nm × Value)} {n : Nm} {v : Value} {e : Nm × Value} (h : e ∈ setE E n v) : e.1 = n ∨ e ∈ E := by
  unfold setE at h
  split at h
  · obtain ⟨y, hy, rfl⟩ := List.mem_map.1 h
    by_cases hx : y.1 = n
    · rw [if_pos hx]; exact Or.inl rfl
    · rw [if_neg hx]; exact Or.inr hy
  · rcases List.mem_append.1 h with h | h
    · exact Or.inr h
    · simp at h; rw [h]; exact Or.inl rfl
theorem setE_has (E : List (Nm × Value)) (n : Nm) (v : Value) : ∃ e, e ∈ setE E n v ∧ e.1 = n := by
  have h := look_set E n n v
  rw [if_pos rfl] at h
  unfold lookE at h
  obtain ⟨e, he, _⟩ := Option.map_eq_some_iff.1 h
  exact ⟨e, List.mem_of_find?_eq_some he, by simpa using List.find?_some he⟩
theorem setE_kept {E : List (Nm × Value)} {n : Nm} {v : Value} {e : Nm × Value} (h : e ∈ E) : ∃ x, x ∈ setE E n v ∧ x.1 = e.1 := by
  by_cases he : e.1 = n
  · rw [he]; exact setE_has E n v
  · refine ⟨e, ?_, rfl⟩
    unfold setE
    split
    · exact List.mem_map.2 ⟨e, h, by rw [if_neg he]⟩
    · exact List.mem_append_left _ h
/-- New names on the way: k spans seen. -/
structure NwE (w wr : World) (MN : Tc → Nat) (TN : List Tc) (E : List (Nm × Value)) (k : Nat) : Prop where
  below : Below w.heap.size w wr
  nest : Nest wr w.heap.size MN TN E
  ok : ∀ e, e ∈ E → NmOk e.1
  low : ∀ t, t ∈ TN → w.heap.size ≤ MN t
  tl : TN.length ≤ k
  el : E.length ≤ k
def NwF (TN : List Tc) (E : List (Nm × Value)) : Prop := ∀ t, t ∈ TN → ∃ e, e ∈ E ∧ e.1.1 = t
theorem NwE.step {w wr W : World} {MN : Tc → Nat} {TN : List Tc} {E : List (Nm × Value)} {k : Nat} (h : NwE w wr MN TN E k) (hb : Below wr.heap.size wr W) : NwE w W MN TN E k :=
  ⟨h.below.trans (hb.mono h.below.size), h.nest.upd (S := fun _ => False) (Upd.ofBelow hb (fun k h1 h2 => by omega)) (fun h => h) (fun _ _ h => h), h.ok, h.low, h.tl, h.el⟩
theorem NwE.up {w wr : World} {MN : Tc → Nat} {TN : List Tc} {E : List (Nm × Value)} {k : Nat} (h : NwE w wr MN TN E k) : NwE w wr MN TN E (k + 1) :=
  ⟨h.below, h.nest, h.ok, h.low, Nat.le_succ_of_le h.tl, Nat.le_succ_of_le h.el⟩
theorem NwE.put {w W : World} {MN : Tc → Nat} {TN : List Tc} {E : List (Nm × Value)} {k : Nat} (h : NwE w W MN TN E (k + 1)) (n : Nm) (hn : NmOk n) (hin : n.1 ∈ TN) (hE : E.length ≤ k) (hk : k < 1000000000000000) :
    ∃ w', (Instr.mapUpdate 94 (.map (some (MN n.1))) (.int .u64 n.2) unV).run Tryz.prog W = .ok () w' ∧ NwE w w' MN TN (setE E n unV) (k + 1) ∧ w'.heap.size = W.heap.size ∧ Upd (fun k => k = MN n.1) W w' := by
  obtain ⟨w', hr, n', u, hs⟩ := h.nest.set Tryz.underlying94 n.1 n.2 hn.2 hin unV (by unfold maxLen; omega)
  refine ⟨w', hr, ⟨h.below.trans (u.below h.below.size (fun k hk e => by have := h.low _ hin; omega)), n', fun e he => ?_, h.low, h.tl, ?_⟩, hs, u⟩
  · rcases mem_setE he with he | he
    · rw [he]; exact hn
    · exact h.ok e he
  · rw [len_set]
    split <;> omega
theorem NwE.add {w W : World} {MN : Tc → Nat} {TN : List Tc} {E : List (Nm × Value)} {k : Nat} (h : NwE w W MN TN E k) (t : Tc) (ht : TcOk t) (hno : t ∉ TN) (hk : k < 1000000000000000) :
    ∃ (w' : World) (MN' : Tc → Nat), (Instr.mapUpdate 74 (.map (some w.heap.size)) (tcV t) (.map (some W.heap.size))).run Tryz.prog ((W.alloc (.map #[] 0)).drew) = .ok () w' ∧ NwE w w' MN' (TN ++ [t]) E (k + 1) ∧ Upd (fun k => k = w.heap.size) W w' := by
  obtain ⟨w', hr, n', u, hs⟩ := h.nest.add Tryz.underlying74 t ht hno (by have := h.tl; unfold maxLen; omega)
  refine ⟨w', _, hr, ⟨h.below.trans (u.below h.below.size (fun k hk e => by omega)), n', h.ok, fun x hx => ?_, ?_, Nat.le_succ_of_le h.el⟩, u⟩
  · by_cases e : x = t
    · simp only [if_pos e]; exact h.below.size
    · simp only [if_neg e]; exact h.low x (by simpa [e] using hx)
  · have := h.tl
    simp
    exact this
theorem NwF.put {TN : List Tc} {E : List (Nm × Value)} (n : Nm) (v : Value) (h : ∀ t, t ∈ TN → t = n.1 ∨ ∃ e, e ∈ E ∧ e.1.1 = t) : NwF TN (setE E n v) := by
  intro t ht
  rcases h t ht with rfl | ⟨e, he, rfl⟩
  · obtain ⟨x, hx, ex⟩ := setE_has E n v
    exact ⟨x, hx, by rw [ex]⟩
  · obtain ⟨x, hx, ex⟩ := setE_kept (n := n) (v := v) he
    exact ⟨x, hx, by rw [ex]⟩
theorem zM (w : World) : (zeroValue 94).run Tryz.prog w = .ok (.map none) w := by kernel_rfl
set_option maxHeartbeats 4000000 in
theorem newcomers_any (s b : Nat) (M : Tc → Nat) (T : List Tc) (X : List It) (ad : Option Addr) (cp : Nat) (Y : List Sp) (P : Nat → Pl) (w : World) (h : StoreAt w s b M T X) (hY : SpsAt w ad Y.length Y P) (hF : ∀ a ∈ Y, a.Fits) (hn : Y.length < 1000000000000000) :
    Calls Tryz.prog 31 #[.pointer (some ⟨s, 0, none⟩), .slice ad Y.length cp] w fun e w' => e = .returned (.map (some w.heap.size)) ∧ ∃ MN TN, NwE w w' MN TN (newE X Y) Y.length ∧ NwF TN (newE X Y) := by
  have hmm := @run_makeMap Tryz.prog
  have N0 : NwE w (w.alloc (.map #[] 0)) (fun _ => 0) [] (newE X (Y.take 0)) 0 := ⟨(Below.refl _ _).alloc (Nat.le_refl _) _, Nest.made w, fun e he => by simp [newE] at he, fun t ht => by simp at ht, Nat.le_refl _, by simp [newE]⟩
  have HN0 : Hid _ := N0
  have HX : Hid (SpsAt w ad Y.length Y P) := hY
  have HS : Hid (∀ k (hk : k < Y.length), Y[k].Fits) := fun k hk => hF _ (List.getElem_mem hk)
  have HH : Hid _ := h
  obtain ⟨N, hN⟩ : ∃ N, Y.length = N := ⟨_, rfl⟩
  rw [hN] at hn HX ⊢
  have HN : Hid (Y.length = N) := hN
  clear hN hY hF N0 h
  go_enter Tryz.func31, Tryz.ntmps31
  go_wp2
  go_loopw [13] (fun b wr => ∃ (k : Nat) (MN : Tc → Nat) (TN : List Tc), b = .int .i64 k ∧ k ≤ N ∧ NwE w wr MN TN (newE X (Y.take k)) k ∧ NwF TN (newE X (Y.take k))) (fun b _ => N - (intOf b).toNat)
  case atStart => exact ⟨0, _, _, rfl, by omega, HN0.out, fun t ht => by simp at ht⟩
  case round =>
    obtain ⟨k, MN, TN, rfl, hk, hR, hRf⟩ := hrel
    have hNN := HN.out
    by_cases hlt : k < N
    · obtain ⟨b1, o1, rfl, hc1⟩ := (HX.out.below hR.below).lies (by omega)
      have hfit := HS.out k (by omega)
      have hsn := new_snoc X Y k (by omega)
      obtain ⟨a, ha⟩ : ∃ a, Y[k] = a := ⟨_, rfl⟩
      obtain ⟨p, hp⟩ : ∃ p, P k = p := ⟨_, rfl⟩
      rw [ha] at hfit hsn
      have hcx : ∀ j u, (spC a p)[j]? = some u → wr.cell? ⟨b1, o1 + k * 13 + j, none⟩ = some u := fun j u hu => hc1 k (by omega) j u (by rw [ha, hp]; exact hu)
      have g0 : wr.cell? ⟨b1, o1 + k * 13, none⟩ = some (.int .u64 a.hi) := hcx 0 _ rfl
      have g1 := hcx 1 _ rfl
      have g2 := hcx 2 _ rfl
      have g3 := hcx 3 _ rfl
      have g4 := hcx 4 _ rfl
      have g5 := hcx 5 _ rfl
      have g6 := hcx 6 _ rfl
      have g7 := hcx 7 _ rfl
      have g8 := hcx 8 _ rfl
      have g9 := hcx 9 _ rfl
      have g10 := hcx 10 _ rfl
      have g11 := hcx 11 _ rfl
      have g12 := hcx 12 _ rfl
      have hS := HH.out.below hR.below
      have B1 : Below wr.heap.size wr ((wr.alloc (.cells (spC a p) 41)).drew) := ((Below.refl _ _).alloc (Nat.le_refl _) _).drew
      have B2 : ∀ o, Below wr.heap.size wr (((wr.alloc (.cells (spC a p) 41)).alloc o).drew) := fun o => (((Below.refl _ _).alloc (Nat.le_refl _) _).alloc (by simp) _).drew
      have LL : ∀ W, Below wr.heap.size wr W → (Instr.lookup 53 (.map (some b)) (tcV (nmS a).1) false).run Tryz.prog W = .ok (inV M T (nmS a).1) W ∧ (Instr.lookup 61 (inV M T (nmS a).1) (.int .u64 (nmS a).2) true).run Tryz.prog W = .ok (.tuple #[((findX X (nmS a)).map (fun x => spV x.a x.p)).getD zSp, .bool (findX X (nmS a)).isSome]) W ∧ W.cell? ⟨s, 0, none⟩ = some (.map (some b)) := fun W hb => by
        have l1 := (hS.below hb).nest.look Tryz.underlying53 (zT _) (nmS a).1 (nmS_ok hfit).1
        have l2 := (hS.below hb).nest.look2 Tryz.underlying61 (zS _) (nmS a).1 (nmS a).2 (nmS_ok hfit).2
        rw [show (((nmS a).1, (nmS a).2) : Nm) = nmS a from rfl, look_ent, Option.isSome_map] at l2
        exact ⟨l1, l2, blk_cell (hS.below hb).block 0 rfl⟩
      obtain ⟨L1, L2, c1⟩ := LL _ B1
      obtain ⟨L3, L4, c2⟩ := LL _ (B2 (.cells zC 41))
      have BX := heap_alloc_new wr (.cells (spC a p) 41)
      have BY := fun o => (Below.heap_alloc (wr.alloc (.cells (spC a p) 41)) o wr.heap.size (by simp)).trans BX
      have bx0 := blk_cell BX 0 rfl
      have bx1 := blk_cell BX 1 rfl
      have bx2 := blk_cell BX 2 rfl
      have by0 := blk_cell (BY (.cells zC 41)) 0 rfl
      have by1 := blk_cell (BY (.cells zC 41)) 1 rfl
      have by2 := blk_cell (BY (.cells zC 41)) 2 rfl
      have lb1 : b1 < wr.heap.size := World.block_lt_of_cell? wr _ g0
      have hnm := nmS_ok hfit
      have j1 : (k : Int) < (N : Int) := by omega
      have j2 : (N : Int) < 1000000000000000 := by omega
      have HB2 : Hid _ := B2
      have HR : Hid _ := hR
      have HRf : Hid _ := hRf
      have HSN : Hid _ := hsn
      have HK : Hid (k < N) := hlt
      have HNM : Hid _ := hnm
      have HBY : Hid _ := BY
      clear hc1 hcx hNN ha hp hS LL B1 BX hR hRf hsn hfit HX HS HH HN0 hlt hn hnm B2 BY
      cases hfx : findX X (nmS a) with
      | some y =>
        rw [hfx] at L2 L4
        have HFX : Hid _ := hfx
        clear hfx
        simp only [Option.map, Option.getD, Option.isSome] at L2 L4
        generalize inV M T (nmS a).1 = iv at *
        simp only [tcV, nmS] at L1 L2 L3 L4
        unfold zC spV spC at *
        go_wp2
        go_region
        all_goals
          go_wp2
          go_roundw
          case rel =>
            refine ⟨k + 1, MN, TN, by simp, HK.out, ?_, ?_⟩
            · rw [HSN.out, newS, HFX.out]
              exact (HR.out.step (HB2.out _)).up
            · rw [HSN.out, newS, HFX.out]
              exact HRf.out
          case measure => simp [intOf]; have := HK.out; omega
      | none =>
        rw [hfx] at L2 L4
        have HFX : Hid _ := hfx
        clear hfx
        simp only [Option.map, Option.getD, Option.isSome] at L2 L4
        by_cases hin : (nmS a).1 ∈ TN
        · have lk7 := (HR.out.step (HB2.out (.cells zC 41))).nest.look Tryz.underlying74 (zM _) (nmS a).1 HNM.out.1
          have lk9 := (HR.out.step (HB2.out (.cells zC 41)).drew).nest.look Tryz.underlying74 (zM _) (nmS a).1 HNM.out.1
          rw [inV, if_pos hin] at lk7 lk9
          obtain ⟨w10, hrun, N10, _, _⟩ := (HR.out.step (HB2.out (.cells zC 41)).drew).up.put (nmS a) HNM.out hin HR.out.el (by have := HK.out; omega)
          have EQ := fun W => eqU (MN (nmS a).1) W
          have H10 : Hid _ := N10
          clear N10 hin
          generalize MN (nmS a).1 = mm at *
          generalize inV M T (nmS a).1 = iv at *
          simp only [tcV, nmS] at L1 L2 L3 L4 lk7 lk9 hrun
          unfold unV at hrun
          unfold zSp zC spC at *
          go_wp2
          go_region
          all_goals
            go_wp2
            go_region
            go_wp2
            go_roundw
            case rel =>
              refine ⟨k + 1, MN, TN, by simp, HK.out, ?_, ?_⟩
              · rw [HSN.out, newS, HFX.out]
                exact H10.out
              · rw [HSN.out, newS, HFX.out]
                exact NwF.put (nmS a) unV (fun t ht => Or.inr (HRf.out t ht))
            case measure => simp [intOf]; have := HK.out; omega
        · have lk7 := (HR.out.step (HB2.out (.cells zC 41))).nest.look Tryz.underlying74 (zM _) (nmS a).1 HNM.out.1
          rw [inV, if_neg hin] at lk7
          have B3 : Below wr.heap.size wr ((wr.alloc (.cells (spC a p) 41)).alloc (.cells zC 41)) := ((Below.refl _ _).alloc (Nat.le_refl _) _).alloc (by simp) _
          have sz : ((wr.alloc (.cells (spC a p) 41)).alloc (.cells zC 41)).heap.size = wr.heap.size + 2 := by rw [World.size_alloc, World.size_alloc]
          obtain ⟨V, MN', hmk, NV, UV⟩ := (HR.out.step B3).add (nmS a).1 HNM.out.1 hin (by have := HK.out; omega)
          rw [sz] at hmk
          have hnw := HR.out.nest.lt.1
          have BV := (UV.block wr.heap.size (by rw [sz]; omega) (by omega)).trans (HBY.out (.cells zC 41))
          have bv0 := blk_cell BV 0 rfl
          have bv1 := blk_cell BV 1 rfl
          have bv2 := blk_cell BV 2 rfl
          have NVd := NV.step (Below.refl _ V).drew
          have hin' : (nmS a).1 ∈ TN ++ [(nmS a).1] := by simp
          have lk9 := NVd.nest.look Tryz.underlying74 (zM _) (nmS a).1 HNM.out.1
          rw [inV, if_pos hin'] at lk9
          obtain ⟨w10, hrun, N10, _, _⟩ := NVd.put (nmS a) HNM.out hin' HR.out.el (by have := HK.out; omega)
          have EQ := eqU0
          have H10 : Hid _ := N10
          clear N10 hin hin' NVd NV UV BV B3 sz hnw
          generalize MN' (nmS a).1 = mm at *
          generalize inV M T (nmS a).1 = iv at *
          simp only [tcV, nmS] at L1 L2 L3 L4 lk7 lk9 hrun hmk
          unfold unV at hrun
          unfold zSp zC spC at *
          go_wp2
          go_region
          all_goals
            go_wp2
            go_region
            go_wp2
            go_roundw
            case rel =>
              refine ⟨k + 1, MN', TN ++ [(nmS a).1], by simp, HK.out, ?_, ?_⟩
              · rw [HSN.out, newS, HFX.out]
                exact H10.out
              · rw [HSN.out, newS, HFX.out]
                refine NwF.put (nmS a) unV (fun t ht => ?_)
                rcases List.mem_append.1 ht with ht | ht
                · exact Or.inr (HRf.out t ht)
                · exact Or.inl (by simpa using ht)
            case measure => simp [intOf]; have := HK.out; omega
    · obtain rfl : k = N := by omega
      rw [show Y.take k = Y from List.take_of_length_le (by omega)] at hR hRf
      have HR : Hid _ := hR
      have HRf : Hid _ := hRf
      clear hR hRf hNN HX HS HH HN0
      go_wp2
      go_returns
      exact ⟨rfl, MN, TN, HR.out, HRf.out⟩
end Go.Proofs.YtiflfapdffkcbaaGreatDoor
