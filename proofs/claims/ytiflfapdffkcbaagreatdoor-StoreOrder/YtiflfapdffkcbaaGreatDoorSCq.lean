/-
  Merged: SC, SD.
-/
import Derived.Test.YtiflfapdffkcbaaGreatDoorSAq
import Derived.Handy
namespace Go.Proofs.YtiflfapdffkcbaaGreatDoor
open Go.RowKit Go.Maps Go.WideMaps
set_option maxRecDepth 100000

set_option maxHeartbeats 1000000 in
theorem put_kept (s b : Nat) (M : Tc → Nat) (T : List Tc) (X : List It) (a : Sp) (p : Pl) (y : It) (w : World) (h : StoreAt w s b M T X) (ha : SpAt w a p) (hf : a.Fits) (hy : findX X (nmS a) = some y) (hle : cmpP a y.a ≤ 0) :
    Calls Tryz.prog 18 #[.pointer (some ⟨s, 0, none⟩), spV a p] w fun e w' => e = .returned (.int .i64 2) ∧ Below w.heap.size w w' := by
  have hya := (h.each y (find_mem hy).1).at
  have CM := fun W (hb : Below w.heap.size w W) => compare_any a y.a p y.p W (ha.below hb) (hya.below hb)
  have B1 : Below w.heap.size w ((w.alloc (.cells (spC a p) 41)).drew) := ((Below.refl _ _).alloc (Nat.le_refl _) _).drew
  have B2 : Below w.heap.size w (((w.alloc (.cells (spC a p) 41)).alloc (.cells zC 41)).drew) := (((Below.refl _ _).alloc (Nat.le_refl _) _).alloc (by simp) _).drew
  have hin := in_of_find h hy
  have LL : ∀ W, Below w.heap.size w W → (Instr.lookup 53 (.map (some b)) (tcV (nmS a).1) false).run Tryz.prog W = .ok (.map (some (M (nmS a).1))) W ∧ (Instr.lookup 61 (.map (some (M (nmS a).1))) (.int .u64 (nmS a).2) true).run Tryz.prog W = .ok (.tuple #[spV y.a y.p, .bool true]) W ∧ W.cell? ⟨s, 0, none⟩ = some (.map (some b)) := fun W hb => by
    have l1 := (h.below hb).nest.look Tryz.underlying53 (zT _) (nmS a).1 (nmS_ok hf).1
    have l2 := (h.below hb).nest.look2 Tryz.underlying61 (zS _) (nmS a).1 (nmS a).2 (nmS_ok hf).2
    rw [inV, if_pos hin] at l1 l2
    rw [show (((nmS a).1, (nmS a).2) : Nm) = nmS a from rfl, look_ent, hy] at l2
    exact ⟨l1, l2, blk_cell (h.below hb).block 0 rfl⟩
  obtain ⟨L1, L2, c1⟩ := LL _ B1
  obtain ⟨L3, L4, c2⟩ := LL _ B2
  have BX := heap_alloc_new w (.cells (spC a p) 41)
  have BY := (Below.heap_alloc (w.alloc (.cells (spC a p) 41)) (.cells zC 41) w.heap.size (by simp)).trans BX
  have bx0 := blk_cell BX 0 rfl
  have bx1 := blk_cell BX 1 rfl
  have bx2 := blk_cell BX 2 rfl
  have by0 := blk_cell BY 0 rfl
  have by1 := blk_cell BY 1 rfl
  have by2 := blk_cell BY 2 rfl
  clear LL B1 B2 BX BY
  clear h ha hya hf hy hin
  unfold tcV nmS at *
  unfold spV spC zC at *
  generalize M (a.hi, a.lo) = mb at *
  go_enter Tryz.func18, Tryz.ntmps18
  go_wp2
  go_region
  all_goals
    go_wp2_with (go_at_call 32; refine (CM _ (((Below.refl _ _).alloc (Nat.le_refl _) _).alloc (by simp) _).drew).mono ?_; rintro e w' ⟨rfl, hb⟩)
    go_ret
    exact ⟨rfl, ((((Below.refl _ _).alloc (Nat.le_refl _) _).alloc (by simp) _).drew).trans (hb.mono (by simp; omega))⟩
/-- Behind a span that was put in. -/
def PutIn (w : World) (s b : Nat) (M : Tc → Nat) (T : List Tc) (X : List It) (a : Sp) (w' : World) : Prop := ∃ (M' : Tc → Nat) (T' : List Tc) (z : It), StoreAt w' s b M' T' (setX X z) ∧ z.a = a ∧ Upd (FT s b M T) w w' ∧ (∀ k, FT s b M' T' k → FT s b M T k ∨ w.heap.size ≤ k) ∧ w.heap.size ≤ z.lo
set_option maxHeartbeats 2000000 in
theorem put_better (s b : Nat) (M : Tc → Nat) (T : List Tc) (X : List It) (a : Sp) (p : Pl) (y : It) (w : World) (h : StoreAt w s b M T X) (ha : SpAt w a p) (hf : a.Fits) (hsm : a.Small) (hck : chkS a = 0) (hll : a.links.length ≤ 1000) (hal : a.attrs.length ≤ 1000) (hel : a.events.length ≤ 1000) (hy : findX X (nmS a) = some y) (hle : ¬ cmpP a y.a ≤ 0) (hX : X.length < 1000000000000000) :
    Calls Tryz.prog 18 #[.pointer (some ⟨s, 0, none⟩), spV a p] w fun e w' => e = .returned (.int .i64 1) ∧ PutIn w s b M T X a w' := by
  have hya := (h.each y (find_mem hy).1).at
  have CM := fun W (hb : Below w.heap.size w W) => compare_any a y.a p y.p W (ha.below hb) (hya.below hb)
  have CL := fun W (hb : Below w.heap.size w W) => clone_any a p W (ha.below hb) hll hal hel
  have B1 : Below w.heap.size w ((w.alloc (.cells (spC a p) 41)).drew) := ((Below.refl _ _).alloc (Nat.le_refl _) _).drew
  have B2 : Below w.heap.size w (((w.alloc (.cells (spC a p) 41)).alloc (.cells zC 41)).drew) := (((Below.refl _ _).alloc (Nat.le_refl _) _).alloc (by simp) _).drew
  have hin := in_of_find h hy
  have LL : ∀ W, Below w.heap.size w W → (Instr.lookup 53 (.map (some b)) (tcV (nmS a).1) false).run Tryz.prog W = .ok (.map (some (M (nmS a).1))) W ∧ (Instr.lookup 61 (.map (some (M (nmS a).1))) (.int .u64 (nmS a).2) true).run Tryz.prog W = .ok (.tuple #[spV y.a y.p, .bool true]) W ∧ W.cell? ⟨s, 0, none⟩ = some (.map (some b)) := fun W hb => by
    have l1 := (h.below hb).nest.look Tryz.underlying53 (zT _) (nmS a).1 (nmS_ok hf).1
    have l2 := (h.below hb).nest.look2 Tryz.underlying61 (zS _) (nmS a).1 (nmS a).2 (nmS_ok hf).2
    rw [inV, if_pos hin] at l1 l2
    rw [show (((nmS a).1, (nmS a).2) : Nm) = nmS a from rfl, look_ent, hy] at l2
    exact ⟨l1, l2, blk_cell (h.below hb).block 0 rfl⟩
  obtain ⟨L1, L2, c1⟩ := LL _ B1
  obtain ⟨L3, L4, c2⟩ := LL _ B2
  have SET : ∀ (W w9 : World) (p' : Pl), Below w.heap.size w W → (∀ w5 : World, (∀ k, W.heap.size ≤ k → k < w9.heap.size → w5.heap[k]? = w9.heap[k]?) → SpAt w5 a p') → Below W.heap.size W w9 → w9.heap[w.heap.size]? = some (.cells (spC a p) 41 (0, 0)) → ∃ w10, (Instr.mapUpdate 61 (.map (some (M (nmS a).1))) (.int .u64 (nmS a).2) (spV a p')).run Tryz.prog w9 = .ok () w10 ∧ PutIn w s b M T X a w10 ∧ Boxed w10 w.heap.size a p ∧ w10.cell? ⟨s, 0, none⟩ = some (.map (some b)) ∧ (Instr.lookup 53 (.map (some b)) (tcV (nmS a).1) false).run Tryz.prog w10 = .ok (.map (some (M (nmS a).1))) w10 := by
    intro W w9 p' hbW hst hb9 hbx
    have hb : Below w.heap.size w w9 := hbW.trans (hb9.mono hbW.size)
    have h9 := h.below hb
    have hfl : ∀ k, FT s b M T k → k < W.heap.size := fun k hk => (h.below hbW).ft_lt hk
    obtain ⟨w10, hr, B, u, hs⟩ := body_set (s := s) h9.nest h9.each h9.apart h9.nodup ⟨a, p', W.heap.size, w9.heap.size⟩ (fun t ht => Or.inr (h9.full t ht)) ⟨Nat.le_refl _, hst, hf, hsm, hck⟩ (fun k hk hh => by have := hfl k hk; have := hh.1; simp at this; omega) hin (by unfold maxLen; omega) (by rw [set_len]; simp [hy]; exact h.tl)
    have hns : s ≠ M (nmS a).1 := fun e => (h9.nest.not h9.block).2 _ hin e.symm
    have hnb : w.heap.size ≠ M (nmS a).1 := fun e => (h9.nest.not hbx).2 _ hin e.symm
    have bl := (u.block s (lt_of_block h9.block) hns).trans h9.block
    have lk := B.nest.look Tryz.underlying53 (zT _) (nmS a).1 (nmS_ok hf).1
    rw [inV, if_pos hin] at lk
    refine ⟨w10, hr, ⟨M, T, _, ⟨B, ?_⟩, rfl, ?_, fun k hk => Or.inl hk, hbW.size⟩, boxed_of ((u.block _ (lt_of_block hbx) hnb).trans hbx), blk_cell bl 0 rfl, lk⟩
    · have hlen : (setX X ⟨a, p', W.heap.size, w9.heap.size⟩).length = X.length := by rw [set_len]; simp [hy]
      rw [hlen]
      exact bl
    · exact (Upd.ofBelow hb (fun k h1 h2 => by omega)).trans u (fun k _ e => Or.inr (Or.inr ⟨_, hin, e.symm⟩))
  have BX := heap_alloc_new w (.cells (spC a p) 41)
  have BY := (Below.heap_alloc (w.alloc (.cells (spC a p) 41)) (.cells zC 41) w.heap.size (by simp)).trans BX
  have bx0 := blk_cell BX 0 rfl
  have bx1 := blk_cell BX 1 rfl
  have bx2 := blk_cell BX 2 rfl
  have by0 := blk_cell BY 0 rfl
  have by1 := blk_cell BY 1 rfl
  have by2 := blk_cell BY 2 rfl
  have BO : ∀ W : World, Below (w.heap.size + 1) (w.alloc (.cells (spC a p) 41)) W → Boxed W w.heap.size a p ∧ W.heap[w.heap.size]? = some (.cells (spC a p) 41 (0, 0)) := fun W hb => ⟨boxed_of ((hb.block w.heap.size (by omega)).trans BX), (hb.block w.heap.size (by omega)).trans BX⟩
  have EQ := fun W => eqT (M (nmS a).1) W
  have HLL : Hid _ := LL
  have HSET : Hid _ := SET
  have HCL : Hid _ := CL
  have HBO : Hid _ := BO
  have BW : ∀ (o : Obj) (W : World), Below (((w.alloc (.cells (spC a p) 41)).alloc o).drew).heap.size (((w.alloc (.cells (spC a p) 41)).alloc o).drew) W → Below w.heap.size w W ∧ Below (w.heap.size + 1) (w.alloc (.cells (spC a p) 41)) W := fun o W hb => ⟨((((Below.refl _ _).alloc (Nat.le_refl _) _).alloc (by simp) _).drew).trans (hb.mono (by simp; omega)), (((Below.refl _ _).alloc (by simp) o).drew).trans (hb.mono (by simp))⟩
  have HBW : Hid _ := BW
  clear LL SET CL BO B1 B2 BX BY BW h ha hya hf hy hin hX hsm hck
  generalize PutIn w s b M T X a = R at *
  unfold tcV nmS at *
  unfold spV spC zC at *
  generalize M (a.hi, a.lo) = mb at *
  go_enter Tryz.func18, Tryz.ntmps18
  go_wp2
  go_region
  all_goals
    go_wp2_with (go_at_call 32; refine (CM _ (((Below.refl _ _).alloc (Nat.le_refl _) _).alloc (by simp) _).drew).mono ?_; rintro e w5 ⟨rfl, hb5⟩; obtain ⟨z1, z2⟩ := HBW.out _ _ hb5; obtain ⟨m1, m2, m3⟩ := HLL.out _ z1.drew; have bo := (HBO.out _ z2).1)
    obtain ⟨d0, d1, d2, d3, d4, d5, d6, d7, d8, d9, d10, d11, d12⟩ := bo
    go_region
    go_wp2
    obtain ⟨n1, _, n3⟩ := HLL.out _ z1.drew.drew
    have n2 := (HBO.out _ z2.drew.drew).1
    have HZ1 : Hid _ := z1
    have HZ2 : Hid _ := z2
    have HZ3 : Hid (w.heap.size + 1 ≤ w5.heap.size) := by have := z2.size; rw [World.size_alloc] at this; exact this
    clear m1 m2 m3 L1 L2 L3 L4 c1 c2 bx0 bx1 bx2 by0 by1 by2 d0 d1 d2 d3 d4 d5 d6 d7 d8 d9 d10 d11 d12 hb5 z1 z2 CM
    go_region_held3 (fun W => W.cell? ⟨s, 0, none⟩ = some (.map (some b)) ∧ W.cell? ⟨w.heap.size, 0, none⟩ = some (.int .u64 a.hi) ∧ W.cell? ⟨w.heap.size, 1, none⟩ = some (.int .u64 a.lo) ∧ W.cell? ⟨w.heap.size, 2, none⟩ = some (.int .u64 a.id) ∧ W.cell? ⟨w.heap.size, 3, none⟩ = some (.int .u64 a.par) ∧ W.cell? ⟨w.heap.size, 4, none⟩ = some (.slice p.la a.links.length p.lc) ∧ W.cell? ⟨w.heap.size, 5, none⟩ = some (.string a.svc) ∧ W.cell? ⟨w.heap.size, 6, none⟩ = some (.string a.op) ∧ W.cell? ⟨w.heap.size, 7, none⟩ = some (.int .i64 a.kind) ∧ W.cell? ⟨w.heap.size, 8, none⟩ = some (.int .i64 a.status) ∧ W.cell? ⟨w.heap.size, 9, none⟩ = some (.int .i64 a.start) ∧ W.cell? ⟨w.heap.size, 10, none⟩ = some (.int .i64 a.fin) ∧ W.cell? ⟨w.heap.size, 11, none⟩ = some (.slice p.aa a.attrs.length p.ac) ∧ W.cell? ⟨w.heap.size, 12, none⟩ = some (.slice p.ea a.events.length p.ec) ∧ (Instr.lookup 53 (.map (some b)) (.agg #[.int .u64 a.hi, .int .u64 a.lo]) false).run Tryz.prog W = .ok (.map (some mb)) W)
      (first | exact ⟨n3, n2.c0, n2.c1, n2.c2, n2.c3, n2.c4, n2.c5, n2.c6, n2.c7, n2.c8, n2.c9, n2.c10, n2.c11, n2.c12, n1⟩ | exact ⟨o3, o2.c0, o2.c1, o2.c2, o2.c3, o2.c4, o2.c5, o2.c6, o2.c7, o2.c8, o2.c9, o2.c10, o2.c11, o2.c12, o1⟩ | exact ⟨r3, r2.c0, r2.c1, r2.c2, r2.c3, r2.c4, r2.c5, r2.c6, r2.c7, r2.c8, r2.c9, r2.c10, r2.c11, r2.c12, r1⟩)
      (first | (go_at_call 20; refine (HCL.out _ HZ1.out.drew.drew).mono ?_; rintro e w9 ⟨p', rfl, hst, hb9⟩; obtain ⟨o2, o4⟩ := HBO.out _ (HZ2.out.drew.drew.trans (hb9.mono HZ3.out)); obtain ⟨w10, hrun, hR, r2, r3, r1⟩ := HSET.out _ w9 p' HZ1.out.drew.drew hst hb9 o4; obtain ⟨o1, _, o3⟩ := HLL.out _ (HZ1.out.drew.drew.trans (hb9.mono HZ1.out.size))))
    all_goals
      go_wp2
      go_ret
      exact ⟨rfl, hR⟩
end Go.Proofs.YtiflfapdffkcbaaGreatDoor

namespace Go.Proofs.YtiflfapdffkcbaaGreatDoor
open Go.RowKit Go.Maps Go.WideMaps
set_option maxRecDepth 100000

def roomI (X : List It) (N : List (Nm × Value)) : Int :=
  if N.any (fun e => decide (1000 < cntE (entE X) e.1.1 + cntE N e.1.1)) = true then 91 else if 100000 < X.length + N.length then 92 else 0
theorem strike_cnt (t : Tc) (ht : TcOk t) (left : Lit → Bool) (hl : left (tkey t) = true) : ∀ N : List (Nm × Value), (∀ e ∈ N, NmOk e.1) → (N.filter (fun e => !(left (tkey e.1.1) && !(tkey e.1.1).sameKey (tkey t)))).length = (N.filter (fun e => !left (tkey e.1.1))).length + cntE N t
  | [], _ => rfl
  | e :: r, h => by
    have ih := strike_cnt t ht left hl r (fun x hx => h x (List.mem_cons_of_mem _ hx))
    have he := (h e (List.mem_cons_self ..)).1
    unfold cntE at ih ⊢
    simp only [Bool.not_and, Bool.not_not] at ih ⊢
    by_cases hx : e.1.1 = t
    · have hs : (tkey t).sameKey (tkey t) = true := WideAt.sameKey_self (lawT.key (key_t t ht))
      simp only [List.filter_cons, hx, hl, hs]
      simp
      omega
    · have hs : (tkey e.1.1).sameKey (tkey t) = false := sameKey_ne (fun e1 => hx (tkey_inj he ht e1))
      simp only [List.filter_cons, hs, hx]
      cases left (tkey e.1.1) <;> simp <;> omega
/-- Within room's loop. -/
structure Rmd (w : World) (nb r : Nat) (TN : List Tc) (X : List It) (N : List (Nm × Value)) (D : DataW Value) (wr : World) (left : Lit → Bool) (cnt lg al : Nat) : Prop where
  rg : wr.ranges Tryz.prog 33 valR nb r (Maps.size D) D left cnt
  below : Below w.heap.size w wr
  all : al = X.length + (N.filter (fun e => !left (tkey e.1.1))).length
  low : ∀ t, t ∈ TN → left (tkey t) = false → cntE (entE X) t + cntE N t ≤ lg
  att : lg = 0 ∨ ∃ t, t ∈ TN ∧ lg = cntE (entE X) t + cntE N t
theorem Rmd.done {w : World} {nb r : Nat} {TN : List Tc} {X : List It} {N : List (Nm × Value)} {D : DataW Value} {wr : World} {left : Lit → Bool} {cnt lg al : Nat} (h : Rmd w nb r TN X N D wr left cnt lg al) (hl : ∀ kl, left kl = false) (hsub : ∀ e ∈ N, e.1.1 ∈ TN) (hfull : ∀ t, t ∈ TN → ∃ e ∈ N, e.1.1 = t) :
    roomI X N = if 1000 < lg then 91 else if 100000 < al then 92 else 0 := by
  have e1 : al = X.length + N.length := by
    rw [h.all]
    congr 2
    rw [List.filter_eq_self]
    intro e _
    simp [hl]
  have e2 : N.any (fun e => decide (1000 < cntE (entE X) e.1.1 + cntE N e.1.1)) = decide (1000 < lg) := by
    rw [Bool.eq_iff_iff]
    simp only [List.any_eq_true, decide_eq_true_eq]
    constructor
    · rintro ⟨e, he, hlt⟩
      have := h.low _ (hsub e he) (hl _)
      omega
    · intro hlt
      rcases h.att with h0 | ⟨t, ht, e⟩
      · omega
      · obtain ⟨x, hx, rfl⟩ := hfull t ht
        exact ⟨x, hx, by omega⟩
  unfold roomI
  rw [e2, e1]
  simp only [decide_eq_true_eq]
set_option maxHeartbeats 1000000 in
theorem room_any (s b nb : Nat) (M MN : Tc → Nat) (T TN : List Tc) (X : List It) (N : List (Nm × Value)) (w : World) (h : StoreAt w s b M T X) (hN : Nest w nb MN TN N) (hok : ∀ e ∈ N, NmOk e.1) (hsub : ∀ e ∈ N, e.1.1 ∈ TN) (hfull : ∀ t, t ∈ TN → ∃ e ∈ N, e.1.1 = t) (hx : X.length ≤ 1000000000000000) (hn : N.length ≤ 1000000000000000) :
    Calls Tryz.prog 30 #[.pointer (some ⟨s, 0, none⟩), .map (some nb)] w fun e w' => e = .returned (.int .i64 (roomI X N)) ∧ Below w.heap.size w w' := by
  obtain ⟨D, d1, d2, d3, d4⟩ := hN.outer
  have d5 : ∀ m, ownM (w.drewN m) 33 nb D := fun m => d1.upd ((Upd.refl (fun _ => False) w).drewN m) (fun h => h)
  have c0 := blk_cell h.block 0 rfl
  have c1 := blk_cell h.block 1 rfl
  have NX : ∀ wr w1 left cnt cnt1 lg al kl (x : Tc) (c : Value) y, Rmd w nb w.heap.size TN X N D wr left cnt lg al → keyOf Tryz.prog 33 (tcV x) = some kl → left kl = true → valR c = some y → (∀ zd, D.atKey kl zd = y.1) → w1.ranges Tryz.prog 33 valR nb w.heap.size (Maps.size D) D (fun z => left z && !z.sameKey kl) cnt1 → wr.grownBy w1 (some w.heap.size) →
      c = .map (some (MN x)) ∧ w1.cell? ⟨s, 0, none⟩ = some (.map (some b)) ∧ al + cntE N x ≤ 2000000000000000 ∧ lg ≤ 2000000000000000 ∧ cntE (entE X) x ≤ 1000000000000000 ∧ cntE N x ≤ 1000000000000000 ∧
      ∀ o, (w1.alloc o).cell? ⟨s, 0, none⟩ = some (.map (some b)) ∧ ((Instr.lookup 53 (.map (some b)) (tcV x) false).run Tryz.prog ((w1.alloc o).drew) = .ok (inV M T x) ((w1.alloc o).drew)) ∧
        (∀ r, (Builtin.len_ #[61] r #[inV M T x]).run Tryz.prog ((w1.alloc o).drew) = .ok (.int .i64 (cntE (entE X) x)) ((w1.alloc o).drew)) ∧
        (∀ r, (Builtin.len_ #[94] r #[.map (some (MN x))]).run Tryz.prog ((w1.alloc o).drew) = .ok (.int .i64 (cntE N x)) ((w1.alloc o).drew)) ∧
        Rmd w nb w.heap.size TN X N D ((w1.alloc o).drew) (fun z => left z && !z.sameKey kl) cnt1 (max lg (cntE (entE X) x + cntE N x)) (al + cntE N x) := by
    rintro wr w1 left cnt cnt1 lg al kl x c y hr hkey hlk hv hat hrg1 hgr
    obtain ⟨x', ex, hxo, rfl⟩ := key_t_inv hkey
    obtain rfl := tcV_inj ex
    have hxT : x ∈ TN := by
      have := has_true_of_atKey hat
      rw [d2 x hxo] at this
      simpa using this
    have hc : c = .map (some (MN x)) := by
      have e1 := hat .nil
      rw [d3 x hxT] at e1
      refine valR_inv (ps := y.2) ?_
      rw [hv, e1]
    have hu : Upd (fun k => k = w.heap.size) wr w1 := (Upd.refl _ _).grown hgr (fun _ _ e => (Option.some.inj e).symm)
    have B1 : Below w.heap.size w w1 := hr.below.trans (hu.below hr.below.size (fun k hk e => by omega))
    have hsum := strike_cnt x hxo left hlk N hok
    have hle := List.length_filter_le (fun e : Nm × Value => !(left (tkey e.1.1) && !(tkey e.1.1).sameKey (tkey x))) N
    have hall := hr.all
    have cX := cnt_le (entE X) x
    have eX : (entE X).length = X.length := by simp [entE]
    have cN := cnt_le N x
    have hlg : lg ≤ 2000000000000000 := by
      rcases hr.att with h0 | ⟨t, _, e⟩
      · omega
      · have := cnt_le (entE X) t
        have := cnt_le N t
        omega
    refine ⟨hc, (h.below B1).block |> fun k => blk_cell k 0 rfl, by omega, hlg, by omega, by omega, fun o => ?_⟩
    have B2 : Below w.heap.size w ((w1.alloc o).drew) := (B1.alloc B1.size o).drew
    refine ⟨(h.below B2).block |> fun k => blk_cell k 0 rfl, (h.below B2).nest.look Tryz.underlying53 (zT _) x hxo, fun r => (h.below B2).nest.len Tryz.underlying61 x r, fun r => ?_, ?_⟩
    · have := (hN.upd (S := fun _ => False) (Upd.ofBelow B2 (fun k h1 h2 => by omega)) (fun h => h) (fun _ _ h => h)).len Tryz.underlying94 x r
      rw [inV, if_pos hxT] at this
      exact this
    · refine ⟨(hrg1.alloc o).kept (row := none) ⟨rfl, rfl, rfl, Nat.le_refl _, fun _ _ _ => rfl⟩ (by simp) (by simp), B2, ?_, fun t ht hl => ?_, ?_⟩
      · rw [hsum]; omega
      · simp only [Bool.and_eq_false_iff] at hl
        rcases hl with hl | hl
        · have := hr.low t ht hl
          omega
        · have e1 : tkey t = tkey x := WideAt.sameKey_eq (by simpa using hl)
          rw [tkey_inj (hN.ok t ht) hxo e1]
          omega
      · rcases Nat.le_total lg (cntE (entE X) x + cntE N x) with hm | hm
        · exact Or.inr ⟨x, hxT, by omega⟩
        · rw [Nat.max_eq_left hm]
          exact hr.att
  have HNX : Hid _ := NX
  have HD : Hid _ := fun wr left cnt lg al (hr : Rmd w nb w.heap.size TN X N D wr left cnt lg al) hl => hr.done hl hsub hfull
  have ST : ∀ w0, w0.ranges Tryz.prog 33 valR nb w.heap.size (Maps.size D) D (Maps.has D) (Maps.size D) → w.grownBy w0 none → Rmd w nb w.heap.size TN X N D w0 (Maps.has D) (Maps.size D) 0 X.length := by
    intro w0 hrg hg
    refine ⟨hrg, ((Upd.refl (fun _ => False) w).grown hg (fun _ _ e => by simp at e)).below (Nat.le_refl _) (fun _ _ h => h), ?_, fun t ht hl => ?_, Or.inl rfl⟩
    · have : N.filter (fun e => !Maps.has D (tkey e.1.1)) = [] := by
        rw [List.filter_eq_nil_iff]
        intro e he
        rw [d2 _ (hok e he).1]
        simpa using hsub e he
      rw [this]; rfl
    · rw [d2 t (hN.ok t ht)] at hl
      simp at hl
      exact absurd ht hl
  have HST : Hid _ := ST
  have hx1 : (X.length : Int) ≤ 1000000000000000 := by omega
  clear NX ST h hN hok hsub hfull d1 d2 d3 d4 hn
  generalize X.length = xl at *
  go_enter Tryz.func30, Tryz.ntmps30
  go_wp2
  go_region
  go_wp2_with (first
    | (at_range; refine wpList_range_own _ rfl _ 74 rfl 33 94 lawT Tryz.underlying74 _ nb _ D rfl (d5 1) ?_; intro w0 hrg0 hg0 hs0)
    | go_in)
  try go_frame
  have P0 := HST.out w0 hrg0 ⟨hg0.os, hg0.tape, hg0.output, hg0.size, hg0.block⟩
  have HX : Hid (X.length = X.length) := rfl
  clear hrg0 hg0 hs0 HST d5 c0 c1
  go_loopw [5, 6] (fun b5 b6 wr => ∃ (left : Lit → Bool) (cnt lg al : Nat), b5 = .int .i64 (lg : Int) ∧ b6 = .int .i64 (al : Int) ∧ Rmd w nb w.heap.size TN X N D wr left cnt lg al) (fun _ _ wr => wr.rangeLeft nb w.heap.size)
  case atStart => exact ⟨_, _, 0, xl, rfl, rfl, P0⟩
  case round =>
    obtain ⟨left, cnt, lg, al, rfl, rfl, hR⟩ := hrel
    have hrg := hR.rg
    go_wp2_with (first
      | (at_next; refine wpList_next_ranges _ rfl _ rfl 33 lawT valR tcV id (fun key kl hk => by obtain ⟨x, rfl, _⟩ := key_t_inv hk; exact ⟨x, rfl⟩) (fun v y hv => ⟨v, rfl⟩) nb w.heap.size _ D left cnt rfl hrg ?_ ?_)
      | go_in)
    · intro _ hl0
      have hd := HD.out _ _ _ _ _ hR hl0
      have hBB := hR.below
      clear HD HNX hR hrg hl0 P0
      by_cases h1 : 1000 < lg
      · rw [if_pos h1] at hd
        have j1 : (1000 : Int) < (lg : Int) := by omega
        have HD1 : Hid _ := hd
        clear hd h1
        go_wp2
        go_returns
        exact ⟨(congrArg (fun z => Ending.returned (.int .i64 z)) HD1.out).symm, hBB⟩
      · rw [if_neg h1] at hd
        have j1 : ¬ (1000 : Int) < (lg : Int) := by omega
        by_cases h2 : 100000 < al
        · rw [if_pos h2] at hd
          have j2 : (100000 : Int) < (al : Int) := by omega
          have HD1 : Hid _ := hd
          clear hd h1 h2
          go_wp2
          go_returns
          exact ⟨(congrArg (fun z => Ending.returned (.int .i64 z)) HD1.out).symm, hBB⟩
        · rw [if_neg h2] at hd
          have j2 : ¬ (100000 : Int) < (al : Int) := by omega
          have HD1 : Hid _ := hd
          clear hd h1 h2
          go_wp2
          go_returns
          exact ⟨(congrArg (fun z => Ending.returned (.int .i64 z)) HD1.out).symm, hBB⟩
    · intro x1 x2 c kl y1 y2 w1 cnt1 hkey hlk hv hat hrg1 hlt hg1 hs1 hen
      obtain ⟨hc, cs, q1, q2, q3, q4, HF⟩ := HNX.out wr w1 left cnt cnt1 lg al kl (x1, x2) c (y1, y2) hR hkey hlk hv hat hrg1 hg1
      obtain ⟨cs2, l1, l2, l3, HR⟩ := HF (.cells #[.int .u64 x1, .int .u64 x2] 33)
      obtain ⟨x, hx⟩ : ∃ x : Tc, (x1, x2) = x := ⟨_, rfl⟩
      simp only [hc] at hen
      have HL := hrg.left_eq
      have HRR : Hid _ := HR
      have HLT : Hid _ := hlt
      have k1 : (al : Int) + (cntE N (x1, x2) : Int) ≤ 2000000000000000 := by omega
      have k2 : (lg : Int) ≤ 2000000000000000 := by omega
      have k3 : (cntE (entE X) (x1, x2) : Int) ≤ 1000000000000000 := by omega
      have k4 : (cntE N (x1, x2) : Int) ≤ 1000000000000000 := by omega
      clear HD HNX hR hrg hkey hlk hv hat hrg1 hg1 hs1 HF HR hlt P0 q1 q2 q3 q4
      have e1 : x.1 = x1 := by rw [← hx]
      have e2 : x.2 = x2 := by rw [← hx]
      generalize inV M T (x1, x2) = iv at *
      unfold tcV at *
      simp only [hx] at *
      generalize cntE (entE X) x = cx at *
      generalize cntE N x = cn at *
      generalize MN x = mb at *
      clear hx e1 e2
      go_wp2
      go_region
      go_wp2
      have HM : Hid (((max lg (cx + cn) : Nat) : Int) = max (lg : Int) ((cx : Int) + (cn : Int))) := by show _ = _; omega
      go_roundw
      case rel =>
        refine ⟨_, _, _, _, _, _, _, _, _, _, _, _, _, _, _, _, _, _, _, _, _, _, _, _, _, ⟨_, cnt1, max lg (cx + cn), al + cn, ?_, ?_, HRR.out⟩, rfl⟩
        · rw [HM.out]
        · simp
      case measure => rw [HRR.out.rg.left_eq, HL]; exact HLT.out
end Go.Proofs.YtiflfapdffkcbaaGreatDoor
