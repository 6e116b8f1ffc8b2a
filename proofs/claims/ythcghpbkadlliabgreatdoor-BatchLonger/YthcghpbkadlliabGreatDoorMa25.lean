/-
  Merged by merge.py: X8, X9.
-/
import Derived.Test.YthcghpbkadlliabGreatDoorMa24
import Derived.Test.YthcghpbkadlliabGreatDoorXo
import Derived.Test.YthcghpbkadlliabGreatDoorMa23
import Derived.Deep.RegionWith
namespace Go.Proofs.YthcghpbkadlliabGreatDoor
open Go.Shelf Go.RowKit
set_option maxRecDepth 100000

theorem hcs (a : Sp) (p : Pl) : (spC a p).size = 13 := rfl
theorem hone (a : Sp) (p : Pl) : (spC a p).all (·.oneCell') = true := by simp [spC, Value.oneCell']
theorem load_sp {ops : Array Oper} {rest : List Oper} {op : Oper} {a : Act} {w : World} {Q : Exit → Act → World → Prop} {x : Operand} {g : Nat} {cs : Array Value} (hg : w.heap[g]? = some (.cells cs 41 (0, 0))) (hc : cs.size = 13)
    (hgd : op.guard = none) (ho : op.op = .load 41 x) (hx : a.eval x = .pointer (some ⟨g, 0, none⟩)) (h : wpList Tryz.prog ops Q rest (a.put op.dst (.agg cs)) w) : wpList Tryz.prog ops Q (op :: rest) a w :=
  wpList_load_row hgd 41 x ho g 41 cs hx _ hg Tryz.underlying41 rfl (by rw [hc]; exact Tryz.info41) h
theorem store_sp {ops : Array Oper} {rest : List Oper} {op : Oper} {a : Act} {w : World} {Q : Exit → Act → World → Prop} {x y : Operand} {g : Nat} {old cs : Array Value} (hg : w.heap[g]? = some (.cells old 41 (0, 0))) (hl : old.size = 13) (hc : cs.size = 13) (h1 : cs.all (·.oneCell') = true)
    (hgd : op.guard = none) (ho : op.op = .store 41 x y) (hx : a.eval x = .pointer (some ⟨g, 0, none⟩)) (hy : a.eval y = .agg cs) (h : wpList Tryz.prog ops Q rest (a.put op.dst undef) (w.setRow g cs)) : wpList Tryz.prog ops Q (op :: rest) a w :=
  wpList_store_row hgd 41 x y ho g 41 old cs hx hy hg (by rw [hc]; exact Tryz.info41) (by rw [hl, hc]) h1 h
theorem infoSpan : (Tryz.prog.info? 41).map (fun i => (i.zero, i.size, i.bytes)) = some (some (.agg #[.int .u64 0, .int .u64 0, .int .u64 0, .int .u64 0, .slice none 0 0, .string ⟨#[]⟩, .string ⟨#[]⟩, .int .i64 0, .int .i64 0, .int .i64 0, .int .i64 0, .slice none 0 0, .slice none 0 0]), 13, 168) := by kernel_rfl
def spCL (x : Sp × Pl) : List Value := (spC x.1 x.2).toList
/-- What spans leave. -/
def PostSs (c : Dc) (w0 : World) (K : List Int) (w : World) (r : Res (List Sp × Dst)) (e : Ending) (w' : World) : Prop := match r with
  | .ok (l, s') => ∃ (v : Value) (A : List (Sp × Pl)), e = .returned v ∧ A.map Prod.fst = l ∧ A.length ≤ 500 ∧ w'.ownsRow w.heap.size 41 13 v A.length (A.flatMap spCL) ∧ (∀ x ∈ A, SpO w' w.heap.size x.1 x.2) ∧ DS c w0 w' K s' ∧ Upd (DSet c) w w'
  | .error (a, n) => Ups w' a n e ∧ Upd (DSet c) w w'
theorem span_startD {K : List Int} {b : Nat} {s s' : Dst} {a : Sp} (hI : Inv K b s) (h : spanD K s = .ok (a, s')) : s'.start = a.start := by
  obtain ⟨i1, i2, i3, i4⟩ := sound_span K b s a s' hI h
  have e := congrArg Est.start i4
  rw [spanE_start] at e
  first | exact e | exact e.symm
theorem small_of {a : Sp} (h : a.Sized) : a.Small :=
  ⟨by have := h.svc; omega, by have := h.op; omega, fun x hx => by have := h.attrs x hx; omega, fun x hx => by have := h.events x hx; omega⟩
set_option maxHeartbeats 4000000 in
theorem dSpans (c : Dc) (w0 w : World) (K : List Int) (s : Dst) (h : DS c w0 w K s) (y0 : 0 ≤ s.start) (y1 : s.start ≤ 4611686018427387904) :
    Calls Tryz.prog 36 #[.pointer (some ⟨c.T, 0, none⟩)] w fun e w' => PostSs c w0 K w (spansD K s) e w' := by
  obtain ⟨i0, hi, hz0, hz1, hz2⟩ := info_parts infoSpan
  have CN := dCount h 500 53
  have h00 := h.upd.size
  unfold spansD bindD
  have hcl : ∀ n s', countD 500 53 K s = .ok (n, s') → n ≤ 500 ∧ s'.start = s.start := fun n s' hh => ⟨count_le hh, by rw [to_count hh]; rfl⟩
  generalize countD 500 53 K s = r at CN hcl ⊢
  rcases r with ⟨a, no⟩ | ⟨N, s1⟩
  · unfold PostD at CN
    unfold PostSs
    simp only at CN ⊢
    go_enter Tryz.func36, Tryz.ntmps36
    go_wp2_with (go_at_call 68; refine CN.mono ?_; clear CN; rintro e w1 ⟨⟨q1, p1, rfl, G1⟩, u1⟩)
    exact ⟨rfl, ⟨q1, p1, rfl, G1⟩, u1⟩
  · obtain ⟨hN, hst⟩ := hcl N s1 rfl
    rw [← hst] at y0 y1
    clear hcl hst
    unfold PostD at CN
    simp only at CN ⊢
    obtain ⟨RR, hRR⟩ : ∃ r, iterF (fun _ => spanC1) N [] K s1 = r := ⟨_, rfl⟩
    rw [hRR]
    have HR : Hid (iterF (fun _ => spanC1) N [] K s1 = RR) := hRR
    clear hRR
    go_enter Tryz.func36, Tryz.ntmps36
    go_wp2_with (go_at_call 68; refine CN.mono ?_; clear CN; rintro e w1 ⟨rfl, h1, u1⟩)
    go_loopw [3, 9] (fun ua d wr => ∃ (k : Nat) (A : List (Sp × Pl)) (t : Dst), d = .int .u64 k ∧ k ≤ N ∧ A.length = k ∧ 0 ≤ t.start ∧ t.start ≤ 4611686018427387904 ∧ iterF (fun _ => spanC1) (N - k) (A.map Prod.fst) K t = RR ∧ wr.ownsRow w.heap.size 41 13 ua k (A.flatMap spCL) ∧ (∀ x ∈ A, SpO wr w.heap.size x.1 x.2) ∧ DS c w0 wr K t ∧ Upd (DSet c) w wr) (fun _ d _ => N - (intOf d).toNat)
    case atStart => exact ⟨0, [], s1, rfl, by omega, rfl, y0, y1, HR.out, World.ownsRow_nil _ _ _ _, by simp, h1, u1⟩
    case round =>
      obtain ⟨k, A, t, rfl, hk, hal, y2, y3, hit, ho, hsp, hd, hu⟩ := hrel
      clear h1 u1 y0 y1
      have hsz := hu.size
      by_cases hlt : k < N
      · obtain ⟨m, hm⟩ : ∃ m, N - k = m + 1 := ⟨N - k - 1, by omega⟩
        have hm2 : N - (k + 1) = m := by omega
        rw [hm] at hit
        have HM : Hid (N - (k + 1) = m) := hm2
        have hki : (k : Int) < (N : Int) := by omega
        clear hm hm2
        change bindD spanC1 (fun v => iterF (fun _ => spanC1) m (A.map Prod.fst ++ [v])) K t = RR at hit
        have SC := dSpan c w0 wr K t hd y2 y3
        have c0 := hd.tk.c0
        rcases hr : spanD K t with ⟨a, no⟩ | ⟨x, t2⟩
        · have hs1 : spanC1 K t = .error (a, no) := step_er hr
          rw [bind_er hs1] at hit
          have HF : Hid (Except.error (a, no) = RR) := hit
          rw [hr] at SC
          unfold PostS at SC
          simp only at SC
          clear hit hr hs1
          go_wp2_with (first
            | (go_at_call 64; refine (at_any c.R c.g K t.pos _ hd.isR).mono ?_; rintro e w1 ⟨rfl, hw1⟩; obtain rfl := hw1.symm)
            | (go_at_call 69; refine SC.mono ?_; clear SC; rintro e w2 ⟨⟨q2, p2, rfl, G2⟩, u2⟩))
          exact ⟨rfl, by rw [← HF.out]; exact ⟨⟨q2, p2, rfl, G2⟩, hu.trans u2 (fun _ _ h => h)⟩⟩
        have hfit := span_fit hd.inv hr
        have hst := span_startD hd.inv hr
        have hsm := small_of hfit
        rw [hr] at SC
        unfold PostS at SC
        simp only at SC
        by_cases hc : chkS x = 0
        · have hq := hc
          have hs2 : spanC1 K t = .ok (x, t2) := step_mk hr (by simp only [hc]; rfl)
          rw [bind_mk hs2] at hit
          have HI : Hid (iterF (fun _ => spanC1) m (A.map Prod.fst ++ [x]) K t2 = RR) := hit
          obtain ⟨y4, y5⟩ := (span_can hfit.fits hc).1.start
          rw [← hst] at y4 y5
          clear hit hr hs2 hst hc hfit
          go_wp2_with (first
            | (go_at_call 64; refine (at_any c.R c.g K t.pos _ hd.isR).mono ?_; rintro e w1 ⟨rfl, hw1⟩; obtain rfl := hw1.symm)
            | (go_at_call 69; refine SC.mono ?_; clear SC; rintro e w2 ⟨p, rfl, so, h2, u2⟩; have A1 := heap_alloc_new w2 (.cells #[.int .u64 0, .int .u64 0, .int .u64 0, .int .u64 0, .slice none 0 0, .string ⟨#[]⟩, .string ⟨#[]⟩, .int .i64 0, .int .i64 0, .int .i64 0, .int .i64 0, .slice none 0 0, .slice none 0 0] 41))
            | (refine store_sp (cs := spC x p) A1 rfl (hcs _ _) (hone _ _) rfl rfl rfl rfl ?_; have v3 : Upd (fun _ => False) w2 ((w2.alloc (.cells #[.int .u64 0, .int .u64 0, .int .u64 0, .int .u64 0, .slice none 0 0, .string ⟨#[]⟩, .string ⟨#[]⟩, .int .i64 0, .int .i64 0, .int .i64 0, .int .i64 0, .slice none 0 0, .slice none 0 0] 41)).setRow w2.heap.size (spC x p)) := ((Upd.refl _ w2).alloc (.cells #[.int .u64 0, .int .u64 0, .int .u64 0, .int .u64 0, .slice none 0 0, .string ⟨#[]⟩, .string ⟨#[]⟩, .int .i64 0, .int .i64 0, .int .i64 0, .int .i64 0, .slice none 0 0, .slice none 0 0] 41)).trans (upd_row (w2.alloc (.cells #[.int .u64 0, .int .u64 0, .int .u64 0, .int .u64 0, .slice none 0 0, .string ⟨#[]⟩, .string ⟨#[]⟩, .int .i64 0, .int .i64 0, .int .i64 0, .int .i64 0, .slice none 0 0, .slice none 0 0] 41)) w2.heap.size (spC x p)) (fun i hi e => absurd hi (by rw [e]; exact Nat.lt_irrefl _)); have D := setRow_heap (w2.alloc (.cells #[.int .u64 0, .int .u64 0, .int .u64 0, .int .u64 0, .slice none 0 0, .string ⟨#[]⟩, .string ⟨#[]⟩, .int .i64 0, .int .i64 0, .int .i64 0, .int .i64 0, .slice none 0 0, .slice none 0 0] 41)) w2.heap.size _ (spC x p) 41 (0, 0) A1; clear A1; obtain ⟨w3, hw3⟩ : ∃ W, (w2.alloc (.cells #[.int .u64 0, .int .u64 0, .int .u64 0, .int .u64 0, .slice none 0 0, .string ⟨#[]⟩, .string ⟨#[]⟩, .int .i64 0, .int .i64 0, .int .i64 0, .int .i64 0, .slice none 0 0, .slice none 0 0] 41)).setRow w2.heap.size (spC x p) = W := ⟨_, rfl⟩; rw [hw3] at D v3 ⊢; clear hw3; have h3 := h2.step v3 (fun _ h => h.elim); have so3 := (so.upd v3 (fun _ _ _ _ h => h.elim)).base hsz)
            | (refine load_sp D (hcs _ _) rfl rfl rfl ?_; unfold spC)
            | (go_at_call 19; refine (check_any x p w3 so3.at hsm h3.tabs).mono ?_; rintro e w4 ⟨he4, b4⟩; rw [hq] at he4; obtain rfl := he4; replace D := (b4.block _ (lt_of_block D)).trans D; have u4 : Upd (fun _ => False) w3 w4 := Upd.ofBelow b4 (fun k hk hk' => by omega); have h4 := h3.step u4 (fun _ h => h.elim); have so4 := so3.upd u4 (fun _ _ _ _ h => h.elim); have uw4 : Upd (DSet c) w w4 := hu.trans ((u2.trans v3 (fun _ _ h => h.elim)).trans u4 (fun _ _ h => h.elim)) (fun _ _ h => h); have u24 : Upd (DSet c) wr w4 := (u2.trans v3 (fun _ _ h => h.elim)).trans u4 (fun _ _ h => h.elim); have o4 := own_dset hd ho h00 u24; have z4 := uw4.size; have hc5 : w.heap.size ≤ (w4.alloc (.cells #[.int .u64 x.hi, .int .u64 x.lo, .int .u64 x.id, .int .u64 x.par, .slice p.la x.links.length p.lc, .string x.svc, .string x.op, .int .i64 x.kind, .int .i64 x.status, .int .i64 x.start, .int .i64 x.fin, .slice p.aa x.attrs.length p.ac, .slice p.ea x.events.length p.ec] 41)).heap.size := le_al _ _ _ (by omega))
            | (at_builtin; refine wpList_appW _ rfl (.tmp 25) (.tmp 27) 22 22 rfl w.heap.size 41 i0 _ 13 168 Tryz.underlying22 hi hz0 hz1 hz2 rfl _ _ _ rfl (o4.alloc _) _ 1 [.int .u64 x.hi, .int .u64 x.lo, .int .u64 x.id, .int .u64 x.par, .slice p.la x.links.length p.lc, .string x.svc, .string x.op, .int .i64 x.kind, .int .i64 x.status, .int .i64 x.start, .int .i64 x.fin, .slice p.aa x.attrs.length p.ac, .slice p.ea x.events.length p.ec] rfl (src_cells Tryz.underlying22 w4 [.int .u64 x.hi, .int .u64 x.lo, .int .u64 x.id, .int .u64 x.par, .slice p.la x.links.length p.lc, .string x.svc, .string x.op, .int .i64 x.kind, .int .i64 x.status, .int .i64 x.start, .int .i64 x.fin, .slice p.aa x.attrs.length p.ac, .slice p.ea x.events.length p.ec] 13 41 rfl (by simp [Value.oneCell'])) (by unfold maxLen; omega) (by omega) hc5 ?_; intro v' w6 ho6 hg6 hm6))
          have h5 := h4.below ((Below.refl _ _).alloc (Nat.le_refl _) (.cells #[.int .u64 x.hi, .int .u64 x.lo, .int .u64 x.id, .int .u64 x.par, .slice p.la x.links.length p.lc, .string x.svc, .string x.op, .int .i64 x.kind, .int .i64 x.status, .int .i64 x.start, .int .i64 x.fin, .slice p.aa x.attrs.length p.ac, .slice p.ea x.events.length p.ec] 41))
          have o5 := o4.alloc (.cells #[.int .u64 x.hi, .int .u64 x.lo, .int .u64 x.id, .int .u64 x.par, .slice p.la x.links.length p.lc, .string x.svc, .string x.op, .int .i64 x.kind, .int .i64 x.status, .int .i64 x.start, .int .i64 x.fin, .slice p.aa x.attrs.length p.ac, .slice p.ea x.events.length p.ec] 41)
          have ua5 : Upd (fun _ => False) w4 (w4.alloc (.cells #[.int .u64 x.hi, .int .u64 x.lo, .int .u64 x.id, .int .u64 x.par, .slice p.la x.links.length p.lc, .string x.svc, .string x.op, .int .i64 x.kind, .int .i64 x.status, .int .i64 x.start, .int .i64 x.fin, .slice p.aa x.attrs.length p.ac, .slice p.ea x.events.length p.ec] 41)) := (Upd.refl _ w4).alloc (.cells #[.int .u64 x.hi, .int .u64 x.lo, .int .u64 x.id, .int .u64 x.par, .slice p.la x.links.length p.lc, .string x.svc, .string x.op, .int .i64 x.kind, .int .i64 x.status, .int .i64 x.start, .int .i64 x.fin, .slice p.aa x.attrs.length p.ac, .slice p.ea x.events.length p.ec] 41)
          have so5 := so4.upd ua5 (fun _ _ _ _ h => h.elim)
          have ug : Upd (fun j => (u3 : Value).ownBlock = some j) (w4.alloc (.cells #[.int .u64 x.hi, .int .u64 x.lo, .int .u64 x.id, .int .u64 x.par, .slice p.la x.links.length p.lc, .string x.svc, .string x.op, .int .i64 x.kind, .int .i64 x.status, .int .i64 x.start, .int .i64 x.fin, .slice p.aa x.attrs.length p.ac, .slice p.ea x.events.length p.ec] 41)) w6 := (Upd.refl _ _).grown hg6 (fun j _ e => e)
          have hd6 := h5.step ug (fun j hj => by have := (own_block o5 hj).1; omega)
          have KP : ∀ {y : Sp × Pl}, SpO (w4.alloc (.cells #[.int .u64 x.hi, .int .u64 x.lo, .int .u64 x.id, .int .u64 x.par, .slice p.la x.links.length p.lc, .string x.svc, .string x.op, .int .i64 x.kind, .int .i64 x.status, .int .i64 x.start, .int .i64 x.fin, .slice p.aa x.attrs.length p.ac, .slice p.ea x.events.length p.ec] 41)) w.heap.size y.1 y.2 → SpO w6 w.heap.size y.1 y.2 := fun hy => hy.upd ug (fun j cs ty fz hj hb hh => by
            obtain ⟨_, cs', fz', hh'⟩ := own_block o5 hj
            rw [hh'] at hh
            injection hh with hh
            injection hh with e1 e2 e3
            subst e2
            exact ⟨by decide, by decide, by decide⟩)
          have u6 : Upd (DSet c) w w6 := (uw4.trans ua5 (fun _ _ h => h.elim)).trans ug (fun j hj e => by exfalso; have := (own_block o5 e).1; omega)
          have ho7 : w6.ownsRow w.heap.size 41 13 v' (k + 1) ((A ++ [(x, p)]).flatMap spCL) := by simpa [spCL, spC] using ho6
          have hsp7 : ∀ y ∈ A ++ [(x, p)], SpO w6 w.heap.size y.1 y.2 := by
            intro y hy
            rw [List.mem_append] at hy
            rcases hy with hy | hy
            · exact KP ((((hsp y hy).upd u24 (fun j cs ty fz hj hb hh => by exfalso; have := dset_lt hd hj; omega)).upd ua5 (fun _ _ _ _ h => h.elim)))
            · simp at hy; subst hy; exact KP so5
          obtain ⟨ao, l, cc, rfl⟩ := row_shape ho7
          clear ho6 hg6 hm6 ug o5 KP
          go_wp2
          go_roundw
          case rel => exact ⟨k + 1, A ++ [(x, p)], t2, by go_num, by omega, by simp [hal], y4, y5, by rw [HM.out, List.map_append]; exact HI.out, ho7, hsp7, hd6, u6⟩
          case measure => simp [intOf]; omega
        · obtain ⟨q, hq⟩ : ∃ q : Nat, chkS x = (q : Int) := ⟨(chkS x).toNat, by have := chk_pos hc; omega⟩
          have hs2 : spanC1 K t = .error (t.pos, q) := step_no hr (by simp only [hc, if_false]; rw [hq]; simp)
          rw [bind_er hs2] at hit
          have HF : Hid (Except.error (t.pos, q) = RR) := hit
          have hq0 : (q : Int) ≠ 0 := by rw [← hq]; exact hc
          clear hit hr hs2 hst hc hfit
          go_wp2_with (first
            | (go_at_call 64; refine (at_any c.R c.g K t.pos _ hd.isR).mono ?_; rintro e w1 ⟨rfl, hw1⟩; obtain rfl := hw1.symm)
            | (go_at_call 69; refine SC.mono ?_; clear SC; rintro e w2 ⟨p, rfl, so, h2, u2⟩; have A1 := heap_alloc_new w2 (.cells #[.int .u64 0, .int .u64 0, .int .u64 0, .int .u64 0, .slice none 0 0, .string ⟨#[]⟩, .string ⟨#[]⟩, .int .i64 0, .int .i64 0, .int .i64 0, .int .i64 0, .slice none 0 0, .slice none 0 0] 41))
            | (refine store_sp (cs := spC x p) A1 rfl (hcs _ _) (hone _ _) rfl rfl rfl rfl ?_; have v3 : Upd (fun _ => False) w2 ((w2.alloc (.cells #[.int .u64 0, .int .u64 0, .int .u64 0, .int .u64 0, .slice none 0 0, .string ⟨#[]⟩, .string ⟨#[]⟩, .int .i64 0, .int .i64 0, .int .i64 0, .int .i64 0, .slice none 0 0, .slice none 0 0] 41)).setRow w2.heap.size (spC x p)) := ((Upd.refl _ w2).alloc (.cells #[.int .u64 0, .int .u64 0, .int .u64 0, .int .u64 0, .slice none 0 0, .string ⟨#[]⟩, .string ⟨#[]⟩, .int .i64 0, .int .i64 0, .int .i64 0, .int .i64 0, .slice none 0 0, .slice none 0 0] 41)).trans (upd_row (w2.alloc (.cells #[.int .u64 0, .int .u64 0, .int .u64 0, .int .u64 0, .slice none 0 0, .string ⟨#[]⟩, .string ⟨#[]⟩, .int .i64 0, .int .i64 0, .int .i64 0, .int .i64 0, .slice none 0 0, .slice none 0 0] 41)) w2.heap.size (spC x p)) (fun i hi e => absurd hi (by rw [e]; exact Nat.lt_irrefl _)); have D := setRow_heap (w2.alloc (.cells #[.int .u64 0, .int .u64 0, .int .u64 0, .int .u64 0, .slice none 0 0, .string ⟨#[]⟩, .string ⟨#[]⟩, .int .i64 0, .int .i64 0, .int .i64 0, .int .i64 0, .slice none 0 0, .slice none 0 0] 41)) w2.heap.size _ (spC x p) 41 (0, 0) A1; clear A1; obtain ⟨w3, hw3⟩ : ∃ W, (w2.alloc (.cells #[.int .u64 0, .int .u64 0, .int .u64 0, .int .u64 0, .slice none 0 0, .string ⟨#[]⟩, .string ⟨#[]⟩, .int .i64 0, .int .i64 0, .int .i64 0, .int .i64 0, .slice none 0 0, .slice none 0 0] 41)).setRow w2.heap.size (spC x p) = W := ⟨_, rfl⟩; rw [hw3] at D v3 ⊢; clear hw3; have h3 := h2.step v3 (fun _ h => h.elim); have so3 := (so.upd v3 (fun _ _ _ _ h => h.elim)).base hsz)
            | (refine load_sp D (hcs _ _) rfl rfl rfl ?_; unfold spC)
            | (go_at_call 19; refine (check_any x p w3 so3.at hsm h3.tabs).mono ?_; rintro e w4 ⟨he4, b4⟩; rw [hq] at he4; obtain rfl := he4; replace D := (b4.block _ (lt_of_block D)).trans D; have u4 : Upd (fun _ => False) w3 w4 := Upd.ofBelow b4 (fun k hk hk' => by omega); have h4 := h3.step u4 (fun _ h => h.elim); have so4 := so3.upd u4 (fun _ _ _ _ h => h.elim); have uw4 : Upd (DSet c) w w4 := hu.trans ((u2.trans v3 (fun _ _ h => h.elim)).trans u4 (fun _ _ h => h.elim)) (fun _ _ h => h))
            | (go_at_call 18; refine (giveUp_any _ _ _).mono ?_; rintro e w5 ⟨⟨q5, p5, rfl, G5⟩, b5⟩))
          exact ⟨rfl, by rw [← HF.out]; exact ⟨⟨q5, p5, rfl, G5⟩, uw4.trans (S' := fun _ => False) (Upd.ofBelow b5 (fun k hk hk' => by omega)) (fun _ _ h => h.elim)⟩⟩
      · obtain rfl : k = N := by omega
        rw [Nat.sub_self] at hit
        have HF : Hid (Except.ok (A.map Prod.fst, t) = RR) := hit
        obtain ⟨ao, l, cc, rfl⟩ := row_shape ho
        clear hit
        go_wp2
        go_ret
        show PostSs c w0 K w RR _ _
        rw [← HF.out]
        exact ⟨_, A, rfl, rfl, by omega, by rw [hal]; exact ho, hsp, hd, hu⟩
end Go.Proofs.YthcghpbkadlliabGreatDoor

namespace Go.Proofs.YthcghpbkadlliabGreatDoor
open Go.Shelf Go.RowKit
set_option maxRecDepth 100000

theorem nat_get {l : List Nat} {v : Nat} (h : v < l.length) : (natsV l)[v]? = some (.int .i64 (l[v] : Nat)) := by simp [natsV, h]
set_option maxHeartbeats 1000000 in
theorem dEndS (c : Dc) (w0 w : World) (K : List Int) (s : Dst) (h : DS c w0 w K s) :
    Calls Tryz.prog 37 #[.pointer (some ⟨c.H1, 0, none⟩)] w fun e w' => (if s.tsp < s.texts.length then Ups w' (s.tpl.getD s.tsp 0) 54 e else e = .returned (.tuple #[])) ∧ Upd (fun _ => False) w w' := by
  have TB : w.cell? ⟨c.B1, 0, none⟩ = some (.slice c.a1 c.texts.length c.p1) := blk_cell ((h.upd.block _ (lt_of_block h.fx.b1) (h.fx.off h.fx.b1 (by decide) (by decide) (by decide) (by decide))).trans h.fx.b1) 0 rfl
  have g0 : w.cell? ⟨c.H1, 0, none⟩ = some (.pointer (some ⟨c.B1, 0, none⟩)) := blk_cell h.h1 0 rfl
  have g1 : w.cell? ⟨c.H1, 1, none⟩ = some (.slice c.q1 c.tpl.length c.z1) := blk_cell h.h1 1 rfl
  have g2 : w.cell? ⟨c.H1, 2, none⟩ = some (.int .u64 s.tsp) := blk_cell h.h1 2 rfl
  have ROW := h.fx.own h.upd h.fx.e1 (by decide) (by decide) (by decide) (by decide)
  have hl1 := h.fx.l1
  have hn := h.inv.t3
  rw [h.t1] at hn
  rw [h.t1, h.t2]
  generalize s.tsp = sp at g2 ⊢
  by_cases hlt : sp < c.texts.length
  · simp only [hlt, if_true]
    have hv : sp < c.tpl.length := by omega
    have hget : c.tpl.getD sp 0 = c.tpl[sp] := by rw [List.getD_eq_getElem?_getD, List.getElem?_eq_getElem hv]; rfl
    rw [hget]
    obtain ⟨b, o, e2, e3⟩ := (holdsV_own ROW).plain (nat_get hv)
    have kx := e3 sp _ (nat_get hv)
    generalize c.tpl[sp] = x at kx ⊢
    rw [e2] at g1
    have hi : (sp : Int) < (c.texts.length : Int) := by omega
    have hi2 : (sp : Int) < (c.tpl.length : Int) := by omega
    generalize c.texts.length = L at TB hlt hi hl1 hn
    generalize c.tpl.length = L2 at g1 hi2 hl1
    clear ROW hget h
    go_enter Tryz.func37, Tryz.ntmps37
    go_wp2
    go_quiet (fail)
    go_wp2
    go_region_with (first | (go_at_call 18; refine (giveUp_any _ _ _).mono ?_; rintro e w4 ⟨⟨q4, p4, e4, G4⟩, b4⟩; rcases e with v4 | ch | _; rotate_left; (focus (cases e4; exact ⟨rfl, ⟨q4, p4, rfl, G4⟩, ((Upd.refl _ _).drewN _).trans (S' := fun _ => False) (Upd.ofBelow b4 (fun k hk hk' => by omega)) (fun _ _ h => h)⟩)); (focus (cases e4)); have habs : Hid False := (by cases e4); clear e4 G4 b4))
    all_goals exact habs.out.elim
  · simp only [hlt, if_false]
    have hi : ¬ (sp : Int) < (c.texts.length : Int) := by omega
    generalize c.texts.length = L at TB hlt hi hl1 hn
    clear ROW h
    go_enter Tryz.func37, Tryz.ntmps37
    go_wp2
    go_quiet (fail)
    go_wp2
    go_end0
    exact ⟨rfl, (Upd.refl _ _).drewN _⟩
set_option maxHeartbeats 1000000 in
theorem dEndR (c : Dc) (w0 w : World) (K : List Int) (s : Dst) (h : DS c w0 w K s) :
    Calls Tryz.prog 38 #[.pointer (some ⟨c.H2, 0, none⟩)] w fun e w' => (if s.rsp < s.traces.length then Ups w' (s.rpl.getD s.rsp 0) 54 e else e = .returned (.tuple #[])) ∧ Upd (fun _ => False) w w' := by
  have TB : w.cell? ⟨c.B2, 0, none⟩ = some (.slice c.a2 c.traces.length c.p2) := blk_cell ((h.upd.block _ (lt_of_block h.fx.b2) (h.fx.off h.fx.b2 (by decide) (by decide) (by decide) (by decide))).trans h.fx.b2) 0 rfl
  have g0 : w.cell? ⟨c.H2, 0, none⟩ = some (.pointer (some ⟨c.B2, 0, none⟩)) := blk_cell h.h2 0 rfl
  have g1 : w.cell? ⟨c.H2, 1, none⟩ = some (.slice c.q2 c.rpl.length c.z2) := blk_cell h.h2 1 rfl
  have g2 : w.cell? ⟨c.H2, 2, none⟩ = some (.int .u64 s.rsp) := blk_cell h.h2 2 rfl
  have ROW := h.fx.own h.upd h.fx.e2 (by decide) (by decide) (by decide) (by decide)
  have hl1 := h.fx.l2
  have hn := h.inv.r3
  rw [h.r1] at hn
  rw [h.r1, h.r2]
  generalize s.rsp = sp at g2 ⊢
  by_cases hlt : sp < c.traces.length
  · simp only [hlt, if_true]
    have hv : sp < c.rpl.length := by omega
    have hget : c.rpl.getD sp 0 = c.rpl[sp] := by rw [List.getD_eq_getElem?_getD, List.getElem?_eq_getElem hv]; rfl
    rw [hget]
    obtain ⟨b, o, e2, e3⟩ := (holdsV_own ROW).plain (nat_get hv)
    have kx := e3 sp _ (nat_get hv)
    generalize c.rpl[sp] = x at kx ⊢
    rw [e2] at g1
    have hi : (sp : Int) < (c.traces.length : Int) := by omega
    have hi2 : (sp : Int) < (c.rpl.length : Int) := by omega
    generalize c.traces.length = L at TB hlt hi hl1 hn
    generalize c.rpl.length = L2 at g1 hi2 hl1
    clear ROW hget h
    go_enter Tryz.func38, Tryz.ntmps38
    go_wp2
    go_quiet (fail)
    go_wp2
    go_region_with (first | (go_at_call 18; refine (giveUp_any _ _ _).mono ?_; rintro e w4 ⟨⟨q4, p4, e4, G4⟩, b4⟩; rcases e with v4 | ch | _; rotate_left; (focus (cases e4; exact ⟨rfl, ⟨q4, p4, rfl, G4⟩, ((Upd.refl _ _).drewN _).trans (S' := fun _ => False) (Upd.ofBelow b4 (fun k hk hk' => by omega)) (fun _ _ h => h)⟩)); (focus (cases e4)); have habs : Hid False := (by cases e4); clear e4 G4 b4))
    all_goals exact habs.out.elim
  · simp only [hlt, if_false]
    have hi : ¬ (sp : Int) < (c.traces.length : Int) := by omega
    generalize c.traces.length = L at TB hlt hi hl1 hn
    clear ROW h
    go_enter Tryz.func38, Tryz.ntmps38
    go_wp2
    go_quiet (fail)
    go_wp2
    go_end0
    exact ⟨rfl, (Upd.refl _ _).drewN _⟩
end Go.Proofs.YthcghpbkadlliabGreatDoor
