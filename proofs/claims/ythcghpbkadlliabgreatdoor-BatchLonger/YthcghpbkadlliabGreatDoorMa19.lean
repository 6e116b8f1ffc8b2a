/-
  Merged by merge.py: Xs, Xh.
-/
import Derived.Test.YthcghpbkadlliabGreatDoorMa18
import Derived.Test.YthcghpbkadlliabGreatDoorMa06
import Derived.Lib.SlBytesConst
namespace Go.Proofs.YthcghpbkadlliabGreatDoor
open Go.Shelf Go.RowKit Go.Maps Go.WideMaps
set_option maxRecDepth 100000

theorem FW.setStart {c : Fc} {w : World} {st : Est} {n : Nat} (h : FW c w st n) (v : Int) : FW c (w.setCell ⟨c.F, 3, none⟩ (.int .i64 v)) { st with start := v } n ∧ Fx c w (w.setCell ⟨c.F, 3, none⟩ (.int .i64 v)) := by
  have hu := upd_one w c.F 3 (.int .i64 v)
  have hf : Fx c w (w.setCell ⟨c.F, 3, none⟩ (.int .i64 v)) := by
    refine ⟨hu.below h.base (fun k hk e => by have := h.bF; omega), fun k cs t fz hk ht => (hu.block k (lt_of_block hk) (fun e => ?_)).trans hk, fun k es cl hk _ => (hu.block k (Array.getElem?_eq_some_iff.1 hk).1 (fun e => ?_)).trans hk⟩
    · subst e; have := h.fb; rw [hk] at this; simp at this; simp [FTs, this] at ht
    · subst e; have := h.fb; rw [hk] at this; simp at this
  obtain ⟨v0, h1⟩ := h.isW
  obtain ⟨v1, h2⟩ := h.tb
  obtain ⟨v2, h3⟩ := h.tr
  have n1 : c.B ≠ c.F := ne_of_types h1.block h.fb (by decide)
  have n2 : c.T1 ≠ c.F := ne_of_types h2.block h.fb (by decide)
  have n3 : c.T2 ≠ c.F := ne_of_types h3.block h.fb (by decide)
  refine ⟨⟨?_, ⟨v0, h1.upd hu n1 (fun k hk e => own_neW h1.own h.fb (by decide) (e ▸ hk))⟩, ⟨v1, h2.upd hu n2 (h2.mp.ne h.fb) (fun k hk e => own_neW h2.own h.fb (by decide) (e ▸ hk))⟩, ⟨v2, h3.upd hu n3 (h3.mp.ne h.fb) (fun k hk e => own_neW h3.own h.fb (by decide) (e ▸ hk))⟩, h.mm, h.cnt, Nat.le_trans h.base hu.size, h.bF, h.bB, h.b1, h.b2⟩, hf⟩
  rw [set_block h.fb 3]; rfl
theorem fx_drew {c : Fc} {w : World} {st : Est} {n : Nat} (h : FW c w st n) (m : Nat) : FW c (w.drewN m) st n ∧ Fx c w (w.drewN m) := ⟨h.below (below_drewN (Below.refl _ _) m), Fch.ofBelow (below_drewN (Below.refl _ _) m) h.base⟩
set_option maxHeartbeats 4000000 in
theorem fSpan_any (c : Fc) (st : Est) (n : Nat) (a : Sp) (p : Pl) (w0 w : World) (ha : SpAt w0 a p) (h0 : Below w0.heap.size w0 w) (hB : w0.heap.size ≤ c.base) (h : FW c w st n) (hn : n ≤ 700000000) (hq : SpanQ a) (ht : SpanT a) (hf : a.Fits) (hst : 0 ≤ st.start ∧ st.start ≤ 4611686018427387904) (HEV : ∀ x ∈ a.events, 0 ≤ x.moment ∧ x.moment ≤ 4611686018427387904) :
    Calls Tryz.prog 23 #[.pointer (some ⟨c.F, 0, none⟩), spV a p] w fun e w' => e = .returned (.tuple #[]) ∧ FW c w' (spanE a st) (n + 3000) ∧ Fx c w w' := by
  have hba : Below w.heap.size w (w.alloc (.cells (spC a p) 41)) := (Below.refl _ _).alloc (Nat.le_refl _) _
  have xa := Fch.ofBelow (Ts := FTs) (ms := [c.m1, c.m2]) hba h.base
  have hA := h.below hba
  have X0 := heap_alloc_new w (.cells (spC a p) 41)
  have L0 : ∀ w', Fx c w w' → Below w0.heap.size w0 w' := fun w' hx => h0.trans (hx.below.mono hB)
  obtain ⟨k0, k4⟩ := hq.kind
  obtain ⟨s0, s2⟩ := hq.status
  obtain ⟨t0, t4⟩ := hq.start
  obtain ⟨f0, f4⟩ := hq.fin
  obtain ⟨y0, y4⟩ := hst
  have hs1 : a.svc.size ≤ 200 := ht.svc.1
  have hs2 : a.op.size ≤ 200 := ht.op.1
  -- the contracts, one behind the other
  obtain ⟨st1, e1⟩ : ∃ s, ({ st with traces := insL st.traces (a.hi, a.lo) } : Est) = s := ⟨_, rfl⟩
  have C1 := fun m => fNumR_any c st n (a.hi, a.lo) _ (fx_drew hA m).1 ht.trace (by omega)
  rw [e1] at C1
  have hi1 := idxR_u64 h (by omega) (a.hi, a.lo)
  obtain ⟨ix, hix⟩ : ∃ i, idxL st.traces (a.hi, a.lo) = i := ⟨_, rfl⟩
  rw [hix] at C1 hi1
  generalize decide (ix < st.traces.length) = bb at C1
  obtain ⟨st2, e2⟩ : ∃ s, putE (encN ix) st1 = s := ⟨_, rfl⟩
  have C2 := fun w' (h : FW c w' st1 (n + 1)) => fUint_any c st1 (n + 1) ix hi1 w' h (by omega)
  rw [e2] at C2
  obtain ⟨st3, e3⟩ : ∃ s, putE (rawL a.id) st2 = s := ⟨_, rfl⟩
  have C3 := fun w' => bRaw_any a.id hf.id.1 hf.id.2 w'
  have C4 := fun w' (h : FW c w' st2 (n + 1 + 10)) ad (hK : Holds w' ad 8 (rawL a.id)) => fRaw_any c st2 (n + 1 + 10) ad 8 8 _ w' h hK (by omega) (by omega)
  rw [e3] at C4
  obtain ⟨st4, e4⟩ : ∃ s, putE (rawL a.par) st3 = s := ⟨_, rfl⟩
  have C5 := fun w' => bRaw_any a.par hf.par.1 hf.par.2 w'
  have C6 := fun w' (h : FW c w' st3 (n + 1 + 10 + 8)) ad (hK : Holds w' ad 8 (rawL a.par)) => fRaw_any c st3 (n + 1 + 10 + 8) ad 8 8 _ w' h hK (by omega) (by omega)
  rw [e4] at C6
  obtain ⟨st5, e5⟩ : ∃ s, nameE a.svc st4 = s := ⟨_, rfl⟩
  have C7 := fun w' (h : FW c w' st4 (n + 1 + 10 + 8 + 8)) => fName_any c st4 (n + 1 + 10 + 8 + 8) a.svc w' h hs1 (by omega)
  rw [e5] at C7
  obtain ⟨st6, e6⟩ : ∃ s, nameE a.op st5 = s := ⟨_, rfl⟩
  have C8 := fun w' (h : FW c w' st5 (n + 1 + 10 + 8 + 8 + 11)) => fName_any c st5 (n + 1 + 10 + 8 + 8 + 11) a.op w' h hs2 (by omega)
  rw [e6] at C8
  obtain ⟨st7, e7⟩ : ∃ s, putE [a.kind + 8 * a.status] st6 = s := ⟨_, rfl⟩
  have C9 := fun w' (h : FW c w' st6 (n + 1 + 10 + 8 + 8 + 11 + 11)) => fSmall_any c st6 (n + 1 + 10 + 8 + 8 + 11 + 11) (a.kind + 8 * a.status) (by omega) (by omega) w' h (by omega)
  rw [e7] at C9
  have hst7 : st7.start = st.start := by rw [← e7, ← e6, ← e5, ← e4, ← e3, ← e2, ← e1]; rfl
  obtain ⟨st8, e8⟩ : ∃ s, putE (encN (zigI (a.start - st.start)).toNat) st7 = s := ⟨_, rfl⟩
  have C10 := fun w' (h : FW c w' st7 (n + 1 + 10 + 8 + 8 + 11 + 11 + 1)) => fInt_any c st7 (n + 1 + 10 + 8 + 8 + 11 + 11 + 1) (a.start - st.start) (by omega) (by omega) w' h (by omega)
  rw [e8] at C10
  have D7 : ∀ w', FW c w' st7 (n + 1 + 10 + 8 + 8 + 11 + 11 + 1) → w'.cell? ⟨c.F, 3, none⟩ = some (.int .i64 st.start) := fun w' h => by have := h.c3; rw [hst7] at this; exact this
  have hst8 : st8.start = st.start := by rw [← e8]; exact hst7
  have D8 : ∀ w', FW c w' st8 (n + 1 + 10 + 8 + 8 + 11 + 11 + 1 + 10) → w'.cell? ⟨c.F, 3, none⟩ = some (.int .i64 st.start) := fun w' h => by have := h.c3; rw [hst8] at this; exact this
  clear hst8
  obtain ⟨st9, e9⟩ : ∃ s, putE (encN (a.fin - a.start).toNat) st8 = s := ⟨_, rfl⟩
  have C11 := fun w' (h : FW c w' st8 (n + 1 + 10 + 8 + 8 + 11 + 11 + 1 + 10)) => fUint_any c st8 (n + 1 + 10 + 8 + 8 + 11 + 11 + 1 + 10) (a.fin - a.start).toNat (by omega) w' h (by omega)
  rw [e9, show (((a.fin - a.start).toNat : Nat) : Int) = a.fin - a.start by omega] at C11
  obtain ⟨st10, e10⟩ : ∃ s, ({ st9 with start := a.start } : Est) = s := ⟨_, rfl⟩
  have C12 := fun w' (h : FW c w' st9 (n + 1 + 10 + 8 + 8 + 11 + 11 + 1 + 10 + 10)) => h.setStart a.start
  rw [e10] at C12
  obtain ⟨st11, e11⟩ : ∃ s, linksE a.links st10 = s := ⟨_, rfl⟩
  have C13 := fun w' (hx : Fx c w w') (h : FW c w' st10 (n + 1 + 10 + 8 + 8 + 11 + 11 + 1 + 10 + 10)) => fLinks_any c st10 (n + 1 + 10 + 8 + 8 + 11 + 11 + 1 + 10 + 10) p.la p.lc a.links w0 w' ha.links (L0 w' hx) hB h (by omega) hq.links.1 hq.links.2 hf.links
  rw [e11] at C13
  obtain ⟨st12, e12⟩ : ∃ s, attrsE a.attrs st11 = s := ⟨_, rfl⟩
  have C14 := fun w' (hx : Fx c w w') (h : FW c w' st11 (n + 1 + 10 + 8 + 8 + 11 + 11 + 1 + 10 + 10 + 10 + 160)) => fAttrs_any c st11 (n + 1 + 10 + 8 + 8 + 11 + 11 + 1 + 10 + 10 + 10 + 160) p.aa p.ac a.attrs w0 w' ha.attrs (L0 w' hx) hB h (by omega) hq.attrs.1 (fun x hx => ⟨(ht.attrs x hx).1.1, (ht.attrs x hx).2.1, allQ_mem a.attrs [] hq.attrs.2 x hx⟩)
  rw [e12] at C14
  obtain ⟨st13, e13⟩ : ∃ s, eventsE a.events st12 = s := ⟨_, rfl⟩
  have C15 := fun w' (hx : Fx c w w') (h : FW c w' st12 (n + 1 + 10 + 8 + 8 + 11 + 11 + 1 + 10 + 10 + 10 + 160 + 10 + 1000)) => fEvents_any c st12 (n + 1 + 10 + 8 + 8 + 11 + 11 + 1 + 10 + 10 + 10 + 160 + 10 + 1000) p.ea p.ec a.events w0 w' ha.events (L0 w' hx) hB h (by omega) hq.events.1 hq.events.2 (fun x hx => ⟨(ht.events x hx).1, HEV x hx⟩)
  rw [e13] at C15
  have HF : Hid (spanE a st = st13) := by
    show spanE a st = st13
    rw [← e13, ← e12, ← e11, ← e10, ← e9, ← e8, ← e7, ← e6, ← e5, ← e4, ← e3, ← e2, ← e1, ← hix]; rfl
  clear e1 e2 e3 e4 e5 e6 e7 e8 e9 e10 e11 e12 e13 hst7 hix ha h0 hq ht hf L0
  rw [show spanE a st = st13 from HF.out]
  clear HF
  have wI := wrapI (a.start - st.start) (by omega) (by omega)
  have wI2 := wrapI (a.fin - a.start) (by omega) (by omega)
  have wU2 := wrapU (a.fin - a.start) (by omega) (by omega)
  have c02 := hA.c2
  have c00 := hA.c0
  unfold spV
  unfold spC at *
  generalize a.hi = hi at *
  generalize a.lo = lo at *
  generalize a.id = aid at *
  generalize a.par = par at *
  generalize a.svc = svc at *
  generalize a.op = op at *
  generalize a.kind = kind at *
  generalize a.status = status at *
  generalize a.start = start at *
  generalize a.fin = fin at *
  unfold trV at C1
  simp only at C1
  have bx0 := blk_cell X0 0 rfl
  have bx1 := blk_cell X0 1 rfl
  go_enter Tryz.func23, Tryz.ntmps23
  go_wp2
  go_region_held3 (fun w' => w'.cell? ⟨c.F, 2, none⟩ = some (.pointer (some ⟨c.T2, 0, none⟩)) ∧ w'.cell? ⟨w.heap.size, 0, none⟩ = some (.int .u64 hi) ∧ w'.cell? ⟨w.heap.size, 1, none⟩ = some (.int .u64 lo)) (first | exact ⟨h1.c2, blk_cell X1 0 rfl, blk_cell X1 1 rfl⟩ | (simp [go_sem, *]; done)) (first | (go_at_call 47; refine (C1 1).mono ?_; clear C1; rintro e w1 ⟨rfl, h1, x1⟩; have X1 := x1.other _ _ _ _ X0 (by decide)))
  have y1 := xa.trans ((fx_drew hA 1).2.trans x1)
  have c10 := h1.c0
  clear bx0 bx1 c02 c00
  go_wp2_with (go_at_call 48; refine (C2 _ h1).mono ?_; clear C2; rintro e w2 ⟨rfl, h2, x2⟩; have X2 := x2.other _ _ _ _ X1 (by decide))
  have y2 := y1.trans x2
  have c20 := h2.c0
  have b22 := blk_cell X2 2 rfl
  clear c10
  go_region_held3 (fun w' => w'.cell? ⟨c.F, 0, none⟩ = some (.pointer (some ⟨c.B, 0, none⟩)) ∧ w'.cell? ⟨w.heap.size, 2, none⟩ = some (.int .u64 aid)) (first | exact ⟨h4.c0, blk_cell X4 2 rfl⟩ | exact ⟨h3.c0, blk_cell X3 2 rfl⟩ | (simp [go_sem, *]; done)) (first | (go_at_call 50; refine (C3 _).mono ?_; clear C3; rintro e w3 ⟨rfl, r3, d3⟩; have h3 := ((fx_drew h2 1).1).below d3; have X3 := (d3.block _ (lt_of_block X2)).trans X2; have x3 : Fx c w2 w3 := (fx_drew h2 1).2.trans (Fch.ofBelow d3 (fx_drew h2 1).1.base)) | (go_at_call 49; refine (C4 _ h3 _ (r3.holds)).mono ?_; clear C4; rintro e w4 ⟨rfl, h4, x4⟩; have X4 := x4.other _ _ _ _ X3 (by decide)))
  have y4' := y2.trans (x3.trans x4)
  have c40 := h4.c0
  have b43 := blk_cell X4 3 rfl
  clear c20 b22 r3
  go_wp2
  go_region_held3 (fun w' => w'.cell? ⟨c.F, 0, none⟩ = some (.pointer (some ⟨c.B, 0, none⟩)) ∧ w'.cell? ⟨w.heap.size, 3, none⟩ = some (.int .u64 par)) (first | exact ⟨h6.c0, blk_cell X6 3 rfl⟩ | exact ⟨h5.c0, blk_cell X5 3 rfl⟩ | (simp [go_sem, *]; done)) (first | (go_at_call 50; refine (C5 _).mono ?_; clear C5; rintro e w5 ⟨rfl, r5, d5⟩; have h5 := ((fx_drew h4 1).1).below d5; have X5 := (d5.block _ (lt_of_block X4)).trans X4; have x5 : Fx c w4 w5 := (fx_drew h4 1).2.trans (Fch.ofBelow d5 (fx_drew h4 1).1.base)) | (go_at_call 49; refine (C6 _ h5 _ (r5.holds)).mono ?_; clear C6; rintro e w6 ⟨rfl, h6, x6⟩; have X6 := x6.other _ _ _ _ X5 (by decide)))
  have y6 := y4'.trans (x5.trans x6)
  have b65 := blk_cell X6 5 rfl
  clear c40 b43 r5
  go_wp2_with (first
    | (go_at_call 51; refine (C7 _ h6).mono ?_; clear C7; rintro e w7 ⟨rfl, h7, x7⟩; have X7 := x7.other _ _ _ _ X6 (by decide); have b76 := blk_cell X7 6 rfl)
    | (go_at_call 51; refine (C8 _ h7).mono ?_; clear C8; rintro e w8 ⟨rfl, h8, x8⟩; have X8 := x8.other _ _ _ _ X7 (by decide); have b87 := blk_cell X8 7 rfl; have b88 := blk_cell X8 8 rfl)
    | (go_at_call 52; refine (C9 _ h8).mono ?_; clear C9; rintro e w9 ⟨rfl, h9, x9⟩; have X9 := x9.other _ _ _ _ X8 (by decide)))
  have y9 := y6.trans (x7.trans (x8.trans x9))
  have c90 := h9.c0
  have c93 := D7 _ h9
  have b99 := blk_cell X9 9 rfl
  clear b65 b76 b87 b88
  go_region_held3 (fun w' => w'.cell? ⟨c.F, 0, none⟩ = some (.pointer (some ⟨c.B, 0, none⟩)) ∧ w'.cell? ⟨c.F, 3, none⟩ = some (.int .i64 st.start) ∧ w'.cell? ⟨w.heap.size, 9, none⟩ = some (.int .i64 start)) (first | exact ⟨h10.c0, c103, blk_cell X10 9 rfl⟩ | (simp [go_sem, *]; done)) (first | (go_at_call 53; refine (C10 _ (fx_drew h9 1).1).mono ?_; clear C10; rintro e w10 ⟨rfl, h10, x10⟩; have X10 := x10.other _ _ _ _ X9 (by decide); have c103 := D8 _ h10))
  have y10 := y9.trans ((fx_drew h9 1).2.trans x10)
  have ca0 := h10.c0
  have ba9 := blk_cell X10 9 rfl
  have ba10 := blk_cell X10 10 rfl
  clear c90 c93 b99
  go_wp2
  go_region_held3 (fun w' => w'.cell? ⟨c.F, 0, none⟩ = some (.pointer (some ⟨c.B, 0, none⟩)) ∧ w'.cell? ⟨w.heap.size, 9, none⟩ = some (.int .i64 start) ∧ w'.cell? ⟨w.heap.size, 10, none⟩ = some (.int .i64 fin)) (first | exact ⟨h11.c0, blk_cell X11 9 rfl, blk_cell X11 10 rfl⟩ | (simp [go_sem, *]; done)) (first | (go_at_call 48; refine (C11 _ (fx_drew h10 1).1).mono ?_; clear C11; rintro e w11 ⟨rfl, h11, x11⟩; have X11 := x11.other _ _ _ _ X10 (by decide)))
  have y11 := y10.trans ((fx_drew h10 1).2.trans x11)
  obtain ⟨h12, x12⟩ := C12 _ h11
  have y12 := y11.trans x12
  have X12 := x12.other _ _ _ _ X11 (by decide)
  have cb3 := h11.c3
  have fb3 := blk_free h11.fb 3
  have bb9 := blk_cell X11 9 rfl
  have bc4 := blk_cell X12 4 rfl
  clear ca0 ba9 ba10
  go_wp2_with (first
    | (go_at_call 54; refine (C13 _ y12 h12).mono ?_; clear C13; rintro e w13 ⟨rfl, h13, x13⟩; have X13 := x13.other _ _ _ _ X12 (by decide); have bd11 := blk_cell X13 11 rfl; have y13 := y12.trans x13)
    | (go_at_call 55; refine (C14 _ y13 h13).mono ?_; clear C14; rintro e w14 ⟨rfl, h14, x14⟩; have X14 := x14.other _ _ _ _ X13 (by decide); have be12 := blk_cell X14 12 rfl; have y14 := y13.trans x14)
    | (go_at_call 56; refine (C15 _ y14 h14).mono ?_; clear C15; rintro e w15 ⟨rfl, h15, x15⟩))
  go_end0
  exact ⟨rfl, h15.more (by omega), y14.trans x15⟩
end Go.Proofs.YthcghpbkadlliabGreatDoor

namespace Go.Proofs.YthcghpbkadlliabGreatDoor
open Go.Shelf Go.RowKit Go.Maps Go.WideMaps
set_option maxRecDepth 100000

/-- A Writer of one's own. -/
def WB (w : World) (B : Nat) (L : List Int) : Prop := ∃ v, IsW B w B v L
theorem WB.below {w w' : World} {B : Nat} {L : List Int} (h : WB w B L) (hb : Below w.heap.size w w') : WB w' B L := by obtain ⟨v, hv⟩ := h; exact ⟨v, hv.below hb⟩
theorem WB.lt {w : World} {B : Nat} {L : List Int} (h : WB w B L) : B < w.heap.size := by obtain ⟨v, hv⟩ := h; exact lt_of_block hv.block
theorem gUint (B : Nat) (L : List Int) (u : Nat) (hu : u < 18446744073709551616) (w : World) (h : WB w B L) (hl : L.length ≤ 1000000000000) :
    Calls Tryz.prog 48 #[.pointer (some ⟨B, 0, none⟩), .int .u64 u] w fun e w' => e = .returned (.tuple #[]) ∧ WB w' B (L ++ encN u) ∧ Wch B w w' := by
  obtain ⟨v, hv⟩ := h
  have hl2 := encN_len10 u hu
  refine (uint_any B B v L u hu w hv (Nat.le_of_lt (lt_of_block hv.block)) (by omega)).mono ?_
  rintro e w' ⟨rfl, v', hw, hu', _⟩
  exact ⟨rfl, ⟨v', hw⟩, wch_of hv hu'⟩
theorem gText (B : Nat) (L : List Int) (s : ByteArray) (hs : s.size ≤ 200) (w : World) (h : WB w B L) (hl : L.length ≤ 1000000000000) :
    Calls Tryz.prog 57 #[.pointer (some ⟨B, 0, none⟩), .string s] w fun e w' => e = .returned (.tuple #[]) ∧ WB w' B (L ++ textL s) ∧ Wch B w w' := by
  obtain ⟨v, hv⟩ := h
  have hl2 := encN_len10 s.size (by omega)
  refine (text_any B B v L s (by unfold maxLen; omega) w hv (Nat.le_of_lt (lt_of_block hv.block)) (by omega)).mono ?_
  rintro e w' ⟨rfl, v', hw, hu', _⟩
  exact ⟨rfl, ⟨v', by unfold textL; rw [← List.append_assoc]; exact hw⟩, wch_of hv hu'⟩
theorem gRaw (B : Nat) (L : List Int) (ad : Option Addr) (n cap : Nat) (K : List Int) (w : World) (h : WB w B L) (hK : Holds w ad n K) (hl : L.length ≤ 1000000000000) (hn : n ≤ 1000000000000) :
    Calls Tryz.prog 49 #[.pointer (some ⟨B, 0, none⟩), .slice ad n cap] w fun e w' => e = .returned (.tuple #[]) ∧ WB w' B (L ++ K) ∧ Wch B w w' := by
  obtain ⟨v, hv⟩ := h
  refine (wraw_any B B v L ad n cap K w hv (Nat.le_of_lt (lt_of_block hv.block)) hK (by omega)).mono ?_
  rintro e w' ⟨rfl, v', hw, hu', _⟩
  exact ⟨rfl, ⟨v', hw⟩, wch_of hv hu'⟩
theorem gBytes (base B : Nat) (v : Value) (L : List Int) (w : World) (h : IsW base w B v L) (hl : L.length ≤ 1000000000000) :
    Calls Tryz.prog 58 #[.pointer (some ⟨B, 0, none⟩)] w fun e w' => e = .returned (.slice (some ⟨w.heap.size, 0, none⟩) L.length L.length) ∧ RowAt w' w.heap.size L ∧ Below w.heap.size w w' :=
  bytes_any base B v L w h (by omega)
theorem wnewB (w : World) : Calls Tryz.prog 20 #[] w fun e w' => e = .returned (.pointer (some ⟨w.heap.size, 0, none⟩)) ∧ WB w' w.heap.size [] ∧ Below w.heap.size w w' :=
  (newWriter_any w.heap.size w).mono fun _ w' ⟨he, hW, hw⟩ => ⟨he, ⟨_, hW⟩, by rw [hw]; exact (Below.refl _ _).alloc (Nat.le_refl _) _⟩
/-- Traces, two cells each. -/
structure TrAt (w : World) (ad : Option Addr) (n : Nat) (X : List (Int × Int)) : Prop where
  len : X.length = n
  lies : 0 < n → ∃ b off, ad = some ⟨b, off, none⟩ ∧ ∀ i (_ : i < X.length), w.cell? ⟨b, off + i * 2, none⟩ = some (.int .u64 X[i].1) ∧ w.cell? ⟨b, off + i * 2 + 1, none⟩ = some (.int .u64 X[i].2)
theorem trAt_own {w : World} {base : Nat} {ad : Option Addr} {cap : Nat} {X : List (Int × Int)} (h : w.ownsRow base 33 2 (.slice ad X.length cap) X.length (trsV X)) : TrAt w ad X.length X := by
  refine ⟨rfl, fun hp => ?_⟩
  rcases h.2 with ⟨e, hn⟩ | ⟨g, cap', cur, e, _⟩
  · omega
  · simp at e
    obtain ⟨rfl, rfl⟩ := e
    have hc := h.cells (g := g) rfl
    refine ⟨g, 0, rfl, fun i hi => ?_⟩
    have k0 := hc (i * 2 + 0) _ ((flat_get trC 2 (fun _ => rfl) X i 0 hi (by omega)).trans rfl)
    have k1 := hc (i * 2 + 1) _ ((flat_get trC 2 (fun _ => rfl) X i 1 hi (by omega)).trans rfl)
    rw [Addr.add_lit] at k0 k1
    exact ⟨k0, k1⟩
theorem TrAt.below {w w' : World} {ad : Option Addr} {n : Nat} {A : List (Int × Int)} {B : Nat} (h : TrAt w ad n A) (hB : w.heap.size ≤ B) (hb : Below B w w') : TrAt w' ad n A := by
  refine ⟨h.len, fun hp => ?_⟩
  obtain ⟨b, off, ha, hc⟩ := h.lies hp
  refine ⟨b, off, ha, fun i hi => ?_⟩
  have hlt : b < w.heap.size := World.block_lt_of_cell? w _ (hc i hi).1
  exact ⟨(hb.cell (p := ⟨b, _, none⟩) (Nat.lt_of_lt_of_le hlt hB)).trans (hc i hi).1, (hb.cell (p := ⟨b, _, none⟩) (Nat.lt_of_lt_of_le hlt hB)).trans (hc i hi).2⟩
theorem flat_snoc {α : Type} (f : α → List Int) (X : List α) (k : Nat) (hk : k < X.length) : (X.take (k + 1)).flatMap f = (X.take k).flatMap f ++ f X[k] := by
  rw [List.take_succ_eq_append_getElem hk, List.flatMap_append]; simp
theorem flat_len {α : Type} (f : α → List Int) (m : Nat) : ∀ X : List α, (∀ x ∈ X, (f x).length ≤ m) → (X.flatMap f).length ≤ m * X.length
  | [], _ => by simp
  | x :: r, h => by
    rw [List.flatMap_cons, List.length_append, List.length_cons]
    have h1 := h x (by simp)
    have h2 := flat_len f m r (fun y hy => h y (by simp [hy]))
    rw [Nat.mul_add]; omega
theorem holds_block {w : World} {g : Nat} {K : List Int} {t : TypeId} {fz : Nat × Nat} (h : w.heap[g]? = some (.cells (K.map (Value.int .u8)).toArray t fz)) : Holds w (some ⟨g, 0, none⟩) K.length K := by
  refine ⟨rfl, fun j u hj => ⟨_, rfl, ?_⟩⟩
  rw [Addr.add_lit]
  simp only [World.cell?, Nat.zero_add, h]
  simpa using hj
theorem size_al (w : World) (o : Obj) : (w.alloc o).heap.size = w.heap.size + 1 := by simp
theorem str_get {X : List ByteArray} {k : Nat} (hk : k < X.length) : (strsV X)[k]? = some (.string X[k]) := by simp [strsV, hk]
set_option maxHeartbeats 4000000 in
theorem whole_any (c : Fc) (st : Est) (n sp : Nat) (w : World) (h : FW c w st n) (hE : EInv st) (hn : n ≤ 800000000) (hsp : sp ≤ 500) :
    Calls Tryz.prog 24 #[.pointer (some ⟨c.F, 0, none⟩), .int .i64 sp] w fun e w' => ∃ q, e = .returned (.slice (some ⟨q, 0, none⟩) (wholeE st sp).length (wholeE st sp).length) ∧ RowAt w' q (wholeE st sp) ∧ w.heap.size ≤ q ∧ Below w.heap.size w w' := by
  have c0 := h.c0
  have c1 := h.c1
  have c2 := h.c2
  obtain ⟨v, hW⟩ := h.isW
  obtain ⟨v1, hT⟩ := h.tb
  obtain ⟨v2, hR⟩ := h.tr
  have hcnt := h.cnt
  obtain ⟨a1, l1, p1, rfl⟩ := row_shape hT.own
  obtain ⟨a2, l2, p2, rfl⟩ := row_shape hR.own
  obtain rfl := own_len hT.own
  obtain rfl := own_len hR.own
  have d1 := blk_cell hT.block 0 rfl
  have d2 := blk_cell hR.block 0 rfl
  have HT := holdsV_own hT.own
  have HR := trAt_own hR.own
  have lF := lt_of_block h.fb
  have lT := lt_of_block hT.block
  have lR := lt_of_block hR.block
  have lB := lt_of_block hW.block
  -- what stays
  have ST : ∀ w', Below w.heap.size w w' → w'.cell? ⟨c.F, 0, none⟩ = some (.pointer (some ⟨c.B, 0, none⟩)) ∧ w'.cell? ⟨c.F, 1, none⟩ = some (.pointer (some ⟨c.T1, 0, none⟩)) ∧ w'.cell? ⟨c.F, 2, none⟩ = some (.pointer (some ⟨c.T2, 0, none⟩)) ∧ w'.cell? ⟨c.T1, 0, none⟩ = some (.slice a1 st.texts.length p1) ∧ w'.cell? ⟨c.T2, 0, none⟩ = some (.slice a2 st.traces.length p2) := fun w' hb =>
    ⟨(hb.cell (p := ⟨c.F, 0, none⟩) lF).trans c0, (hb.cell (p := ⟨c.F, 1, none⟩) lF).trans c1, (hb.cell (p := ⟨c.F, 2, none⟩) lF).trans c2, (hb.cell (p := ⟨c.T1, 0, none⟩) lT).trans d1, (hb.cell (p := ⟨c.T2, 0, none⟩) lR).trans d2⟩
  have SW : ∀ w', Below w.heap.size w w' → IsW c.base w' c.B v st.out := fun w' hb => hW.below hb
  have hX : ∀ k (hk : k < st.texts.length), st.texts[k].size ≤ 200 := fun k hk => (hE.t2 _ (List.getElem_mem hk)).1
  have hY : ∀ k (hk : k < st.traces.length), TrcOk st.traces[k] := fun k hk => hE.r2 _ (List.getElem_mem hk)
  have hfx : ∀ k, ((st.texts.take k).flatMap textL).length ≤ 210 * st.texts.length := fun k => by
    have := flat_len textL 210 (st.texts.take k) (fun x hx => by
      have hx2 := (hE.t2 x (List.mem_of_mem_take hx)).1
      have := encN_len10 x.size (by omega)
      unfold textL; rw [List.length_append, bytesI_length]; omega)
    have h2 : (st.texts.take k).length ≤ st.texts.length := by simp; omega
    omega
  have hfy : ∀ k, ((st.traces.take k).flatMap traceL).length ≤ 16 * st.traces.length := fun k => by
    have := flat_len traceL 16 (st.traces.take k) (fun x _ => Nat.le_refl _)
    have h2 : (st.traces.take k).length ≤ st.traces.length := by simp; omega
    omega
  have NW := wnewB w
  unfold wholeE
  obtain ⟨X, eX⟩ : ∃ X, st.texts = X := ⟨_, rfl⟩
  obtain ⟨Y, eY⟩ : ∃ Y, st.traces = Y := ⟨_, rfl⟩
  obtain ⟨O, eO⟩ : ∃ O, st.out = O := ⟨_, rfl⟩
  rw [eX] at HT hX hfx ST hcnt ⊢
  rw [eY] at HR hY hfy ST hcnt ⊢
  rw [eO] at SW hcnt ⊢
  have e10 := encN_len10 X.length (by omega)
  have e11 := encN_len10 Y.length (by omega)
  have e12 := encN_len10 sp (by omega)
  have HX : Hid (∀ k (hk : k < X.length), X[k].size ≤ 200) := hX
  have HY : Hid (∀ k (hk : k < Y.length), TrcOk Y[k]) := hY
  have HFX : Hid (∀ k, ((X.take k).flatMap textL).length ≤ 210 * X.length) := hfx
  have HFY : Hid (∀ k, ((Y.take k).flatMap traceL).length ≤ 16 * Y.length) := hfy
  obtain ⟨N, hN⟩ : ∃ N, X.length = N := ⟨_, rfl⟩
  obtain ⟨M, hM⟩ : ∃ N, Y.length = N := ⟨_, rfl⟩
  have HN : Hid (X.length = N) := hN
  have HM : Hid (Y.length = M) := hM
  have HTT : Hid (HoldsV w a1 N (strsV X)) := by rw [hN] at HT; exact HT
  have HRR : Hid (TrAt w a2 M Y) := by rw [hM] at HR; exact HR
  rw [hN] at ST hcnt e10 ⊢
  rw [hM] at ST hcnt e11 ⊢
  clear hX hY hfx hfy hN hM hE hW hT hR c0 c1 c2 d1 d2 eX eY eO h HT HR
  have KC := fun (w : World) => Lib.run_convert_bytes_const (P := Tryz.prog) w 24 5 #[.int .u8 83, .int .u8 66, .int .u8 1] 3 3 Tryz.underlying24 Tryz.underlying5
  obtain ⟨FL, hFL⟩ : ∃ F, headL ++ (encN N ++ (X.flatMap textL ++ (encN M ++ (Y.flatMap traceL ++ (encN sp ++ O))))) = F := ⟨_, rfl⟩
  rw [hFL]
  have HFL : Hid (headL ++ (encN N ++ (X.flatMap textL ++ (encN M ++ (Y.flatMap traceL ++ (encN sp ++ O))))) = FL) := hFL
  clear hFL
  go_enter Tryz.func24, Tryz.ntmps24
  go_wp2_with (first
    | (go_at_call 20; refine NW.mono ?_; clear NW; rintro e w1 ⟨rfl, h1, b1⟩; have hal : Below w1.heap.size w1 (w1.alloc (.cells #[.int .u8 83, .int .u8 66, .int .u8 1] 5 (3, 4))) := (Below.refl _ _).alloc (Nat.le_refl _) _; have hHd : Holds (w1.alloc (.cells #[.int .u8 83, .int .u8 66, .int .u8 1] 5 (3, 4))) (some ⟨w1.heap.size, 0, none⟩) 3 headL := holds_block (K := headL) (heap_alloc_new _ _); have R1 := gRaw w.heap.size [] (some ⟨w1.heap.size, 0, none⟩) 3 3 headL _ (h1.below hal) hHd (by simp) (by omega); clear hHd)
    | (go_at_call 49; refine R1.mono ?_; clear R1; rintro e w2 ⟨rfl, h2, b2⟩; have bw2 : Below w.heap.size w w2 := b1.trans ((hal.mono (Nat.le_of_lt h1.lt)).trans b2.below); obtain ⟨q0, q1, q2, q3, q4⟩ := ST _ bw2; have U2 := gUint w.heap.size _ N (by omega) _ h2 (by simp [headL]))
    | (go_at_call 48; refine U2.mono ?_; clear U2; rintro e w3 ⟨rfl, h3, b3⟩; have bw3 := bw2.trans b3.below; clear q0 q1 q2 q3 q4; obtain ⟨q0, q1, q2, q3, q4⟩ := ST _ bw3))
  obtain ⟨P, hP⟩ : ∃ P, [] ++ headL ++ encN N = P := ⟨_, rfl⟩
  rw [hP] at h3
  have hPl : P.length ≤ 13 := by rw [← hP]; simp [headL]; omega
  have HP : Hid (headL ++ encN N = P) := by rw [← hP]; rfl
  clear hP h1 h2 b1 b2 hal bw2
  go_loopw [34] (fun b wr => ∃ k : Nat, b = .int .i64 k ∧ k ≤ N ∧ WB wr w.heap.size (P ++ (X.take k).flatMap textL) ∧ Below w.heap.size w wr) (fun b _ => N - (intOf b).toNat)
  case atStart => exact ⟨0, rfl, by omega, by simpa using h3, bw3⟩
  case round =>
    obtain ⟨k, rfl, hk, hw, hb⟩ := hrel
    clear h3 b3 bw3 q0 q1 q2 q3 q4
    have hNN := HN.out
    have hfk := HFX.out k
    by_cases hlt : k < N
    · obtain ⟨bb, oo, rfl, hc1⟩ := (HTT.out.below hb).plain (str_get (by omega : k < X.length))
      have hcx := hc1 k _ (str_get (by omega : k < X.length))
      have hs := HX.out k (by omega)
      have fs := flat_snoc textL X k (by omega)
      have Tx := gText w.heap.size _ X[k] hs wr hw (by simp only [List.length_append]; omega)
      obtain ⟨x, hx⟩ : ∃ x, X[k] = x := ⟨_, rfl⟩
      rw [hx] at hcx fs Tx hs
      have HS : Hid ((X.take (k + 1)).flatMap textL = (X.take k).flatMap textL ++ textL x) := fs
      clear fs hx hc1 hNN
      have hki : (k : Int) < (N : Int) := by omega
      go_wp2_with (go_at_call 57; refine Tx.mono ?_; clear Tx; rintro e w4 ⟨rfl, h4, b4⟩)
      go_roundw
      case rel => exact ⟨k + 1, by go_num, by omega, by rw [HS.out, ← List.append_assoc]; exact h4, hb.trans b4.below⟩
      case measure => simp [intOf]; omega
    · obtain rfl : k = N := by omega
      rw [List.take_of_length_le (by omega)] at hw hfk
      obtain ⟨q0, q1, q2, q3, q4⟩ := ST _ hb
      have U3 := gUint w.heap.size _ M (by omega) wr hw (by simp only [List.length_append]; omega)
      obtain ⟨P2, hP2⟩ : ∃ P2, P ++ X.flatMap textL ++ encN M = P2 := ⟨_, rfl⟩
      rw [hP2] at U3
      have hP2l : P2.length ≤ 210 * X.length + 23 := by rw [← hP2]; simp only [List.length_append]; omega
      have HP2 : Hid (headL ++ (encN k ++ (X.flatMap textL ++ encN M)) = P2) := by show _ = _; rw [← hP2, ← HP.out]; simp only [List.append_assoc]
      rw [HN.out] at hP2l
      clear hP2 hw hNN
      go_wp2_with (go_at_call 48; refine U3.mono ?_; clear U3; rintro e w5 ⟨rfl, h5, b5⟩; have bw5 := hb.trans b5.below; clear q0 q1 q2 q3 q4; obtain ⟨q0, q1, q2, q3, q4⟩ := ST _ bw5)
      go_loopw [61] (fun b wr => ∃ k : Nat, b = .int .i64 k ∧ k ≤ M ∧ WB wr w.heap.size (P2 ++ (Y.take k).flatMap traceL) ∧ Below w.heap.size w wr) (fun b _ => M - (intOf b).toNat)
      case atStart => exact ⟨0, rfl, by omega, by simpa using h5, bw5⟩
      case round =>
        obtain ⟨j, rfl, hj, hw, hb'⟩ := hrel
        clear h5 b5 bw5 q0 q1 q2 q3 q4 hb
        have hMM := HM.out
        have hfj := HFY.out j
        by_cases hlt2 : j < M
        · obtain ⟨bb, oo, rfl, hc1⟩ := (HRR.out.below (Nat.le_refl _) hb').lies (by omega)
          obtain ⟨g0, g1⟩ := hc1 j (by omega)
          have hs := HY.out j (by omega)
          have fs := flat_snoc traceL Y j (by omega)
          obtain ⟨x, hx⟩ : ∃ x, Y[j] = x := ⟨_, rfl⟩
          rw [hx] at g0 g1 fs hs
          obtain ⟨s1, s2⟩ := hs
          have HS : Hid (P2 ++ (Y.take (j + 1)).flatMap traceL = P2 ++ (Y.take j).flatMap traceL ++ rawL x.1 ++ rawL x.2) := by show _ = _; rw [fs]; simp only [traceL, List.append_assoc]
          have hba : Below wr.heap.size wr (wr.alloc (.cells #[.int .u64 x.1, .int .u64 x.2] 33)) := (Below.refl _ _).alloc (Nat.le_refl _) _
          have hBx := heap_alloc_new wr (.cells #[.int .u64 x.1, .int .u64 x.2] 33)
          have hlw := hw.lt
          have R1 := fun w' => bRaw_any x.1 s1.1 s1.2 w'
          have R2 := fun w' => bRaw_any x.2 s2.1 s2.2 w'
          have G1 := fun w' (h : WB w' w.heap.size (P2 ++ (Y.take j).flatMap traceL)) ad (hK : Holds w' ad 8 (rawL x.1)) => gRaw w.heap.size _ ad 8 8 _ w' h hK (by simp only [List.length_append]; omega) (by omega)
          have G2 := fun w' (h : WB w' w.heap.size (P2 ++ (Y.take j).flatMap traceL ++ rawL x.1)) ad (hK : Holds w' ad 8 (rawL x.2)) => gRaw w.heap.size _ ad 8 8 _ w' h hK (by simp only [List.length_append, rawL_len]; omega) (by omega)
          have bx0 := blk_cell hBx 0 rfl
          have lbb : bb < wr.heap.size := World.block_lt_of_cell? wr _ g0
          have hw' := hw.below hba
          clear fs hx hc1 hMM hw
          have hki : (j : Int) < (M : Int) := by omega
          go_wp2_with (first
            | (go_at_call 50; refine (R1 _).mono ?_; clear R1; rintro e w6 ⟨rfl, r6, d6⟩; have h6 := hw'.below d6; rw [size_al] at r6; have X6 := (d6.block _ (lt_of_block hBx)).trans hBx)
            | (go_at_call 49; refine (G1 _ h6 _ r6.holds).mono ?_; clear G1; rintro e w7 ⟨rfl, h7, b7⟩; have X7 := b7.other _ _ _ _ X6 (by decide) (by omega); have e71 := blk_cell X7 1 rfl)
            | (go_at_call 50; refine (R2 _).mono ?_; clear R2; rintro e w8 ⟨rfl, r8, d8⟩; have h8 := h7.below d8)
            | (go_at_call 49; refine (G2 _ h8 _ r8.holds).mono ?_; clear G2; rintro e w9 ⟨rfl, h9, b9⟩))
          go_roundw
          case rel => exact ⟨j + 1, by go_num, by omega, by rw [HS.out]; exact h9, hb'.trans ((hba.mono (Nat.le_of_lt hlw)).trans ((d6.mono (by have := hba.size; omega)).trans (b7.below.trans ((d8.mono (Nat.le_of_lt h7.lt)).trans b9.below))))⟩
          case measure => simp [intOf]; omega
        · obtain rfl : j = M := by omega
          rw [List.take_of_length_le (by omega)] at hw hfj
          obtain ⟨q0, q1, q2, q3, q4⟩ := ST _ hb'
          have U4 := gUint w.heap.size _ sp (by omega) wr hw (by simp only [List.length_append]; omega)
          have HH : ∀ w' g, RowAt w' g O → Holds w' (some ⟨g, 0, none⟩) O.length O := fun w' g h => h.holds
          have B5 := fun w' (hb : Below w.heap.size w w') => gBytes c.base c.B v O w' (SW w' hb) (by omega)
          have G6 := fun w' (h : WB w' w.heap.size (P2 ++ Y.flatMap traceL ++ encN sp)) ad (hK : Holds w' ad O.length O) => gRaw w.heap.size _ ad O.length O.length O w' h hK (by simp only [List.length_append]; omega) (by omega)
          have hF : P2 ++ Y.flatMap traceL ++ encN sp ++ O = FL := by rw [← HFL.out, ← HP2.out]; simp only [List.append_assoc]
          have hFl : FL.length ≤ 1000000000000 := by rw [← hF]; simp only [List.length_append]; omega
          rw [hF] at G6
          clear hF hw
          generalize O.length = ol at *
          go_wp2_with (first
            | (go_at_call 48; refine U4.mono ?_; clear U4; rintro e w6 ⟨rfl, h6, b6⟩; have bw6 := hb'.trans b6.below; clear q0 q1 q2 q3 q4; obtain ⟨q0, q1, q2, q3, q4⟩ := ST _ bw6)
            | (go_at_call 58; refine (B5 _ bw6).mono ?_; clear B5; rintro e w7 ⟨rfl, r7, d7⟩; have h7 := h6.below d7; have bw7 := bw6.trans (d7.mono bw6.size))
            | (go_at_call 49; refine (G6 _ h7 _ (HH _ _ r7)).mono ?_; clear G6; rintro e w8 ⟨rfl, ⟨v8, h8⟩, b8⟩; have bw8 := bw7.trans b8.below)
            | (go_at_call 58; refine (gBytes _ _ _ _ _ h8 hFl).mono ?_; rintro e w9 ⟨rfl, r9, d9⟩))
          go_ret
          exact ⟨_, rfl, r9, bw8.size, bw8.trans (d9.mono bw8.size)⟩
end Go.Proofs.YthcghpbkadlliabGreatDoor
