/-
  SV.
-/
import Derived.Test.YtnffedmcblbkoaaGreatDoorSRq
namespace Go.Proofs.YtnffedmcblbkoaaGreatDoor
open Go.RowKit
set_option maxRecDepth 100000
theorem cmp_13 (a b : Sp) : orL [cmpI a.hi b.hi, cmpI a.lo b.lo, cmpI a.id b.id, cmpI a.fin b.fin, cmpI b.start a.start, cmpI a.status b.status, cmpI a.par b.par, cmpS a.svc b.svc, cmpS a.op b.op, cmpI a.kind b.kind, lexL cmpI a.links b.links, lexL cmpA a.attrs b.attrs, lexL cmpE a.events b.events] = cmpP a b := by
 simp only [cmpP, cmpN, cmpT, orL, orI_zero, orI_assoc]
theorem first_fresh (w : World) (K : List Int) (hl : K.length ≤ 1000000) :
  Calls Tryz.prog 168 #[.slice (some ⟨w.heap.size, 0, none⟩) K.length K.length] (w.alloc (.cells (K.map (Value.int .i64)).toArray 3)) fun e w' => e = .returned (.int .i64 (orL K)) ∧ w' = w.alloc (.cells (K.map (Value.int .i64)).toArray 3) :=
 first_any _ _ _ K _ (holds_new (w := w.alloc (.cells (K.map (Value.int .i64)).toArray 3)) (K := K) (alloc_at rfl)) hl
set_option maxHeartbeats 2000000 in
theorem refCompare_any (a b : Sp) (p q : Pl) (w : World) (ha : SpAt w a p) (hb : SpAt w b q) :
  Calls Tryz.prog 107 #[spV a p, spV b q] w fun e w' => e = .returned (.int .i64 (cmpP a b)) ∧ Below w.heap.size w w' := by
 have B0 : Below w.heap.size w ((w.alloc (.cells (spC a p) 102)).alloc (.cells (spC b q) 102)) := ((Below.refl _ _).alloc (Nat.le_refl _) _).alloc (by simp) _
 have sz : ((w.alloc (.cells (spC a p) 102)).alloc (.cells (spC b q) 102)).heap.size = w.heap.size + 2 := by rw [World.size_alloc, World.size_alloc]
 have x0 : ((w.alloc (.cells (spC a p) 102)).alloc (.cells (spC b q) 102)).heap[w.heap.size]? = some (.cells (spC a p) 102 (0, 0)) := (Below.heap_alloc _ _ _ (by simp)).trans (alloc_at rfl)
 have x1 : ((w.alloc (.cells (spC a p) 102)).alloc (.cells (spC b q) 102)).heap[w.heap.size + 1]? = some (.cells (spC b q) 102 (0, 0)) := alloc_at (by rw [World.size_alloc])
 have HLK : Hid (∀ W, Below w.heap.size w W → _) := fun W (h : Below w.heap.size w W) => linksOf_any p.la q.la a.links.length b.links.length p.lc q.lc a.links b.links W (ha.links.below h) (hb.links.below h) ha.sl hb.sl
 have HAT : Hid (∀ W, Below w.heap.size w W → _) := fun W (h : Below w.heap.size w W) => attrsOf_any p.aa q.aa a.attrs.length b.attrs.length p.ac q.ac a.attrs b.attrs W (ha.attrs.below h) (hb.attrs.below h) ha.sa hb.sa
 have HEV : Hid (∀ W, Below w.heap.size w W → _) := fun W (h : Below w.heap.size w W) => eventsOf_any p.ea q.ea a.events.length b.events.length p.ec q.ec a.events b.events W (ha.events.below h) (hb.events.below h) ha.se hb.se
 have HFI : Hid (∀ W : World, _) := fun W : World => first_fresh W [cmpI a.hi b.hi, cmpI a.lo b.lo, cmpI a.id b.id, cmpI a.fin b.fin, cmpI b.start a.start, cmpI a.status b.status, cmpI a.par b.par, cmpS a.svc b.svc, cmpS a.op b.op, cmpI a.kind b.kind, lexL cmpI a.links b.links, lexL cmpA a.attrs b.attrs, lexL cmpE a.events b.events] (by simp)
 have KP : ∀ W, Below ((w.alloc (.cells (spC a p) 102)).alloc (.cells (spC b q) 102)).heap.size ((w.alloc (.cells (spC a p) 102)).alloc (.cells (spC b q) 102)) W → W.cell? ⟨w.heap.size, 0, none⟩ = some (.int .u64 a.hi) ∧ W.cell? ⟨w.heap.size, 1, none⟩ = some (.int .u64 a.lo) ∧ W.cell? ⟨w.heap.size, 2, none⟩ = some (.int .u64 a.id) ∧ W.cell? ⟨w.heap.size, 3, none⟩ = some (.int .u64 a.par) ∧ W.cell? ⟨w.heap.size, 4, none⟩ = some (.slice p.la a.links.length p.lc) ∧ W.cell? ⟨w.heap.size, 5, none⟩ = some (.string a.svc) ∧ W.cell? ⟨w.heap.size, 6, none⟩ = some (.string a.op) ∧ W.cell? ⟨w.heap.size, 7, none⟩ = some (.int .i64 a.kind) ∧ W.cell? ⟨w.heap.size, 8, none⟩ = some (.int .i64 a.status) ∧ W.cell? ⟨w.heap.size, 9, none⟩ = some (.int .i64 a.start) ∧ W.cell? ⟨w.heap.size, 10, none⟩ = some (.int .i64 a.fin) ∧ W.cell? ⟨w.heap.size, 11, none⟩ = some (.slice p.aa a.attrs.length p.ac) ∧ W.cell? ⟨w.heap.size, 12, none⟩ = some (.slice p.ea a.events.length p.ec) ∧ W.cell? ⟨w.heap.size + 1, 0, none⟩ = some (.int .u64 b.hi) ∧ W.cell? ⟨w.heap.size + 1, 1, none⟩ = some (.int .u64 b.lo) ∧ W.cell? ⟨w.heap.size + 1, 2, none⟩ = some (.int .u64 b.id) ∧ W.cell? ⟨w.heap.size + 1, 3, none⟩ = some (.int .u64 b.par) ∧ W.cell? ⟨w.heap.size + 1, 4, none⟩ = some (.slice q.la b.links.length q.lc) ∧ W.cell? ⟨w.heap.size + 1, 5, none⟩ = some (.string b.svc) ∧ W.cell? ⟨w.heap.size + 1, 6, none⟩ = some (.string b.op) ∧ W.cell? ⟨w.heap.size + 1, 7, none⟩ = some (.int .i64 b.kind) ∧ W.cell? ⟨w.heap.size + 1, 8, none⟩ = some (.int .i64 b.status) ∧ W.cell? ⟨w.heap.size + 1, 9, none⟩ = some (.int .i64 b.start) ∧ W.cell? ⟨w.heap.size + 1, 10, none⟩ = some (.int .i64 b.fin) ∧ W.cell? ⟨w.heap.size + 1, 11, none⟩ = some (.slice q.aa b.attrs.length q.ac) ∧ W.cell? ⟨w.heap.size + 1, 12, none⟩ = some (.slice q.ea b.events.length q.ec) := fun W h => by
  have q0 := (h.block _ (lt_of_block x0)).trans x0
  have q1 := (h.block _ (lt_of_block x1)).trans x1
  exact ⟨cell_blk q0 0 rfl, cell_blk q0 1 rfl, cell_blk q0 2 rfl, cell_blk q0 3 rfl, cell_blk q0 4 rfl, cell_blk q0 5 rfl, cell_blk q0 6 rfl, cell_blk q0 7 rfl, cell_blk q0 8 rfl, cell_blk q0 9 rfl, cell_blk q0 10 rfl, cell_blk q0 11 rfl, cell_blk q0 12 rfl, cell_blk q1 0 rfl, cell_blk q1 1 rfl, cell_blk q1 2 rfl, cell_blk q1 3 rfl, cell_blk q1 4 rfl, cell_blk q1 5 rfl, cell_blk q1 6 rfl, cell_blk q1 7 rfl, cell_blk q1 8 rfl, cell_blk q1 9 rfl, cell_blk q1 10 rfl, cell_blk q1 11 rfl, cell_blk q1 12 rfl⟩
 have HB0 : Hid _ := B0
 have BR : Below ((w.alloc (.cells (spC a p) 102)).alloc (.cells (spC b q) 102)).heap.size ((w.alloc (.cells (spC a p) 102)).alloc (.cells (spC b q) 102)) ((w.alloc (.cells (spC a p) 102)).alloc (.cells (spC b q) 102)).drew := (Below.refl _ _).drew
 have HBR : Hid _ := BR
 have h13 := cmp_13 a b
 have HT : Hid _ := h13
 clear ha hb x0 x1 sz B0 h13
 generalize cmpP a b = cc at *
 unfold spV spC at *
 go_enter Tryz.func107, Tryz.ntmps107
 go_wp2
 simp only [List.append]
 go_region_held3 (fun W => W.cell? ⟨w.heap.size, 0, none⟩ = some (.int .u64 a.hi) ∧ W.cell? ⟨w.heap.size, 1, none⟩ = some (.int .u64 a.lo) ∧ W.cell? ⟨w.heap.size, 2, none⟩ = some (.int .u64 a.id) ∧ W.cell? ⟨w.heap.size, 3, none⟩ = some (.int .u64 a.par) ∧ W.cell? ⟨w.heap.size, 4, none⟩ = some (.slice p.la a.links.length p.lc) ∧ W.cell? ⟨w.heap.size, 5, none⟩ = some (.string a.svc) ∧ W.cell? ⟨w.heap.size, 6, none⟩ = some (.string a.op) ∧ W.cell? ⟨w.heap.size, 7, none⟩ = some (.int .i64 a.kind) ∧ W.cell? ⟨w.heap.size, 8, none⟩ = some (.int .i64 a.status) ∧ W.cell? ⟨w.heap.size, 9, none⟩ = some (.int .i64 a.start) ∧ W.cell? ⟨w.heap.size, 10, none⟩ = some (.int .i64 a.fin) ∧ W.cell? ⟨w.heap.size, 11, none⟩ = some (.slice p.aa a.attrs.length p.ac) ∧ W.cell? ⟨w.heap.size, 12, none⟩ = some (.slice p.ea a.events.length p.ec) ∧ W.cell? ⟨w.heap.size + 1, 0, none⟩ = some (.int .u64 b.hi) ∧ W.cell? ⟨w.heap.size + 1, 1, none⟩ = some (.int .u64 b.lo) ∧ W.cell? ⟨w.heap.size + 1, 2, none⟩ = some (.int .u64 b.id) ∧ W.cell? ⟨w.heap.size + 1, 3, none⟩ = some (.int .u64 b.par) ∧ W.cell? ⟨w.heap.size + 1, 4, none⟩ = some (.slice q.la b.links.length q.lc) ∧ W.cell? ⟨w.heap.size + 1, 5, none⟩ = some (.string b.svc) ∧ W.cell? ⟨w.heap.size + 1, 6, none⟩ = some (.string b.op) ∧ W.cell? ⟨w.heap.size + 1, 7, none⟩ = some (.int .i64 b.kind) ∧ W.cell? ⟨w.heap.size + 1, 8, none⟩ = some (.int .i64 b.status) ∧ W.cell? ⟨w.heap.size + 1, 9, none⟩ = some (.int .i64 b.start) ∧ W.cell? ⟨w.heap.size + 1, 10, none⟩ = some (.int .i64 b.fin) ∧ W.cell? ⟨w.heap.size + 1, 11, none⟩ = some (.slice q.aa b.attrs.length q.ac) ∧ W.cell? ⟨w.heap.size + 1, 12, none⟩ = some (.slice q.ea b.events.length q.ec)) (first | exact KP _ BR | exact KP _ B1 | exact KP _ B2 | exact KP _ B3 | exact KP _ (B3.alloc B3.size _)) (first
  | (go_at_call 169; refine (words_any _ _ _).mono ?_; rintro e w' ⟨rfl, rfl⟩)
  | (go_at_call 170; refine (numbers_any _ _ _).mono ?_; rintro e w' ⟨rfl, rfl⟩)
  | (go_at_call 171; refine (texts_any _ _ _).mono ?_; rintro e w' ⟨rfl, rfl⟩)
  | (go_at_call 172; refine (HLK.out _ HB0.out.drew).mono ?_; rintro e w1 ⟨rfl, b1⟩; have B1 := HBR.out.trans b1; have HB1 : Hid _ := B1)
  | (go_at_call 173; refine (HAT.out w1 (HB0.out.trans (HB1.out.mono HB0.out.size))).mono ?_; rintro e w2 ⟨rfl, b2⟩; have B2 := HB1.out.trans (b2.mono HB1.out.size); have HB2 : Hid _ := B2)
  | (go_at_call 174; refine (HEV.out w2 (HB0.out.trans (HB2.out.mono HB0.out.size))).mono ?_; rintro e w3 ⟨rfl, b3⟩; have B3 := HB2.out.trans (b3.mono HB2.out.size); have HB3 : Hid _ := B3; have FI := HFI.out w3; simp only [List.map, List.length_cons, List.length_nil, Nat.zero_add, Nat.reduceAdd] at FI)
  | (go_at_call 168; refine FI.mono ?_; rintro e w' ⟨rfl, rfl⟩))
 all_goals
  go_wp2
  go_ret
  exact ⟨ret_int HT.out, (HB0.out.trans (HB3.out.mono HB0.out.size)).alloc (Nat.le_trans HB0.out.size HB3.out.size) _⟩
end Go.Proofs.YtnffedmcblbkoaaGreatDoor
