/-
  Merged: SV, SW.
-/
import Derived.Test.YtiflfapdffkcbaaGreatDoorSRq
import Derived.Test.YtiflfapdffkcbaaGreatDoorSOq
namespace Go.Proofs.YtiflfapdffkcbaaGreatDoor
open Go.RowKit
set_option maxRecDepth 100000

theorem cmp_13 (a b : Sp) : orL [cmpI a.hi b.hi, cmpI a.lo b.lo, cmpI a.id b.id, cmpI a.fin b.fin, cmpI b.start a.start, cmpI a.status b.status, cmpI a.par b.par, cmpS a.svc b.svc, cmpS a.op b.op, cmpI a.kind b.kind, lexL cmpI a.links b.links, lexL cmpA a.attrs b.attrs, lexL cmpE a.events b.events] = cmpP a b := by
  simp only [cmpP, cmpN, cmpT, orL, orI_zero, orI_assoc]
theorem first_fresh (w : World) (K : List Int) (hl : K.length ≤ 1000000) :
    Calls Tryz.prog 21 #[.slice (some ⟨w.heap.size, 0, none⟩) K.length K.length] (w.alloc (.cells (K.map (Value.int .i64)).toArray 3)) fun e w' => e = .returned (.int .i64 (orL K)) ∧ w' = w.alloc (.cells (K.map (Value.int .i64)).toArray 3) :=
  first_any _ _ _ K _ (holds_new (w := w.alloc (.cells (K.map (Value.int .i64)).toArray 3)) (K := K) (alloc_at rfl)) hl
set_option maxHeartbeats 2000000 in
theorem refCompare_any (a b : Sp) (p q : Pl) (w : World) (ha : SpAt w a p) (hb : SpAt w b q) :
    Calls Tryz.prog 13 #[spV a p, spV b q] w fun e w' => e = .returned (.int .i64 (cmpP a b)) ∧ Below w.heap.size w w' := by
  have B0 : Below w.heap.size w ((w.alloc (.cells (spC a p) 41)).alloc (.cells (spC b q) 41)) := ((Below.refl _ _).alloc (Nat.le_refl _) _).alloc (by simp) _
  have sz : ((w.alloc (.cells (spC a p) 41)).alloc (.cells (spC b q) 41)).heap.size = w.heap.size + 2 := by rw [World.size_alloc, World.size_alloc]
  have x0 : ((w.alloc (.cells (spC a p) 41)).alloc (.cells (spC b q) 41)).heap[w.heap.size]? = some (.cells (spC a p) 41 (0, 0)) := (Below.heap_alloc _ _ _ (by simp)).trans (alloc_at rfl)
  have x1 : ((w.alloc (.cells (spC a p) 41)).alloc (.cells (spC b q) 41)).heap[w.heap.size + 1]? = some (.cells (spC b q) 41 (0, 0)) := alloc_at (by rw [World.size_alloc])
  have HLK : Hid (∀ W, Below w.heap.size w W → _) := fun W (h : Below w.heap.size w W) => linksOf_any p.la q.la a.links.length b.links.length p.lc q.lc a.links b.links W (ha.links.below h) (hb.links.below h) ha.sl hb.sl
  have HAT : Hid (∀ W, Below w.heap.size w W → _) := fun W (h : Below w.heap.size w W) => attrsOf_any p.aa q.aa a.attrs.length b.attrs.length p.ac q.ac a.attrs b.attrs W (ha.attrs.below h) (hb.attrs.below h) ha.sa hb.sa
  have HEV : Hid (∀ W, Below w.heap.size w W → _) := fun W (h : Below w.heap.size w W) => eventsOf_any p.ea q.ea a.events.length b.events.length p.ec q.ec a.events b.events W (ha.events.below h) (hb.events.below h) ha.se hb.se
  have HFI : Hid (∀ W : World, _) := fun W : World => first_fresh W [cmpI a.hi b.hi, cmpI a.lo b.lo, cmpI a.id b.id, cmpI a.fin b.fin, cmpI b.start a.start, cmpI a.status b.status, cmpI a.par b.par, cmpS a.svc b.svc, cmpS a.op b.op, cmpI a.kind b.kind, lexL cmpI a.links b.links, lexL cmpA a.attrs b.attrs, lexL cmpE a.events b.events] (by simp)
  have KP : ∀ W, Below ((w.alloc (.cells (spC a p) 41)).alloc (.cells (spC b q) 41)).heap.size ((w.alloc (.cells (spC a p) 41)).alloc (.cells (spC b q) 41)) W → W.cell? ⟨w.heap.size, 0, none⟩ = some (.int .u64 a.hi) ∧ W.cell? ⟨w.heap.size, 1, none⟩ = some (.int .u64 a.lo) ∧ W.cell? ⟨w.heap.size, 2, none⟩ = some (.int .u64 a.id) ∧ W.cell? ⟨w.heap.size, 3, none⟩ = some (.int .u64 a.par) ∧ W.cell? ⟨w.heap.size, 4, none⟩ = some (.slice p.la a.links.length p.lc) ∧ W.cell? ⟨w.heap.size, 5, none⟩ = some (.string a.svc) ∧ W.cell? ⟨w.heap.size, 6, none⟩ = some (.string a.op) ∧ W.cell? ⟨w.heap.size, 7, none⟩ = some (.int .i64 a.kind) ∧ W.cell? ⟨w.heap.size, 8, none⟩ = some (.int .i64 a.status) ∧ W.cell? ⟨w.heap.size, 9, none⟩ = some (.int .i64 a.start) ∧ W.cell? ⟨w.heap.size, 10, none⟩ = some (.int .i64 a.fin) ∧ W.cell? ⟨w.heap.size, 11, none⟩ = some (.slice p.aa a.attrs.length p.ac) ∧ W.cell? ⟨w.heap.size, 12, none⟩ = some (.slice p.ea a.events.length p.ec) ∧ W.cell? ⟨w.heap.size + 1, 0, none⟩ = some (.int .u64 b.hi) ∧ W.cell? ⟨w.heap.size + 1, 1, none⟩ = some (.int .u64 b.lo) ∧ W.cell? ⟨w.heap.size + 1, 2, none⟩ = some (.int .u64 b.id) ∧ W.cell? ⟨w.heap.size + 1, 3, none⟩ = some (.int .u64 b.par) ∧ W.cell? ⟨w.heap.size + 1, 4, none⟩ = some (.slice q.la b.links.length q.lc) ∧ W.cell? ⟨w.heap.size + 1, 5, none⟩ = some (.string b.svc) ∧ W.cell? ⟨w.heap.size + 1, 6, none⟩ = some (.string b.op) ∧ W.cell? ⟨w.heap.size + 1, 7, none⟩ = some (.int .i64 b.kind) ∧ W.cell? ⟨w.heap.size + 1, 8, none⟩ = some (.int .i64 b.status) ∧ W.cell? ⟨w.heap.size + 1, 9, none⟩ = some (.int .i64 b.start) ∧ W.cell? ⟨w.heap.size + 1, 10, none⟩ = some (.int .i64 b.fin) ∧ W.cell? ⟨w.heap.size + 1, 11, none⟩ = some (.slice q.aa b.attrs.length q.ac) ∧ W.cell? ⟨w.heap.size + 1, 12, none⟩ = some (.slice q.ea b.events.length q.ec) := fun W h => by
    have q0 := (h.block _ (lt_of_block x0)).trans x0
    have q1 := (h.block _ (lt_of_block x1)).trans x1
    exact ⟨cell_blk q0 0 rfl, cell_blk q0 1 rfl, cell_blk q0 2 rfl, cell_blk q0 3 rfl, cell_blk q0 4 rfl, cell_blk q0 5 rfl, cell_blk q0 6 rfl, cell_blk q0 7 rfl, cell_blk q0 8 rfl, cell_blk q0 9 rfl, cell_blk q0 10 rfl, cell_blk q0 11 rfl, cell_blk q0 12 rfl, cell_blk q1 0 rfl, cell_blk q1 1 rfl, cell_blk q1 2 rfl, cell_blk q1 3 rfl, cell_blk q1 4 rfl, cell_blk q1 5 rfl, cell_blk q1 6 rfl, cell_blk q1 7 rfl, cell_blk q1 8 rfl, cell_blk q1 9 rfl, cell_blk q1 10 rfl, cell_blk q1 11 rfl, cell_blk q1 12 rfl⟩
  have HB0 : Hid _ := B0
  have BR : Below ((w.alloc (.cells (spC a p) 41)).alloc (.cells (spC b q) 41)).heap.size ((w.alloc (.cells (spC a p) 41)).alloc (.cells (spC b q) 41)) ((w.alloc (.cells (spC a p) 41)).alloc (.cells (spC b q) 41)).drew := (Below.refl _ _).drew
  have HBR : Hid _ := BR
  have h13 := cmp_13 a b
  have HT : Hid _ := h13
  clear ha hb x0 x1 sz B0 h13
  generalize cmpP a b = cc at *
  unfold spV spC at *
  go_enter Tryz.func13, Tryz.ntmps13
  go_wp2
  simp only [List.append]
  go_region_held3 (fun W => W.cell? ⟨w.heap.size, 0, none⟩ = some (.int .u64 a.hi) ∧ W.cell? ⟨w.heap.size, 1, none⟩ = some (.int .u64 a.lo) ∧ W.cell? ⟨w.heap.size, 2, none⟩ = some (.int .u64 a.id) ∧ W.cell? ⟨w.heap.size, 3, none⟩ = some (.int .u64 a.par) ∧ W.cell? ⟨w.heap.size, 4, none⟩ = some (.slice p.la a.links.length p.lc) ∧ W.cell? ⟨w.heap.size, 5, none⟩ = some (.string a.svc) ∧ W.cell? ⟨w.heap.size, 6, none⟩ = some (.string a.op) ∧ W.cell? ⟨w.heap.size, 7, none⟩ = some (.int .i64 a.kind) ∧ W.cell? ⟨w.heap.size, 8, none⟩ = some (.int .i64 a.status) ∧ W.cell? ⟨w.heap.size, 9, none⟩ = some (.int .i64 a.start) ∧ W.cell? ⟨w.heap.size, 10, none⟩ = some (.int .i64 a.fin) ∧ W.cell? ⟨w.heap.size, 11, none⟩ = some (.slice p.aa a.attrs.length p.ac) ∧ W.cell? ⟨w.heap.size, 12, none⟩ = some (.slice p.ea a.events.length p.ec) ∧ W.cell? ⟨w.heap.size + 1, 0, none⟩ = some (.int .u64 b.hi) ∧ W.cell? ⟨w.heap.size + 1, 1, none⟩ = some (.int .u64 b.lo) ∧ W.cell? ⟨w.heap.size + 1, 2, none⟩ = some (.int .u64 b.id) ∧ W.cell? ⟨w.heap.size + 1, 3, none⟩ = some (.int .u64 b.par) ∧ W.cell? ⟨w.heap.size + 1, 4, none⟩ = some (.slice q.la b.links.length q.lc) ∧ W.cell? ⟨w.heap.size + 1, 5, none⟩ = some (.string b.svc) ∧ W.cell? ⟨w.heap.size + 1, 6, none⟩ = some (.string b.op) ∧ W.cell? ⟨w.heap.size + 1, 7, none⟩ = some (.int .i64 b.kind) ∧ W.cell? ⟨w.heap.size + 1, 8, none⟩ = some (.int .i64 b.status) ∧ W.cell? ⟨w.heap.size + 1, 9, none⟩ = some (.int .i64 b.start) ∧ W.cell? ⟨w.heap.size + 1, 10, none⟩ = some (.int .i64 b.fin) ∧ W.cell? ⟨w.heap.size + 1, 11, none⟩ = some (.slice q.aa b.attrs.length q.ac) ∧ W.cell? ⟨w.heap.size + 1, 12, none⟩ = some (.slice q.ea b.events.length q.ec)) (first | exact KP _ BR | exact KP _ B1 | exact KP _ B2 | exact KP _ B3 | exact KP _ (B3.alloc B3.size _)) (first
    | (go_at_call 22; refine (words_any _ _ _).mono ?_; rintro e w' ⟨rfl, rfl⟩)
    | (go_at_call 23; refine (numbers_any _ _ _).mono ?_; rintro e w' ⟨rfl, rfl⟩)
    | (go_at_call 24; refine (texts_any _ _ _).mono ?_; rintro e w' ⟨rfl, rfl⟩)
    | (go_at_call 25; refine (HLK.out _ HB0.out.drew).mono ?_; rintro e w1 ⟨rfl, b1⟩; have B1 := HBR.out.trans b1; have HB1 : Hid _ := B1)
    | (go_at_call 26; refine (HAT.out w1 (HB0.out.trans (HB1.out.mono HB0.out.size))).mono ?_; rintro e w2 ⟨rfl, b2⟩; have B2 := HB1.out.trans (b2.mono HB1.out.size); have HB2 : Hid _ := B2)
    | (go_at_call 27; refine (HEV.out w2 (HB0.out.trans (HB2.out.mono HB0.out.size))).mono ?_; rintro e w3 ⟨rfl, b3⟩; have B3 := HB2.out.trans (b3.mono HB2.out.size); have HB3 : Hid _ := B3; have FI := HFI.out w3; simp only [List.map, List.length_cons, List.length_nil, Nat.zero_add, Nat.reduceAdd] at FI)
    | (go_at_call 21; refine FI.mono ?_; rintro e w' ⟨rfl, rfl⟩))
  all_goals
    go_wp2
    go_ret
    exact ⟨ret_int HT.out, (HB0.out.trans (HB3.out.mono HB0.out.size)).alloc (Nat.le_trans HB0.out.size HB3.out.size) _⟩
end Go.Proofs.YtiflfapdffkcbaaGreatDoor

namespace Go.Proofs.YtiflfapdffkcbaaGreatDoor
open Go.RowKit
set_option maxRecDepth 100000

/-- It says whether they are the same. -/
def SameP (X Y : List Sp) (e : Ending) : Prop := ∃ r, e = .returned (.bool r) ∧ (r = true ↔ X = Y)
set_option maxHeartbeats 4000000 in
theorem same_any (ad bd : Option Addr) (n m c d : Nat) (X Y : List Sp) (P Q : Nat → Pl) (w : World) (hX : SpsAt w ad n X P) (hY : SpsAt w bd m Y Q) (hn : n ≤ 140737488355328) (hm : m ≤ 140737488355328) :
    Calls Tryz.prog 11 #[.slice ad n c, .slice bd m d] w fun e w' => SameP X Y e ∧ Below w.heap.size w w' := by
  have hl : X.length = n := hX.len
  have hk : Y.length = m := hY.len
  have HX : Hid _ := hX
  have HY : Hid _ := hY
  have HL : Hid _ := hl
  have HK : Hid _ := hk
  by_cases hnm : n = m
  · subst hnm
    have j0 : ((n : Int) != (n : Int)) = false := by simp
    clear hX hY hl hk
    go_enter Tryz.func11, Tryz.ntmps11
    go_wp2
    go_loopw [5] (fun x wr => ∃ k : Nat, x = .int .i64 k ∧ k ≤ n ∧ X.take k = Y.take k ∧ Below w.heap.size w wr) (fun x _ => n - (intOf x).toNat)
    case atStart => exact ⟨0, rfl, by omega, by simp, Below.refl _ _⟩
    case round =>
      obtain ⟨k, rfl, hkn, ht, hb⟩ := hrel
      have HT : Hid (X.take k = Y.take k) := ht
      have HB : Hid _ := hb
      clear ht hb
      by_cases hlt : k < n
      · have hkX : k < X.length := by rw [HL.out]; exact hlt
        have hkY : k < Y.length := by rw [HK.out]; exact hlt
        have SX := HX.out.below HB.out
        have SY := HY.out.below HB.out
        obtain ⟨b1, o1, rfl, hc1⟩ := SX.lies (by omega)
        obtain ⟨b2, o2, rfl, hc2⟩ := SY.lies (by omega)
        have hax := SX.each k hkX
        have hay := SY.each k hkY
        have cx := hc1 k hkX
        have cy := hc2 k hkY
        have T1 := List.take_succ_eq_append_getElem hkX
        have T2 := List.take_succ_eq_append_getElem hkY
        obtain ⟨a, ha⟩ : ∃ a, X[k]'hkX = a := ⟨_, rfl⟩
        obtain ⟨b, hb⟩ : ∃ b, Y[k]'hkY = b := ⟨_, rfl⟩
        obtain ⟨p, hp⟩ : ∃ p, P k = p := ⟨_, rfl⟩
        obtain ⟨q, hq⟩ : ∃ q, Q k = q := ⟨_, rfl⟩
        have HNE : Hid (a ≠ b → X ≠ Y) := fun hne e => hne (by rw [← ha, ← hb]; simp only [e])
        rw [ha, hp] at hax cx
        rw [hb, hq] at hay cy
        rw [ha] at T1
        rw [hb] at T2
        have HT1 : Hid _ := T1
        have HT2 : Hid _ := T2
        have CC := refCompare_any a b p q wr.drew (hax.below (Below.refl _ _).drew) (hay.below (Below.refl _ _).drew)
        have KP : ∀ W, Below wr.heap.size wr W → W.cell? ⟨b1, o1 + k * 13, none⟩ = some (.int .u64 a.hi) ∧ W.cell? ⟨b1, o1 + k * 13 + 1, none⟩ = some (.int .u64 a.lo) ∧ W.cell? ⟨b1, o1 + k * 13 + 2, none⟩ = some (.int .u64 a.id) ∧ W.cell? ⟨b1, o1 + k * 13 + 3, none⟩ = some (.int .u64 a.par) ∧ W.cell? ⟨b1, o1 + k * 13 + 4, none⟩ = some (.slice p.la a.links.length p.lc) ∧ W.cell? ⟨b1, o1 + k * 13 + 5, none⟩ = some (.string a.svc) ∧ W.cell? ⟨b1, o1 + k * 13 + 6, none⟩ = some (.string a.op) ∧ W.cell? ⟨b1, o1 + k * 13 + 7, none⟩ = some (.int .i64 a.kind) ∧ W.cell? ⟨b1, o1 + k * 13 + 8, none⟩ = some (.int .i64 a.status) ∧ W.cell? ⟨b1, o1 + k * 13 + 9, none⟩ = some (.int .i64 a.start) ∧ W.cell? ⟨b1, o1 + k * 13 + 10, none⟩ = some (.int .i64 a.fin) ∧ W.cell? ⟨b1, o1 + k * 13 + 11, none⟩ = some (.slice p.aa a.attrs.length p.ac) ∧ W.cell? ⟨b1, o1 + k * 13 + 12, none⟩ = some (.slice p.ea a.events.length p.ec) ∧ W.cell? ⟨b2, o2 + k * 13, none⟩ = some (.int .u64 b.hi) ∧ W.cell? ⟨b2, o2 + k * 13 + 1, none⟩ = some (.int .u64 b.lo) ∧ W.cell? ⟨b2, o2 + k * 13 + 2, none⟩ = some (.int .u64 b.id) ∧ W.cell? ⟨b2, o2 + k * 13 + 3, none⟩ = some (.int .u64 b.par) ∧ W.cell? ⟨b2, o2 + k * 13 + 4, none⟩ = some (.slice q.la b.links.length q.lc) ∧ W.cell? ⟨b2, o2 + k * 13 + 5, none⟩ = some (.string b.svc) ∧ W.cell? ⟨b2, o2 + k * 13 + 6, none⟩ = some (.string b.op) ∧ W.cell? ⟨b2, o2 + k * 13 + 7, none⟩ = some (.int .i64 b.kind) ∧ W.cell? ⟨b2, o2 + k * 13 + 8, none⟩ = some (.int .i64 b.status) ∧ W.cell? ⟨b2, o2 + k * 13 + 9, none⟩ = some (.int .i64 b.start) ∧ W.cell? ⟨b2, o2 + k * 13 + 10, none⟩ = some (.int .i64 b.fin) ∧ W.cell? ⟨b2, o2 + k * 13 + 11, none⟩ = some (.slice q.aa b.attrs.length q.ac) ∧ W.cell? ⟨b2, o2 + k * 13 + 12, none⟩ = some (.slice q.ea b.events.length q.ec) := fun W h => by
          have e1 : ∀ j u, (spC a p)[j]? = some u → W.cell? ⟨b1, o1 + k * 13 + j, none⟩ = some u := fun j u hu => (h.cell (p := ⟨b1, o1 + k * 13 + j, none⟩) (World.block_lt_of_cell? wr _ (cx j u hu))).trans (cx j u hu)
          have e2 : ∀ j u, (spC b q)[j]? = some u → W.cell? ⟨b2, o2 + k * 13 + j, none⟩ = some u := fun j u hu => (h.cell (p := ⟨b2, o2 + k * 13 + j, none⟩) (World.block_lt_of_cell? wr _ (cy j u hu))).trans (cy j u hu)
          exact ⟨e1 0 _ rfl, e1 1 _ rfl, e1 2 _ rfl, e1 3 _ rfl, e1 4 _ rfl, e1 5 _ rfl, e1 6 _ rfl, e1 7 _ rfl, e1 8 _ rfl, e1 9 _ rfl, e1 10 _ rfl, e1 11 _ rfl, e1 12 _ rfl, e2 0 _ rfl, e2 1 _ rfl, e2 2 _ rfl, e2 3 _ rfl, e2 4 _ rfl, e2 5 _ rfl, e2 6 _ rfl, e2 7 _ rfl, e2 8 _ rfl, e2 9 _ rfl, e2 10 _ rfl, e2 11 _ rfl, e2 12 _ rfl⟩
        have BR : Below wr.heap.size wr wr.drew := (Below.refl _ _).drew
        have HBR : Hid _ := BR
        have j1 : (k : Int) < (n : Int) := by omega
        have hz := good_cmpP.eq a b
        obtain ⟨v, hv⟩ : ∃ v, cmpP a b = v := ⟨_, rfl⟩
        rw [hv] at CC hz
        have HZ : Hid _ := hz
        unfold spV spC at CC
        clear hc1 hc2 cx cy hax hay SX SY ha hb hp hq T1 T2 hz hv hkX hkY
        by_cases h0 : v = 0
        · subst h0
          go_wp2
          go_region_held3 (fun W => W.cell? ⟨b1, o1 + k * 13, none⟩ = some (.int .u64 a.hi) ∧ W.cell? ⟨b1, o1 + k * 13 + 1, none⟩ = some (.int .u64 a.lo) ∧ W.cell? ⟨b1, o1 + k * 13 + 2, none⟩ = some (.int .u64 a.id) ∧ W.cell? ⟨b1, o1 + k * 13 + 3, none⟩ = some (.int .u64 a.par) ∧ W.cell? ⟨b1, o1 + k * 13 + 4, none⟩ = some (.slice p.la a.links.length p.lc) ∧ W.cell? ⟨b1, o1 + k * 13 + 5, none⟩ = some (.string a.svc) ∧ W.cell? ⟨b1, o1 + k * 13 + 6, none⟩ = some (.string a.op) ∧ W.cell? ⟨b1, o1 + k * 13 + 7, none⟩ = some (.int .i64 a.kind) ∧ W.cell? ⟨b1, o1 + k * 13 + 8, none⟩ = some (.int .i64 a.status) ∧ W.cell? ⟨b1, o1 + k * 13 + 9, none⟩ = some (.int .i64 a.start) ∧ W.cell? ⟨b1, o1 + k * 13 + 10, none⟩ = some (.int .i64 a.fin) ∧ W.cell? ⟨b1, o1 + k * 13 + 11, none⟩ = some (.slice p.aa a.attrs.length p.ac) ∧ W.cell? ⟨b1, o1 + k * 13 + 12, none⟩ = some (.slice p.ea a.events.length p.ec) ∧ W.cell? ⟨b2, o2 + k * 13, none⟩ = some (.int .u64 b.hi) ∧ W.cell? ⟨b2, o2 + k * 13 + 1, none⟩ = some (.int .u64 b.lo) ∧ W.cell? ⟨b2, o2 + k * 13 + 2, none⟩ = some (.int .u64 b.id) ∧ W.cell? ⟨b2, o2 + k * 13 + 3, none⟩ = some (.int .u64 b.par) ∧ W.cell? ⟨b2, o2 + k * 13 + 4, none⟩ = some (.slice q.la b.links.length q.lc) ∧ W.cell? ⟨b2, o2 + k * 13 + 5, none⟩ = some (.string b.svc) ∧ W.cell? ⟨b2, o2 + k * 13 + 6, none⟩ = some (.string b.op) ∧ W.cell? ⟨b2, o2 + k * 13 + 7, none⟩ = some (.int .i64 b.kind) ∧ W.cell? ⟨b2, o2 + k * 13 + 8, none⟩ = some (.int .i64 b.status) ∧ W.cell? ⟨b2, o2 + k * 13 + 9, none⟩ = some (.int .i64 b.start) ∧ W.cell? ⟨b2, o2 + k * 13 + 10, none⟩ = some (.int .i64 b.fin) ∧ W.cell? ⟨b2, o2 + k * 13 + 11, none⟩ = some (.slice q.aa b.attrs.length q.ac) ∧ W.cell? ⟨b2, o2 + k * 13 + 12, none⟩ = some (.slice q.ea b.events.length q.ec)) (first | exact KP _ BR | exact KP _ (BR.trans bb)) (first
            | (go_at_call 13; refine CC.mono ?_; rintro e w1 ⟨rfl, bb⟩))
          all_goals
            go_wp2
            go_roundw
            case rel => exact ⟨k + 1, by go_num, by omega, by rw [HT1.out, HT2.out, HT.out, HZ.out.1 (by first | trivial | rfl)], HB.out.trans ((HBR.out.trans bb).mono HB.out.size)⟩
            case measure => simp [intOf]; omega
        · have h0' : (v != 0) = true := by simpa using h0
          have HN : Hid (X ≠ Y) := HNE.out (fun e => h0 (HZ.out.2 e))
          clear h0
          go_wp2
          go_region_held3 (fun W => W.cell? ⟨b1, o1 + k * 13, none⟩ = some (.int .u64 a.hi) ∧ W.cell? ⟨b1, o1 + k * 13 + 1, none⟩ = some (.int .u64 a.lo) ∧ W.cell? ⟨b1, o1 + k * 13 + 2, none⟩ = some (.int .u64 a.id) ∧ W.cell? ⟨b1, o1 + k * 13 + 3, none⟩ = some (.int .u64 a.par) ∧ W.cell? ⟨b1, o1 + k * 13 + 4, none⟩ = some (.slice p.la a.links.length p.lc) ∧ W.cell? ⟨b1, o1 + k * 13 + 5, none⟩ = some (.string a.svc) ∧ W.cell? ⟨b1, o1 + k * 13 + 6, none⟩ = some (.string a.op) ∧ W.cell? ⟨b1, o1 + k * 13 + 7, none⟩ = some (.int .i64 a.kind) ∧ W.cell? ⟨b1, o1 + k * 13 + 8, none⟩ = some (.int .i64 a.status) ∧ W.cell? ⟨b1, o1 + k * 13 + 9, none⟩ = some (.int .i64 a.start) ∧ W.cell? ⟨b1, o1 + k * 13 + 10, none⟩ = some (.int .i64 a.fin) ∧ W.cell? ⟨b1, o1 + k * 13 + 11, none⟩ = some (.slice p.aa a.attrs.length p.ac) ∧ W.cell? ⟨b1, o1 + k * 13 + 12, none⟩ = some (.slice p.ea a.events.length p.ec) ∧ W.cell? ⟨b2, o2 + k * 13, none⟩ = some (.int .u64 b.hi) ∧ W.cell? ⟨b2, o2 + k * 13 + 1, none⟩ = some (.int .u64 b.lo) ∧ W.cell? ⟨b2, o2 + k * 13 + 2, none⟩ = some (.int .u64 b.id) ∧ W.cell? ⟨b2, o2 + k * 13 + 3, none⟩ = some (.int .u64 b.par) ∧ W.cell? ⟨b2, o2 + k * 13 + 4, none⟩ = some (.slice q.la b.links.length q.lc) ∧ W.cell? ⟨b2, o2 + k * 13 + 5, none⟩ = some (.string b.svc) ∧ W.cell? ⟨b2, o2 + k * 13 + 6, none⟩ = some (.string b.op) ∧ W.cell? ⟨b2, o2 + k * 13 + 7, none⟩ = some (.int .i64 b.kind) ∧ W.cell? ⟨b2, o2 + k * 13 + 8, none⟩ = some (.int .i64 b.status) ∧ W.cell? ⟨b2, o2 + k * 13 + 9, none⟩ = some (.int .i64 b.start) ∧ W.cell? ⟨b2, o2 + k * 13 + 10, none⟩ = some (.int .i64 b.fin) ∧ W.cell? ⟨b2, o2 + k * 13 + 11, none⟩ = some (.slice q.aa b.attrs.length q.ac) ∧ W.cell? ⟨b2, o2 + k * 13 + 12, none⟩ = some (.slice q.ea b.events.length q.ec)) (first | exact KP _ BR | exact KP _ (BR.trans bb)) (first
            | (go_at_call 13; refine CC.mono ?_; rintro e w1 ⟨rfl, bb⟩))
          all_goals
            go_wp2
            go_returns
            exact ⟨⟨false, rfl, by simpa using HN.out⟩, HB.out.trans ((HBR.out.trans bb).mono HB.out.size)⟩
      · have hke : X = Y := by
          have := HT.out
          rw [List.take_of_length_le (by rw [HL.out]; omega), List.take_of_length_le (by rw [HK.out]; omega)] at this
          exact this
        have HE : Hid _ := hke
        have j1 : ¬ (k : Int) < (n : Int) := by omega
        clear hke
        go_wp2
        go_returns
        exact ⟨⟨true, rfl, by simpa using HE.out⟩, HB.out⟩
  · have hne : X ≠ Y := fun e => hnm (by rw [← hl, ← hk, e])
    have HN : Hid _ := hne
    have j0 : ((n : Int) != (m : Int)) = true := by simp; omega
    clear hX hY hl hk hne
    go_enter Tryz.func11, Tryz.ntmps11
    go_wp2
    go_returns
    exact ⟨⟨false, rfl, by simpa using HN.out⟩, Below.refl _ _⟩
end Go.Proofs.YtiflfapdffkcbaaGreatDoor
