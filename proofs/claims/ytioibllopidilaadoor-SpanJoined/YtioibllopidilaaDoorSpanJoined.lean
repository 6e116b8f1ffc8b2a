/-
  SpanJoined: the row and its card (written by gen_law4.py).
-/
import Derived.Test.YtioibllopidilaaDoorCards
import Derived.Test.YtioibllopidilaaDoorTie
import Derived.Test.YtioibllopidilaaDoorYp
import Derived.Test.YtioibllopidilaaDoorYs
namespace Go.Proofs.YtioibllopidilaaDoor.spanJoined
open Go.ChangeShapes Go.WideShapes Go.ChangeAt Go.RowKit Go.Deep Go.Shelf

theorem hcs (a : Sp) (p : Pl) : (spC a p).size = 13 := rfl
theorem hone (a : Sp) (p : Pl) : (spC a p).all (·.oneCell') = true := by simp [spC, Value.oneCell']
theorem load_sp {ops : Array Oper} {rest : List Oper} {op : Oper} {a : Act} {w : World} {Q : Exit → Act → World → Prop} {x : Operand} {g : Nat} {cs : Array Value} (hg : w.heap[g]? = some (.cells cs 33 (0, 0))) (hc : cs.size = 13)
    (hgd : op.guard = none) (ho : op.op = .load 33 x) (hx : a.eval x = .pointer (some ⟨g, 0, none⟩)) (h : wpList Tryd.prog ops Q rest (a.put op.dst (.agg cs)) w) : wpList Tryd.prog ops Q (op :: rest) a w :=
  wpList_load_row hgd 33 x ho g 33 cs hx _ hg Tryd.underlying33 rfl (by rw [hc]; exact Tryd.info33) h
theorem store_sp {ops : Array Oper} {rest : List Oper} {op : Oper} {a : Act} {w : World} {Q : Exit → Act → World → Prop} {x y : Operand} {g : Nat} {old cs : Array Value} (hg : w.heap[g]? = some (.cells old 33 (0, 0))) (hl : old.size = 13) (hc : cs.size = 13) (h1 : cs.all (·.oneCell') = true)
    (hgd : op.guard = none) (ho : op.op = .store 33 x y) (hx : a.eval x = .pointer (some ⟨g, 0, none⟩)) (hy : a.eval y = .agg cs) (h : wpList Tryd.prog ops Q rest (a.put op.dst undef) (w.setRow g cs)) : wpList Tryd.prog ops Q (op :: rest) a w :=
  wpList_store_row hgd 33 x y ho g 33 old cs hx hy hg (by rw [hc]; exact Tryd.info33) (by rw [hl, hc]) h1 h
/-- Under another's name. -/
def asOf (a b : Sp) : Sp := { a with hi := b.hi, lo := b.lo, id := b.id }
theorem asOf_at {w : World} {a b : Sp} {p : Pl} (h : SpAt w a p) : SpAt w (asOf a b) p := ⟨h.links, h.attrs, h.events, h.sl, h.sa, h.se⟩
theorem asOf_small {a b : Sp} (h : a.Small) : (asOf a b).Small := ⟨h.svc, h.op, h.attrs, h.events⟩
set_option maxRecDepth 100000 in
set_option maxHeartbeats 4000000 in
theorem named_any (a b : Sp) (p q : Pl) (w : World) :
    Calls Tryd.prog 12 #[spV a p, spV b q] w fun e w' => e = .returned (spV (asOf a b) p) ∧ Below w.heap.size w w' := by
  have BB : ∀ o1 o2 o3, Below w.heap.size w (((w.alloc o1).alloc o2).alloc o3) := fun o1 o2 o3 => ((((Below.refl _ _).alloc (Nat.le_refl _) _).alloc (by simp) _).alloc (by simp; omega) _)
  have hrow : ∀ o1 o2 o3, (((w.alloc o1).alloc o2).alloc o3).heap[w.heap.size + 1 + 1]? = some o3 := fun o1 o2 o3 => alloc_at (by simp)
  unfold spV spC asOf
  go_enter Tryd.func12, Tryd.ntmps12
  go_wp2
  have hld := run_loadVar_row (P := Tryd.prog) _ (w.heap.size + 1 + 1) 33 33 _ (0, 0) _ (hrow (.cells (spC { a with hi := b.hi, lo := b.lo, id := b.id } p) 33) (.cells (spC b q) 33) (.cells (spC { a with hi := b.hi, lo := b.lo, id := b.id } p) 33)) Tryd.underlying33 rfl Tryd.info33
  unfold spC at hld
  refine bodyPost_ret (v := .agg (spC { a with hi := b.hi, lo := b.lo, id := b.id } p)) ?_ rfl ⟨rfl, BB _ _ _⟩
  rw [results_cell1 rfl]
  simp [asAddr, Result.andThen, hld, spC]
/-- The later of two. -/
def topS (a b : Sp) : Sp := if cmpP a b < 0 then b else a
theorem top_comm (a b : Sp) : topS b a = topS a b := by
  have h1 := good_cmpP.anti a b
  have h2 := good_cmpP.eq a b
  unfold topS
  by_cases h : cmpP a b < 0
  · rw [if_pos h, if_neg (by omega)]
  · by_cases h' : cmpP b a < 0
    · rw [if_pos h', if_neg h]
    · rw [if_neg h', if_neg h]; exact (h2.1 (by omega)).symm
theorem top_ge (a b : Sp) : 0 ≤ cmpP (topS a b) a ∧ 0 ≤ cmpP (topS a b) b := by
  have h1 := good_cmpP.anti a b
  have h2 := (good_cmpP.eq a a).2 rfl
  have h3 := (good_cmpP.eq b b).2 rfl
  unfold topS
  split <;> omega
theorem cmp_tr {a b c : Sp} (h : 0 ≤ cmpP a b) (h' : 0 ≤ cmpP b c) : 0 ≤ cmpP a c := by
  have t := good_cmpP.trans c b a
  have e1 := good_cmpP.anti a b
  have e2 := good_cmpP.anti b c
  have e3 := good_cmpP.anti a c
  omega
theorem cmp_two {a b : Sp} (h : 0 ≤ cmpP a b) (h' : 0 ≤ cmpP b a) : a = b := by
  have e1 := good_cmpP.anti a b
  exact (good_cmpP.eq a b).1 (by omega)
theorem top_of {a b : Sp} {P : Sp → Prop} (ha : P a) (hb : P b) : P (topS a b) := by unfold topS; split <;> assumption
theorem top_assoc (a b c : Sp) : topS a (topS b c) = topS (topS a b) c := by
  have g1 := top_ge a b
  have g2 := top_ge b c
  have g3 := top_ge a (topS b c)
  have g4 := top_ge (topS a b) c
  apply cmp_two
  · have hx : 0 ≤ cmpP (topS a (topS b c)) (topS a b) := top_of (P := fun x => 0 ≤ cmpP (topS a (topS b c)) x) g3.1 (cmp_tr g3.2 g2.1)
    exact top_of (P := fun x => 0 ≤ cmpP (topS a (topS b c)) x) hx (cmp_tr g3.2 g2.2)
  · have hx : 0 ≤ cmpP (topS (topS a b) c) (topS b c) := top_of (P := fun x => 0 ≤ cmpP (topS (topS a b) c) x) (cmp_tr g4.1 g1.2) g4.2
    exact top_of (P := fun x => 0 ≤ cmpP (topS (topS a b) c) x) (cmp_tr g4.1 g1.1) hx
theorem top_self (a : Sp) : topS a a = a := by unfold topS; split <;> rfl
def SameN (a b : Sp) : Prop := a.hi = b.hi ∧ a.lo = b.lo ∧ a.id = b.id
theorem joinT (a b : Sp) (p q : Pl) (w : World) (ha : SpAt w a p) (hb : SpAt w b q) (sa : a.Small) (sb : b.Small) (hT : Tabs w) (hN : SameN a b) (ca : chkS a = 0) (cb : chkS b = 0) :
    Calls Tryd.prog 14 #[spV a p, spV b q] w fun e w' => ∃ r, e = .returned (.tuple #[spV (topS a b) r, .int .i64 0]) ∧ SpAt w' (topS a b) r ∧ Below w.heap.size w w' := join_ok a b p q w ha hb sa sb hT hN ca cb
/-- Whatever the two are. -/
theorem joinE (a b : Sp) (p q : Pl) (w : World) (ha : SpAt w a p) (hb : SpAt w b q) (sa : a.Small) (sb : b.Small) (hT : Tabs w) (hN : SameN a b) :
    Calls Tryd.prog 14 #[spV a p, spV b q] w fun e w' => ∃ z r, e = .returned (.tuple #[spV z r, .int .i64 (orL [chkS a, chkS b])]) ∧ Below w.heap.size w w' := by
  by_cases hc : orL [chkS a, chkS b] = 0
  · have h1 : chkS a = 0 := by
      by_cases h : chkS a = 0
      · exact h
      · simp [orL, orI, h] at hc
    have h2 : chkS b = 0 := by
      by_cases h : chkS b = 0
      · exact h
      · simp [orL, orI, h, h1] at hc
    refine (join_ok a b p q w ha hb sa sb hT hN h1 h2).mono ?_
    rintro e w' ⟨r, rfl, _, hB⟩
    rw [hc]
    exact ⟨_, r, rfl, hB⟩
  · refine (join_bad a b p q w ha hb sa sb hT hN hc).mono ?_
    rintro e w' ⟨rfl, hB⟩
    exact ⟨spZ, pl0, rfl, hB⟩
set_option maxRecDepth 100000 in
set_option maxHeartbeats 8000000 in
theorem joined_bad (a b0 c0 b c : Sp) (p q r : Pl) (w : World) (ha : SpAt w a p) (hb : SpAt w b q) (hc : SpAt w c r) (sa : a.Small) (sb : b.Small) (sc : c.Small) (hT : Tabs w) (Nab : SameN a b) (Nbc : SameN b c)
    (NB : ∀ w, Calls Tryd.prog 12 #[spV b0 q, spV a p] w fun e w' => e = .returned (spV b q) ∧ Below w.heap.size w w')
    (NC : ∀ w, Calls Tryd.prog 12 #[spV c0 r, spV a p] w fun e w' => e = .returned (spV c r) ∧ Below w.heap.size w w')
    (hC : chkS a ≠ 0 ∨ (chkS a = 0 ∧ chkS b ≠ 0) ∨ (chkS a = 0 ∧ chkS b = 0 ∧ chkS c ≠ 0)) :
    Calls Tryd.prog 5 #[spV a p, spV b0 q, spV c0 r] w fun e w' => e = .returned (.bool true) ∧ Below w.heap.size w w' := by
  have B3 : ∀ o1 o2 o3 : Obj, Below w.heap.size w (((w.alloc o1).alloc o2).alloc o3) := fun o1 o2 o3 => ((((Below.refl _ _).alloc (Nat.le_refl _) _).alloc (by simp) _).alloc (by simp; omega) _)
  have bw := B3 (.cells (spC a p) 33) (.cells (spC b0 q) 33) (.cells (spC c0 r) 33)
  have X : (((w.alloc (.cells (spC a p) 33)).alloc (.cells (spC b0 q) 33)).alloc (.cells (spC c0 r) 33)).heap[w.heap.size]? = some (.cells (spC a p) 33 (0, 0)) := (Below.heap_alloc _ _ _ (by simp; omega)).trans ((Below.heap_alloc _ _ _ (by simp)).trans (heap_alloc_new _ _))
  have Y : (((w.alloc (.cells (spC a p) 33)).alloc (.cells (spC b0 q) 33)).alloc (.cells (spC c0 r) 33)).heap[w.heap.size + 1]? = some (.cells (spC b0 q) 33 (0, 0)) := (Below.heap_alloc _ _ _ (by simp)).trans (alloc_at (by simp))
  have Z : (((w.alloc (.cells (spC a p) 33)).alloc (.cells (spC b0 q) 33)).alloc (.cells (spC c0 r) 33)).heap[w.heap.size + 1 + 1]? = some (.cells (spC c0 r) 33 (0, 0)) := alloc_at (by simp)
  have AW := fun w' (h : Below w.heap.size w w') => awake_any w' (hT.below h)
  have CA := fun w' (h : Below w.heap.size w w') => check_any a p w' (ha.below h) sa (hT.below h)
  have CB := fun w' (h : Below w.heap.size w w') => check_any b q w' (hb.below h) sb (hT.below h)
  have CC := fun w' (h : Below w.heap.size w w') => check_any c r w' (hc.below h) sc (hT.below h)
  have JAB := fun w' (h : Below w.heap.size w w') => joinE a b p q w' (ha.below h) (hb.below h) sa sb (hT.below h) Nab
  have JBC := fun w' (h : Below w.heap.size w w') => joinE b c q r w' (hb.below h) (hc.below h) sb sc (hT.below h) Nbc
  clear ha hb hc sa sb sc hT B3 Nab Nbc
  generalize chkS a = k1 at CA JAB hC
  generalize chkS b = k2 at CB JAB JBC hC
  generalize chkS c = k3 at CC JBC hC
  generalize e1 : orL [k1, k2] = m1 at JAB
  generalize e2 : orL [k2, k3] = m2 at JBC
  unfold spV at CA CB CC JAB JBC NB NC
  unfold spV
  have hm : Hid ((k1 ≠ 0 → m1 = k1) ∧ (k1 = 0 → m1 = k2) ∧ (k2 = 0 → m2 = k3)) := by
    subst e1; subst e2
    refine ⟨fun h => ?_, fun h => ?_, fun h => ?_⟩ <;> (simp [orL, orI, h]) <;> (try intro h2; rw [h2])
  clear e1 e2
  rcases hC with h1 | ⟨rfl, h2⟩ | ⟨rfl, rfl, h3⟩
  · obtain rfl := hm.out.1 h1
    clear hm
    have hk : (m1 != 0) = true := by simpa using h1
    have hk2 : (m1 == 0) = false := by simpa using h1
    clear h1
    go_enter Tryd.func5, Tryd.ntmps5
    go_wp2_with (first
    | (refine load_sp X (hcs _ _) rfl rfl rfl ?_)
    | (refine load_sp Y (hcs _ _) rfl rfl rfl ?_)
    | (refine load_sp Z (hcs _ _) rfl rfl rfl ?_)
    | (go_at_call 8; refine (AW _ bw).mono ?_; clear AW; rintro e w2 ⟨rfl, b2⟩; replace bw := bw.trans (b2.mono bw.size); replace X := (b2.block _ (lt_of_block X)).trans X; replace Y := (b2.block _ (lt_of_block Y)).trans Y; replace Z := (b2.block _ (lt_of_block Z)).trans Z; clear b2)
    | (go_at_call 12; refine (NB _).mono ?_; clear NB; rintro e wn1 ⟨rfl, b2⟩; replace bw := bw.trans (b2.mono bw.size); replace X := (b2.block _ (lt_of_block X)).trans X; replace Y := (b2.block _ (lt_of_block Y)).trans Y; replace Z := (b2.block _ (lt_of_block Z)).trans Z; clear b2)
    | (refine store_sp (cs := spC b q) Y (hcs _ _) (hcs _ _) (hone _ _) rfl rfl rfl rfl ?_; replace bw := below_setRow bw (by omega) (spC b q) (g := w.heap.size + 1); replace X := (setRow_other wn1 (w.heap.size + 1) (w.heap.size) (spC b q) (by omega)).trans X; replace Z := (setRow_other wn1 (w.heap.size + 1) (w.heap.size + 1 + 1) (spC b q) (by omega)).trans Z; replace Y := setRow_heap wn1 (w.heap.size + 1) _ (spC b q) 33 (0, 0) Y; generalize wn1.setRow (w.heap.size + 1) (spC b q) = w3 at bw X Y Z ⊢)
    | (go_at_call 12; refine (NC _).mono ?_; clear NC; rintro e wn2 ⟨rfl, b2⟩; replace bw := bw.trans (b2.mono bw.size); replace X := (b2.block _ (lt_of_block X)).trans X; replace Y := (b2.block _ (lt_of_block Y)).trans Y; replace Z := (b2.block _ (lt_of_block Z)).trans Z; clear b2)
    | (refine store_sp (cs := spC c r) Z (hcs _ _) (hcs _ _) (hone _ _) rfl rfl rfl rfl ?_; replace bw := below_setRow bw (by omega) (spC c r) (g := w.heap.size + 1 + 1); replace X := (setRow_other wn2 (w.heap.size + 1 + 1) (w.heap.size) (spC c r) (by omega)).trans X; replace Y := (setRow_other wn2 (w.heap.size + 1 + 1) (w.heap.size + 1) (spC c r) (by omega)).trans Y; replace Z := setRow_heap wn2 (w.heap.size + 1 + 1) _ (spC c r) 33 (0, 0) Z; generalize wn2.setRow (w.heap.size + 1 + 1) (spC c r) = w3 at bw X Y Z ⊢)
    | (go_at_call 13; refine (CA _ bw).mono ?_; clear CA; rintro e w2 ⟨rfl, b2⟩; replace bw := bw.trans (b2.mono bw.size); replace X := (b2.block _ (lt_of_block X)).trans X; replace Y := (b2.block _ (lt_of_block Y)).trans Y; replace Z := (b2.block _ (lt_of_block Z)).trans Z; clear b2; replace y0 := blk_cell Y 0 rfl; replace y1 := blk_cell Y 1 rfl; replace y2 := blk_cell Y 2 rfl; replace y3 := blk_cell Y 3 rfl; replace y4 := blk_cell Y 4 rfl; replace y5 := blk_cell Y 5 rfl; replace y6 := blk_cell Y 6 rfl; replace y7 := blk_cell Y 7 rfl; replace y8 := blk_cell Y 8 rfl; replace y9 := blk_cell Y 9 rfl; replace y10 := blk_cell Y 10 rfl; replace y11 := blk_cell Y 11 rfl; replace y12 := blk_cell Y 12 rfl)
    | (go_at_call 13; refine (CB _ bw).mono ?_; clear CB; rintro e w2 ⟨rfl, b2⟩; replace bw := bw.trans (b2.mono bw.size); replace X := (b2.block _ (lt_of_block X)).trans X; replace Y := (b2.block _ (lt_of_block Y)).trans Y; replace Z := (b2.block _ (lt_of_block Z)).trans Z; clear b2; clear y0 y1 y2 y3 y4 y5 y6 y7 y8 y9 y10 y11 y12; replace z0 := blk_cell Z 0 rfl; replace z1 := blk_cell Z 1 rfl; replace z2 := blk_cell Z 2 rfl; replace z3 := blk_cell Z 3 rfl; replace z4 := blk_cell Z 4 rfl; replace z5 := blk_cell Z 5 rfl; replace z6 := blk_cell Z 6 rfl; replace z7 := blk_cell Z 7 rfl; replace z8 := blk_cell Z 8 rfl; replace z9 := blk_cell Z 9 rfl; replace z10 := blk_cell Z 10 rfl; replace z11 := blk_cell Z 11 rfl; replace z12 := blk_cell Z 12 rfl)
    | (go_at_call 13; refine (CC _ bw).mono ?_; clear CC; rintro e w2 ⟨rfl, b2⟩; replace bw := bw.trans (b2.mono bw.size); replace X := (b2.block _ (lt_of_block X)).trans X; replace Y := (b2.block _ (lt_of_block Y)).trans Y; replace Z := (b2.block _ (lt_of_block Z)).trans Z; clear b2; clear z0 z1 z2 z3 z4 z5 z6 z7 z8 z9 z10 z11 z12)
    | (go_at_call 14; refine (JAB _ bw).mono ?_; clear JAB; rintro e v1 ⟨sj1, r1, rfl, b2⟩; replace bw := bw.trans (b2.mono bw.size); replace X := (b2.block _ (lt_of_block X)).trans X; replace Y := (b2.block _ (lt_of_block Y)).trans Y; replace Z := (b2.block _ (lt_of_block Z)).trans Z; clear b2; have A1 : (v1.alloc (.cells #[.int .u64 0, .int .u64 0, .int .u64 0, .int .u64 0, .slice none 0 0, .string ⟨#[]⟩, .string ⟨#[]⟩, .int .i64 0, .int .i64 0, .int .i64 0, .int .i64 0, .slice none 0 0, .slice none 0 0] 33)).heap[v1.heap.size]? = some (.cells #[.int .u64 0, .int .u64 0, .int .u64 0, .int .u64 0, .slice none 0 0, .string ⟨#[]⟩, .string ⟨#[]⟩, .int .i64 0, .int .i64 0, .int .i64 0, .int .i64 0, .slice none 0 0, .slice none 0 0] 33 (0, 0)) := heap_alloc_new _ _)
    | (refine store_sp (cs := spC sj1 r1) A1 rfl (hcs _ _) (hone _ _) rfl rfl rfl rfl ?_; have b3 : Below v1.heap.size v1 ((v1.alloc (.cells #[.int .u64 0, .int .u64 0, .int .u64 0, .int .u64 0, .slice none 0 0, .string ⟨#[]⟩, .string ⟨#[]⟩, .int .i64 0, .int .i64 0, .int .i64 0, .int .i64 0, .slice none 0 0, .slice none 0 0] 33)).setRow v1.heap.size (spC sj1 r1)) := below_setRow ((Below.refl _ _).alloc (Nat.le_refl _) _) (Nat.le_refl _) _; replace bw := bw.trans (b3.mono bw.size); replace X := (b3.block _ (lt_of_block X)).trans X; replace Y := (b3.block _ (lt_of_block Y)).trans Y; replace Z := (b3.block _ (lt_of_block Z)).trans Z; have D1 := setRow_heap (v1.alloc (.cells #[.int .u64 0, .int .u64 0, .int .u64 0, .int .u64 0, .slice none 0 0, .string ⟨#[]⟩, .string ⟨#[]⟩, .int .i64 0, .int .i64 0, .int .i64 0, .int .i64 0, .slice none 0 0, .slice none 0 0] 33)) v1.heap.size _ (spC sj1 r1) 33 (0, 0) A1; clear A1 b3; generalize (v1.alloc (.cells #[.int .u64 0, .int .u64 0, .int .u64 0, .int .u64 0, .slice none 0 0, .string ⟨#[]⟩, .string ⟨#[]⟩, .int .i64 0, .int .i64 0, .int .i64 0, .int .i64 0, .slice none 0 0, .slice none 0 0] 33)).setRow v1.heap.size (spC sj1 r1) = w3 at bw X Y Z D1 ⊢)
    | (go_at_call 14; refine (JBC _ bw).mono ?_; clear JBC; rintro e v2 ⟨sj2, r2, rfl, b2⟩; replace bw := bw.trans (b2.mono bw.size); replace X := (b2.block _ (lt_of_block X)).trans X; replace Y := (b2.block _ (lt_of_block Y)).trans Y; replace Z := (b2.block _ (lt_of_block Z)).trans Z; replace D1 := (b2.block _ (lt_of_block D1)).trans D1; clear b2; have A2 : (v2.alloc (.cells #[.int .u64 0, .int .u64 0, .int .u64 0, .int .u64 0, .slice none 0 0, .string ⟨#[]⟩, .string ⟨#[]⟩, .int .i64 0, .int .i64 0, .int .i64 0, .int .i64 0, .slice none 0 0, .slice none 0 0] 33)).heap[v2.heap.size]? = some (.cells #[.int .u64 0, .int .u64 0, .int .u64 0, .int .u64 0, .slice none 0 0, .string ⟨#[]⟩, .string ⟨#[]⟩, .int .i64 0, .int .i64 0, .int .i64 0, .int .i64 0, .slice none 0 0, .slice none 0 0] 33 (0, 0)) := heap_alloc_new _ _)
    | (refine store_sp (cs := spC sj2 r2) A2 rfl (hcs _ _) (hone _ _) rfl rfl rfl rfl ?_; have b3 : Below v2.heap.size v2 ((v2.alloc (.cells #[.int .u64 0, .int .u64 0, .int .u64 0, .int .u64 0, .slice none 0 0, .string ⟨#[]⟩, .string ⟨#[]⟩, .int .i64 0, .int .i64 0, .int .i64 0, .int .i64 0, .slice none 0 0, .slice none 0 0] 33)).setRow v2.heap.size (spC sj2 r2)) := below_setRow ((Below.refl _ _).alloc (Nat.le_refl _) _) (Nat.le_refl _) _; replace bw := bw.trans (b3.mono bw.size); replace X := (b3.block _ (lt_of_block X)).trans X; replace Y := (b3.block _ (lt_of_block Y)).trans Y; replace Z := (b3.block _ (lt_of_block Z)).trans Z; replace D1 := (b3.block _ (lt_of_block D1)).trans D1; have D2 := setRow_heap (v2.alloc (.cells #[.int .u64 0, .int .u64 0, .int .u64 0, .int .u64 0, .slice none 0 0, .string ⟨#[]⟩, .string ⟨#[]⟩, .int .i64 0, .int .i64 0, .int .i64 0, .int .i64 0, .slice none 0 0, .slice none 0 0] 33)) v2.heap.size _ (spC sj2 r2) 33 (0, 0) A2; clear A2 b3; generalize (v2.alloc (.cells #[.int .u64 0, .int .u64 0, .int .u64 0, .int .u64 0, .slice none 0 0, .string ⟨#[]⟩, .string ⟨#[]⟩, .int .i64 0, .int .i64 0, .int .i64 0, .int .i64 0, .slice none 0 0, .slice none 0 0] 33)).setRow v2.heap.size (spC sj2 r2) = w3 at bw X Y Z D1 D2 ⊢))
    go_ret
    exact ⟨rfl, bw⟩
  · obtain rfl := hm.out.2.1 rfl
    clear hm
    have hk : (m1 != 0) = true := by simpa using h2
    have hk2 : (m1 == 0) = false := by simpa using h2
    clear h2
    go_enter Tryd.func5, Tryd.ntmps5
    go_wp2_with (first
    | (refine load_sp X (hcs _ _) rfl rfl rfl ?_)
    | (refine load_sp Y (hcs _ _) rfl rfl rfl ?_)
    | (refine load_sp Z (hcs _ _) rfl rfl rfl ?_)
    | (go_at_call 8; refine (AW _ bw).mono ?_; clear AW; rintro e w2 ⟨rfl, b2⟩; replace bw := bw.trans (b2.mono bw.size); replace X := (b2.block _ (lt_of_block X)).trans X; replace Y := (b2.block _ (lt_of_block Y)).trans Y; replace Z := (b2.block _ (lt_of_block Z)).trans Z; clear b2)
    | (go_at_call 12; refine (NB _).mono ?_; clear NB; rintro e wn1 ⟨rfl, b2⟩; replace bw := bw.trans (b2.mono bw.size); replace X := (b2.block _ (lt_of_block X)).trans X; replace Y := (b2.block _ (lt_of_block Y)).trans Y; replace Z := (b2.block _ (lt_of_block Z)).trans Z; clear b2)
    | (refine store_sp (cs := spC b q) Y (hcs _ _) (hcs _ _) (hone _ _) rfl rfl rfl rfl ?_; replace bw := below_setRow bw (by omega) (spC b q) (g := w.heap.size + 1); replace X := (setRow_other wn1 (w.heap.size + 1) (w.heap.size) (spC b q) (by omega)).trans X; replace Z := (setRow_other wn1 (w.heap.size + 1) (w.heap.size + 1 + 1) (spC b q) (by omega)).trans Z; replace Y := setRow_heap wn1 (w.heap.size + 1) _ (spC b q) 33 (0, 0) Y; generalize wn1.setRow (w.heap.size + 1) (spC b q) = w3 at bw X Y Z ⊢)
    | (go_at_call 12; refine (NC _).mono ?_; clear NC; rintro e wn2 ⟨rfl, b2⟩; replace bw := bw.trans (b2.mono bw.size); replace X := (b2.block _ (lt_of_block X)).trans X; replace Y := (b2.block _ (lt_of_block Y)).trans Y; replace Z := (b2.block _ (lt_of_block Z)).trans Z; clear b2)
    | (refine store_sp (cs := spC c r) Z (hcs _ _) (hcs _ _) (hone _ _) rfl rfl rfl rfl ?_; replace bw := below_setRow bw (by omega) (spC c r) (g := w.heap.size + 1 + 1); replace X := (setRow_other wn2 (w.heap.size + 1 + 1) (w.heap.size) (spC c r) (by omega)).trans X; replace Y := (setRow_other wn2 (w.heap.size + 1 + 1) (w.heap.size + 1) (spC c r) (by omega)).trans Y; replace Z := setRow_heap wn2 (w.heap.size + 1 + 1) _ (spC c r) 33 (0, 0) Z; generalize wn2.setRow (w.heap.size + 1 + 1) (spC c r) = w3 at bw X Y Z ⊢)
    | (go_at_call 13; refine (CA _ bw).mono ?_; clear CA; rintro e w2 ⟨rfl, b2⟩; replace bw := bw.trans (b2.mono bw.size); replace X := (b2.block _ (lt_of_block X)).trans X; replace Y := (b2.block _ (lt_of_block Y)).trans Y; replace Z := (b2.block _ (lt_of_block Z)).trans Z; clear b2; replace y0 := blk_cell Y 0 rfl; replace y1 := blk_cell Y 1 rfl; replace y2 := blk_cell Y 2 rfl; replace y3 := blk_cell Y 3 rfl; replace y4 := blk_cell Y 4 rfl; replace y5 := blk_cell Y 5 rfl; replace y6 := blk_cell Y 6 rfl; replace y7 := blk_cell Y 7 rfl; replace y8 := blk_cell Y 8 rfl; replace y9 := blk_cell Y 9 rfl; replace y10 := blk_cell Y 10 rfl; replace y11 := blk_cell Y 11 rfl; replace y12 := blk_cell Y 12 rfl)
    | (go_at_call 13; refine (CB _ bw).mono ?_; clear CB; rintro e w2 ⟨rfl, b2⟩; replace bw := bw.trans (b2.mono bw.size); replace X := (b2.block _ (lt_of_block X)).trans X; replace Y := (b2.block _ (lt_of_block Y)).trans Y; replace Z := (b2.block _ (lt_of_block Z)).trans Z; clear b2; clear y0 y1 y2 y3 y4 y5 y6 y7 y8 y9 y10 y11 y12; replace z0 := blk_cell Z 0 rfl; replace z1 := blk_cell Z 1 rfl; replace z2 := blk_cell Z 2 rfl; replace z3 := blk_cell Z 3 rfl; replace z4 := blk_cell Z 4 rfl; replace z5 := blk_cell Z 5 rfl; replace z6 := blk_cell Z 6 rfl; replace z7 := blk_cell Z 7 rfl; replace z8 := blk_cell Z 8 rfl; replace z9 := blk_cell Z 9 rfl; replace z10 := blk_cell Z 10 rfl; replace z11 := blk_cell Z 11 rfl; replace z12 := blk_cell Z 12 rfl)
    | (go_at_call 13; refine (CC _ bw).mono ?_; clear CC; rintro e w2 ⟨rfl, b2⟩; replace bw := bw.trans (b2.mono bw.size); replace X := (b2.block _ (lt_of_block X)).trans X; replace Y := (b2.block _ (lt_of_block Y)).trans Y; replace Z := (b2.block _ (lt_of_block Z)).trans Z; clear b2; clear z0 z1 z2 z3 z4 z5 z6 z7 z8 z9 z10 z11 z12)
    | (go_at_call 14; refine (JAB _ bw).mono ?_; clear JAB; rintro e v1 ⟨sj1, r1, rfl, b2⟩; replace bw := bw.trans (b2.mono bw.size); replace X := (b2.block _ (lt_of_block X)).trans X; replace Y := (b2.block _ (lt_of_block Y)).trans Y; replace Z := (b2.block _ (lt_of_block Z)).trans Z; clear b2; have A1 : (v1.alloc (.cells #[.int .u64 0, .int .u64 0, .int .u64 0, .int .u64 0, .slice none 0 0, .string ⟨#[]⟩, .string ⟨#[]⟩, .int .i64 0, .int .i64 0, .int .i64 0, .int .i64 0, .slice none 0 0, .slice none 0 0] 33)).heap[v1.heap.size]? = some (.cells #[.int .u64 0, .int .u64 0, .int .u64 0, .int .u64 0, .slice none 0 0, .string ⟨#[]⟩, .string ⟨#[]⟩, .int .i64 0, .int .i64 0, .int .i64 0, .int .i64 0, .slice none 0 0, .slice none 0 0] 33 (0, 0)) := heap_alloc_new _ _)
    | (refine store_sp (cs := spC sj1 r1) A1 rfl (hcs _ _) (hone _ _) rfl rfl rfl rfl ?_; have b3 : Below v1.heap.size v1 ((v1.alloc (.cells #[.int .u64 0, .int .u64 0, .int .u64 0, .int .u64 0, .slice none 0 0, .string ⟨#[]⟩, .string ⟨#[]⟩, .int .i64 0, .int .i64 0, .int .i64 0, .int .i64 0, .slice none 0 0, .slice none 0 0] 33)).setRow v1.heap.size (spC sj1 r1)) := below_setRow ((Below.refl _ _).alloc (Nat.le_refl _) _) (Nat.le_refl _) _; replace bw := bw.trans (b3.mono bw.size); replace X := (b3.block _ (lt_of_block X)).trans X; replace Y := (b3.block _ (lt_of_block Y)).trans Y; replace Z := (b3.block _ (lt_of_block Z)).trans Z; have D1 := setRow_heap (v1.alloc (.cells #[.int .u64 0, .int .u64 0, .int .u64 0, .int .u64 0, .slice none 0 0, .string ⟨#[]⟩, .string ⟨#[]⟩, .int .i64 0, .int .i64 0, .int .i64 0, .int .i64 0, .slice none 0 0, .slice none 0 0] 33)) v1.heap.size _ (spC sj1 r1) 33 (0, 0) A1; clear A1 b3; generalize (v1.alloc (.cells #[.int .u64 0, .int .u64 0, .int .u64 0, .int .u64 0, .slice none 0 0, .string ⟨#[]⟩, .string ⟨#[]⟩, .int .i64 0, .int .i64 0, .int .i64 0, .int .i64 0, .slice none 0 0, .slice none 0 0] 33)).setRow v1.heap.size (spC sj1 r1) = w3 at bw X Y Z D1 ⊢)
    | (go_at_call 14; refine (JBC _ bw).mono ?_; clear JBC; rintro e v2 ⟨sj2, r2, rfl, b2⟩; replace bw := bw.trans (b2.mono bw.size); replace X := (b2.block _ (lt_of_block X)).trans X; replace Y := (b2.block _ (lt_of_block Y)).trans Y; replace Z := (b2.block _ (lt_of_block Z)).trans Z; replace D1 := (b2.block _ (lt_of_block D1)).trans D1; clear b2; have A2 : (v2.alloc (.cells #[.int .u64 0, .int .u64 0, .int .u64 0, .int .u64 0, .slice none 0 0, .string ⟨#[]⟩, .string ⟨#[]⟩, .int .i64 0, .int .i64 0, .int .i64 0, .int .i64 0, .slice none 0 0, .slice none 0 0] 33)).heap[v2.heap.size]? = some (.cells #[.int .u64 0, .int .u64 0, .int .u64 0, .int .u64 0, .slice none 0 0, .string ⟨#[]⟩, .string ⟨#[]⟩, .int .i64 0, .int .i64 0, .int .i64 0, .int .i64 0, .slice none 0 0, .slice none 0 0] 33 (0, 0)) := heap_alloc_new _ _)
    | (refine store_sp (cs := spC sj2 r2) A2 rfl (hcs _ _) (hone _ _) rfl rfl rfl rfl ?_; have b3 : Below v2.heap.size v2 ((v2.alloc (.cells #[.int .u64 0, .int .u64 0, .int .u64 0, .int .u64 0, .slice none 0 0, .string ⟨#[]⟩, .string ⟨#[]⟩, .int .i64 0, .int .i64 0, .int .i64 0, .int .i64 0, .slice none 0 0, .slice none 0 0] 33)).setRow v2.heap.size (spC sj2 r2)) := below_setRow ((Below.refl _ _).alloc (Nat.le_refl _) _) (Nat.le_refl _) _; replace bw := bw.trans (b3.mono bw.size); replace X := (b3.block _ (lt_of_block X)).trans X; replace Y := (b3.block _ (lt_of_block Y)).trans Y; replace Z := (b3.block _ (lt_of_block Z)).trans Z; replace D1 := (b3.block _ (lt_of_block D1)).trans D1; have D2 := setRow_heap (v2.alloc (.cells #[.int .u64 0, .int .u64 0, .int .u64 0, .int .u64 0, .slice none 0 0, .string ⟨#[]⟩, .string ⟨#[]⟩, .int .i64 0, .int .i64 0, .int .i64 0, .int .i64 0, .slice none 0 0, .slice none 0 0] 33)) v2.heap.size _ (spC sj2 r2) 33 (0, 0) A2; clear A2 b3; generalize (v2.alloc (.cells #[.int .u64 0, .int .u64 0, .int .u64 0, .int .u64 0, .slice none 0 0, .string ⟨#[]⟩, .string ⟨#[]⟩, .int .i64 0, .int .i64 0, .int .i64 0, .int .i64 0, .slice none 0 0, .slice none 0 0] 33)).setRow v2.heap.size (spC sj2 r2) = w3 at bw X Y Z D1 D2 ⊢))
    go_ret
    exact ⟨rfl, bw⟩
  · obtain rfl := hm.out.2.1 rfl
    obtain rfl := hm.out.2.2 rfl
    clear hm
    have hk : (m2 != 0) = true := by simpa using h3
    have hk2 : (m2 == 0) = false := by simpa using h3
    clear h3
    go_enter Tryd.func5, Tryd.ntmps5
    go_wp2_with (first
    | (refine load_sp X (hcs _ _) rfl rfl rfl ?_)
    | (refine load_sp Y (hcs _ _) rfl rfl rfl ?_)
    | (refine load_sp Z (hcs _ _) rfl rfl rfl ?_)
    | (go_at_call 8; refine (AW _ bw).mono ?_; clear AW; rintro e w2 ⟨rfl, b2⟩; replace bw := bw.trans (b2.mono bw.size); replace X := (b2.block _ (lt_of_block X)).trans X; replace Y := (b2.block _ (lt_of_block Y)).trans Y; replace Z := (b2.block _ (lt_of_block Z)).trans Z; clear b2)
    | (go_at_call 12; refine (NB _).mono ?_; clear NB; rintro e wn1 ⟨rfl, b2⟩; replace bw := bw.trans (b2.mono bw.size); replace X := (b2.block _ (lt_of_block X)).trans X; replace Y := (b2.block _ (lt_of_block Y)).trans Y; replace Z := (b2.block _ (lt_of_block Z)).trans Z; clear b2)
    | (refine store_sp (cs := spC b q) Y (hcs _ _) (hcs _ _) (hone _ _) rfl rfl rfl rfl ?_; replace bw := below_setRow bw (by omega) (spC b q) (g := w.heap.size + 1); replace X := (setRow_other wn1 (w.heap.size + 1) (w.heap.size) (spC b q) (by omega)).trans X; replace Z := (setRow_other wn1 (w.heap.size + 1) (w.heap.size + 1 + 1) (spC b q) (by omega)).trans Z; replace Y := setRow_heap wn1 (w.heap.size + 1) _ (spC b q) 33 (0, 0) Y; generalize wn1.setRow (w.heap.size + 1) (spC b q) = w3 at bw X Y Z ⊢)
    | (go_at_call 12; refine (NC _).mono ?_; clear NC; rintro e wn2 ⟨rfl, b2⟩; replace bw := bw.trans (b2.mono bw.size); replace X := (b2.block _ (lt_of_block X)).trans X; replace Y := (b2.block _ (lt_of_block Y)).trans Y; replace Z := (b2.block _ (lt_of_block Z)).trans Z; clear b2)
    | (refine store_sp (cs := spC c r) Z (hcs _ _) (hcs _ _) (hone _ _) rfl rfl rfl rfl ?_; replace bw := below_setRow bw (by omega) (spC c r) (g := w.heap.size + 1 + 1); replace X := (setRow_other wn2 (w.heap.size + 1 + 1) (w.heap.size) (spC c r) (by omega)).trans X; replace Y := (setRow_other wn2 (w.heap.size + 1 + 1) (w.heap.size + 1) (spC c r) (by omega)).trans Y; replace Z := setRow_heap wn2 (w.heap.size + 1 + 1) _ (spC c r) 33 (0, 0) Z; generalize wn2.setRow (w.heap.size + 1 + 1) (spC c r) = w3 at bw X Y Z ⊢)
    | (go_at_call 13; refine (CA _ bw).mono ?_; clear CA; rintro e w2 ⟨rfl, b2⟩; replace bw := bw.trans (b2.mono bw.size); replace X := (b2.block _ (lt_of_block X)).trans X; replace Y := (b2.block _ (lt_of_block Y)).trans Y; replace Z := (b2.block _ (lt_of_block Z)).trans Z; clear b2; replace y0 := blk_cell Y 0 rfl; replace y1 := blk_cell Y 1 rfl; replace y2 := blk_cell Y 2 rfl; replace y3 := blk_cell Y 3 rfl; replace y4 := blk_cell Y 4 rfl; replace y5 := blk_cell Y 5 rfl; replace y6 := blk_cell Y 6 rfl; replace y7 := blk_cell Y 7 rfl; replace y8 := blk_cell Y 8 rfl; replace y9 := blk_cell Y 9 rfl; replace y10 := blk_cell Y 10 rfl; replace y11 := blk_cell Y 11 rfl; replace y12 := blk_cell Y 12 rfl)
    | (go_at_call 13; refine (CB _ bw).mono ?_; clear CB; rintro e w2 ⟨rfl, b2⟩; replace bw := bw.trans (b2.mono bw.size); replace X := (b2.block _ (lt_of_block X)).trans X; replace Y := (b2.block _ (lt_of_block Y)).trans Y; replace Z := (b2.block _ (lt_of_block Z)).trans Z; clear b2; clear y0 y1 y2 y3 y4 y5 y6 y7 y8 y9 y10 y11 y12; replace z0 := blk_cell Z 0 rfl; replace z1 := blk_cell Z 1 rfl; replace z2 := blk_cell Z 2 rfl; replace z3 := blk_cell Z 3 rfl; replace z4 := blk_cell Z 4 rfl; replace z5 := blk_cell Z 5 rfl; replace z6 := blk_cell Z 6 rfl; replace z7 := blk_cell Z 7 rfl; replace z8 := blk_cell Z 8 rfl; replace z9 := blk_cell Z 9 rfl; replace z10 := blk_cell Z 10 rfl; replace z11 := blk_cell Z 11 rfl; replace z12 := blk_cell Z 12 rfl)
    | (go_at_call 13; refine (CC _ bw).mono ?_; clear CC; rintro e w2 ⟨rfl, b2⟩; replace bw := bw.trans (b2.mono bw.size); replace X := (b2.block _ (lt_of_block X)).trans X; replace Y := (b2.block _ (lt_of_block Y)).trans Y; replace Z := (b2.block _ (lt_of_block Z)).trans Z; clear b2; clear z0 z1 z2 z3 z4 z5 z6 z7 z8 z9 z10 z11 z12)
    | (go_at_call 14; refine (JAB _ bw).mono ?_; clear JAB; rintro e v1 ⟨sj1, r1, rfl, b2⟩; replace bw := bw.trans (b2.mono bw.size); replace X := (b2.block _ (lt_of_block X)).trans X; replace Y := (b2.block _ (lt_of_block Y)).trans Y; replace Z := (b2.block _ (lt_of_block Z)).trans Z; clear b2; have A1 : (v1.alloc (.cells #[.int .u64 0, .int .u64 0, .int .u64 0, .int .u64 0, .slice none 0 0, .string ⟨#[]⟩, .string ⟨#[]⟩, .int .i64 0, .int .i64 0, .int .i64 0, .int .i64 0, .slice none 0 0, .slice none 0 0] 33)).heap[v1.heap.size]? = some (.cells #[.int .u64 0, .int .u64 0, .int .u64 0, .int .u64 0, .slice none 0 0, .string ⟨#[]⟩, .string ⟨#[]⟩, .int .i64 0, .int .i64 0, .int .i64 0, .int .i64 0, .slice none 0 0, .slice none 0 0] 33 (0, 0)) := heap_alloc_new _ _)
    | (refine store_sp (cs := spC sj1 r1) A1 rfl (hcs _ _) (hone _ _) rfl rfl rfl rfl ?_; have b3 : Below v1.heap.size v1 ((v1.alloc (.cells #[.int .u64 0, .int .u64 0, .int .u64 0, .int .u64 0, .slice none 0 0, .string ⟨#[]⟩, .string ⟨#[]⟩, .int .i64 0, .int .i64 0, .int .i64 0, .int .i64 0, .slice none 0 0, .slice none 0 0] 33)).setRow v1.heap.size (spC sj1 r1)) := below_setRow ((Below.refl _ _).alloc (Nat.le_refl _) _) (Nat.le_refl _) _; replace bw := bw.trans (b3.mono bw.size); replace X := (b3.block _ (lt_of_block X)).trans X; replace Y := (b3.block _ (lt_of_block Y)).trans Y; replace Z := (b3.block _ (lt_of_block Z)).trans Z; have D1 := setRow_heap (v1.alloc (.cells #[.int .u64 0, .int .u64 0, .int .u64 0, .int .u64 0, .slice none 0 0, .string ⟨#[]⟩, .string ⟨#[]⟩, .int .i64 0, .int .i64 0, .int .i64 0, .int .i64 0, .slice none 0 0, .slice none 0 0] 33)) v1.heap.size _ (spC sj1 r1) 33 (0, 0) A1; clear A1 b3; generalize (v1.alloc (.cells #[.int .u64 0, .int .u64 0, .int .u64 0, .int .u64 0, .slice none 0 0, .string ⟨#[]⟩, .string ⟨#[]⟩, .int .i64 0, .int .i64 0, .int .i64 0, .int .i64 0, .slice none 0 0, .slice none 0 0] 33)).setRow v1.heap.size (spC sj1 r1) = w3 at bw X Y Z D1 ⊢)
    | (go_at_call 14; refine (JBC _ bw).mono ?_; clear JBC; rintro e v2 ⟨sj2, r2, rfl, b2⟩; replace bw := bw.trans (b2.mono bw.size); replace X := (b2.block _ (lt_of_block X)).trans X; replace Y := (b2.block _ (lt_of_block Y)).trans Y; replace Z := (b2.block _ (lt_of_block Z)).trans Z; replace D1 := (b2.block _ (lt_of_block D1)).trans D1; clear b2; have A2 : (v2.alloc (.cells #[.int .u64 0, .int .u64 0, .int .u64 0, .int .u64 0, .slice none 0 0, .string ⟨#[]⟩, .string ⟨#[]⟩, .int .i64 0, .int .i64 0, .int .i64 0, .int .i64 0, .slice none 0 0, .slice none 0 0] 33)).heap[v2.heap.size]? = some (.cells #[.int .u64 0, .int .u64 0, .int .u64 0, .int .u64 0, .slice none 0 0, .string ⟨#[]⟩, .string ⟨#[]⟩, .int .i64 0, .int .i64 0, .int .i64 0, .int .i64 0, .slice none 0 0, .slice none 0 0] 33 (0, 0)) := heap_alloc_new _ _)
    | (refine store_sp (cs := spC sj2 r2) A2 rfl (hcs _ _) (hone _ _) rfl rfl rfl rfl ?_; have b3 : Below v2.heap.size v2 ((v2.alloc (.cells #[.int .u64 0, .int .u64 0, .int .u64 0, .int .u64 0, .slice none 0 0, .string ⟨#[]⟩, .string ⟨#[]⟩, .int .i64 0, .int .i64 0, .int .i64 0, .int .i64 0, .slice none 0 0, .slice none 0 0] 33)).setRow v2.heap.size (spC sj2 r2)) := below_setRow ((Below.refl _ _).alloc (Nat.le_refl _) _) (Nat.le_refl _) _; replace bw := bw.trans (b3.mono bw.size); replace X := (b3.block _ (lt_of_block X)).trans X; replace Y := (b3.block _ (lt_of_block Y)).trans Y; replace Z := (b3.block _ (lt_of_block Z)).trans Z; replace D1 := (b3.block _ (lt_of_block D1)).trans D1; have D2 := setRow_heap (v2.alloc (.cells #[.int .u64 0, .int .u64 0, .int .u64 0, .int .u64 0, .slice none 0 0, .string ⟨#[]⟩, .string ⟨#[]⟩, .int .i64 0, .int .i64 0, .int .i64 0, .int .i64 0, .slice none 0 0, .slice none 0 0] 33)) v2.heap.size _ (spC sj2 r2) 33 (0, 0) A2; clear A2 b3; generalize (v2.alloc (.cells #[.int .u64 0, .int .u64 0, .int .u64 0, .int .u64 0, .slice none 0 0, .string ⟨#[]⟩, .string ⟨#[]⟩, .int .i64 0, .int .i64 0, .int .i64 0, .int .i64 0, .slice none 0 0, .slice none 0 0] 33)).setRow v2.heap.size (spC sj2 r2) = w3 at bw X Y Z D1 D2 ⊢))
    go_ret
    exact ⟨rfl, bw⟩
set_option maxRecDepth 100000 in
set_option maxHeartbeats 16000000 in
theorem joined_ok (a b0 c0 b c : Sp) (p q r : Pl) (w : World) (ha : SpAt w a p) (hb : SpAt w b q) (hc : SpAt w c r) (sa : a.Small) (sb : b.Small) (sc : c.Small) (hT : Tabs w) (Nab : SameN a b) (Nbc : SameN b c)
    (NB : ∀ w, Calls Tryd.prog 12 #[spV b0 q, spV a p] w fun e w' => e = .returned (spV b q) ∧ Below w.heap.size w w')
    (NC : ∀ w, Calls Tryd.prog 12 #[spV c0 r, spV a p] w fun e w' => e = .returned (spV c r) ∧ Below w.heap.size w w')
    (ca : chkS a = 0) (cb : chkS b = 0) (cc : chkS c = 0) :
    Calls Tryd.prog 5 #[spV a p, spV b0 q, spV c0 r] w fun e w' => e = .returned (.bool true) ∧ Below w.heap.size w w' := by
  have B3 : ∀ o1 o2 o3 : Obj, Below w.heap.size w (((w.alloc o1).alloc o2).alloc o3) := fun o1 o2 o3 => ((((Below.refl _ _).alloc (Nat.le_refl _) _).alloc (by simp) _).alloc (by simp; omega) _)
  have bw := B3 (.cells (spC a p) 33) (.cells (spC b0 q) 33) (.cells (spC c0 r) 33)
  have X : (((w.alloc (.cells (spC a p) 33)).alloc (.cells (spC b0 q) 33)).alloc (.cells (spC c0 r) 33)).heap[w.heap.size]? = some (.cells (spC a p) 33 (0, 0)) := (Below.heap_alloc _ _ _ (by simp; omega)).trans ((Below.heap_alloc _ _ _ (by simp)).trans (heap_alloc_new _ _))
  have Y : (((w.alloc (.cells (spC a p) 33)).alloc (.cells (spC b0 q) 33)).alloc (.cells (spC c0 r) 33)).heap[w.heap.size + 1]? = some (.cells (spC b0 q) 33 (0, 0)) := (Below.heap_alloc _ _ _ (by simp)).trans (alloc_at (by simp))
  have Z : (((w.alloc (.cells (spC a p) 33)).alloc (.cells (spC b0 q) 33)).alloc (.cells (spC c0 r) 33)).heap[w.heap.size + 1 + 1]? = some (.cells (spC c0 r) 33 (0, 0)) := alloc_at (by simp)
  have AW := fun w' (h : Below w.heap.size w w') => awake_any w' (hT.below h)
  have CA := fun w' (h : Below w.heap.size w w') => check_any a p w' (ha.below h) sa (hT.below h)
  have CB := fun w' (h : Below w.heap.size w w') => check_any b q w' (hb.below h) sb (hT.below h)
  have CC := fun w' (h : Below w.heap.size w w') => check_any c r w' (hc.below h) sc (hT.below h)
  have s12 : (topS a b).Small := top_of (P := Sp.Small) sa sb
  have s23 : (topS b c).Small := top_of (P := Sp.Small) sb sc
  have c12 : chkS (topS a b) = 0 := top_of (P := fun x => chkS x = 0) ca cb
  have c23 : chkS (topS b c) = 0 := top_of (P := fun x => chkS x = 0) cb cc
  have Nba : SameN b a := ⟨Nab.1.symm, Nab.2.1.symm, Nab.2.2.symm⟩
  have Nac : SameN a c := ⟨Nab.1.trans Nbc.1, Nab.2.1.trans Nbc.2.1, Nab.2.2.trans Nbc.2.2⟩
  have n12 : SameN (topS a b) c := top_of (P := fun x => SameN x c) Nac Nbc
  have n23 : SameN a (topS b c) := top_of (P := fun x => SameN a x) Nab Nac
  have JAB := fun w' (h : Below w.heap.size w w') => joinT a b p q w' (ha.below h) (hb.below h) sa sb (hT.below h) Nab ca cb
  have JBA := fun w' (h : Below w.heap.size w w') => joinT b a q p w' (hb.below h) (ha.below h) sb sa (hT.below h) Nba cb ca
  have JBC := fun w' (h : Below w.heap.size w w') => joinT b c q r w' (hb.below h) (hc.below h) sb sc (hT.below h) Nbc cb cc
  have JABC := fun w' (h : Below w.heap.size w w') u (hu : SpAt w' (topS a b) u) => joinT (topS a b) c u r w' hu (hc.below h) s12 sc (hT.below h) n12 c12 cc
  have JABC2 := fun w' (h : Below w.heap.size w w') u (hu : SpAt w' (topS b c) u) => joinT a (topS b c) p u w' (ha.below h) hu sa s23 (hT.below h) n23 ca c23
  have JAA := fun w' (h : Below w.heap.size w w') => joinT a a p p w' (ha.below h) (ha.below h) sa sa (hT.below h) ⟨rfl, rfl, rfl⟩ ca ca
  have g1 := (top_ge (topS a b) c).1
  have k1 := cmp_tr g1 (top_ge a b).1
  have k2 := cmp_tr g1 (top_ge a b).2
  have k3 := (top_ge (topS a b) c).2
  have hm : topS (topS a b) c = a ∨ topS (topS a b) c = b ∨ topS (topS a b) c = c := top_of (P := fun x => x = a ∨ x = b ∨ x = c) (top_of (P := fun x => x = a ∨ x = b ∨ x = c) (Or.inl rfl) (Or.inr (Or.inl rfl))) (Or.inr (Or.inr rfl))
  rw [top_comm] at JBA
  rw [top_self] at JAA
  rw [top_assoc] at JABC2
  rw [ca] at CA
  rw [cb] at CB
  rw [cc] at CC
  generalize topS (topS a b) c = m at JABC JABC2 k1 k2 k3 hm
  clear g1 s12 s23 c12 c23 n12 n23
  generalize topS a b = m1 at JAB JBA JABC
  generalize topS b c = m2 at JBC JABC2
  have SM1 := fun w' u v (hu : SpAt w' m1 u) (hv : SpAt w' m1 v) => same_any m1 m1 u v w' hu hv
  have SMM := fun w' u v (hu : SpAt w' m u) (hv : SpAt w' m v) => same_any m m u v w' hu hv
  have SAA := fun w' (h : Below w.heap.size w w') u (hu : SpAt w' a u) => same_any a a u p w' hu (ha.below h)
  have SMA := fun w' (h : Below w.heap.size w w') u (hu : SpAt w' m u) => same_any m a u p w' hu (ha.below h)
  have SMB := fun w' (h : Below w.heap.size w w') u (hu : SpAt w' m u) => same_any m b u q w' hu (hb.below h)
  have SMC := fun w' (h : Below w.heap.size w w') u (hu : SpAt w' m u) => same_any m c u r w' hu (hc.below h)
  have CMA := fun w' (h : Below w.heap.size w w') u (hu : SpAt w' m u) => compare_any m a u p w' hu (ha.below h)
  have CMB := fun w' (h : Below w.heap.size w w') u (hu : SpAt w' m u) => compare_any m b u q w' hu (hb.below h)
  have CMC := fun w' (h : Below w.heap.size w w') u (hu : SpAt w' m u) => compare_any m c u r w' hu (hc.below h)
  rw [(good_cmpP.eq m1 m1).2 rfl] at SM1
  rw [(good_cmpP.eq m m).2 rfl] at SMM
  rw [(good_cmpP.eq a a).2 rfl] at SAA
  have hs0 : decide (cmpP m a = 0) = true ∨ decide (cmpP m b = 0) = true ∨ decide (cmpP m c = 0) = true := by
    rcases hm with h | h | h
    · exact Or.inl (decide_eq_true ((good_cmpP.eq _ _).2 h))
    · exact Or.inr (Or.inl (decide_eq_true ((good_cmpP.eq _ _).2 h)))
    · exact Or.inr (Or.inr (decide_eq_true ((good_cmpP.eq _ _).2 h)))
  generalize decide (cmpP m a = 0) = t1 at SMA hs0
  generalize decide (cmpP m b = 0) = t2 at SMB hs0
  generalize decide (cmpP m c = 0) = t3 at SMC hs0
  have hs : Hid (t1 = true ∨ (t1 = false ∧ t2 = true) ∨ (t1 = false ∧ t2 = false ∧ t3 = true)) := by
    cases t1 <;> cases t2 <;> simp_all [Hid]
  generalize cmpP m a = u1 at CMA k1
  generalize cmpP m b = u2 at CMB k2
  generalize cmpP m c = u3 at CMC k3
  have d1 : decide (0 ≤ u1) = true := decide_eq_true k1
  have d2 : decide (0 ≤ u2) = true := decide_eq_true k2
  have d3 : decide (0 ≤ u3) = true := decide_eq_true k3
  clear ha hb hc sa sb sc hT B3 Nab Nbc Nba Nac ca cb cc hm hs0
  unfold spV at CA CB CC JAB JBA JBC JABC JABC2 JAA SM1 SMM SAA SMA SMB SMC CMA CMB CMC NB NC
  unfold spV
  go_enter Tryd.func5, Tryd.ntmps5
  go_wp2_with (first
    | (refine load_sp X (hcs _ _) rfl rfl rfl ?_)
    | (refine load_sp Y (hcs _ _) rfl rfl rfl ?_)
    | (refine load_sp Z (hcs _ _) rfl rfl rfl ?_)
    | (refine load_sp D1 (hcs _ _) rfl rfl rfl ?_)
    | (refine load_sp D2 (hcs _ _) rfl rfl rfl ?_)
    | (refine load_sp D3 (hcs _ _) rfl rfl rfl ?_)
    | (refine load_sp D4 (hcs _ _) rfl rfl rfl ?_)
    | (refine load_sp D5 (hcs _ _) rfl rfl rfl ?_)
    | (refine load_sp D6 (hcs _ _) rfl rfl rfl ?_)
    | (go_at_call 8; refine (AW _ bw).mono ?_; clear AW; rintro e w2 ⟨rfl, b2⟩; replace bw := bw.trans (b2.mono bw.size); replace X := (b2.block _ (lt_of_block X)).trans X; replace Y := (b2.block _ (lt_of_block Y)).trans Y; replace Z := (b2.block _ (lt_of_block Z)).trans Z; clear b2)
    | (go_at_call 12; refine (NB _).mono ?_; clear NB; rintro e wn1 ⟨rfl, b2⟩; replace bw := bw.trans (b2.mono bw.size); replace X := (b2.block _ (lt_of_block X)).trans X; replace Y := (b2.block _ (lt_of_block Y)).trans Y; replace Z := (b2.block _ (lt_of_block Z)).trans Z; clear b2)
    | (refine store_sp (cs := spC b q) Y (hcs _ _) (hcs _ _) (hone _ _) rfl rfl rfl rfl ?_; replace bw := below_setRow bw (by omega) (spC b q) (g := w.heap.size + 1); replace X := (setRow_other wn1 (w.heap.size + 1) (w.heap.size) (spC b q) (by omega)).trans X; replace Z := (setRow_other wn1 (w.heap.size + 1) (w.heap.size + 1 + 1) (spC b q) (by omega)).trans Z; replace Y := setRow_heap wn1 (w.heap.size + 1) _ (spC b q) 33 (0, 0) Y; generalize wn1.setRow (w.heap.size + 1) (spC b q) = w3 at bw X Y Z ⊢)
    | (go_at_call 12; refine (NC _).mono ?_; clear NC; rintro e wn2 ⟨rfl, b2⟩; replace bw := bw.trans (b2.mono bw.size); replace X := (b2.block _ (lt_of_block X)).trans X; replace Y := (b2.block _ (lt_of_block Y)).trans Y; replace Z := (b2.block _ (lt_of_block Z)).trans Z; clear b2)
    | (refine store_sp (cs := spC c r) Z (hcs _ _) (hcs _ _) (hone _ _) rfl rfl rfl rfl ?_; replace bw := below_setRow bw (by omega) (spC c r) (g := w.heap.size + 1 + 1); replace X := (setRow_other wn2 (w.heap.size + 1 + 1) (w.heap.size) (spC c r) (by omega)).trans X; replace Y := (setRow_other wn2 (w.heap.size + 1 + 1) (w.heap.size + 1) (spC c r) (by omega)).trans Y; replace Z := setRow_heap wn2 (w.heap.size + 1 + 1) _ (spC c r) 33 (0, 0) Z; generalize wn2.setRow (w.heap.size + 1 + 1) (spC c r) = w3 at bw X Y Z ⊢)
    | (go_at_call 13; refine (CA _ bw).mono ?_; clear CA; rintro e w2 ⟨rfl, b2⟩; replace bw := bw.trans (b2.mono bw.size); replace X := (b2.block _ (lt_of_block X)).trans X; replace Y := (b2.block _ (lt_of_block Y)).trans Y; replace Z := (b2.block _ (lt_of_block Z)).trans Z; clear b2; replace y0 := blk_cell Y 0 rfl; replace y1 := blk_cell Y 1 rfl; replace y2 := blk_cell Y 2 rfl; replace y3 := blk_cell Y 3 rfl; replace y4 := blk_cell Y 4 rfl; replace y5 := blk_cell Y 5 rfl; replace y6 := blk_cell Y 6 rfl; replace y7 := blk_cell Y 7 rfl; replace y8 := blk_cell Y 8 rfl; replace y9 := blk_cell Y 9 rfl; replace y10 := blk_cell Y 10 rfl; replace y11 := blk_cell Y 11 rfl; replace y12 := blk_cell Y 12 rfl)
    | (go_at_call 13; refine (CB _ bw).mono ?_; clear CB; rintro e w2 ⟨rfl, b2⟩; replace bw := bw.trans (b2.mono bw.size); replace X := (b2.block _ (lt_of_block X)).trans X; replace Y := (b2.block _ (lt_of_block Y)).trans Y; replace Z := (b2.block _ (lt_of_block Z)).trans Z; clear b2; clear y0 y1 y2 y3 y4 y5 y6 y7 y8 y9 y10 y11 y12; replace z0 := blk_cell Z 0 rfl; replace z1 := blk_cell Z 1 rfl; replace z2 := blk_cell Z 2 rfl; replace z3 := blk_cell Z 3 rfl; replace z4 := blk_cell Z 4 rfl; replace z5 := blk_cell Z 5 rfl; replace z6 := blk_cell Z 6 rfl; replace z7 := blk_cell Z 7 rfl; replace z8 := blk_cell Z 8 rfl; replace z9 := blk_cell Z 9 rfl; replace z10 := blk_cell Z 10 rfl; replace z11 := blk_cell Z 11 rfl; replace z12 := blk_cell Z 12 rfl)
    | (go_at_call 13; refine (CC _ bw).mono ?_; clear CC; rintro e w2 ⟨rfl, b2⟩; replace bw := bw.trans (b2.mono bw.size); replace X := (b2.block _ (lt_of_block X)).trans X; replace Y := (b2.block _ (lt_of_block Y)).trans Y; replace Z := (b2.block _ (lt_of_block Z)).trans Z; clear b2; clear z0 z1 z2 z3 z4 z5 z6 z7 z8 z9 z10 z11 z12)
    | (go_at_call 14; refine (JAB _ bw).mono ?_; clear JAB; rintro e v1 ⟨r1, rfl, S1, b2⟩; replace bw := bw.trans (b2.mono bw.size); replace X := (b2.block _ (lt_of_block X)).trans X; replace Y := (b2.block _ (lt_of_block Y)).trans Y; replace Z := (b2.block _ (lt_of_block Z)).trans Z; clear b2; have A1 : (v1.alloc (.cells #[.int .u64 0, .int .u64 0, .int .u64 0, .int .u64 0, .slice none 0 0, .string ⟨#[]⟩, .string ⟨#[]⟩, .int .i64 0, .int .i64 0, .int .i64 0, .int .i64 0, .slice none 0 0, .slice none 0 0] 33)).heap[v1.heap.size]? = some (.cells #[.int .u64 0, .int .u64 0, .int .u64 0, .int .u64 0, .slice none 0 0, .string ⟨#[]⟩, .string ⟨#[]⟩, .int .i64 0, .int .i64 0, .int .i64 0, .int .i64 0, .slice none 0 0, .slice none 0 0] 33 (0, 0)) := heap_alloc_new _ _)
    | (refine store_sp (cs := spC m1 r1) A1 rfl (hcs _ _) (hone _ _) rfl rfl rfl rfl ?_; have b3 : Below v1.heap.size v1 ((v1.alloc (.cells #[.int .u64 0, .int .u64 0, .int .u64 0, .int .u64 0, .slice none 0 0, .string ⟨#[]⟩, .string ⟨#[]⟩, .int .i64 0, .int .i64 0, .int .i64 0, .int .i64 0, .slice none 0 0, .slice none 0 0] 33)).setRow v1.heap.size (spC m1 r1)) := below_setRow ((Below.refl _ _).alloc (Nat.le_refl _) _) (Nat.le_refl _) _; replace bw := bw.trans (b3.mono bw.size); replace X := (b3.block _ (lt_of_block X)).trans X; replace Y := (b3.block _ (lt_of_block Y)).trans Y; replace Z := (b3.block _ (lt_of_block Z)).trans Z; replace S1 := S1.below b3; have D1 := setRow_heap (v1.alloc (.cells #[.int .u64 0, .int .u64 0, .int .u64 0, .int .u64 0, .slice none 0 0, .string ⟨#[]⟩, .string ⟨#[]⟩, .int .i64 0, .int .i64 0, .int .i64 0, .int .i64 0, .slice none 0 0, .slice none 0 0] 33)) v1.heap.size _ (spC m1 r1) 33 (0, 0) A1; clear A1 b3; generalize (v1.alloc (.cells #[.int .u64 0, .int .u64 0, .int .u64 0, .int .u64 0, .slice none 0 0, .string ⟨#[]⟩, .string ⟨#[]⟩, .int .i64 0, .int .i64 0, .int .i64 0, .int .i64 0, .slice none 0 0, .slice none 0 0] 33)).setRow v1.heap.size (spC m1 r1) = w3 at bw X Y Z S1 D1 ⊢)
    | (go_at_call 14; refine (JBA _ bw).mono ?_; clear JBA; rintro e v2 ⟨r2, rfl, S2, b2⟩; replace bw := bw.trans (b2.mono bw.size); replace X := (b2.block _ (lt_of_block X)).trans X; replace Y := (b2.block _ (lt_of_block Y)).trans Y; replace Z := (b2.block _ (lt_of_block Z)).trans Z; replace D1 := (b2.block _ (lt_of_block D1)).trans D1; replace S1 := S1.below b2; clear b2; have A2 : (v2.alloc (.cells #[.int .u64 0, .int .u64 0, .int .u64 0, .int .u64 0, .slice none 0 0, .string ⟨#[]⟩, .string ⟨#[]⟩, .int .i64 0, .int .i64 0, .int .i64 0, .int .i64 0, .slice none 0 0, .slice none 0 0] 33)).heap[v2.heap.size]? = some (.cells #[.int .u64 0, .int .u64 0, .int .u64 0, .int .u64 0, .slice none 0 0, .string ⟨#[]⟩, .string ⟨#[]⟩, .int .i64 0, .int .i64 0, .int .i64 0, .int .i64 0, .slice none 0 0, .slice none 0 0] 33 (0, 0)) := heap_alloc_new _ _)
    | (refine store_sp (cs := spC m1 r2) A2 rfl (hcs _ _) (hone _ _) rfl rfl rfl rfl ?_; have b3 : Below v2.heap.size v2 ((v2.alloc (.cells #[.int .u64 0, .int .u64 0, .int .u64 0, .int .u64 0, .slice none 0 0, .string ⟨#[]⟩, .string ⟨#[]⟩, .int .i64 0, .int .i64 0, .int .i64 0, .int .i64 0, .slice none 0 0, .slice none 0 0] 33)).setRow v2.heap.size (spC m1 r2)) := below_setRow ((Below.refl _ _).alloc (Nat.le_refl _) _) (Nat.le_refl _) _; replace bw := bw.trans (b3.mono bw.size); replace X := (b3.block _ (lt_of_block X)).trans X; replace Y := (b3.block _ (lt_of_block Y)).trans Y; replace Z := (b3.block _ (lt_of_block Z)).trans Z; replace D1 := (b3.block _ (lt_of_block D1)).trans D1; replace S1 := S1.below b3; replace S2 := S2.below b3; have D2 := setRow_heap (v2.alloc (.cells #[.int .u64 0, .int .u64 0, .int .u64 0, .int .u64 0, .slice none 0 0, .string ⟨#[]⟩, .string ⟨#[]⟩, .int .i64 0, .int .i64 0, .int .i64 0, .int .i64 0, .slice none 0 0, .slice none 0 0] 33)) v2.heap.size _ (spC m1 r2) 33 (0, 0) A2; clear A2 b3; generalize (v2.alloc (.cells #[.int .u64 0, .int .u64 0, .int .u64 0, .int .u64 0, .slice none 0 0, .string ⟨#[]⟩, .string ⟨#[]⟩, .int .i64 0, .int .i64 0, .int .i64 0, .int .i64 0, .slice none 0 0, .slice none 0 0] 33)).setRow v2.heap.size (spC m1 r2) = w3 at bw X Y Z D1 S1 S2 D2 ⊢)
    | (go_at_call 14; refine (JBC _ bw).mono ?_; clear JBC; rintro e v3 ⟨r3, rfl, S3, b2⟩; replace bw := bw.trans (b2.mono bw.size); replace X := (b2.block _ (lt_of_block X)).trans X; replace Y := (b2.block _ (lt_of_block Y)).trans Y; replace Z := (b2.block _ (lt_of_block Z)).trans Z; replace D1 := (b2.block _ (lt_of_block D1)).trans D1; replace D2 := (b2.block _ (lt_of_block D2)).trans D2; replace S1 := S1.below b2; replace S2 := S2.below b2; clear b2; have A3 : (v3.alloc (.cells #[.int .u64 0, .int .u64 0, .int .u64 0, .int .u64 0, .slice none 0 0, .string ⟨#[]⟩, .string ⟨#[]⟩, .int .i64 0, .int .i64 0, .int .i64 0, .int .i64 0, .slice none 0 0, .slice none 0 0] 33)).heap[v3.heap.size]? = some (.cells #[.int .u64 0, .int .u64 0, .int .u64 0, .int .u64 0, .slice none 0 0, .string ⟨#[]⟩, .string ⟨#[]⟩, .int .i64 0, .int .i64 0, .int .i64 0, .int .i64 0, .slice none 0 0, .slice none 0 0] 33 (0, 0)) := heap_alloc_new _ _)
    | (refine store_sp (cs := spC m2 r3) A3 rfl (hcs _ _) (hone _ _) rfl rfl rfl rfl ?_; have b3 : Below v3.heap.size v3 ((v3.alloc (.cells #[.int .u64 0, .int .u64 0, .int .u64 0, .int .u64 0, .slice none 0 0, .string ⟨#[]⟩, .string ⟨#[]⟩, .int .i64 0, .int .i64 0, .int .i64 0, .int .i64 0, .slice none 0 0, .slice none 0 0] 33)).setRow v3.heap.size (spC m2 r3)) := below_setRow ((Below.refl _ _).alloc (Nat.le_refl _) _) (Nat.le_refl _) _; replace bw := bw.trans (b3.mono bw.size); replace X := (b3.block _ (lt_of_block X)).trans X; replace Y := (b3.block _ (lt_of_block Y)).trans Y; replace Z := (b3.block _ (lt_of_block Z)).trans Z; replace D1 := (b3.block _ (lt_of_block D1)).trans D1; replace D2 := (b3.block _ (lt_of_block D2)).trans D2; replace S1 := S1.below b3; replace S2 := S2.below b3; replace S3 := S3.below b3; have D3 := setRow_heap (v3.alloc (.cells #[.int .u64 0, .int .u64 0, .int .u64 0, .int .u64 0, .slice none 0 0, .string ⟨#[]⟩, .string ⟨#[]⟩, .int .i64 0, .int .i64 0, .int .i64 0, .int .i64 0, .slice none 0 0, .slice none 0 0] 33)) v3.heap.size _ (spC m2 r3) 33 (0, 0) A3; clear A3 b3; generalize (v3.alloc (.cells #[.int .u64 0, .int .u64 0, .int .u64 0, .int .u64 0, .slice none 0 0, .string ⟨#[]⟩, .string ⟨#[]⟩, .int .i64 0, .int .i64 0, .int .i64 0, .int .i64 0, .slice none 0 0, .slice none 0 0] 33)).setRow v3.heap.size (spC m2 r3) = w3 at bw X Y Z D1 D2 S1 S2 S3 D3 ⊢)
    | (go_at_call 14; refine (JABC _ bw _ S1).mono ?_; clear JABC; rintro e v4 ⟨r4, rfl, S4, b2⟩; replace bw := bw.trans (b2.mono bw.size); replace X := (b2.block _ (lt_of_block X)).trans X; replace Y := (b2.block _ (lt_of_block Y)).trans Y; replace Z := (b2.block _ (lt_of_block Z)).trans Z; replace D1 := (b2.block _ (lt_of_block D1)).trans D1; replace D2 := (b2.block _ (lt_of_block D2)).trans D2; replace D3 := (b2.block _ (lt_of_block D3)).trans D3; replace S1 := S1.below b2; replace S2 := S2.below b2; replace S3 := S3.below b2; clear b2; have A4 : (v4.alloc (.cells #[.int .u64 0, .int .u64 0, .int .u64 0, .int .u64 0, .slice none 0 0, .string ⟨#[]⟩, .string ⟨#[]⟩, .int .i64 0, .int .i64 0, .int .i64 0, .int .i64 0, .slice none 0 0, .slice none 0 0] 33)).heap[v4.heap.size]? = some (.cells #[.int .u64 0, .int .u64 0, .int .u64 0, .int .u64 0, .slice none 0 0, .string ⟨#[]⟩, .string ⟨#[]⟩, .int .i64 0, .int .i64 0, .int .i64 0, .int .i64 0, .slice none 0 0, .slice none 0 0] 33 (0, 0)) := heap_alloc_new _ _)
    | (refine store_sp (cs := spC m r4) A4 rfl (hcs _ _) (hone _ _) rfl rfl rfl rfl ?_; have b3 : Below v4.heap.size v4 ((v4.alloc (.cells #[.int .u64 0, .int .u64 0, .int .u64 0, .int .u64 0, .slice none 0 0, .string ⟨#[]⟩, .string ⟨#[]⟩, .int .i64 0, .int .i64 0, .int .i64 0, .int .i64 0, .slice none 0 0, .slice none 0 0] 33)).setRow v4.heap.size (spC m r4)) := below_setRow ((Below.refl _ _).alloc (Nat.le_refl _) _) (Nat.le_refl _) _; replace bw := bw.trans (b3.mono bw.size); replace X := (b3.block _ (lt_of_block X)).trans X; replace Y := (b3.block _ (lt_of_block Y)).trans Y; replace Z := (b3.block _ (lt_of_block Z)).trans Z; replace D1 := (b3.block _ (lt_of_block D1)).trans D1; replace D2 := (b3.block _ (lt_of_block D2)).trans D2; replace D3 := (b3.block _ (lt_of_block D3)).trans D3; replace S1 := S1.below b3; replace S2 := S2.below b3; replace S3 := S3.below b3; replace S4 := S4.below b3; have D4 := setRow_heap (v4.alloc (.cells #[.int .u64 0, .int .u64 0, .int .u64 0, .int .u64 0, .slice none 0 0, .string ⟨#[]⟩, .string ⟨#[]⟩, .int .i64 0, .int .i64 0, .int .i64 0, .int .i64 0, .slice none 0 0, .slice none 0 0] 33)) v4.heap.size _ (spC m r4) 33 (0, 0) A4; clear A4 b3; generalize (v4.alloc (.cells #[.int .u64 0, .int .u64 0, .int .u64 0, .int .u64 0, .slice none 0 0, .string ⟨#[]⟩, .string ⟨#[]⟩, .int .i64 0, .int .i64 0, .int .i64 0, .int .i64 0, .slice none 0 0, .slice none 0 0] 33)).setRow v4.heap.size (spC m r4) = w3 at bw X Y Z D1 D2 D3 S1 S2 S3 S4 D4 ⊢)
    | (go_at_call 14; refine (JABC2 _ bw _ S3).mono ?_; clear JABC2; rintro e v5 ⟨r5, rfl, S5, b2⟩; replace bw := bw.trans (b2.mono bw.size); replace X := (b2.block _ (lt_of_block X)).trans X; replace Y := (b2.block _ (lt_of_block Y)).trans Y; replace Z := (b2.block _ (lt_of_block Z)).trans Z; replace D1 := (b2.block _ (lt_of_block D1)).trans D1; replace D2 := (b2.block _ (lt_of_block D2)).trans D2; replace D3 := (b2.block _ (lt_of_block D3)).trans D3; replace D4 := (b2.block _ (lt_of_block D4)).trans D4; replace S1 := S1.below b2; replace S2 := S2.below b2; replace S3 := S3.below b2; replace S4 := S4.below b2; clear b2; have A5 : (v5.alloc (.cells #[.int .u64 0, .int .u64 0, .int .u64 0, .int .u64 0, .slice none 0 0, .string ⟨#[]⟩, .string ⟨#[]⟩, .int .i64 0, .int .i64 0, .int .i64 0, .int .i64 0, .slice none 0 0, .slice none 0 0] 33)).heap[v5.heap.size]? = some (.cells #[.int .u64 0, .int .u64 0, .int .u64 0, .int .u64 0, .slice none 0 0, .string ⟨#[]⟩, .string ⟨#[]⟩, .int .i64 0, .int .i64 0, .int .i64 0, .int .i64 0, .slice none 0 0, .slice none 0 0] 33 (0, 0)) := heap_alloc_new _ _)
    | (refine store_sp (cs := spC m r5) A5 rfl (hcs _ _) (hone _ _) rfl rfl rfl rfl ?_; have b3 : Below v5.heap.size v5 ((v5.alloc (.cells #[.int .u64 0, .int .u64 0, .int .u64 0, .int .u64 0, .slice none 0 0, .string ⟨#[]⟩, .string ⟨#[]⟩, .int .i64 0, .int .i64 0, .int .i64 0, .int .i64 0, .slice none 0 0, .slice none 0 0] 33)).setRow v5.heap.size (spC m r5)) := below_setRow ((Below.refl _ _).alloc (Nat.le_refl _) _) (Nat.le_refl _) _; replace bw := bw.trans (b3.mono bw.size); replace X := (b3.block _ (lt_of_block X)).trans X; replace Y := (b3.block _ (lt_of_block Y)).trans Y; replace Z := (b3.block _ (lt_of_block Z)).trans Z; replace D1 := (b3.block _ (lt_of_block D1)).trans D1; replace D2 := (b3.block _ (lt_of_block D2)).trans D2; replace D3 := (b3.block _ (lt_of_block D3)).trans D3; replace D4 := (b3.block _ (lt_of_block D4)).trans D4; replace S1 := S1.below b3; replace S2 := S2.below b3; replace S3 := S3.below b3; replace S4 := S4.below b3; replace S5 := S5.below b3; have D5 := setRow_heap (v5.alloc (.cells #[.int .u64 0, .int .u64 0, .int .u64 0, .int .u64 0, .slice none 0 0, .string ⟨#[]⟩, .string ⟨#[]⟩, .int .i64 0, .int .i64 0, .int .i64 0, .int .i64 0, .slice none 0 0, .slice none 0 0] 33)) v5.heap.size _ (spC m r5) 33 (0, 0) A5; clear A5 b3; generalize (v5.alloc (.cells #[.int .u64 0, .int .u64 0, .int .u64 0, .int .u64 0, .slice none 0 0, .string ⟨#[]⟩, .string ⟨#[]⟩, .int .i64 0, .int .i64 0, .int .i64 0, .int .i64 0, .slice none 0 0, .slice none 0 0] 33)).setRow v5.heap.size (spC m r5) = w3 at bw X Y Z D1 D2 D3 D4 S1 S2 S3 S4 S5 D5 ⊢)
    | (go_at_call 14; refine (JAA _ bw).mono ?_; clear JAA; rintro e v6 ⟨r6, rfl, S6, b2⟩; replace bw := bw.trans (b2.mono bw.size); replace X := (b2.block _ (lt_of_block X)).trans X; replace Y := (b2.block _ (lt_of_block Y)).trans Y; replace Z := (b2.block _ (lt_of_block Z)).trans Z; replace D1 := (b2.block _ (lt_of_block D1)).trans D1; replace D2 := (b2.block _ (lt_of_block D2)).trans D2; replace D3 := (b2.block _ (lt_of_block D3)).trans D3; replace D4 := (b2.block _ (lt_of_block D4)).trans D4; replace D5 := (b2.block _ (lt_of_block D5)).trans D5; replace S1 := S1.below b2; replace S2 := S2.below b2; replace S3 := S3.below b2; replace S4 := S4.below b2; replace S5 := S5.below b2; clear b2; have A6 : (v6.alloc (.cells #[.int .u64 0, .int .u64 0, .int .u64 0, .int .u64 0, .slice none 0 0, .string ⟨#[]⟩, .string ⟨#[]⟩, .int .i64 0, .int .i64 0, .int .i64 0, .int .i64 0, .slice none 0 0, .slice none 0 0] 33)).heap[v6.heap.size]? = some (.cells #[.int .u64 0, .int .u64 0, .int .u64 0, .int .u64 0, .slice none 0 0, .string ⟨#[]⟩, .string ⟨#[]⟩, .int .i64 0, .int .i64 0, .int .i64 0, .int .i64 0, .slice none 0 0, .slice none 0 0] 33 (0, 0)) := heap_alloc_new _ _)
    | (refine store_sp (cs := spC a r6) A6 rfl (hcs _ _) (hone _ _) rfl rfl rfl rfl ?_; have b3 : Below v6.heap.size v6 ((v6.alloc (.cells #[.int .u64 0, .int .u64 0, .int .u64 0, .int .u64 0, .slice none 0 0, .string ⟨#[]⟩, .string ⟨#[]⟩, .int .i64 0, .int .i64 0, .int .i64 0, .int .i64 0, .slice none 0 0, .slice none 0 0] 33)).setRow v6.heap.size (spC a r6)) := below_setRow ((Below.refl _ _).alloc (Nat.le_refl _) _) (Nat.le_refl _) _; replace bw := bw.trans (b3.mono bw.size); replace X := (b3.block _ (lt_of_block X)).trans X; replace Y := (b3.block _ (lt_of_block Y)).trans Y; replace Z := (b3.block _ (lt_of_block Z)).trans Z; replace D1 := (b3.block _ (lt_of_block D1)).trans D1; replace D2 := (b3.block _ (lt_of_block D2)).trans D2; replace D3 := (b3.block _ (lt_of_block D3)).trans D3; replace D4 := (b3.block _ (lt_of_block D4)).trans D4; replace D5 := (b3.block _ (lt_of_block D5)).trans D5; replace S1 := S1.below b3; replace S2 := S2.below b3; replace S3 := S3.below b3; replace S4 := S4.below b3; replace S5 := S5.below b3; replace S6 := S6.below b3; have D6 := setRow_heap (v6.alloc (.cells #[.int .u64 0, .int .u64 0, .int .u64 0, .int .u64 0, .slice none 0 0, .string ⟨#[]⟩, .string ⟨#[]⟩, .int .i64 0, .int .i64 0, .int .i64 0, .int .i64 0, .slice none 0 0, .slice none 0 0] 33)) v6.heap.size _ (spC a r6) 33 (0, 0) A6; clear A6 b3; generalize (v6.alloc (.cells #[.int .u64 0, .int .u64 0, .int .u64 0, .int .u64 0, .slice none 0 0, .string ⟨#[]⟩, .string ⟨#[]⟩, .int .i64 0, .int .i64 0, .int .i64 0, .int .i64 0, .slice none 0 0, .slice none 0 0] 33)).setRow v6.heap.size (spC a r6) = w3 at bw X Y Z D1 D2 D3 D4 D5 S1 S2 S3 S4 S5 S6 D6 ⊢)
    | (go_at_call 10; refine (SM1 _ _ _ S1 S2).mono ?_; clear SM1; rintro e w2 ⟨rfl, b2⟩; replace bw := bw.trans (b2.mono bw.size); replace X := (b2.block _ (lt_of_block X)).trans X; replace Y := (b2.block _ (lt_of_block Y)).trans Y; replace Z := (b2.block _ (lt_of_block Z)).trans Z; replace D1 := (b2.block _ (lt_of_block D1)).trans D1; replace D2 := (b2.block _ (lt_of_block D2)).trans D2; replace D3 := (b2.block _ (lt_of_block D3)).trans D3; replace D4 := (b2.block _ (lt_of_block D4)).trans D4; replace D5 := (b2.block _ (lt_of_block D5)).trans D5; replace D6 := (b2.block _ (lt_of_block D6)).trans D6; replace S1 := S1.below b2; replace S2 := S2.below b2; replace S3 := S3.below b2; replace S4 := S4.below b2; replace S5 := S5.below b2; replace S6 := S6.below b2; clear b2)
    | (go_at_call 10; refine (SMM _ _ _ S4 S5).mono ?_; clear SMM; rintro e w2 ⟨rfl, b2⟩; replace bw := bw.trans (b2.mono bw.size); replace X := (b2.block _ (lt_of_block X)).trans X; replace Y := (b2.block _ (lt_of_block Y)).trans Y; replace Z := (b2.block _ (lt_of_block Z)).trans Z; replace D1 := (b2.block _ (lt_of_block D1)).trans D1; replace D2 := (b2.block _ (lt_of_block D2)).trans D2; replace D3 := (b2.block _ (lt_of_block D3)).trans D3; replace D4 := (b2.block _ (lt_of_block D4)).trans D4; replace D5 := (b2.block _ (lt_of_block D5)).trans D5; replace D6 := (b2.block _ (lt_of_block D6)).trans D6; replace S1 := S1.below b2; replace S2 := S2.below b2; replace S3 := S3.below b2; replace S4 := S4.below b2; replace S5 := S5.below b2; replace S6 := S6.below b2; clear b2)
    | (go_at_call 10; refine (SAA _ bw _ S6).mono ?_; clear SAA; rintro e w2 ⟨rfl, b2⟩; replace bw := bw.trans (b2.mono bw.size); replace X := (b2.block _ (lt_of_block X)).trans X; replace Y := (b2.block _ (lt_of_block Y)).trans Y; replace Z := (b2.block _ (lt_of_block Z)).trans Z; replace D1 := (b2.block _ (lt_of_block D1)).trans D1; replace D2 := (b2.block _ (lt_of_block D2)).trans D2; replace D3 := (b2.block _ (lt_of_block D3)).trans D3; replace D4 := (b2.block _ (lt_of_block D4)).trans D4; replace D5 := (b2.block _ (lt_of_block D5)).trans D5; replace D6 := (b2.block _ (lt_of_block D6)).trans D6; replace S1 := S1.below b2; replace S2 := S2.below b2; replace S3 := S3.below b2; replace S4 := S4.below b2; replace S5 := S5.below b2; replace S6 := S6.below b2; clear b2)
    | (go_at_call 10; refine (SMA _ bw _ S4).mono ?_; clear SMA; rintro e w2 ⟨rfl, b2⟩; replace bw := bw.trans (b2.mono bw.size); replace X := (b2.block _ (lt_of_block X)).trans X; replace Y := (b2.block _ (lt_of_block Y)).trans Y; replace Z := (b2.block _ (lt_of_block Z)).trans Z; replace D1 := (b2.block _ (lt_of_block D1)).trans D1; replace D2 := (b2.block _ (lt_of_block D2)).trans D2; replace D3 := (b2.block _ (lt_of_block D3)).trans D3; replace D4 := (b2.block _ (lt_of_block D4)).trans D4; replace D5 := (b2.block _ (lt_of_block D5)).trans D5; replace D6 := (b2.block _ (lt_of_block D6)).trans D6; replace S1 := S1.below b2; replace S2 := S2.below b2; replace S3 := S3.below b2; replace S4 := S4.below b2; replace S5 := S5.below b2; replace S6 := S6.below b2; clear b2)
    | (go_at_call 10; refine (SMB _ bw _ S4).mono ?_; clear SMB; rintro e w2 ⟨rfl, b2⟩; replace bw := bw.trans (b2.mono bw.size); replace X := (b2.block _ (lt_of_block X)).trans X; replace Y := (b2.block _ (lt_of_block Y)).trans Y; replace Z := (b2.block _ (lt_of_block Z)).trans Z; replace D1 := (b2.block _ (lt_of_block D1)).trans D1; replace D2 := (b2.block _ (lt_of_block D2)).trans D2; replace D3 := (b2.block _ (lt_of_block D3)).trans D3; replace D4 := (b2.block _ (lt_of_block D4)).trans D4; replace D5 := (b2.block _ (lt_of_block D5)).trans D5; replace D6 := (b2.block _ (lt_of_block D6)).trans D6; replace S1 := S1.below b2; replace S2 := S2.below b2; replace S3 := S3.below b2; replace S4 := S4.below b2; replace S5 := S5.below b2; replace S6 := S6.below b2; clear b2)
    | (go_at_call 10; refine (SMC _ bw _ S4).mono ?_; clear SMC; rintro e w2 ⟨rfl, b2⟩; replace bw := bw.trans (b2.mono bw.size); replace X := (b2.block _ (lt_of_block X)).trans X; replace Y := (b2.block _ (lt_of_block Y)).trans Y; replace Z := (b2.block _ (lt_of_block Z)).trans Z; replace D1 := (b2.block _ (lt_of_block D1)).trans D1; replace D2 := (b2.block _ (lt_of_block D2)).trans D2; replace D3 := (b2.block _ (lt_of_block D3)).trans D3; replace D4 := (b2.block _ (lt_of_block D4)).trans D4; replace D5 := (b2.block _ (lt_of_block D5)).trans D5; replace D6 := (b2.block _ (lt_of_block D6)).trans D6; replace S1 := S1.below b2; replace S2 := S2.below b2; replace S3 := S3.below b2; replace S4 := S4.below b2; replace S5 := S5.below b2; replace S6 := S6.below b2; clear b2; replace x0 := blk_cell D4 0 rfl; replace x1 := blk_cell D4 1 rfl; replace x2 := blk_cell D4 2 rfl; replace x3 := blk_cell D4 3 rfl; replace x4 := blk_cell D4 4 rfl; replace x5 := blk_cell D4 5 rfl; replace x6 := blk_cell D4 6 rfl; replace x7 := blk_cell D4 7 rfl; replace x8 := blk_cell D4 8 rfl; replace x9 := blk_cell D4 9 rfl; replace x10 := blk_cell D4 10 rfl; replace x11 := blk_cell D4 11 rfl; replace x12 := blk_cell D4 12 rfl; replace y0 := blk_cell X 0 rfl; replace y1 := blk_cell X 1 rfl; replace y2 := blk_cell X 2 rfl; replace y3 := blk_cell X 3 rfl; replace y4 := blk_cell X 4 rfl; replace y5 := blk_cell X 5 rfl; replace y6 := blk_cell X 6 rfl; replace y7 := blk_cell X 7 rfl; replace y8 := blk_cell X 8 rfl; replace y9 := blk_cell X 9 rfl; replace y10 := blk_cell X 10 rfl; replace y11 := blk_cell X 11 rfl; replace y12 := blk_cell X 12 rfl; rcases hs.out with hs | hs | hs <;> obtain hs := hs <;> (first | (obtain rfl := hs) | (obtain ⟨rfl, rfl⟩ := hs) | (obtain ⟨rfl, rfl, rfl⟩ := hs)))
    | (go_at_call 9; refine (CMA _ bw _ S4).mono ?_; clear CMA; rintro e w2 ⟨rfl, b2⟩; replace bw := bw.trans (b2.mono bw.size); replace X := (b2.block _ (lt_of_block X)).trans X; replace Y := (b2.block _ (lt_of_block Y)).trans Y; replace Z := (b2.block _ (lt_of_block Z)).trans Z; replace D1 := (b2.block _ (lt_of_block D1)).trans D1; replace D2 := (b2.block _ (lt_of_block D2)).trans D2; replace D3 := (b2.block _ (lt_of_block D3)).trans D3; replace D4 := (b2.block _ (lt_of_block D4)).trans D4; replace D5 := (b2.block _ (lt_of_block D5)).trans D5; replace D6 := (b2.block _ (lt_of_block D6)).trans D6; replace S1 := S1.below b2; replace S2 := S2.below b2; replace S3 := S3.below b2; replace S4 := S4.below b2; replace S5 := S5.below b2; replace S6 := S6.below b2; clear b2; replace x0 := blk_cell D4 0 rfl; replace x1 := blk_cell D4 1 rfl; replace x2 := blk_cell D4 2 rfl; replace x3 := blk_cell D4 3 rfl; replace x4 := blk_cell D4 4 rfl; replace x5 := blk_cell D4 5 rfl; replace x6 := blk_cell D4 6 rfl; replace x7 := blk_cell D4 7 rfl; replace x8 := blk_cell D4 8 rfl; replace x9 := blk_cell D4 9 rfl; replace x10 := blk_cell D4 10 rfl; replace x11 := blk_cell D4 11 rfl; replace x12 := blk_cell D4 12 rfl; replace y0 := blk_cell Y 0 rfl; replace y1 := blk_cell Y 1 rfl; replace y2 := blk_cell Y 2 rfl; replace y3 := blk_cell Y 3 rfl; replace y4 := blk_cell Y 4 rfl; replace y5 := blk_cell Y 5 rfl; replace y6 := blk_cell Y 6 rfl; replace y7 := blk_cell Y 7 rfl; replace y8 := blk_cell Y 8 rfl; replace y9 := blk_cell Y 9 rfl; replace y10 := blk_cell Y 10 rfl; replace y11 := blk_cell Y 11 rfl; replace y12 := blk_cell Y 12 rfl)
    | (go_at_call 9; refine (CMB _ bw _ S4).mono ?_; clear CMB; rintro e w2 ⟨rfl, b2⟩; replace bw := bw.trans (b2.mono bw.size); replace X := (b2.block _ (lt_of_block X)).trans X; replace Y := (b2.block _ (lt_of_block Y)).trans Y; replace Z := (b2.block _ (lt_of_block Z)).trans Z; replace D1 := (b2.block _ (lt_of_block D1)).trans D1; replace D2 := (b2.block _ (lt_of_block D2)).trans D2; replace D3 := (b2.block _ (lt_of_block D3)).trans D3; replace D4 := (b2.block _ (lt_of_block D4)).trans D4; replace D5 := (b2.block _ (lt_of_block D5)).trans D5; replace D6 := (b2.block _ (lt_of_block D6)).trans D6; replace S1 := S1.below b2; replace S2 := S2.below b2; replace S3 := S3.below b2; replace S4 := S4.below b2; replace S5 := S5.below b2; replace S6 := S6.below b2; clear b2; replace x0 := blk_cell D4 0 rfl; replace x1 := blk_cell D4 1 rfl; replace x2 := blk_cell D4 2 rfl; replace x3 := blk_cell D4 3 rfl; replace x4 := blk_cell D4 4 rfl; replace x5 := blk_cell D4 5 rfl; replace x6 := blk_cell D4 6 rfl; replace x7 := blk_cell D4 7 rfl; replace x8 := blk_cell D4 8 rfl; replace x9 := blk_cell D4 9 rfl; replace x10 := blk_cell D4 10 rfl; replace x11 := blk_cell D4 11 rfl; replace x12 := blk_cell D4 12 rfl; replace y0 := blk_cell Z 0 rfl; replace y1 := blk_cell Z 1 rfl; replace y2 := blk_cell Z 2 rfl; replace y3 := blk_cell Z 3 rfl; replace y4 := blk_cell Z 4 rfl; replace y5 := blk_cell Z 5 rfl; replace y6 := blk_cell Z 6 rfl; replace y7 := blk_cell Z 7 rfl; replace y8 := blk_cell Z 8 rfl; replace y9 := blk_cell Z 9 rfl; replace y10 := blk_cell Z 10 rfl; replace y11 := blk_cell Z 11 rfl; replace y12 := blk_cell Z 12 rfl)
    | (go_at_call 9; refine (CMC _ bw _ S4).mono ?_; clear CMC; rintro e w2 ⟨rfl, b2⟩; replace bw := bw.trans (b2.mono bw.size); replace X := (b2.block _ (lt_of_block X)).trans X; replace Y := (b2.block _ (lt_of_block Y)).trans Y; replace Z := (b2.block _ (lt_of_block Z)).trans Z; replace D1 := (b2.block _ (lt_of_block D1)).trans D1; replace D2 := (b2.block _ (lt_of_block D2)).trans D2; replace D3 := (b2.block _ (lt_of_block D3)).trans D3; replace D4 := (b2.block _ (lt_of_block D4)).trans D4; replace D5 := (b2.block _ (lt_of_block D5)).trans D5; replace D6 := (b2.block _ (lt_of_block D6)).trans D6; replace S1 := S1.below b2; replace S2 := S2.below b2; replace S3 := S3.below b2; replace S4 := S4.below b2; replace S5 := S5.below b2; replace S6 := S6.below b2; clear b2; clear x0 x1 x2 x3 x4 x5 x6 x7 x8 x9 x10 x11 x12 y0 y1 y2 y3 y4 y5 y6 y7 y8 y9 y10 y11 y12))
  all_goals go_ret
  all_goals first | exact ⟨rfl, bw⟩ | exact ⟨ret_bool d3, bw⟩
theorem joined_any (a b c : Sp) (p q r : Pl) (w : World) (ha : SpAt w a p) (hb : SpAt w b q) (hc : SpAt w c r) (sa : a.Small) (sb : b.Small) (sc : c.Small) (hT : Tabs w) :
    Calls Tryd.prog 5 #[spV a p, spV b q, spV c r] w fun e w' => e = .returned (.bool true) ∧ Below w.heap.size w w' := by
  have NB := fun w => named_any b a q p w
  have NC := fun w => named_any c a r p w
  by_cases h1 : chkS a = 0
  · by_cases h2 : chkS (asOf b a) = 0
    · by_cases h3 : chkS (asOf c a) = 0
      · exact joined_ok a b c _ _ p q r w ha (asOf_at hb) (asOf_at hc) sa (asOf_small sb) (asOf_small sc) hT ⟨rfl, rfl, rfl⟩ ⟨rfl, rfl, rfl⟩ NB NC h1 h2 h3
      · exact joined_bad a b c _ _ p q r w ha (asOf_at hb) (asOf_at hc) sa (asOf_small sb) (asOf_small sc) hT ⟨rfl, rfl, rfl⟩ ⟨rfl, rfl, rfl⟩ NB NC (Or.inr (Or.inr ⟨h1, h2, h3⟩))
    · exact joined_bad a b c _ _ p q r w ha (asOf_at hb) (asOf_at hc) sa (asOf_small sb) (asOf_small sc) hT ⟨rfl, rfl, rfl⟩ ⟨rfl, rfl, rfl⟩ NB NC (Or.inr (Or.inl ⟨h1, h2⟩))
  · exact joined_bad a b c _ _ p q r w ha (asOf_at hb) (asOf_at hc) sa (asOf_small sb) (asOf_small sc) hT ⟨rfl, rfl, rfl⟩ ⟨rfl, rfl, rfl⟩ NB NC (Or.inl h1)

set_option maxRecDepth 100000 in
set_option maxHeartbeats 1000000 in
theorem contract (H : Type) (enc : TypeId × Value → H) (W : World) (base : Nat) (args : Array Value) (ds gs : List (DataW H)) (before : List MemPlace)
    (hval : ∀ (j : Nat) t v, Tryd.f5.params[j]? = some t → args[j]? = some v → Value.okWide Tryd.prog W .any base t v)
    (hW : DataW.Whole enc Tryd.prog Tryd.f5.params.toList Rows.spanJoinedSpec.vars false W args.toList ds gs before)
    (hsz : (DataW.weightsEach Tryd.prog Tryd.f5.params.toList ds).all (· ≤ reachBytes) = true) (hT : Tabs W) :
    Calls Tryd.prog 5 args W fun e W' => ∃ v, e = .returned v ∧ Rows.spanJoinedSpec.post enc Tryd.prog Tryd.f5 false true false false W args v W' := by
  have hW' := hW
  obtain ⟨p, q, hA0, hV, rfl, hfz, hnd⟩ := hW
  have hA : DataW.TrodAll enc Tryd.prog W 0 (fun _ => true) true Tryd.f5.params.toList args.toList ds p := hA0
  rw [Tryd.params5] at hA hval hsz
  obtain ⟨v0, vs0, d0, ds0, p0, q0, hargs, rfl, rfl, h0, r0⟩ := trodAll_cons hA
  obtain ⟨v1, vs1, d1, ds1, p1, q1, rfl, rfl, rfl, h1, r1⟩ := trodAll_cons r0
  obtain ⟨v2, vs2, d2, ds2, p2, q2, rfl, rfl, rfl, h2, r2⟩ := trodAll_cons r1
  obtain ⟨rfl, rfl, rfl⟩ := trodAll_nil r2
  obtain rfl : args = #[v0, v1, v2] := by cases args; simp_all
  obtain ⟨rfl, rfl⟩ := trodVars_none hV
  have k0 := h0
  obtain ⟨cs0, rfl, hcz0⟩ := okWide_struct Tryd.underlying33 (hval 0 33 v0 rfl rfl)
  obtain ⟨fu0, hf0⟩ := h0
  obtain ⟨a0, l0, e0, H0, S0, F0⟩ := span_open hf0 (reach_of (j := 0) hsz rfl rfl)
  obtain rfl : cs0 = spC a0 l0 := Array.ext' e0
  have k1 := h1
  obtain ⟨cs1, rfl, hcz1⟩ := okWide_struct Tryd.underlying33 (hval 1 33 v1 rfl rfl)
  obtain ⟨fu1, hf1⟩ := h1
  obtain ⟨a1, l1, e1, H1, S1, F1⟩ := span_open hf1 (reach_of (j := 1) hsz rfl rfl)
  obtain rfl : cs1 = spC a1 l1 := Array.ext' e1
  have k2 := h2
  obtain ⟨cs2, rfl, hcz2⟩ := okWide_struct Tryd.underlying33 (hval 2 33 v2 rfl rfl)
  obtain ⟨fu2, hf2⟩ := h2
  obtain ⟨a2, l2, e2, H2, S2, F2⟩ := span_open hf2 (reach_of (j := 2) hsz rfl rfl)
  obtain rfl : cs2 = spC a2 l2 := Array.ext' e2
  clear hA0
  simp only [List.append_nil] at hW'
  have lt0 : ∀ x ∈ p0, x.block < W.heap.size := fun x hx => by simpa using hW'.lt x (by simp [hx])
  have lt1 : ∀ x ∈ p1, x.block < W.heap.size := fun x hx => by simpa using hW'.lt x (by simp [hx])
  have lt2 : ∀ x ∈ p2, x.block < W.heap.size := fun x hx => by simpa using hW'.lt x (by simp [hx])
  have walk := joined_any a0 a1 a2 l0 l1 l2 W H0 H1 H2 S0 S1 S2 hT
  refine walk.mono fun e W' ⟨he, bel⟩ => ?_
  subst he
  exact ⟨_, rfl, _, _, _, [], _, [], hW', trodAll_mk1 (shut_bool Tryd.underlying4 _), (trodAll_cons_mk (Below.trod laidOutK (by kernel_rfl) (of_decide_eq_true (by kernel_rfl)) k0 bel lt0) (trodAll_cons_mk (Below.trod laidOutK (by kernel_rfl) (of_decide_eq_true (by kernel_rfl)) k1 bel lt1) (trodAll_cons_mk (Below.trod laidOutK (by kernel_rfl) (of_decide_eq_true (by kernel_rfl)) k2 bel lt2) trodAll_mk0))), rfl, bel.frame _, fun h => by cases h⟩

set_option maxRecDepth 100000 in
theorem laid_met (os : Os) : laidMetH Tryd.prog Rows.spanJoinedRow.laid ((laying (World.holding Tryd.prog os ⟨#[], #[], []⟩)).forCall (fun _ _ => 0) ⟨#[], #[(.agg #[.int .u64 0, .int .u64 0, .int .u64 0, .int .u64 0, .slice none 0 0, .string ⟨#[]⟩, .string ⟨#[]⟩, .int .i64 0, .int .i64 0, .int .i64 0, .int .i64 0, .slice none 0 0, .slice none 0 0] : Value), (.agg #[.int .u64 0, .int .u64 0, .int .u64 0, .int .u64 0, .slice none 0 0, .string ⟨#[]⟩, .string ⟨#[]⟩, .int .i64 0, .int .i64 0, .int .i64 0, .int .i64 0, .slice none 0 0, .slice none 0 0] : Value), (.agg #[.int .u64 0, .int .u64 0, .int .u64 0, .int .u64 0, .slice none 0 0, .string ⟨#[]⟩, .string ⟨#[]⟩, .int .i64 0, .int .i64 0, .int .i64 0, .int .i64 0, .slice none 0 0, .slice none 0 0] : Value)], []⟩).memory :=
  laidMet_of_run' 8 (by kernel_rfl) (by kernel_rfl)
set_option maxRecDepth 100000 in
theorem reads (os : Os) {H : Type} (enc : TypeId × Value → H) : ∃ places, DataW.whole enc Tryd.prog ((laying (World.holding Tryd.prog os ⟨#[], #[], []⟩)).forCall (fun _ _ => 0) ⟨#[], #[(.agg #[.int .u64 0, .int .u64 0, .int .u64 0, .int .u64 0, .slice none 0 0, .string ⟨#[]⟩, .string ⟨#[]⟩, .int .i64 0, .int .i64 0, .int .i64 0, .int .i64 0, .slice none 0 0, .slice none 0 0] : Value), (.agg #[.int .u64 0, .int .u64 0, .int .u64 0, .int .u64 0, .slice none 0 0, .string ⟨#[]⟩, .string ⟨#[]⟩, .int .i64 0, .int .i64 0, .int .i64 0, .int .i64 0, .slice none 0 0, .slice none 0 0] : Value), (.agg #[.int .u64 0, .int .u64 0, .int .u64 0, .int .u64 0, .slice none 0 0, .string ⟨#[]⟩, .string ⟨#[]⟩, .int .i64 0, .int .i64 0, .int .i64 0, .int .i64 0, .slice none 0 0, .slice none 0 0] : Value)], []⟩).memory Tryd.f5.params.toList Rows.spanJoinedSpec.vars false #[(.agg #[.int .u64 0, .int .u64 0, .int .u64 0, .int .u64 0, .slice none 0 0, .string ⟨#[]⟩, .string ⟨#[]⟩, .int .i64 0, .int .i64 0, .int .i64 0, .int .i64 0, .slice none 0 0, .slice none 0 0] : Value), (.agg #[.int .u64 0, .int .u64 0, .int .u64 0, .int .u64 0, .slice none 0 0, .string ⟨#[]⟩, .string ⟨#[]⟩, .int .i64 0, .int .i64 0, .int .i64 0, .int .i64 0, .slice none 0 0, .slice none 0 0] : Value), (.agg #[.int .u64 0, .int .u64 0, .int .u64 0, .int .u64 0, .slice none 0 0, .string ⟨#[]⟩, .string ⟨#[]⟩, .int .i64 0, .int .i64 0, .int .i64 0, .int .i64 0, .slice none 0 0, .slice none 0 0] : Value)].toList 8 = some ([.agg [.agg [.lit (.int .u64 0), .lit (.int .u64 0)], .lit (.int .u64 0), .lit (.int .u64 0), .nil, .lit (.string []), .lit (.string []), .lit (.int .i64 0), .lit (.int .i64 0), .lit (.int .i64 0), .lit (.int .i64 0), .nil, .nil], .agg [.agg [.lit (.int .u64 0), .lit (.int .u64 0)], .lit (.int .u64 0), .lit (.int .u64 0), .nil, .lit (.string []), .lit (.string []), .lit (.int .i64 0), .lit (.int .i64 0), .lit (.int .i64 0), .lit (.int .i64 0), .nil, .nil], .agg [.agg [.lit (.int .u64 0), .lit (.int .u64 0)], .lit (.int .u64 0), .lit (.int .u64 0), .nil, .lit (.string []), .lit (.string []), .lit (.int .i64 0), .lit (.int .i64 0), .lit (.int .i64 0), .lit (.int .i64 0), .nil, .nil]], [], places) :=
  ⟨[], by kernel_rfl⟩

set_option maxRecDepth 100000 in
theorem lifted (os : Os) (started : os.Started) (H : Type) (enc : TypeId × Value → H) (F : Stop.Interp) :
    ReturnsInHanded {} Tryd.checked os 5 .any ((OpenSpec.ofChange Rows.spanJoinedSpec).preRow enc Tryd.prog Tryd.f5 Rows.spanJoinedRow.domain false Rows.spanJoinedRow.laid) (((OpenSpec.ofChange Rows.spanJoinedSpec).at F).post enc Tryd.prog Tryd.f5 false true false false) := by
  obtain ⟨places, hx⟩ := reads os enc
  refine returnsInHanded_of_row (C := Tryd.checked) (s := OpenSpec.ofChange Rows.spanJoinedSpec) ownK started (by kernel_rfl) Tryd.func5
    (witness_row_at (enc := enc) (C := Tryd.checked) false (laying (World.holding Tryd.prog os ⟨#[], #[], []⟩)) #[(.agg #[.int .u64 0, .int .u64 0, .int .u64 0, .int .u64 0, .slice none 0 0, .string ⟨#[]⟩, .string ⟨#[]⟩, .int .i64 0, .int .i64 0, .int .i64 0, .int .i64 0, .slice none 0 0, .slice none 0 0] : Value), (.agg #[.int .u64 0, .int .u64 0, .int .u64 0, .int .u64 0, .slice none 0 0, .string ⟨#[]⟩, .string ⟨#[]⟩, .int .i64 0, .int .i64 0, .int .i64 0, .int .i64 0, .slice none 0 0, .slice none 0 0] : Value), (.agg #[.int .u64 0, .int .u64 0, .int .u64 0, .int .u64 0, .slice none 0 0, .string ⟨#[]⟩, .string ⟨#[]⟩, .int .i64 0, .int .i64 0, .int .i64 0, .int .i64 0, .slice none 0 0, .slice none 0 0] : Value)] rfl (by kernel_rfl) (by kernel_rfl) (by kernel_rfl)
      (OpenSpec.preRow_of_cond 8 hx (by kernel_rfl) (fun k hk => by cases hk) (by kernel_rfl) (laid_met os))) ?_
  intro W base args ds gs before hval hW _ _ hsz0 hL _ _
  have hgs : gs = [] := by obtain ⟨p, q, hA0, hV, _⟩ := hW; exact (trodVars_none hV).1
  have hsz : (DataW.weightsEach Tryd.prog Tryd.f5.params.toList ds).all (· ≤ reachBytes) = true := by
    have h1 : (DataW.weightsEach Tryd.prog (Tryd.f5.params.toList ++ []) (ds ++ gs)).all (· ≤ reachBytes) = true := hsz0
    rw [hgs, List.append_nil, List.append_nil] at h1
    exact h1
  exact contract H enc W base args ds gs before hval hW hsz (tables hL)

theorem said : Rows.SpanJoinedSaid :=
  OpenClaim.holds_of_cond 5 Tryd.f5 rfl rfl rfl rfl rfl rfl rfl ⟨rfl, rfl, rfl, rfl, rfl⟩ rfl rfl rfl rfl rfl (by kernel_rfl) Tryd.func5 (by kernel_rfl)
    (of_decide_eq_true (by kernel_rfl)) (by unfold Func.isWrapper; first | (rw [if_pos (by decide +kernel)]; kernel_rfl) | (rw [if_neg (by decide +kernel)]; exact ⟨rfl, rfl⟩))
    (fun os started H enc _ F => by rw [OpenClaim.pre_eq_preRow]; exact lifted os started H enc F)

theorem plain (f : FuncId) (fn : Func) (hf : Tryd.pinned.checked.prog.funcNamed "spoor/spoorlaw04.SpanJoined" = some f) (hfn : Tryd.pinned.checked.prog.funcs[f]? = some fn) :
    false = Tryd.pinned.checked.prog.looks [] ∧ ∀ (j : Nat) t, fn.params[j]? = some t → Tryd.pinned.checked.prog.wantsStandIn t = false := by
  obtain rfl : f = 5 := Option.some.inj ((show Tryd.prog.funcNamed "spoor/spoorlaw04.SpanJoined" = some 5 by kernel_rfl).symm.trans hf) |>.symm
  obtain rfl : fn = Tryd.f5 := (Option.some.inj (Tryd.func5.symm.trans hfn)).symm
  refine ⟨by kernel_rfl, fun j t ht => ?_⟩
  rw [Tryd.params5] at ht
  have hm : t = 33 := by simpa using Array.mem_of_getElem? ht
  subst hm
  exact (show Tryd.prog.wantsStandIn 33 = false by kernel_rfl)
end Go.Proofs.YtioibllopidilaaDoor.spanJoined
namespace Go.Proofs.YtioibllopidilaaDoor
theorem spanJoined_holds : Rows.SpanJoinedCardSaid :=
  Claim7.holds_tied_plain_at .later [] _ _ _ _ spanJoined.said (fun _ h => by cases h) (by kernel_rfl) (fun _ h => by cases h) spanJoined_row_tie rfl ⟨rfl, rfl⟩ (by kernel_rfl) rfl spanJoined.plain (by kernel_rfl)
#print axioms spanJoined_holds
end Go.Proofs.YtioibllopidilaaDoor
