/-
  SpanOrder: the row and its card (written by gen_law4.py).
-/
import Derived.Test.YtioibllopidilaaDoorCards
import Derived.Test.YtioibllopidilaaDoorTie
import Derived.Test.YtioibllopidilaaDoorYp
import Derived.Test.YtioibllopidilaaDoorYs
namespace Go.Proofs.YtioibllopidilaaDoor.spanOrder
open Go.ChangeShapes Go.WideShapes Go.ChangeAt Go.RowKit Go.Deep Go.Shelf

theorem ord_anti {a b : Sp} {x y : Int} (h : cmpP a b = x) (h' : cmpP b a = y) : y = -x := by rw [← h, ← h', good_cmpP.anti a b]
theorem ord_tr {a b c : Sp} {x y z : Int} (h : cmpP a b = x) (h' : cmpP b c = y) (h2 : cmpP a c = z) : (x ≤ 0 → y ≤ 0 → z ≤ 0) ∧ (x < 0 → y ≤ 0 → z < 0) ∧ (x ≤ 0 → y < 0 → z < 0) ∧ (0 ≤ x → 0 ≤ y → 0 ≤ z) ∧ (0 < x → 0 ≤ y → 0 < z) ∧ (0 ≤ x → 0 < y → 0 < z) := by
  subst h; subst h'; subst h2
  have t := good_cmpP.trans a b c
  have t2 := good_cmpP.trans b c a
  have t3 := good_cmpP.trans c a b
  have u := good_cmpP.trans c b a
  have u2 := good_cmpP.trans b a c
  have u3 := good_cmpP.trans a c b
  have e1 := good_cmpP.anti a b
  have e2 := good_cmpP.anti b c
  have e3 := good_cmpP.anti a c
  omega
set_option maxRecDepth 100000 in
set_option maxHeartbeats 4000000 in
theorem order_any (a b c : Sp) (p q r : Pl) (w : World) (ha : SpAt w a p) (hb : SpAt w b q) (hc : SpAt w c r) (hT : Tabs w) :
    Calls Tryd.prog 4 #[spV a p, spV b q, spV c r] w fun e w' => e = .returned (.bool true) ∧ Below w.heap.size w w' := by
  have B3 : ∀ o1 o2 o3 : Obj, Below w.heap.size w (((w.alloc o1).alloc o2).alloc o3) := fun o1 o2 o3 => ((((Below.refl _ _).alloc (Nat.le_refl _) _).alloc (by simp) _).alloc (by simp; omega) _)
  have bw0 := B3 (.cells (spC a p) 33) (.cells (spC b q) 33) (.cells (spC c r) 33)
  have X0 : (((w.alloc (.cells (spC a p) 33)).alloc (.cells (spC b q) 33)).alloc (.cells (spC c r) 33)).heap[w.heap.size]? = some (.cells (spC a p) 33 (0, 0)) := (Below.heap_alloc _ _ _ (by simp; omega)).trans ((Below.heap_alloc _ _ _ (by simp)).trans (heap_alloc_new _ _))
  have Y0 : (((w.alloc (.cells (spC a p) 33)).alloc (.cells (spC b q) 33)).alloc (.cells (spC c r) 33)).heap[w.heap.size + 1]? = some (.cells (spC b q) 33 (0, 0)) := (Below.heap_alloc _ _ _ (by simp)).trans (alloc_at (by simp))
  have Z0 : (((w.alloc (.cells (spC a p) 33)).alloc (.cells (spC b q) 33)).alloc (.cells (spC c r) 33)).heap[w.heap.size + 1 + 1]? = some (.cells (spC c r) 33 (0, 0)) := alloc_at (by simp)
  have AW := fun w' (h : Below w.heap.size w w') => awake_any w' (hT.below h)
  have CAB := fun w' (h : Below w.heap.size w w') => compare_any a b p q w' (ha.below h) (hb.below h)
  have CBA := fun w' (h : Below w.heap.size w w') => compare_any b a q p w' (hb.below h) (ha.below h)
  have CBC := fun w' (h : Below w.heap.size w w') => compare_any b c q r w' (hb.below h) (hc.below h)
  have CAC := fun w' (h : Below w.heap.size w w') => compare_any a c p r w' (ha.below h) (hc.below h)
  have CAA := fun w' (h : Below w.heap.size w w') => compare_any a a p p w' (ha.below h) (ha.below h)
  have SAB := fun w' (h : Below w.heap.size w w') => same_any a b p q w' (ha.below h) (hb.below h)
  have EAB := fun w' (h : Below w.heap.size w w') => equal_any a b p q w' (ha.below h) (hb.below h)
  clear ha hb hc hT B3
  rw [(good_cmpP.eq a a).2 rfl] at CAA
  have g1 := good_cmpP.rng a b
  have g3 := good_cmpP.rng b c
  have g4 := good_cmpP.rng a c
  have g2 := good_cmpP.anti a b
  have g5 := ord_tr (a := a) (b := b) (c := c) rfl rfl rfl
  rw [g2] at CBA
  generalize cmpP a b = x at CAB CBA SAB EAB g1 g2 g5
  generalize cmpP b c = y at CBC g3 g5
  generalize cmpP a c = z at CAC g4 g5
  clear g2
  unfold spV spC at CAB CBA CBC CAC CAA SAB EAB
  unfold spC at X0 Y0 Z0 bw0
  unfold spV spC
  have hx : Hid ((x = -1 ∨ x = 0 ∨ x = 1) ∧ (y = -1 ∨ y = 0 ∨ y = 1) ∧ (z = -1 ∨ z = 0 ∨ z = 1)) := ⟨g1, g3, g4⟩
  have hy : Hid ((x ≤ 0 → y ≤ 0 → z ≤ 0) ∧ (x < 0 → y ≤ 0 → z < 0) ∧ (x ≤ 0 → y < 0 → z < 0) ∧ (0 ≤ x → 0 ≤ y → 0 ≤ z) ∧ (0 < x → 0 ≤ y → 0 < z) ∧ (0 ≤ x → 0 < y → 0 < z)) := g5
  clear g1 g3 g4 g5
  go_enter Tryd.func4, Tryd.ntmps4
  go_wp2_with (first
    | (go_at_call 8; refine (AW _ bw0).mono ?_; clear AW; rintro e w1 ⟨rfl, b1⟩; have bw1 := bw0.trans (b1.mono bw0.size); have X1 := (b1.block _ (lt_of_block X0)).trans X0; have Y1 := (b1.block _ (lt_of_block Y0)).trans Y0; have Z1 := (b1.block _ (lt_of_block Z0)).trans Z0; have x0 := blk_cell X1 0 rfl; have y0 := blk_cell Y1 0 rfl; have z0 := blk_cell Z1 0 rfl; have x1 := blk_cell X1 1 rfl; have y1 := blk_cell Y1 1 rfl; have z1 := blk_cell Z1 1 rfl; have x2 := blk_cell X1 2 rfl; have y2 := blk_cell Y1 2 rfl; have z2 := blk_cell Z1 2 rfl; have x3 := blk_cell X1 3 rfl; have y3 := blk_cell Y1 3 rfl; have z3 := blk_cell Z1 3 rfl; have x4 := blk_cell X1 4 rfl; have y4 := blk_cell Y1 4 rfl; have z4 := blk_cell Z1 4 rfl; have x5 := blk_cell X1 5 rfl; have y5 := blk_cell Y1 5 rfl; have z5 := blk_cell Z1 5 rfl; have x6 := blk_cell X1 6 rfl; have y6 := blk_cell Y1 6 rfl; have z6 := blk_cell Z1 6 rfl; have x7 := blk_cell X1 7 rfl; have y7 := blk_cell Y1 7 rfl; have z7 := blk_cell Z1 7 rfl; have x8 := blk_cell X1 8 rfl; have y8 := blk_cell Y1 8 rfl; have z8 := blk_cell Z1 8 rfl; have x9 := blk_cell X1 9 rfl; have y9 := blk_cell Y1 9 rfl; have z9 := blk_cell Z1 9 rfl; have x10 := blk_cell X1 10 rfl; have y10 := blk_cell Y1 10 rfl; have z10 := blk_cell Z1 10 rfl; have x11 := blk_cell X1 11 rfl; have y11 := blk_cell Y1 11 rfl; have z11 := blk_cell Z1 11 rfl; have x12 := blk_cell X1 12 rfl; have y12 := blk_cell Y1 12 rfl; have z12 := blk_cell Z1 12 rfl; clear X0 Y0 Z0 b1)
    | (go_at_call 9; refine (CAB _ bw1).mono ?_; clear CAB; rintro e w2 ⟨rfl, b2⟩; have bw2 := bw1.trans (b2.mono bw1.size); have X2 := (b2.block _ (lt_of_block X1)).trans X1; have Y2 := (b2.block _ (lt_of_block Y1)).trans Y1; have Z2 := (b2.block _ (lt_of_block Z1)).trans Z1; clear x0 y0 z0 x1 y1 z1 x2 y2 z2 x3 y3 z3 x4 y4 z4 x5 y5 z5 x6 y6 z6 x7 y7 z7 x8 y8 z8 x9 y9 z9 x10 y10 z10 x11 y11 z11 x12 y12 z12; have x0 := blk_cell X2 0 rfl; have y0 := blk_cell Y2 0 rfl; have z0 := blk_cell Z2 0 rfl; have x1 := blk_cell X2 1 rfl; have y1 := blk_cell Y2 1 rfl; have z1 := blk_cell Z2 1 rfl; have x2 := blk_cell X2 2 rfl; have y2 := blk_cell Y2 2 rfl; have z2 := blk_cell Z2 2 rfl; have x3 := blk_cell X2 3 rfl; have y3 := blk_cell Y2 3 rfl; have z3 := blk_cell Z2 3 rfl; have x4 := blk_cell X2 4 rfl; have y4 := blk_cell Y2 4 rfl; have z4 := blk_cell Z2 4 rfl; have x5 := blk_cell X2 5 rfl; have y5 := blk_cell Y2 5 rfl; have z5 := blk_cell Z2 5 rfl; have x6 := blk_cell X2 6 rfl; have y6 := blk_cell Y2 6 rfl; have z6 := blk_cell Z2 6 rfl; have x7 := blk_cell X2 7 rfl; have y7 := blk_cell Y2 7 rfl; have z7 := blk_cell Z2 7 rfl; have x8 := blk_cell X2 8 rfl; have y8 := blk_cell Y2 8 rfl; have z8 := blk_cell Z2 8 rfl; have x9 := blk_cell X2 9 rfl; have y9 := blk_cell Y2 9 rfl; have z9 := blk_cell Z2 9 rfl; have x10 := blk_cell X2 10 rfl; have y10 := blk_cell Y2 10 rfl; have z10 := blk_cell Z2 10 rfl; have x11 := blk_cell X2 11 rfl; have y11 := blk_cell Y2 11 rfl; have z11 := blk_cell Z2 11 rfl; have x12 := blk_cell X2 12 rfl; have y12 := blk_cell Y2 12 rfl; have z12 := blk_cell Z2 12 rfl; clear X1 Y1 Z1 b2)
    | (go_at_call 9; refine (CBA _ bw2).mono ?_; clear CBA; rintro e w3 ⟨rfl, b3⟩; have bw3 := bw2.trans (b3.mono bw2.size); have X3 := (b3.block _ (lt_of_block X2)).trans X2; have Y3 := (b3.block _ (lt_of_block Y2)).trans Y2; have Z3 := (b3.block _ (lt_of_block Z2)).trans Z2; clear x0 y0 z0 x1 y1 z1 x2 y2 z2 x3 y3 z3 x4 y4 z4 x5 y5 z5 x6 y6 z6 x7 y7 z7 x8 y8 z8 x9 y9 z9 x10 y10 z10 x11 y11 z11 x12 y12 z12; have x0 := blk_cell X3 0 rfl; have y0 := blk_cell Y3 0 rfl; have z0 := blk_cell Z3 0 rfl; have x1 := blk_cell X3 1 rfl; have y1 := blk_cell Y3 1 rfl; have z1 := blk_cell Z3 1 rfl; have x2 := blk_cell X3 2 rfl; have y2 := blk_cell Y3 2 rfl; have z2 := blk_cell Z3 2 rfl; have x3 := blk_cell X3 3 rfl; have y3 := blk_cell Y3 3 rfl; have z3 := blk_cell Z3 3 rfl; have x4 := blk_cell X3 4 rfl; have y4 := blk_cell Y3 4 rfl; have z4 := blk_cell Z3 4 rfl; have x5 := blk_cell X3 5 rfl; have y5 := blk_cell Y3 5 rfl; have z5 := blk_cell Z3 5 rfl; have x6 := blk_cell X3 6 rfl; have y6 := blk_cell Y3 6 rfl; have z6 := blk_cell Z3 6 rfl; have x7 := blk_cell X3 7 rfl; have y7 := blk_cell Y3 7 rfl; have z7 := blk_cell Z3 7 rfl; have x8 := blk_cell X3 8 rfl; have y8 := blk_cell Y3 8 rfl; have z8 := blk_cell Z3 8 rfl; have x9 := blk_cell X3 9 rfl; have y9 := blk_cell Y3 9 rfl; have z9 := blk_cell Z3 9 rfl; have x10 := blk_cell X3 10 rfl; have y10 := blk_cell Y3 10 rfl; have z10 := blk_cell Z3 10 rfl; have x11 := blk_cell X3 11 rfl; have y11 := blk_cell Y3 11 rfl; have z11 := blk_cell Z3 11 rfl; have x12 := blk_cell X3 12 rfl; have y12 := blk_cell Y3 12 rfl; have z12 := blk_cell Z3 12 rfl; clear X2 Y2 Z2 b3)
    | (go_at_call 9; refine (CBC _ bw3).mono ?_; clear CBC; rintro e w4 ⟨rfl, b4⟩; have bw4 := bw3.trans (b4.mono bw3.size); have X4 := (b4.block _ (lt_of_block X3)).trans X3; have Y4 := (b4.block _ (lt_of_block Y3)).trans Y3; have Z4 := (b4.block _ (lt_of_block Z3)).trans Z3; clear x0 y0 z0 x1 y1 z1 x2 y2 z2 x3 y3 z3 x4 y4 z4 x5 y5 z5 x6 y6 z6 x7 y7 z7 x8 y8 z8 x9 y9 z9 x10 y10 z10 x11 y11 z11 x12 y12 z12; have x0 := blk_cell X4 0 rfl; have y0 := blk_cell Y4 0 rfl; have z0 := blk_cell Z4 0 rfl; have x1 := blk_cell X4 1 rfl; have y1 := blk_cell Y4 1 rfl; have z1 := blk_cell Z4 1 rfl; have x2 := blk_cell X4 2 rfl; have y2 := blk_cell Y4 2 rfl; have z2 := blk_cell Z4 2 rfl; have x3 := blk_cell X4 3 rfl; have y3 := blk_cell Y4 3 rfl; have z3 := blk_cell Z4 3 rfl; have x4 := blk_cell X4 4 rfl; have y4 := blk_cell Y4 4 rfl; have z4 := blk_cell Z4 4 rfl; have x5 := blk_cell X4 5 rfl; have y5 := blk_cell Y4 5 rfl; have z5 := blk_cell Z4 5 rfl; have x6 := blk_cell X4 6 rfl; have y6 := blk_cell Y4 6 rfl; have z6 := blk_cell Z4 6 rfl; have x7 := blk_cell X4 7 rfl; have y7 := blk_cell Y4 7 rfl; have z7 := blk_cell Z4 7 rfl; have x8 := blk_cell X4 8 rfl; have y8 := blk_cell Y4 8 rfl; have z8 := blk_cell Z4 8 rfl; have x9 := blk_cell X4 9 rfl; have y9 := blk_cell Y4 9 rfl; have z9 := blk_cell Z4 9 rfl; have x10 := blk_cell X4 10 rfl; have y10 := blk_cell Y4 10 rfl; have z10 := blk_cell Z4 10 rfl; have x11 := blk_cell X4 11 rfl; have y11 := blk_cell Y4 11 rfl; have z11 := blk_cell Z4 11 rfl; have x12 := blk_cell X4 12 rfl; have y12 := blk_cell Y4 12 rfl; have z12 := blk_cell Z4 12 rfl; clear X3 Y3 Z3 b4)
    | (go_at_call 9; refine (CAC _ bw4).mono ?_; clear CAC; rintro e w5 ⟨rfl, b5⟩; have bw5 := bw4.trans (b5.mono bw4.size); have X5 := (b5.block _ (lt_of_block X4)).trans X4; have Y5 := (b5.block _ (lt_of_block Y4)).trans Y4; have Z5 := (b5.block _ (lt_of_block Z4)).trans Z4; clear x0 y0 z0 x1 y1 z1 x2 y2 z2 x3 y3 z3 x4 y4 z4 x5 y5 z5 x6 y6 z6 x7 y7 z7 x8 y8 z8 x9 y9 z9 x10 y10 z10 x11 y11 z11 x12 y12 z12; have x0 := blk_cell X5 0 rfl; have y0 := blk_cell Y5 0 rfl; have z0 := blk_cell Z5 0 rfl; have x1 := blk_cell X5 1 rfl; have y1 := blk_cell Y5 1 rfl; have z1 := blk_cell Z5 1 rfl; have x2 := blk_cell X5 2 rfl; have y2 := blk_cell Y5 2 rfl; have z2 := blk_cell Z5 2 rfl; have x3 := blk_cell X5 3 rfl; have y3 := blk_cell Y5 3 rfl; have z3 := blk_cell Z5 3 rfl; have x4 := blk_cell X5 4 rfl; have y4 := blk_cell Y5 4 rfl; have z4 := blk_cell Z5 4 rfl; have x5 := blk_cell X5 5 rfl; have y5 := blk_cell Y5 5 rfl; have z5 := blk_cell Z5 5 rfl; have x6 := blk_cell X5 6 rfl; have y6 := blk_cell Y5 6 rfl; have z6 := blk_cell Z5 6 rfl; have x7 := blk_cell X5 7 rfl; have y7 := blk_cell Y5 7 rfl; have z7 := blk_cell Z5 7 rfl; have x8 := blk_cell X5 8 rfl; have y8 := blk_cell Y5 8 rfl; have z8 := blk_cell Z5 8 rfl; have x9 := blk_cell X5 9 rfl; have y9 := blk_cell Y5 9 rfl; have z9 := blk_cell Z5 9 rfl; have x10 := blk_cell X5 10 rfl; have y10 := blk_cell Y5 10 rfl; have z10 := blk_cell Z5 10 rfl; have x11 := blk_cell X5 11 rfl; have y11 := blk_cell Y5 11 rfl; have z11 := blk_cell Z5 11 rfl; have x12 := blk_cell X5 12 rfl; have y12 := blk_cell Y5 12 rfl; have z12 := blk_cell Z5 12 rfl; clear X4 Y4 Z4 b5)
    | (go_at_call 10; refine (SAB _ bw5).mono ?_; clear SAB; rintro e w6 ⟨rfl, b6⟩; have bw6 := bw5.trans (b6.mono bw5.size); have X6 := (b6.block _ (lt_of_block X5)).trans X5; have Y6 := (b6.block _ (lt_of_block Y5)).trans Y5; have Z6 := (b6.block _ (lt_of_block Z5)).trans Z5; clear x0 y0 z0 x1 y1 z1 x2 y2 z2 x3 y3 z3 x4 y4 z4 x5 y5 z5 x6 y6 z6 x7 y7 z7 x8 y8 z8 x9 y9 z9 x10 y10 z10 x11 y11 z11 x12 y12 z12; have x0 := blk_cell X6 0 rfl; have y0 := blk_cell Y6 0 rfl; have z0 := blk_cell Z6 0 rfl; have x1 := blk_cell X6 1 rfl; have y1 := blk_cell Y6 1 rfl; have z1 := blk_cell Z6 1 rfl; have x2 := blk_cell X6 2 rfl; have y2 := blk_cell Y6 2 rfl; have z2 := blk_cell Z6 2 rfl; have x3 := blk_cell X6 3 rfl; have y3 := blk_cell Y6 3 rfl; have z3 := blk_cell Z6 3 rfl; have x4 := blk_cell X6 4 rfl; have y4 := blk_cell Y6 4 rfl; have z4 := blk_cell Z6 4 rfl; have x5 := blk_cell X6 5 rfl; have y5 := blk_cell Y6 5 rfl; have z5 := blk_cell Z6 5 rfl; have x6 := blk_cell X6 6 rfl; have y6 := blk_cell Y6 6 rfl; have z6 := blk_cell Z6 6 rfl; have x7 := blk_cell X6 7 rfl; have y7 := blk_cell Y6 7 rfl; have z7 := blk_cell Z6 7 rfl; have x8 := blk_cell X6 8 rfl; have y8 := blk_cell Y6 8 rfl; have z8 := blk_cell Z6 8 rfl; have x9 := blk_cell X6 9 rfl; have y9 := blk_cell Y6 9 rfl; have z9 := blk_cell Z6 9 rfl; have x10 := blk_cell X6 10 rfl; have y10 := blk_cell Y6 10 rfl; have z10 := blk_cell Z6 10 rfl; have x11 := blk_cell X6 11 rfl; have y11 := blk_cell Y6 11 rfl; have z11 := blk_cell Z6 11 rfl; have x12 := blk_cell X6 12 rfl; have y12 := blk_cell Y6 12 rfl; have z12 := blk_cell Z6 12 rfl; clear X5 Y5 Z5 b6; obtain ⟨hx, hz⟩ := hx.out; have hz : Hid ((y = -1 ∨ y = 0 ∨ y = 1) ∧ (z = -1 ∨ z = 0 ∨ z = 1)) := hz; rcases hx with rfl | rfl | rfl)
    | (go_at_call 11; refine (EAB _ bw6).mono ?_; clear EAB; rintro e w7 ⟨rfl, b7⟩; have bw7 := bw6.trans (b7.mono bw6.size); have X7 := (b7.block _ (lt_of_block X6)).trans X6; have Y7 := (b7.block _ (lt_of_block Y6)).trans Y6; have Z7 := (b7.block _ (lt_of_block Z6)).trans Z6; clear x0 y0 z0 x1 y1 z1 x2 y2 z2 x3 y3 z3 x4 y4 z4 x5 y5 z5 x6 y6 z6 x7 y7 z7 x8 y8 z8 x9 y9 z9 x10 y10 z10 x11 y11 z11 x12 y12 z12; have x0 := blk_cell X7 0 rfl; have y0 := blk_cell Y7 0 rfl; have z0 := blk_cell Z7 0 rfl; have x1 := blk_cell X7 1 rfl; have y1 := blk_cell Y7 1 rfl; have z1 := blk_cell Z7 1 rfl; have x2 := blk_cell X7 2 rfl; have y2 := blk_cell Y7 2 rfl; have z2 := blk_cell Z7 2 rfl; have x3 := blk_cell X7 3 rfl; have y3 := blk_cell Y7 3 rfl; have z3 := blk_cell Z7 3 rfl; have x4 := blk_cell X7 4 rfl; have y4 := blk_cell Y7 4 rfl; have z4 := blk_cell Z7 4 rfl; have x5 := blk_cell X7 5 rfl; have y5 := blk_cell Y7 5 rfl; have z5 := blk_cell Z7 5 rfl; have x6 := blk_cell X7 6 rfl; have y6 := blk_cell Y7 6 rfl; have z6 := blk_cell Z7 6 rfl; have x7 := blk_cell X7 7 rfl; have y7 := blk_cell Y7 7 rfl; have z7 := blk_cell Z7 7 rfl; have x8 := blk_cell X7 8 rfl; have y8 := blk_cell Y7 8 rfl; have z8 := blk_cell Z7 8 rfl; have x9 := blk_cell X7 9 rfl; have y9 := blk_cell Y7 9 rfl; have z9 := blk_cell Z7 9 rfl; have x10 := blk_cell X7 10 rfl; have y10 := blk_cell Y7 10 rfl; have z10 := blk_cell Z7 10 rfl; have x11 := blk_cell X7 11 rfl; have y11 := blk_cell Y7 11 rfl; have z11 := blk_cell Z7 11 rfl; have x12 := blk_cell X7 12 rfl; have y12 := blk_cell Y7 12 rfl; have z12 := blk_cell Z7 12 rfl; clear X6 Y6 Z6 b7)
    | (go_at_call 9; refine (CAA _ bw7).mono ?_; clear CAA; rintro e w8 ⟨rfl, b8⟩; have bw8 := bw7.trans (b8.mono bw7.size); clear x0 y0 z0 x1 y1 z1 x2 y2 z2 x3 y3 z3 x4 y4 z4 x5 y5 z5 x6 y6 z6 x7 y7 z7 x8 y8 z8 x9 y9 z9 x10 y10 z10 x11 y11 z11 x12 y12 z12; clear X7 Y7 Z7 b8; obtain ⟨hz1, hz2⟩ := hz.out; have hy2 := hy.out; clear hy hz; rcases hz1 with rfl | rfl | rfl <;> rcases hz2 with rfl | rfl | rfl <;> first | (exfalso; clear bw8; revert hy2; decide) | clear hy2))
  all_goals go_ret
  all_goals exact ⟨rfl, bw8⟩

set_option maxRecDepth 100000 in
set_option maxHeartbeats 1000000 in
theorem contract (H : Type) (enc : TypeId × Value → H) (W : World) (base : Nat) (args : Array Value) (ds gs : List (DataW H)) (before : List MemPlace)
    (hval : ∀ (j : Nat) t v, Tryd.f4.params[j]? = some t → args[j]? = some v → Value.okWide Tryd.prog W .any base t v)
    (hW : DataW.Whole enc Tryd.prog Tryd.f4.params.toList Rows.spanOrderSpec.vars false W args.toList ds gs before)
    (hsz : (DataW.weightsEach Tryd.prog Tryd.f4.params.toList ds).all (· ≤ reachBytes) = true) (hT : Tabs W) :
    Calls Tryd.prog 4 args W fun e W' => ∃ v, e = .returned v ∧ Rows.spanOrderSpec.post enc Tryd.prog Tryd.f4 false true false false W args v W' := by
  have hW' := hW
  obtain ⟨p, q, hA0, hV, rfl, hfz, hnd⟩ := hW
  have hA : DataW.TrodAll enc Tryd.prog W 0 (fun _ => true) true Tryd.f4.params.toList args.toList ds p := hA0
  rw [Tryd.params4] at hA hval hsz
  obtain ⟨v0, vs0, d0, ds0, p0, q0, hargs, rfl, rfl, h0, r0⟩ := trodAll_cons hA
  obtain ⟨v1, vs1, d1, ds1, p1, q1, rfl, rfl, rfl, h1, r1⟩ := trodAll_cons r0
  obtain ⟨v2, vs2, d2, ds2, p2, q2, rfl, rfl, rfl, h2, r2⟩ := trodAll_cons r1
  obtain ⟨rfl, rfl, rfl⟩ := trodAll_nil r2
  obtain rfl : args = #[v0, v1, v2] := by cases args; simp_all
  obtain ⟨rfl, rfl⟩ := trodVars_none hV
  have k0 := h0
  obtain ⟨cs0, rfl, hcz0⟩ := okWide_struct Tryd.underlying33 (hval 0 33 v0 rfl rfl)
  obtain ⟨fu0, hf0⟩ := h0
  obtain ⟨a0, l0, e0, H0, S0, F0⟩ := span_open hf0 (reach_of (j := 0) hsz rfl rfl)
  obtain rfl : cs0 = spC a0 l0 := Array.ext' e0
  have k1 := h1
  obtain ⟨cs1, rfl, hcz1⟩ := okWide_struct Tryd.underlying33 (hval 1 33 v1 rfl rfl)
  obtain ⟨fu1, hf1⟩ := h1
  obtain ⟨a1, l1, e1, H1, S1, F1⟩ := span_open hf1 (reach_of (j := 1) hsz rfl rfl)
  obtain rfl : cs1 = spC a1 l1 := Array.ext' e1
  have k2 := h2
  obtain ⟨cs2, rfl, hcz2⟩ := okWide_struct Tryd.underlying33 (hval 2 33 v2 rfl rfl)
  obtain ⟨fu2, hf2⟩ := h2
  obtain ⟨a2, l2, e2, H2, S2, F2⟩ := span_open hf2 (reach_of (j := 2) hsz rfl rfl)
  obtain rfl : cs2 = spC a2 l2 := Array.ext' e2
  clear hA0
  simp only [List.append_nil] at hW'
  have lt0 : ∀ x ∈ p0, x.block < W.heap.size := fun x hx => by simpa using hW'.lt x (by simp [hx])
  have lt1 : ∀ x ∈ p1, x.block < W.heap.size := fun x hx => by simpa using hW'.lt x (by simp [hx])
  have lt2 : ∀ x ∈ p2, x.block < W.heap.size := fun x hx => by simpa using hW'.lt x (by simp [hx])
  have walk := order_any a0 a1 a2 l0 l1 l2 W H0 H1 H2 hT
  refine walk.mono fun e W' ⟨he, bel⟩ => ?_
  subst he
  exact ⟨_, rfl, _, _, _, [], _, [], hW', trodAll_mk1 (shut_bool Tryd.underlying4 _), (trodAll_cons_mk (Below.trod laidOutK (by kernel_rfl) (of_decide_eq_true (by kernel_rfl)) k0 bel lt0) (trodAll_cons_mk (Below.trod laidOutK (by kernel_rfl) (of_decide_eq_true (by kernel_rfl)) k1 bel lt1) (trodAll_cons_mk (Below.trod laidOutK (by kernel_rfl) (of_decide_eq_true (by kernel_rfl)) k2 bel lt2) trodAll_mk0))), rfl, bel.frame _, fun h => by cases h⟩

set_option maxRecDepth 100000 in
theorem laid_met (os : Os) : laidMetH Tryd.prog Rows.spanOrderRow.laid ((laying (World.holding Tryd.prog os ⟨#[], #[], []⟩)).forCall (fun _ _ => 0) ⟨#[], #[(.agg #[.int .u64 0, .int .u64 0, .int .u64 0, .int .u64 0, .slice none 0 0, .string ⟨#[]⟩, .string ⟨#[]⟩, .int .i64 0, .int .i64 0, .int .i64 0, .int .i64 0, .slice none 0 0, .slice none 0 0] : Value), (.agg #[.int .u64 0, .int .u64 0, .int .u64 0, .int .u64 0, .slice none 0 0, .string ⟨#[]⟩, .string ⟨#[]⟩, .int .i64 0, .int .i64 0, .int .i64 0, .int .i64 0, .slice none 0 0, .slice none 0 0] : Value), (.agg #[.int .u64 0, .int .u64 0, .int .u64 0, .int .u64 0, .slice none 0 0, .string ⟨#[]⟩, .string ⟨#[]⟩, .int .i64 0, .int .i64 0, .int .i64 0, .int .i64 0, .slice none 0 0, .slice none 0 0] : Value)], []⟩).memory :=
  laidMet_of_run' 8 (by kernel_rfl) (by kernel_rfl)
set_option maxRecDepth 100000 in
theorem reads (os : Os) {H : Type} (enc : TypeId × Value → H) : ∃ places, DataW.whole enc Tryd.prog ((laying (World.holding Tryd.prog os ⟨#[], #[], []⟩)).forCall (fun _ _ => 0) ⟨#[], #[(.agg #[.int .u64 0, .int .u64 0, .int .u64 0, .int .u64 0, .slice none 0 0, .string ⟨#[]⟩, .string ⟨#[]⟩, .int .i64 0, .int .i64 0, .int .i64 0, .int .i64 0, .slice none 0 0, .slice none 0 0] : Value), (.agg #[.int .u64 0, .int .u64 0, .int .u64 0, .int .u64 0, .slice none 0 0, .string ⟨#[]⟩, .string ⟨#[]⟩, .int .i64 0, .int .i64 0, .int .i64 0, .int .i64 0, .slice none 0 0, .slice none 0 0] : Value), (.agg #[.int .u64 0, .int .u64 0, .int .u64 0, .int .u64 0, .slice none 0 0, .string ⟨#[]⟩, .string ⟨#[]⟩, .int .i64 0, .int .i64 0, .int .i64 0, .int .i64 0, .slice none 0 0, .slice none 0 0] : Value)], []⟩).memory Tryd.f4.params.toList Rows.spanOrderSpec.vars false #[(.agg #[.int .u64 0, .int .u64 0, .int .u64 0, .int .u64 0, .slice none 0 0, .string ⟨#[]⟩, .string ⟨#[]⟩, .int .i64 0, .int .i64 0, .int .i64 0, .int .i64 0, .slice none 0 0, .slice none 0 0] : Value), (.agg #[.int .u64 0, .int .u64 0, .int .u64 0, .int .u64 0, .slice none 0 0, .string ⟨#[]⟩, .string ⟨#[]⟩, .int .i64 0, .int .i64 0, .int .i64 0, .int .i64 0, .slice none 0 0, .slice none 0 0] : Value), (.agg #[.int .u64 0, .int .u64 0, .int .u64 0, .int .u64 0, .slice none 0 0, .string ⟨#[]⟩, .string ⟨#[]⟩, .int .i64 0, .int .i64 0, .int .i64 0, .int .i64 0, .slice none 0 0, .slice none 0 0] : Value)].toList 8 = some ([.agg [.agg [.lit (.int .u64 0), .lit (.int .u64 0)], .lit (.int .u64 0), .lit (.int .u64 0), .nil, .lit (.string []), .lit (.string []), .lit (.int .i64 0), .lit (.int .i64 0), .lit (.int .i64 0), .lit (.int .i64 0), .nil, .nil], .agg [.agg [.lit (.int .u64 0), .lit (.int .u64 0)], .lit (.int .u64 0), .lit (.int .u64 0), .nil, .lit (.string []), .lit (.string []), .lit (.int .i64 0), .lit (.int .i64 0), .lit (.int .i64 0), .lit (.int .i64 0), .nil, .nil], .agg [.agg [.lit (.int .u64 0), .lit (.int .u64 0)], .lit (.int .u64 0), .lit (.int .u64 0), .nil, .lit (.string []), .lit (.string []), .lit (.int .i64 0), .lit (.int .i64 0), .lit (.int .i64 0), .lit (.int .i64 0), .nil, .nil]], [], places) :=
  ⟨[], by kernel_rfl⟩

set_option maxRecDepth 100000 in
theorem lifted (os : Os) (started : os.Started) (H : Type) (enc : TypeId × Value → H) (F : Stop.Interp) :
    ReturnsInHanded {} Tryd.checked os 4 .any ((OpenSpec.ofChange Rows.spanOrderSpec).preRow enc Tryd.prog Tryd.f4 Rows.spanOrderRow.domain false Rows.spanOrderRow.laid) (((OpenSpec.ofChange Rows.spanOrderSpec).at F).post enc Tryd.prog Tryd.f4 false true false false) := by
  obtain ⟨places, hx⟩ := reads os enc
  refine returnsInHanded_of_row (C := Tryd.checked) (s := OpenSpec.ofChange Rows.spanOrderSpec) ownK started (by kernel_rfl) Tryd.func4
    (witness_row_at (enc := enc) (C := Tryd.checked) false (laying (World.holding Tryd.prog os ⟨#[], #[], []⟩)) #[(.agg #[.int .u64 0, .int .u64 0, .int .u64 0, .int .u64 0, .slice none 0 0, .string ⟨#[]⟩, .string ⟨#[]⟩, .int .i64 0, .int .i64 0, .int .i64 0, .int .i64 0, .slice none 0 0, .slice none 0 0] : Value), (.agg #[.int .u64 0, .int .u64 0, .int .u64 0, .int .u64 0, .slice none 0 0, .string ⟨#[]⟩, .string ⟨#[]⟩, .int .i64 0, .int .i64 0, .int .i64 0, .int .i64 0, .slice none 0 0, .slice none 0 0] : Value), (.agg #[.int .u64 0, .int .u64 0, .int .u64 0, .int .u64 0, .slice none 0 0, .string ⟨#[]⟩, .string ⟨#[]⟩, .int .i64 0, .int .i64 0, .int .i64 0, .int .i64 0, .slice none 0 0, .slice none 0 0] : Value)] rfl (by kernel_rfl) (by kernel_rfl) (by kernel_rfl)
      (OpenSpec.preRow_of_cond 8 hx (by kernel_rfl) (fun k hk => by cases hk) (by kernel_rfl) (laid_met os))) ?_
  intro W base args ds gs before hval hW _ _ hsz0 hL _ _
  have hgs : gs = [] := by obtain ⟨p, q, hA0, hV, _⟩ := hW; exact (trodVars_none hV).1
  have hsz : (DataW.weightsEach Tryd.prog Tryd.f4.params.toList ds).all (· ≤ reachBytes) = true := by
    have h1 : (DataW.weightsEach Tryd.prog (Tryd.f4.params.toList ++ []) (ds ++ gs)).all (· ≤ reachBytes) = true := hsz0
    rw [hgs, List.append_nil, List.append_nil] at h1
    exact h1
  exact contract H enc W base args ds gs before hval hW hsz (tables hL)

theorem said : Rows.SpanOrderSaid :=
  OpenClaim.holds_of_cond 4 Tryd.f4 rfl rfl rfl rfl rfl rfl rfl ⟨rfl, rfl, rfl, rfl, rfl⟩ rfl rfl rfl rfl rfl (by kernel_rfl) Tryd.func4 (by kernel_rfl)
    (of_decide_eq_true (by kernel_rfl)) (by unfold Func.isWrapper; first | (rw [if_pos (by decide +kernel)]; kernel_rfl) | (rw [if_neg (by decide +kernel)]; exact ⟨rfl, rfl⟩))
    (fun os started H enc _ F => by rw [OpenClaim.pre_eq_preRow]; exact lifted os started H enc F)

theorem plain (f : FuncId) (fn : Func) (hf : Tryd.pinned.checked.prog.funcNamed "spoor/spoorlaw04.SpanOrder" = some f) (hfn : Tryd.pinned.checked.prog.funcs[f]? = some fn) :
    false = Tryd.pinned.checked.prog.looks [] ∧ ∀ (j : Nat) t, fn.params[j]? = some t → Tryd.pinned.checked.prog.wantsStandIn t = false := by
  obtain rfl : f = 4 := Option.some.inj ((show Tryd.prog.funcNamed "spoor/spoorlaw04.SpanOrder" = some 4 by kernel_rfl).symm.trans hf) |>.symm
  obtain rfl : fn = Tryd.f4 := (Option.some.inj (Tryd.func4.symm.trans hfn)).symm
  refine ⟨by kernel_rfl, fun j t ht => ?_⟩
  rw [Tryd.params4] at ht
  have hm : t = 33 := by simpa using Array.mem_of_getElem? ht
  subst hm
  exact (show Tryd.prog.wantsStandIn 33 = false by kernel_rfl)
end Go.Proofs.YtioibllopidilaaDoor.spanOrder
namespace Go.Proofs.YtioibllopidilaaDoor
theorem spanOrder_holds : Rows.SpanOrderCardSaid :=
  Claim7.holds_tied_plain_at .later [] _ _ _ _ spanOrder.said (fun _ h => by cases h) (by kernel_rfl) (fun _ h => by cases h) spanOrder_row_tie rfl ⟨rfl, rfl⟩ (by kernel_rfl) rfl spanOrder.plain (by kernel_rfl)
#print axioms spanOrder_holds
end Go.Proofs.YtioibllopidilaaDoor
