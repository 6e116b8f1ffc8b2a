/-
  Layer 8 (journal): JournalNil's walk.
-/
import Derived.Test.YtgoafinbaiepmaaGreatDoorJyb
import Derived.Test.YtgoafinbaiepmaaGreatDoorJx
namespace Go.Proofs.YtgoafinbaiepmaaGreatDoor
open Go.RowKit Go.Shelf
set_option maxRecDepth 100000
theorem eqlZ (W : World) : (binOp .eql 49 (.agg #[.int .i64 0, .int .u64 0, .int .u64 0, .int .i64 0]) (.agg #[.int .i64 0, .int .u64 0, .int .u64 0, .int .i64 0])).run Tryz.prog W = .ok (.bool true) W := by kernel_rfl
def RecAt (w : World) (g : Nat) : Prop := w.heap[g]? = some (.cells #[.int .i64 0, .int .u64 0, .int .u64 0, .int .i64 0] 49 (0, 0))
theorem RecAt.keep {b : Nat} {w w' : World} {g : Nat} (h : RecAt w g) (hb : Below b w w') (hg : g < b) : RecAt w' g := (hb.block g hg).trans h
theorem RecAt.cells {w : World} {g : Nat} (h : RecAt w g) : w.cell? ⟨g, 0, none⟩ = some (.int .i64 0) ∧ w.cell? ⟨g, 1, none⟩ = some (.int .u64 0) ∧ w.cell? ⟨g, 2, none⟩ = some (.int .u64 0) ∧ w.cell? ⟨g, 3, none⟩ = some (.int .i64 0) :=
  ⟨blk_cell h 0 rfl, blk_cell h 1 rfl, blk_cell h 2 rfl, blk_cell h 3 rfl⟩
/-- Behind the first half: the disk is made. -/
theorem half (w : World) (hE : ErrT w) (p : Nat) (w2 : World) (B2 : Below w.heap.size w w2) (f2 : IsF w2 p) : Calls Tryz.prog 17 #[.iface 111 (.pointer (some ⟨p, 0, none⟩)), .string ⟨#[]⟩, .int .i64 0, .int .i64 1] (w2.alloc recO) fun e w4 => e = .returned (.bool true) ∧ RecAt w4 w2.heap.size ∧ Below w2.heap.size w2 w4 := by
  have A3 : Below w2.heap.size w2 (w2.alloc recO) := (Below.refl _ _).alloc (Nat.le_refl _) _
  refine (fault_hit p _ ((A3.block p (lt_of_block f2)).trans f2) (hE.below (B2.trans (A3.mono B2.size)))).mono ?_
  rintro e w4 ⟨rfl, b4⟩
  have X3 : RecAt (w2.alloc recO) w2.heap.size := heap_alloc_new w2 recO
  exact ⟨rfl, X3.keep b4 (by simp), A3.trans (b4.mono A3.size)⟩
set_option maxHeartbeats 4000000 in
theorem nil_bad (z : Int) (w : World) (hE : ErrT w) (OP : ∀ d W, Calls Tryz.prog 16 #[.pointer (some ⟨d, 0, none⟩), .int .i64 z] W (Refused W))
    (hl : decide (z < 64) = true ∨ (decide (z < 64) = false ∧ decide (16777216 < z) = true)) :
    Calls Tryz.prog 5 #[.int .i64 z] w fun e w' => e = .returned (.bool true) ∧ Below w.heap.size w w' := by
  have S := shown_any w
  have FH := half w hE
  have HFH : Hid _ := FH
  have EZ := eqlZ
  clear FH hE
  rcases hl with l3 | ⟨l3, l4⟩
  all_goals
    go_enter Tryz.func5, Tryz.ntmps5
    go_wp2_with (first
      | (go_at_call 9; refine S.mono ?_; clear S; rintro e w1 ⟨rfl, b1⟩; have O1 := open_nil z w1)
      | (go_at_call 16; refine O1.mono ?_; clear O1; rintro e w2 ⟨p2, rfl, f2, b2⟩; have B2 := b1.trans (b2.mono b1.size); have F3 := HFH.out p2 w2 B2 f2; clear f2 b2)
      | (go_at_call 17; refine F3.mono ?_; clear F3; rintro e w4 ⟨rfl, X4, b4⟩; have B4 := B2.trans (b4.mono B2.size); have N4 := new_any w4; have L4 := lt_of_block X4)
      | (go_at_call 11; refine N4.mono ?_; clear N4; rintro e w5 ⟨rfl, _, b5⟩; have X5 := X4.keep b5 L4; have B5 := B4.trans (b5.mono B4.size); have O5 := OP (w4.heap.size + 3) w5; have L5 := lt_of_block X5; clear X4 OP)
      | (go_at_call 16; refine O5.mono ?_; clear O5; rintro e w6 ⟨p6, rfl, f6, b6⟩; have X6 := X5.keep b6 L5; have B6 := B5.trans (b6.mono B5.size); have F7 := HFH.out p6 w6 B6 f6; have L6 := lt_of_block X6; clear f6 b6 X5)
      | (go_at_call 17; refine F7.mono ?_; clear F7; rintro e w8 ⟨rfl, Y8, b8⟩; have B8 := B6.trans (b8.mono B6.size); have X8 := X6.keep b8 L6; obtain ⟨x0, x1, x2, x3⟩ := X8.cells; obtain ⟨y0, y1, y2, y3⟩ := Y8.cells; clear X6 X8 Y8))
    go_ret
    exact ⟨rfl, B8⟩
set_option maxHeartbeats 4000000 in
theorem nil_good (z : Int) (w : World) (hE : ErrT w) (lo : 64 ≤ z) (hi : z ≤ 16777216) :
    Calls Tryz.prog 5 #[.int .i64 z] w fun e w' => e = .returned (.bool true) ∧ Below w.heap.size w w' := by
  have S := shown_any w
  have FH := half w hE
  have HFH : Hid _ := FH
  have EZ := eqlZ
  have OP : ∀ (w4 w5 : World), DiskAt w4.heap.size w5 (w4.heap.size + 3) 0 ⟨w4.heap.size, w4.heap.size + 1, w4.heap.size + 2, 0, .slice none 0 0, [], 0, 0, 0, false, .map [], .map [], .map []⟩ → Below w4.heap.size w4 w5 → Calls Tryz.prog 16 #[.pointer (some ⟨w4.heap.size + 3, 0, none⟩), .int .i64 z] w5 fun e w' => e = .returned (.tuple #[.pointer (some ⟨w5.heap.size + 1, 0, none⟩), .agg #[.int .i64 1, .int .u64 0, .int .u64 0, .int .i64 0], .nilIface]) ∧ Below w4.heap.size w5 w' := fun w4 w5 D b => by
    letI : Inhabited jz.Sz := ⟨⟨z, lo, hi⟩⟩
    refine (jz.open0 w4.heap.size (w4.heap.size + 3) w5 b.size D).mono ?_
    rintro e w' ⟨h, _, _, b'⟩
    exact ⟨h, b'⟩
  have HOP : Hid _ := OP
  have l3 : decide (z < 64) = false := decide_eq_false (by omega)
  have l4 : decide (16777216 < z) = false := decide_eq_false (by omega)
  clear FH hE OP
  go_enter Tryz.func5, Tryz.ntmps5
  go_wp2_with (first
    | (go_at_call 9; refine S.mono ?_; clear S; rintro e w1 ⟨rfl, b1⟩; have O1 := open_nil z w1)
    | (go_at_call 16; refine O1.mono ?_; clear O1; rintro e w2 ⟨p2, rfl, f2, b2⟩; have B2 := b1.trans (b2.mono b1.size); have F3 := HFH.out p2 w2 B2 f2; clear f2 b2)
    | (go_at_call 17; refine F3.mono ?_; clear F3; rintro e w4 ⟨rfl, X4, b4⟩; have B4 := B2.trans (b4.mono B2.size); have N4 := new_any w4; have L4 := lt_of_block X4)
    | (go_at_call 11; refine N4.mono ?_; clear N4; rintro e w5 ⟨rfl, D5, b5⟩; have X5 := X4.keep b5 L4; have B5 := B4.trans (b5.mono B4.size); have O5 := HOP.out w4 w5 D5 b5; clear X4 D5 HOP)
    | (go_at_call 16; refine O5.mono ?_; clear O5; rintro e w6 ⟨rfl, b6⟩; have X6 := X5.keep b6 L4; have B6 := B5.trans (b6.mono B4.size); have L6 := lt_of_block X6; have F7 := fault_nil (w6.alloc (.cells #[.int .i64 1, .int .u64 0, .int .u64 0, .int .i64 0] 49)); have A7 : Below w6.heap.size w6 (w6.alloc (.cells #[.int .i64 1, .int .u64 0, .int .u64 0, .int .i64 0] 49)) := (Below.refl _ _).alloc (Nat.le_refl _) _; clear b6 X5)
    | (go_at_call 17; refine F7.mono ?_; clear F7; rintro e w8 ⟨rfl, b8'⟩; have b8 := A7.trans (b8'.mono A7.size); have B8 := B6.trans (b8.mono B6.size); have X8 := X6.keep b8 L6; obtain ⟨x0, x1, x2, x3⟩ := X8.cells; clear X6 X8 b8' A7))
  go_ret
  exact ⟨rfl, B8⟩
theorem nil_any (z : Int) (w : World) (hE : ErrT w) : Calls Tryz.prog 5 #[.int .i64 z] w fun e w' => e = .returned (.bool true) ∧ Below w.heap.size w w' := by
  by_cases h1 : z < 64
  · exact nil_bad z w hE (fun d W => open_low d z W h1) (Or.inl (decide_eq_true h1))
  by_cases h2 : 16777216 < z
  · exact nil_bad z w hE (fun d W => open_high d z W h2) (Or.inr ⟨decide_eq_false h1, decide_eq_true h2⟩)
  exact nil_good z w hE (by omega) (by omega)
end Go.Proofs.YtgoafinbaiepmaaGreatDoor
