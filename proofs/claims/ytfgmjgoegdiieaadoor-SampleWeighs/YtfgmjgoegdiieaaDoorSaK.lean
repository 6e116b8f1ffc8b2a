/-
  SaK.
-/
import Derived.Test.YtfgmjgoegdiieaaDoorSaIq
import Derived.Test.YtfgmjgoegdiieaaDoorSaMq
namespace Go.Proofs.YtfgmjgoegdiieaaDoor
open Go Go.RowKit
set_option maxRecDepth 100000

theorem spSize : (Tryd.prog.info? 52).map (·.size) = some 13 := by kernel_rfl
set_option maxHeartbeats 4000000 in
theorem one_any (id s e : Int) (w : World) :
    Calls Tryd.prog 10 #[.int .u64 1, .int .u64 id, .int .i64 s, .int .i64 e] w fun e' w' => e' = .returned (exA id s e) ∧ Below w.heap.size w w' := by
  have BB : Hid (∀ o, Below w.heap.size w (w.alloc o)) := fun o => (Below.refl _ _).alloc (Nat.le_refl _) _
  go_enter Tryd.func10, Tryd.ntmps10
  go_wp2
  (try simp only [Exit.inBlock, Exit.then])
  have hrow := Blk.new w #[.int .u64 0, .int .u64 1, .int .u64 id, .int .u64 0, .slice none 0 0, .string ⟨#[98]⟩, .string ⟨#[111]⟩, .int .i64 0, .int .i64 2, .int .i64 s, .int .i64 e, .slice none 0 0, .slice none 0 0] 52
  have hld := run_loadVar_row (P := Tryd.prog) _ w.heap.size 52 52 #[.int .u64 0, .int .u64 1, .int .u64 id, .int .u64 0, .slice none 0 0, .string ⟨#[98]⟩, .string ⟨#[111]⟩, .int .i64 0, .int .i64 2, .int .i64 s, .int .i64 e, .slice none 0 0, .slice none 0 0] (0, 0) _ hrow Tryd.underlying52 rfl spSize
  refine bodyPost_ret (v := exA id s e) ?_ rfl ⟨rfl, BB.out _⟩
  rw [results_cell1 rfl]
  simp [asAddr, Result.andThen, hld]
theorem verGuard : Tryd.prog.eqGuardType Tryd.prog.depth 41 = false := by kernel_rfl
theorem eqI_ver (d : Nat) (k k' : Bool) (p q q' p' h h' : Int) (W : World) : (Op.equalIn (d + 4) 41 (.agg #[.bool k, .int .i64 p, .int .u64 h, .int .u64 q]) (.agg #[.bool k', .int .i64 p', .int .u64 h', .int .u64 q'])).run Tryd.prog W = .ok (decide (k = k' ∧ p = p' ∧ h = h' ∧ q = q')) W := by
  have u1 := Tryd.underlying3
  have a1 := Tryd.isAgg3
  have z1 := Tryd.sizeOf3
  have u2 := Tryd.underlying4
  have a2 := Tryd.isAgg4
  have z2 := Tryd.sizeOf4
  have u3 := Tryd.underlying24
  have a3 := Tryd.isAgg24
  have z3 := Tryd.sizeOf24
  have u4 := Tryd.underlying39
  have a4 := Tryd.isAgg39
  have z4 := Tryd.sizeOf39
  have hS : Tryd.prog.underlying 41 = some (.struct (Tryd.prog.fieldsOf 41)) := by kernel_rfl
  have hp : Tryd.prog.stoodInHeld 41 = false := by kernel_rfl
  rw [run_equalIn_agg W (d + 3) 41 _ _ hS hp]
  simp only [Program.fieldsOf, Tryd.underlying41]
  go_simp
  by_cases h1 : k = k' <;> by_cases h2 : p = p' <;> by_cases h3 : h = h' <;> by_cases h4 : q = q' <;> simp [h1, h2, h3, h4]
theorem Blk.allocs {w : World} {b : Nat} {c : Array Value} {T : TypeId} (h : Blk w b c T) (o o' : Obj) : Blk ((w.alloc o).alloc o') b c T := (h.alloc o).alloc o'
theorem Blk.new2 (w : World) (o : Obj) (c : Array Value) (T : TypeId) : Blk ((w.alloc o).alloc (.cells c T)) (w.heap.size + 1) c T := by
  have h := Blk.new (w.alloc o) c T
  rwa [World.size_alloc] at h
theorem belowAllocs {B : Nat} {w w' : World} (h : Below B w w') (hB : B ≤ w'.heap.size) (o o' : Obj) : Below B w ((w'.alloc o).alloc o') := (h.alloc hB o).alloc (by rw [World.size_alloc]; omega) o'
set_option maxHeartbeats 8000000 in
theorem aliveP_any (w : World) (hT : Tabs w) :
    Calls Tryd.prog 4 #[] w fun e w' => e = .returned (.bool true) ∧ Below w.heap.size w w' := by
  have HT : Hid (∀ W, Below w.heap.size w W → Tabs W) := fun W hb => hT.below hb
  have N0 : Hid (Below w.heap.size w (w.alloc (.cells exP1 32)) ∧ Blk (w.alloc (.cells exP1 32)) w.heap.size exP1 32) := ⟨(Below.refl _ _).alloc (Nat.le_refl _) _, Blk.new _ _ _⟩
  clear hT
  go_enter Tryd.func4, Tryd.ntmps4
  go_upto_region 3 with (first
    | (go_at_call 10; (with_reducible refine (one_any 1 3 4 _).mono ?_); rintro e w1 ⟨rfl, hb1⟩; have N1 : Hid (Below w.heap.size w w1 ∧ Blk w1 w.heap.size exP1 32) := ⟨N0.out.1.trans (hb1.mono N0.out.1.size), N0.out.2.below hb1 N0.out.2.lt⟩; clear hb1 N0)
    | (go_at_call 10; (with_reducible refine (one_any 2 7 8 _).mono ?_); rintro e w2 ⟨rfl, hb2⟩; have N2 : Hid (Below w.heap.size w w2 ∧ Blk w2 w.heap.size exP1 32) := ⟨N1.out.1.trans (hb2.mono N1.out.1.size), N1.out.2.below hb2 N1.out.2.lt⟩; have D1 := decide1_any w.heap.size w2.heap.size (w2.alloc (.cells exRow 52)) (N2.out.2.alloc _) (Blk.new _ _ _) (HT.out _ (N2.out.1.alloc N2.out.1.size _)); clear hb2 N1)
    | (go_at_call 9; (with_reducible refine D1.mono ?_); clear D1; rintro e w3 ⟨rfl, hb3⟩; have N3 : Hid (Below w.heap.size w w3) := (N2.out.1.alloc N2.out.1.size _).trans (hb3.mono (N2.out.1.alloc N2.out.1.size _).size); clear hb3 N2))
  have N3' : Hid (Below w.heap.size w ((w3.alloc (.cells #[.bool true, .int .i64 1, .int .u64 0, .int .u64 65536] 41)).alloc (.cells exP2 32)) ∧ Blk ((w3.alloc (.cells #[.bool true, .int .i64 1, .int .u64 0, .int .u64 65536] 41)).alloc (.cells exP2 32)) w3.heap.size #[.bool true, .int .i64 1, .int .u64 0, .int .u64 65536] 41 ∧ Blk ((w3.alloc (.cells #[.bool true, .int .i64 1, .int .u64 0, .int .u64 65536] 41)).alloc (.cells exP2 32)) (w3.heap.size + 1) exP2 32 ∧ w.heap.size ≤ w3.heap.size) := ⟨belowAllocs N3.out N3.out.size _ _, (Blk.new _ _ _).alloc _, Blk.new2 _ _ _ _, N3.out.size⟩
  clear N3
  go_upto_region 7 with (first
    | (go_at_call 10; (with_reducible refine (one_any 1 3 4 _).mono ?_); rintro e w4 ⟨rfl, hb4⟩; have N4 : Hid (Below w.heap.size w w4 ∧ Blk w4 w3.heap.size #[.bool true, .int .i64 1, .int .u64 0, .int .u64 65536] 41 ∧ Blk w4 (w3.heap.size + 1) exP2 32 ∧ w.heap.size ≤ w3.heap.size) := ⟨N3'.out.1.trans (hb4.mono N3'.out.1.size), N3'.out.2.1.below hb4 N3'.out.2.1.lt, N3'.out.2.2.1.below hb4 N3'.out.2.2.1.lt, N3'.out.2.2.2⟩; clear hb4 N3')
    | (go_at_call 10; (with_reducible refine (one_any 2 7 8 _).mono ?_); rintro e w5 ⟨rfl, hb5⟩; have N5 : Hid (Below w.heap.size w w5 ∧ Blk w5 w3.heap.size #[.bool true, .int .i64 1, .int .u64 0, .int .u64 65536] 41 ∧ Blk w5 (w3.heap.size + 1) exP2 32 ∧ w.heap.size ≤ w3.heap.size) := ⟨N4.out.1.trans (hb5.mono N4.out.1.size), N4.out.2.1.below hb5 N4.out.2.1.lt, N4.out.2.2.1.below hb5 N4.out.2.2.1.lt, N4.out.2.2.2⟩; have D2 := decide2_any (w3.heap.size + 1) w5.heap.size (w5.alloc (.cells exRow 52)) (N5.out.2.2.1.alloc _) (Blk.new _ _ _) (HT.out _ (N5.out.1.alloc N5.out.1.size _)); clear hb5 N4)
    | (go_at_call 9; (with_reducible refine D2.mono ?_); clear D2; rintro e w6 ⟨rfl, hb6⟩; have N6 : Hid (Below w.heap.size w w6 ∧ Blk w6 w3.heap.size #[.bool true, .int .i64 1, .int .u64 0, .int .u64 65536] 41 ∧ w.heap.size ≤ w3.heap.size) := ⟨(N5.out.1.alloc N5.out.1.size _).trans (hb6.mono (N5.out.1.alloc N5.out.1.size _).size), (N5.out.2.1.alloc _).below hb6 (N5.out.2.1.alloc _).lt, N5.out.2.2.2⟩; have C1 := check3_any (w6.heap.size + 1) ((w6.alloc (.cells #[.bool false, .int .i64 (-1), .int .u64 0, .int .u64 0] 41)).alloc (.cells #[.int .i64 4, .int .u64 0, .string ⟨#[]⟩, .int .i64 65537] 32)) (Blk.new2 _ _ _ _) (HT.out _ (belowAllocs N6.out.1 N6.out.1.size _ _)); have N6' : Hid (Below w.heap.size w ((w6.alloc (.cells #[.bool false, .int .i64 (-1), .int .u64 0, .int .u64 0] 41)).alloc (.cells #[.int .i64 4, .int .u64 0, .string ⟨#[]⟩, .int .i64 65537] 32)) ∧ Blk ((w6.alloc (.cells #[.bool false, .int .i64 (-1), .int .u64 0, .int .u64 0] 41)).alloc (.cells #[.int .i64 4, .int .u64 0, .string ⟨#[]⟩, .int .i64 65537] 32)) w3.heap.size #[.bool true, .int .i64 1, .int .u64 0, .int .u64 65536] 41 ∧ Blk ((w6.alloc (.cells #[.bool false, .int .i64 (-1), .int .u64 0, .int .u64 0] 41)).alloc (.cells #[.int .i64 4, .int .u64 0, .string ⟨#[]⟩, .int .i64 65537] 32)) w6.heap.size #[.bool false, .int .i64 (-1), .int .u64 0, .int .u64 0] 41) := ⟨belowAllocs N6.out.1 N6.out.1.size _ _, N6.out.2.1.allocs _ _, (Blk.new _ _ _).alloc _⟩; clear hb6 N5 N6)
    | (go_at_call 5; (with_reducible refine C1.mono ?_); clear C1; rintro e w7 ⟨rfl, hb7⟩; have N7 : Hid (Below w.heap.size w w7 ∧ Blk w7 w3.heap.size #[.bool true, .int .i64 1, .int .u64 0, .int .u64 65536] 41 ∧ Blk w7 w6.heap.size #[.bool false, .int .i64 (-1), .int .u64 0, .int .u64 0] 41) := ⟨N6'.out.1.trans (hb7.mono N6'.out.1.size), N6'.out.2.1.below hb7 N6'.out.2.1.lt, N6'.out.2.2.below hb7 N6'.out.2.2.lt⟩; clear hb7 N6')
    | (go_at_call 11; (with_reducible refine (newFew2_any _).mono ?_); rintro e w8 ⟨rfl, kf8, hb8⟩; have N8 : Hid (Below w.heap.size w w8 ∧ Blk w8 w3.heap.size #[.bool true, .int .i64 1, .int .u64 0, .int .u64 65536] 41 ∧ Blk w8 w6.heap.size #[.bool false, .int .i64 (-1), .int .u64 0, .int .u64 0] 41 ∧ Blk w8 w7.heap.size #[.int .i64 2, .slice none 0 0] 68 ∧ w.heap.size ≤ w7.heap.size ∧ w3.heap.size ≠ w7.heap.size ∧ w6.heap.size ≠ w7.heap.size) := ⟨N7.out.1.trans (hb8.mono N7.out.1.size), N7.out.2.1.below hb8 N7.out.2.1.lt, N7.out.2.2.below hb8 N7.out.2.2.lt, kf8, N7.out.1.size, Nat.ne_of_lt N7.out.2.1.lt, Nat.ne_of_lt N7.out.2.2.lt⟩; clear hb8 kf8 N7)
    | (go_at_call 11; (with_reducible refine (newFew1_any _).mono ?_); rintro e w9 ⟨rfl, hb9⟩; have N9 : Hid (Below w.heap.size w w9 ∧ Blk w9 w3.heap.size #[.bool true, .int .i64 1, .int .u64 0, .int .u64 65536] 41 ∧ Blk w9 w6.heap.size #[.bool false, .int .i64 (-1), .int .u64 0, .int .u64 0] 41 ∧ Blk w9 w7.heap.size #[.int .i64 2, .slice none 0 0] 68 ∧ w.heap.size ≤ w7.heap.size ∧ w3.heap.size ≠ w7.heap.size ∧ w6.heap.size ≠ w7.heap.size) := ⟨N8.out.1.trans (hb9.mono N8.out.1.size), N8.out.2.1.below hb9 N8.out.2.1.lt, N8.out.2.2.1.below hb9 N8.out.2.2.1.lt, N8.out.2.2.2.1.below hb9 N8.out.2.2.2.1.lt, N8.out.2.2.2.2⟩; have PU := put0_any w7.heap.size w9 N9.out.2.2.2.1; clear hb9 N8))
  go_upto_region 10 with (go_at_call 12; (with_reducible refine PU.mono ?_); clear PU; rintro e w10 ⟨g, c, rfl, kf, hu⟩; have N10 : Hid (Below w.heap.size w w10 ∧ Blk w10 w3.heap.size #[.bool true, .int .i64 1, .int .u64 0, .int .u64 65536] 41 ∧ Blk w10 w6.heap.size #[.bool false, .int .i64 (-1), .int .u64 0, .int .u64 0] 41 ∧ Blk w10 w7.heap.size #[.int .i64 2, .slice (some ⟨g, 0, none⟩) 1 c] 68) := ⟨N9.out.1.trans (hu.below N9.out.1.size (fun k h1 h2 => by have := N9.out.2.2.2.2.1; omega)), N9.out.2.1.upd hu N9.out.2.2.2.2.2.1, N9.out.2.2.1.upd hu N9.out.2.2.2.2.2.2, kf⟩; clear kf hu N9)
  have o0 := N10.out.2.1.cell 0 rfl
  have o1 := N10.out.2.1.cell 1 rfl
  have o2 := N10.out.2.1.cell 2 rfl
  have o3 := N10.out.2.1.cell 3 rfl
  have p0 := N10.out.2.2.1.cell 0 rfl
  have p1 := N10.out.2.2.1.cell 1 rfl
  have p2 := N10.out.2.2.1.cell 2 rfl
  have p3 := N10.out.2.2.1.cell 3 rfl
  have GU := guess1_any w7.heap.size g c w10 N10.out.2.2.2
  have hg := verGuard
  have q1 : ∀ W, (binOp .eql 41 (.agg #[.bool true, .int .i64 1, .int .u64 0, .int .u64 65536]) (.agg #[.bool true, .int .i64 1, .int .u64 0, .int .u64 65536])).run Tryd.prog W = .ok (.bool true) W := fun W => run_eql_of (eqI_ver 9996 true true 1 65536 65536 1 0 0 W)
  have q2 : ∀ W, (binOp .eql 41 (.agg #[.bool false, .int .i64 (-1), .int .u64 0, .int .u64 0]) (.agg #[.bool false, .int .i64 (-1), .int .u64 0, .int .u64 0])).run Tryd.prog W = .ok (.bool true) W := fun W => run_eql_of (eqI_ver 9996 false false (-1) 0 0 (-1) 0 0 W)
  clear HT
  go_wp2_with (go_at_call 13; (with_reducible refine GU.mono ?_); clear GU; rintro e w11 ⟨rfl, hb11⟩)
  go_ret
  exact ⟨rfl, N10.out.1.trans (hb11.mono N10.out.1.size)⟩
end Go.Proofs.YtfgmjgoegdiieaaDoor
