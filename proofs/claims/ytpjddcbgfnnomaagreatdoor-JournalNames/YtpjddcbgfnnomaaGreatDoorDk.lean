/-
  Layer 7 (disk): Pending of a disk whose one file is a.
-/
import Derived.Test.YtpjddcbgfnnomaaGreatDoorDj
import Derived.Deep.OwnRows
namespace Go.Proofs.YtpjddcbgfnnomaaGreatDoor
open Go.RowKit Go.Shelf Go.Maps Go.WideMaps
set_option maxRecDepth 100000
theorem Tryz.info3 : (Tryz.prog.info? 3).map (fun i => (i.zero, i.size, i.bytes)) = some (some (.int .i64 0), 1, 8) := by kernel_rfl

theorem made_one (w : World) : (Instr.makeSlice 40 (.int .i64 1) (.int .i64 1)).run Tryz.prog w = .ok (.slice (some ⟨w.heap.size, 0, none⟩) 1 1) (w.alloc (.cells #[.int .i64 0] 3)) := by
  have h := run_make_row' (P := Tryz.prog) 40 3 (.int .i64 0) 8 Tryz.underlying40 Tryz.info3 rfl .i64 .i64 1 (by omega) (by omega) w
  have e : madeCells #[Value.int .i64 0] 1 = #[Value.int .i64 0] := by kernel_rfl
  rw [e] at h
  exact h
theorem heap_at {w : World} {o : Obj} {b : Nat} (hb : b = w.heap.size) : (w.alloc o).heap[b]? = some o := by subst hb; exact heap_alloc_new w o
theorem heap3 (w : World) (a b c : Obj) : (((w.alloc a).alloc b).alloc c).heap[w.heap.size]? = some a ∧ (((w.alloc a).alloc b).alloc c).heap[w.heap.size + 1]? = some b ∧ (((w.alloc a).alloc b).alloc c).heap[w.heap.size + 1 + 1]? = some c := by
  have e1 : (w.alloc a).heap.size = w.heap.size + 1 := by simp
  have e2 : ((w.alloc a).alloc b).heap.size = w.heap.size + 1 + 1 := by simp
  refine ⟨?_, ?_, ?_⟩
  · rw [Below.heap_alloc _ _ _ (by omega), Below.heap_alloc _ _ _ (by omega)]; exact heap_at rfl
  · rw [Below.heap_alloc _ _ _ (by omega)]; exact heap_at e1.symm
  · exact heap_at e2.symm
/-- The disk's files are the one alone. -/
def Only (K : Dk) (n : Nat) : Prop := ∀ kl, Maps.has K.DF kl = true → kl = .int .i64 (n : Int)
theorem has_true_of_atKey' {D : DataW Unit} {k : Lit} {b : Int} (h : D.atKey k .nil = .lit (.int .i64 b)) : Maps.has D k = true := by
  cases hh : Maps.has D k with
  | true => rfl
  | false => rw [atKey_of_not_has hh] at h; cases h
/-- Midway in Pending. -/
structure Pnd (w : World) (K : Dk) (n r kb g N L U : Nat) (wr : World) (left : Lit → Bool) (cnt : Nat) : Prop where
  rg : wr.ranges Tryz.prog 3 ptrR K.mf r N K.DF left cnt
  sub : ∀ kl, left kl = true → Maps.has K.DF kl = true
  below : Below w.heap.size w wr
  keep : wr.heap[kb]? = some (.cells #[.int .i64 (L : Int), .slice (some ⟨g, 0, none⟩) 1 1] 42 (0, 0))
  row : ∃ x : Int, wr.heap[g]? = some (.cells #[.int .i64 x] 3 (0, 0)) ∧ (left (.int .i64 (n : Int)) = false → x = (U : Int))
  res : wr.heap[w.heap.size]? = some (.cells #[.int .i64 0, .slice none 0 0] 42 (0, 0))
theorem ranges_upd {S : Nat → Prop} {w w' : World} {k : TypeId} {R : Value → Option (DataW Unit × List MemPlace)} {b r n : Nat} {D : DataW Unit} {left : Lit → Bool} {cnt : Nat} (h : w.ranges Tryz.prog k R b r n D left cnt) (hu : Upd S w w') (hb' : ¬ S b) (hr' : ¬ S r) : w'.ranges Tryz.prog k R b r n D left cnt := by
  obtain ⟨es, clock, since, seen, c0, hb, hF, hs, hD, hr, rest⟩ := h
  exact ⟨es, clock, since, seen, c0, (hu.block b (lt_of_block hb) hb').trans hb, hF, hs, hD, (hu.block r (lt_of_block hr) hr').trans hr, rest⟩
theorem ranges_iter {w : World} {k : TypeId} {R : Value → Option (DataW Unit × List MemPlace)} {b r n : Nat} {D : DataW Unit} {left : Lit → Bool} {cnt : Nat} (h : w.ranges Tryz.prog k R b r n D left cnt) {g : Nat} {cs : Array Value} {t : TypeId} {fz : Nat × Nat} (hg : w.heap[g]? = some (.cells cs t fz)) : g ≠ b ∧ g ≠ r := by
  obtain ⟨es, clock, since, seen, c0, hb, hF, hs, hD, hr, rest⟩ := h
  constructor
  · rintro rfl; rw [hb] at hg; simp at hg
  · rintro rfl; rw [hr] at hg; simp at hg
theorem Pnd.next {w : World} {K : Dk} {n r kb g N L U : Nat} {wr w1 : World} {left left' : Lit → Bool} {cnt cnt' : Nat} (h : Pnd w K n r kb g N L U wr left cnt) (hg1 : wr.grownBy w1 (some r)) (hrg : w1.ranges Tryz.prog 3 ptrR K.mf r N K.DF left' cnt') (hsub : ∀ kl, left' kl = true → left kl = true) (hne : kb ≠ g ∧ kb ≠ w.heap.size ∧ g ≠ w.heap.size) (hgt : w.heap.size < kb ∧ w.heap.size < g) (hwr : w.heap.size ≤ r) :
    Below w.heap.size w w1 ∧ (∀ W, Below w1.heap.size w1 W → W.cell? ⟨kb, 1, none⟩ = some (.slice (some ⟨g, 0, none⟩) 1 1)) ∧ (∀ w3, Below w1.heap.size w1 w3 → (∃ x, w3.cell? ⟨g, 0, none⟩ = some (.int .i64 x)) ∧ w3.frozen? ⟨g, 0, none⟩ = false ∧ Pnd w K n r kb g N L U (w3.setCell ⟨g, 0, none⟩ (.int .i64 (U : Int))) left' cnt') := by
  obtain ⟨x0, hg0, _⟩ := h.row
  have u1 : Upd (fun k => k = r) wr w1 := (Upd.refl _ _).grown hg1 (fun _ _ e => (Option.some.inj e).symm)
  have n1 := ranges_iter h.rg h.keep
  have n2 := ranges_iter h.rg hg0
  have n3 := ranges_iter h.rg h.res
  have k1 := (u1.block kb (lt_of_block h.keep) n1.2).trans h.keep
  have k2 := (u1.block g (lt_of_block hg0) n2.2).trans hg0
  have k3 := (u1.block w.heap.size (lt_of_block h.res) n3.2).trans h.res
  have B1 : Below w.heap.size w w1 := h.below.trans (u1.below h.below.size (fun k hk e => by omega))
  refine ⟨B1, fun W b => blk_cell ((b.block kb (lt_of_block k1)).trans k1) 1 rfl, fun w3 b => ?_⟩
  have u3 := Upd.ofBelow (S := fun _ => False) b (fun k hk hk' => by omega)
  have q1 := (b.block kb (lt_of_block k1)).trans k1
  have q2 := (b.block g (lt_of_block k2)).trans k2
  have q3 := (b.block w.heap.size (lt_of_block k3)).trans k3
  have us : Upd (fun k => k = g) w3 (w3.setCell ⟨g, 0, none⟩ (.int .i64 (U : Int))) := (Upd.refl (fun k => k = g) w3).setCell (p := ⟨g, 0, none⟩) (fun _ => rfl) _
  have B3 : Below w.heap.size w w3 := B1.trans (b.mono B1.size)
  refine ⟨⟨x0, blk_cell q2 0 rfl⟩, free3 q2 0, ⟨ranges_upd (ranges_upd hrg u3 (fun h => h) (fun h => h)) us (fun e => n2.1 e.symm) (fun e => n2.2 e.symm), fun kl hl => h.sub kl (hsub kl hl), B3.trans (us.below B3.size (fun k hk e => by omega)), (us.block kb (lt_of_block q1) hne.1).trans q1, ⟨(U : Int), blk_set q2 0 _, fun _ => rfl⟩, (us.block _ (lt_of_block q3) (fun e => hne.2.2 e.symm)).trans q3⟩⟩
end Go.Proofs.YtpjddcbgfnnomaaGreatDoor
