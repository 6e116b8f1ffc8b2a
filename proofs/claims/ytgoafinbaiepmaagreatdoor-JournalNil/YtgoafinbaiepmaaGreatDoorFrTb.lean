/-
  Contracts: the table of the sum.
-/
import Derived.Test.YtgoafinbaiepmaaGreatDoorFrFm
import Derived.Deep.MidRow
import Derived.Laws.ResultCell
namespace Go.Proofs.YtgoafinbaiepmaaGreatDoor.fr
open Go.RowKit
set_option maxRecDepth 100000
theorem Tryz.info220 : (Tryz.prog.info? 220).map (fun i => (i.zero, i.size)) = some (some (.agg (Array.replicate 256 (Value.int .u32 0))), 256) := by kernel_rfl

theorem half (s : BitVec 32) : ((s.toNat : Int) / (2 : Int)) = ((s >>> 1).toNat : Int) := by simp [Nat.shiftRight_eq_div_pow]
theorem shr_even (s : BitVec 32) (h : s.getLsbD 0 = false) : bits .xor .u32 ((s.toNat : Int) / 2) 0 = ((shr s).toNat : Int) := by
  rw [shr_high s h, half s, show (0 : Int) = ((0#32).toNat : Int) by rfl, xor32, BitVec.xor_zero]
theorem shr_odd (s : BitVec 32) (h : s.getLsbD 0 = true) : bits .xor .u32 ((s.toNat : Int) / 2) 2197175160 = ((shr s).toNat : Int) := by
  have e : shr s = s >>> 1 ^^^ 2197175160#32 := by unfold shr; rw [if_pos h]
  rw [e, half s, show (2197175160 : Int) = ((2197175160#32).toNat : Int) by rfl, xor32]
theorem and_one (s : BitVec 32) : bits .and .u32 (s.toNat : Int) 1 = if s.getLsbD 0 then 1 else 0 := by
  rw [show (1 : Int) = ((1 : Nat) : Int) by rfl, u32_and_nat _ _ s.isLt (by omega), Nat.and_one_is_mod]
  have : s.getLsbD 0 = decide (s.toNat % 2 = 1) := by rw [BitVec.getLsbD, Nat.testBit_zero]
  rw [this]
  rcases Nat.mod_two_eq_zero_or_one s.toNat with h | h <;> simp [h]

/-- A whole array into a block. -/
theorem wpList_store_row {P : Program} {ops : Array Oper} {rest : List Oper} {op : Oper} {a : Act} {w : World} {Q : Exit → Act → World → Prop} (hgd : op.guard = none) (ty : TypeId) (x y : Operand) (ho : op.op = .store ty x y)
    (g : Nat) (t : TypeId) (old cells : Array Value) (hx : a.eval x = .pointer (some ⟨g, 0, none⟩)) (hy : a.eval y = .agg cells)
    (hg : w.heap[g]? = some (.cells old t (0, 0))) (hi : (P.info? ty).map (·.size) = some cells.size) (hs : old.size = cells.size) (h1 : cells.all (·.oneCell') = true)
    (h : wpList P ops Q rest (a.put op.dst undef) (w.setRow g cells)) : wpList P ops Q (op :: rest) a w := by
  refine wpList_plain hgd fun _ hK => ?_
  unfold Oper.wp execOp
  simp only [ho, hx, hy, Instr.storeAt, Instr.sureAddr, Sem.run_bind, Sem.run_pure, Result.andThen_ok, run_storeVar_row w g t ty old cells hg hi hs h1]
  exact hK _ _ h
/-- A whole array out of a block. -/
theorem wpList_load_row {P : Program} {ops : Array Oper} {rest : List Oper} {op : Oper} {a : Act} {w : World} {Q : Exit → Act → World → Prop} (hgd : op.guard = none) (ty : TypeId) (x : Operand) (ho : op.op = .load ty x)
    (g : Nat) (t : TypeId) (cells : Array Value) (hx : a.eval x = .pointer (some ⟨g, 0, none⟩)) (d : TypeDesc)
    (hg : w.heap[g]? = some (.cells cells t (0, 0))) (hu : P.underlying ty = some d) (hd : (match d with | .struct _ | .array _ _ => true | _ => false) = true) (hi : (P.info? ty).map (·.size) = some cells.size)
    (h : wpList P ops Q rest (a.put op.dst (.agg cells)) w) : wpList P ops Q (op :: rest) a w := by
  refine wpList_plain hgd fun _ hK => ?_
  unfold Oper.wp execOp
  simp only [ho, hx, Instr.loadAt, Instr.sureAddr, Sem.run_bind, Sem.run_pure, Result.andThen_ok, run_loadVar_row w g t ty cells (0, 0) d hg hu hd hi]
  exact hK _ _ h
theorem results_cell1 {fn : Func} {p : Tmp} {ty : TypeId} (h : fn.results = #[.cell p ty]) (tmps : Array Value) (P : Program) (w : World) :
    (results fn tmps).run P w = ((asAddr (tmps.getD p undef)).run P w).andThen fun a w₁ => (loadVar ty a).run P w₁ := by
  simp only [results, h]
  simp [Sem.run_bind, Result.andThen]
theorem tab_setCell {w : World} {g i : Nat} {t : TypeId} (h : w.heap[g]? = some (.cells (tabAt i) t (0, 0))) : (w.setCell ⟨g, i, none⟩ (.int .u32 ((tabN i).toNat : Int))).heap[g]? = some (.cells (tabAt (i + 1)) t (0, 0)) := by
  have hlt := lt_of_block h
  have h' : w.heap[g] = .cells (tabAt i) t (0, 0) := by simpa [Array.getElem?_eq_getElem hlt] using h
  show (w.heap.modify g _)[g]? = _
  rw [Array.getElem?_eq_getElem (by simpa using hlt), Array.getElem_modify_self, h', ← tabAt_set i]
  rfl

set_option maxHeartbeats 1000000 in
theorem newTable_any (w : World) :
    Calls Tryz.prog 118 #[] w fun e w' => e = .returned (.agg (tabAt 256)) ∧ Below w.heap.size w w' := by
  obtain ⟨hv, hi⟩ := zero_of_info Tryz.info220
  go_enter Tryz.func118, Tryz.ntmps118
  go_wp2
  go_loopw [4] (fun t wr => ∃ i : Nat, t = .int .i64 i ∧ i ≤ 256 ∧ wr.heap[w.heap.size]? = some (.cells (Array.replicate 256 (Value.int .u32 0)) 220 (0, 0)) ∧ wr.heap[w.heap.size + 1]? = some (.cells (tabAt i) 220 (0, 0)) ∧ Below w.heap.size w wr) (fun t _ => 256 - (intOf t).toNat)
  case atStart =>
    refine ⟨0, rfl, by omega, ?_, ?_, ?_⟩
    · rw [Below.heap_alloc _ _ _ (by simp)]; exact heap_alloc_new w _
    · rw [tabAt_zero]; have := heap_alloc_new (w.alloc (.cells (Array.replicate 256 (Value.int .u32 0)) 220)) (.cells (Array.replicate 256 (Value.int .u32 0)) 220); simpa using this
    · exact ((Below.refl _ _).alloc (Nat.le_refl _) _).alloc (by simp) _
  case round =>
    obtain ⟨i, rfl, hi256, hb0, hb1, hbel⟩ := hrel
    by_cases hlt : i < 256
    · have hz : (i : Int) < 256 := by omega
      go_wp2
      go_loop [3, 9] (fun a b => ∃ j : Nat, b = .int .i64 j ∧ j ≤ 8 ∧ a = .int .u32 ((shrN j (BitVec.ofNat 32 i)).toNat : Int)) (fun _ b => 8 - (intOf b).toNat)
      case atStart => exact ⟨0, rfl, by omega, by simp [shrN]; omega⟩
      case round =>
        obtain ⟨j, rfl, hj8, rfl⟩ := hrel
        by_cases hjl : j < 8
        · have hj : (j : Int) < 8 := by omega
          obtain ⟨s, hs⟩ : ∃ s, shrN j (BitVec.ofNat 32 i) = s := ⟨_, rfl⟩
          have HS : Hid (shrN (j + 1) (BitVec.ofNat 32 i) = shr s) := by rw [shrN_succ', hs]; exact rfl
          rw [hs]
          clear hs
          have ea := and_one s
          have hs32 := lt32 s
          cases hl : s.getLsbD 0
          · rw [hl] at ea
            have ex := shr_even s hl
            have en : bits .and .u32 2197175160 0 = 0 := by decide
            clear hl
            go_wp2
            go_round
            case rel => exact ⟨j + 1, by go_num, by omega, by rw [HS.out]⟩
            case measure => simp [intOf]; omega
          · rw [hl] at ea
            have ex := shr_odd s hl
            have en : bits .and .u32 2197175160 4294967295 = 2197175160 := by decide
            clear hl
            go_wp2
            go_round
            case rel => exact ⟨j + 1, by go_num, by omega, by rw [HS.out]⟩
            case measure => simp [intOf]; omega
        · obtain rfl : j = 8 := by omega
          have ht : shrN 8 (BitVec.ofNat 32 i) = tabN i := rfl
          rw [ht]
          clear ht hj8 hjl
          have hf1 : wr.frozen? ⟨w.heap.size + 1, i, none⟩ = false := by simp [World.frozen?, hb1]
          have hc1 : wr.cell? ⟨w.heap.size + 1, i, none⟩ = some (.int .u32 0) := by simp [World.cell?, hb1, tabAt, hlt]
          go_wp2
          go_roundw
          case rel => exact ⟨i + 1, by go_num, by omega, by rw [Below.heap_setCell _ _ _ _ (by simp)]; exact hb0, tab_setCell hb1, hbel.setCell (by simp) _⟩
          case measure => simp [intOf]; omega
    · obtain rfl : i = 256 := by omega
      clear hi256 hlt
      have hs2 := tabAt_size 256
      go_wp2_with (first
        | (refine wpList_load_row rfl 220 (.tmp 1) rfl (w.heap.size + 1) 220 (tabAt 256) rfl _ hb1 Tryz.underlying220 rfl (by rw [hs2]; exact hi) ?_)
        | (refine wpList_store_row rfl 220 (.tmp 0) (.tmp 23) rfl w.heap.size 220 _ (tabAt 256) rfl rfl hb0 (by rw [hs2]; exact hi) (by rw [hs2]; simp) (tabAt_one _) ?_))
      (try simp only [Exit.inBlock, Exit.then])
      have hld := run_loadVar_row (P := Tryz.prog) (wr.setRow w.heap.size (tabAt 256)) w.heap.size 220 220 (tabAt 256) (0, 0) _ (setRow_heap wr w.heap.size _ _ _ _ hb0) Tryz.underlying220 rfl (by rw [hs2]; exact hi)
      refine bodyPost_ret (v := .agg (tabAt 256)) ?_ rfl ⟨rfl, ?_⟩
      · rw [results_cell1 rfl]
        simp [asAddr, Result.andThen, hld, Act.put]
      · exact ⟨hbel.os, hbel.tape, hbel.output, by simpa [World.setRow] using hbel.size, fun k hk => (setRow_other wr w.heap.size k _ (by omega)).trans (hbel.block k hk)⟩
end Go.Proofs.YtgoafinbaiepmaaGreatDoor.fr