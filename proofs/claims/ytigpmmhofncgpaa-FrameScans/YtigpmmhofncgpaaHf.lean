/-
  Contracts: Head.
-/
import Derived.Test.YtigpmmhofncgpaaHg
namespace Go.Proofs.Ytigpmmhofncgpaa
open Go.RowKit
set_option maxRecDepth 100000

theorem frameHead_any (ad : Option Addr) (n cap : Nat) (K : List Int) (r : Value) (hr : headR K r) (w : World) (h : Holds w ad n K) (hK : ByteL K) (hcap : n ≤ cap) :
    Calls Try.prog 13 #[.slice ad n cap] w fun e w' => e = .returned r ∧ Below w.heap.size w w' := by
  obtain ⟨hv, hi⟩ := zero_of_info Try.info55
  have hs2 := tabAt_size 256
  obtain ⟨k, q, L, s, c, rfl⟩ := headR_shape hr
  have HR : Hid (headR K (.tuple #[headV k q L s, .int .i64 c])) := hr
  clear hr
  have hb0 : Below w.heap.size w (hw w) := (Below.refl _ _).alloc (Nat.le_refl _) _
  have hB := heap_alloc_new w (.cells #[Value.int IntKind.i64 0, Value.int IntKind.u64 0, Value.int IntKind.i64 0, Value.int IntKind.u32 0] 40)
  go_enter Try.func13, Try.ntmps13
  go_wp2_with (first
    | (go_at_call 21; refine (newTable_any _).mono ?_; rintro e w1 ⟨rfl, hb1⟩; have hz1 := hb1.size; have hnew := heap_alloc_new w1 (.cells (Array.replicate 256 (Value.int .u32 0)) 55))
    | (refine wpList_store_row rfl 55 (.tmp 4) (.tmp 5) rfl w1.heap.size 55 _ (tabAt 256) rfl rfl hnew (by rw [hs2]; exact hi) (by rw [hs2]; simp) (tabAt_one _) ?_; rw [World.setRow_alloc_new])
    | (go_at_call 29; refine (tableHead_any w1.heap.size ad n cap K _ HR.out _ (heap_alloc_new w1 _) (((h.below hb0).below hb1).below ((Below.refl _ _).alloc (Nat.le_refl _) _)) hK hcap).mono ?_; rintro e w2 ⟨rfl, hb2⟩; have hw2 : Below (w.heap.size + 1) (hw w) w2 := ((hb1.mono (by simp)).alloc (by simpa using hz1) _).trans (hb2.mono (by simp at hz1 ⊢; omega)); have hB2 := (hw2.block w.heap.size (by omega)).trans hB; have hc0 : w2.cell? ⟨w.heap.size, 0, none⟩ = some (.int .i64 0) := (by simp [World.cell?, hB2]); have hc1 : w2.cell? ⟨w.heap.size, 1, none⟩ = some (.int .u64 0) := (by simp [World.cell?, hB2]); have hc2 : w2.cell? ⟨w.heap.size, 2, none⟩ = some (.int .i64 0) := (by simp [World.cell?, hB2]); have hc3 : w2.cell? ⟨w.heap.size, 3, none⟩ = some (.int .u32 0) := (by simp [World.cell?, hB2]); have hf0 : w2.frozen? ⟨w.heap.size, 0, none⟩ = false := (by simp [World.frozen?, hB2]); have hf1 : w2.frozen? ⟨w.heap.size, 1, none⟩ = false := (by simp [World.frozen?, hB2]); have hf2 : w2.frozen? ⟨w.heap.size, 2, none⟩ = false := (by simp [World.frozen?, hB2]); have hf3 : w2.frozen? ⟨w.heap.size, 3, none⟩ = false := (by simp [World.frozen?, hB2]); unfold headV))
  have hld := head_set4 hB2 (.int .i64 k) (.int .u64 q) (.int .i64 L) (.int .u32 s)
  refine bodyPost_ret (v := .tuple #[headV k q L s, .int .i64 c]) ?_ rfl ⟨rfl, ?_⟩
  · rw [results_cell_tmp rfl]
    simp [asAddr, Result.andThen, hld, headV]
  · exact ((((hb0.trans (hw2.mono (by omega))).setCell (Nat.le_refl _) _).setCell (Nat.le_refl _) _).setCell (Nat.le_refl _) _).setCell (Nat.le_refl _) _
end Go.Proofs.Ytigpmmhofncgpaa
