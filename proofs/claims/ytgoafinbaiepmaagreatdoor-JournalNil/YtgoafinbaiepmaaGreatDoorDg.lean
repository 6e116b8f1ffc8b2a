/-
  Layer 7 (disk): find, fire; Append, Sync, Size, Read of the file a.
-/
import Derived.Test.YtgoafinbaiepmaaGreatDoorDf
namespace Go.Proofs.YtgoafinbaiepmaaGreatDoor
open Go.RowKit Go.Shelf Go.Maps Go.WideMaps
set_option maxRecDepth 100000

theorem keyA : keyOf Tryz.prog 9 (.string ⟨#[97]⟩) = some (.string [97]) := by
  have := keyOf_string_mk (P := Tryz.prog) Tryz.underlying9 (s := ⟨#[97]⟩) (by decide)
  exact this
theorem wf_i64 (n : Nat) (h : n < 9223372036854775808) : (Lit.int .i64 (n : Int)).wf = true := by
  have h1 : (0 : Int) ≤ (n : Int) := by omega
  have h2 : (n : Int) < 9223372036854775808 := by omega
  simp [Lit.wf, IntKind.min, IntKind.max, IntKind.bits, IntKind.signed]
  omega
theorem keyI (n : Nat) (h : n < 9223372036854775808) : keyOf Tryz.prog 3 (.int .i64 (n : Int)) = some (.int .i64 (n : Int)) :=
  keyOf_int_mk Tryz.underlying3 (wf_i64 n h)
/-- The disk has the file a: its number, its block. -/
structure HasA (K : Dk) (n f : Nat) : Prop where
  has : Maps.has K.DN (.string [97]) = true
  at_ : K.DN.atKey (.string [97]) (.lit (.int .i64 0)) = .lit (.int .i64 (n : Int))
  fat : K.DF.atKey (.int .i64 (n : Int)) .nil = .lit (.int .i64 (f : Int))
  lt : n < 9223372036854775808
set_option maxHeartbeats 1000000 in
theorem find_a (base d N : Nat) (K : Dk) (n f : Nat) (w : World) (h : DiskAt base w d N K) (ho : K.off = false) (ha : HasA K n f) :
    Calls Tryz.prog 101 #[.pointer (some ⟨d, 0, none⟩), .string ⟨#[97]⟩] w fun e w' => e = .returned (.tuple #[.pointer (some ⟨f, 0, none⟩), .int .i64 0]) ∧ w' = w := by
  have RF := refuse_a base d N K w h ho
  obtain ⟨c0, c1, c2, c3, c4, c5, c6, c7, c8⟩ := h.cells
  have mN := h.mN
  have mF := h.mF
  have zI : ∀ w, (zeroValue 3).run Tryz.prog w = .ok (.int .i64 0) w := by intro w; kernel_rfl
  have zP : ∀ w, (zeroValue 157).run Tryz.prog w = .ok (.pointer none) w := by intro w; kernel_rfl
  obtain ⟨v, ps, L1, V1⟩ := mN.look_ok law_s Tryz.underlying91 (zI w) (plainElem_int Tryz.underlying3 (by decide)) keyA
  rw [ha.has] at L1
  rw [ha.at_] at V1
  obtain ⟨c, rfl, hc, _⟩ := plainElem_int_inv Tryz.underlying3 V1
  have hcn : (n : Int) = c := by simpa using congrArg Prod.fst hc
  subst hcn
  obtain ⟨v2, ps2, L2, V2⟩ := mF.lookup law_i Tryz.underlying90 (zP w) ptrR_nil (keyI n ha.lt)
  rw [ha.fat] at V2
  obtain ⟨k, rfl, hk⟩ := ptrR_inv V2
  obtain rfl : k = f := by omega
  clear h mN mF V1 V2 ha hc hk c1 c3 c4 c5 c6 c7 zI zP
  go_enter Tryz.func101, Tryz.ntmps101
  go_wp2_with (go_at_call 136; refine RF.mono ?_; rintro e w' ⟨rfl, hw⟩; obtain rfl := hw.symm)
  go_ret2
  exact ⟨rfl, rfl⟩
set_option maxHeartbeats 1000000 in
theorem find_none (base d N : Nat) (K : Dk) (w : World) (h : DiskAt base w d N K) (ho : K.off = false) (ha : Maps.has K.DN (.string [97]) = false) :
    Calls Tryz.prog 101 #[.pointer (some ⟨d, 0, none⟩), .string ⟨#[97]⟩] w fun e w' => e = .returned (.tuple #[.pointer none, .int .i64 72]) ∧ w' = w := by
  have RF := refuse_a base d N K w h ho
  obtain ⟨c0, c1, c2, c3, c4, c5, c6, c7, c8⟩ := h.cells
  have mN := h.mN
  have zI : ∀ w, (zeroValue 3).run Tryz.prog w = .ok (.int .i64 0) w := by intro w; kernel_rfl
  obtain ⟨v, ps, L1, V1⟩ := mN.look_ok law_s Tryz.underlying91 (zI w) (plainElem_int Tryz.underlying3 (by decide)) keyA
  rw [ha] at L1
  rw [atKey_of_not_has ha] at V1
  obtain ⟨c, rfl, hc, _⟩ := plainElem_int_inv Tryz.underlying3 V1
  clear h mN V1 ha hc c1 c3 c4 c5 c6 c7 zI
  go_enter Tryz.func101, Tryz.ntmps101
  go_wp2_with (go_at_call 136; refine RF.mono ?_; rintro e w' ⟨rfl, hw⟩; obtain rfl := hw.symm)
  go_ret2
  exact ⟨rfl, rfl⟩
/-- fire of a disk that is not armed. -/
theorem cells_same5 (K : Dk) (h : K.a1 = 0) : K.cells.setIfInBounds 5 (.int .i64 0) = K.cells := by
  unfold Dk.cells; rw [h]; rfl
set_option maxHeartbeats 1000000 in
theorem fire_zero (base d N : Nat) (K : Dk) (w : World) (h : DiskAt base w d N K) (ha : K.a1 = 0) :
    Calls Tryz.prog 131 #[.pointer (some ⟨d, 0, none⟩)] w fun e w' => e = .returned (.tuple #[.int .i64 9223372036854775807, .int .i64 0]) ∧ DiskAt base w' d N K ∧ (∀ k : Nat, w'.heap[k]? = w.heap[k]?) ∧ Upd (fun k => k = d) w w' := by
  have hb := h.block
  have R : DiskAt base (w.setCell ⟨d, 5, none⟩ (.int .i64 0)) d N K ∧ (∀ k : Nat, (w.setCell ⟨d, 5, none⟩ (.int .i64 0)).heap[k]? = w.heap[k]?) ∧ Upd (fun k => k = d) w (w.setCell ⟨d, 5, none⟩ (.int .i64 0)) := by
    have e1 := blk_set hb 5 (.int .i64 0)
    rw [cells_same5 K ha] at e1
    have same : ∀ k : Nat, (w.setCell ⟨d, 5, none⟩ (.int .i64 0)).heap[k]? = w.heap[k]? := fun k => by
      by_cases hk : k = d
      · subst hk; rw [e1, hb]
      · exact Below.heap_setCell _ _ _ k hk
    have U : Upd (fun k => k = d) w (w.setCell ⟨d, 5, none⟩ (.int .i64 0)) := (Upd.refl (fun k => k = d) w).setCell (p := ⟨d, 5, none⟩) (fun _ => rfl) _
    refine ⟨h.upd (S := fun _ => False) ⟨U.os, U.tape, U.output, U.size, fun k _ _ => same k⟩ (fun _ _ h => h), same, U⟩
  have c5 := h.cells.c5
  have f5 := free3 hb 5
  rw [ha] at c5
  clear h hb
  go_enter Tryz.func131, Tryz.ntmps131
  go_wp2
  go_ret2
  exact ⟨rfl, R⟩
end Go.Proofs.YtgoafinbaiepmaaGreatDoor
