/-
  Layer 7 (disk): find of any name.
-/
import Derived.Test.YtgoafinbaiepmaaGreatDoorDp
import Derived.Test.YtgoafinbaiepmaaGreatDoorDg
namespace Go.Proofs.YtgoafinbaiepmaaGreatDoor
open Go.RowKit Go.Shelf Go.Maps Go.WideMaps
set_option maxRecDepth 100000

theorem keyS (s : ByteArray) (hs : s.size ≤ 140737488355328) : keyOf Tryz.prog 9 (.string s) = some (.string s.data.toList) :=
  keyOf_string_mk (P := Tryz.prog) Tryz.underlying9 (s := s) (by unfold maxLen; omega)
/-- The disk has a file of that name: its number, its block. -/
structure HasN (K : Dk) (s : ByteArray) (n f : Nat) : Prop where
  has : Maps.has K.DN (.string s.data.toList) = true
  at_ : K.DN.atKey (.string s.data.toList) (.lit (.int .i64 0)) = .lit (.int .i64 (n : Int))
  fat : K.DF.atKey (.int .i64 (n : Int)) .nil = .lit (.int .i64 (f : Int))
  lt : n < 9223372036854775808
set_option maxHeartbeats 1000000 in
theorem findN_any (base d N : Nat) (K : Dk) (n f : Nat) (w : World) (h : DiskAt base w d N K) (ho : K.off = false) (s : ByteArray) (hs : s.size ≤ 140737488355328) (hok : nameB s = true) (ha : HasN K s n f) :
    Calls Tryz.prog 101 #[.pointer (some ⟨d, 0, none⟩), .string s] w fun e w' => e = .returned (.tuple #[.pointer (some ⟨f, 0, none⟩), .int .i64 0]) ∧ w' = w := by
  have RF := refuse_any base d N K s w h hs
  rw [show refB K.off s = 0 by unfold refB; rw [ho, hok]; rfl] at RF
  obtain ⟨c0, c1, c2, c3, c4, c5, c6, c7, c8⟩ := h.cells
  have mN := h.mN
  have mF := h.mF
  have zI : ∀ w, (zeroValue 3).run Tryz.prog w = .ok (.int .i64 0) w := by intro w; kernel_rfl
  have zP : ∀ w, (zeroValue 157).run Tryz.prog w = .ok (.pointer none) w := by intro w; kernel_rfl
  obtain ⟨v, ps, L1, V1⟩ := mN.look_ok law_s Tryz.underlying91 (zI w) (plainElem_int Tryz.underlying3 (by decide)) (keyS s hs)
  rw [ha.has] at L1
  rw [ha.at_] at V1
  obtain ⟨c, rfl, hc, _⟩ := plainElem_int_inv Tryz.underlying3 V1
  have hcn : (n : Int) = c := by simpa using congrArg Prod.fst hc
  subst hcn
  obtain ⟨v2, ps2, L2, V2⟩ := mF.lookup law_i Tryz.underlying90 (zP w) ptrR_nil (keyI n ha.lt)
  rw [ha.fat] at V2
  obtain ⟨k, rfl, hk⟩ := ptrR_inv V2
  obtain rfl : k = f := by omega
  clear h mN mF V1 V2 ha hc hk c1 c3 c4 c5 c6 c7 zI zP
  go_enter Tryz.func101, Tryz.ntmps101
  go_wp2_with (go_at_call 136; refine RF.mono ?_; rintro e w' ⟨rfl, hw⟩; obtain rfl := hw.symm)
  go_ret2
  exact ⟨rfl, rfl⟩
set_option maxHeartbeats 1000000 in
theorem findN_none (base d N : Nat) (K : Dk) (w : World) (h : DiskAt base w d N K) (ho : K.off = false) (s : ByteArray) (hs : s.size ≤ 140737488355328) (hok : nameB s = true) (ha : Maps.has K.DN (.string s.data.toList) = false) :
    Calls Tryz.prog 101 #[.pointer (some ⟨d, 0, none⟩), .string s] w fun e w' => e = .returned (.tuple #[.pointer none, .int .i64 72]) ∧ w' = w := by
  have RF := refuse_any base d N K s w h hs
  rw [show refB K.off s = 0 by unfold refB; rw [ho, hok]; rfl] at RF
  obtain ⟨c0, c1, c2, c3, c4, c5, c6, c7, c8⟩ := h.cells
  have mN := h.mN
  have zI : ∀ w, (zeroValue 3).run Tryz.prog w = .ok (.int .i64 0) w := by intro w; kernel_rfl
  obtain ⟨v, ps, L1, V1⟩ := mN.look_ok law_s Tryz.underlying91 (zI w) (plainElem_int Tryz.underlying3 (by decide)) (keyS s hs)
  rw [ha] at L1
  rw [atKey_of_not_has ha] at V1
  obtain ⟨c, rfl, hc, _⟩ := plainElem_int_inv Tryz.underlying3 V1
  clear h mN V1 ha hc c1 c3 c4 c5 c6 c7 zI
  go_enter Tryz.func101, Tryz.ntmps101
  go_wp2_with (go_at_call 136; refine RF.mono ?_; rintro e w' ⟨rfl, hw⟩; obtain rfl := hw.symm)
  go_ret2
  exact ⟨rfl, rfl⟩
end Go.Proofs.YtgoafinbaiepmaaGreatDoor
