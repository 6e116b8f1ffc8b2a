/-
  Contracts: errors.Is at a *api.Fault.
-/
import Derived.Test.YtpbpkhbmopjdjaaDoorEr
import Derived.Lib.IfaceEq
namespace Go.Proofs.YtpbpkhbmopjdjaaDoor
open Go.RowKit Go.Extern.Stop Go.Stop Go.Extern
set_option maxRecDepth 100000

theorem is_typeOf (v : Value) (w : World) : (ReflectliteType.typeOf #[.iface 70 v]).run Tryd.prog w = .ok (.iface 149 (.agg #[.pointer (some ⟨3, 70, none⟩)])) w := by kernel_rfl
theorem is_comparable (w : World) : (ReflectliteType.method (fun t => do Rtype.noPackHeld "Comparable" t; pure (.bool (← typeInfo t).comparable)) #[.agg #[.pointer (some ⟨3, 70, none⟩)]]).run Tryd.prog w = .ok (.bool true) w := by kernel_rfl
theorem is_noIs (v : Value) (xT : TypeId) (w : World) : (Instr.typeAssert (.iface 103 v) xT 159 true).run Tryd.prog w = .ok (.tuple #[.nilIface, .bool false]) w := run_typeAssert_lacksB Tryd.underlying159 (by kernel_rfl) (by kernel_rfl) v xT w
theorem is_hasUnwrap (v : Value) (xT : TypeId) (w : World) : (Instr.typeAssert (.iface 103 v) xT 156 true).run Tryd.prog w = .ok (.tuple #[.iface 103 v, .bool true]) w := run_typeAssert_hasB Tryd.underlying156 (by kernel_rfl) v xT w
theorem is_methodUnwrap (v : Value) (w : World) : (Go.method 295 103 v "Unwrap").run Tryd.prog w = .ok (102, v) w := by kernel_rfl

set_option maxHeartbeats 4000000 in
theorem is_fault (p : Nat) (no : Int) (w : World) (h1 : w.cell? ⟨p, 1, none⟩ = some (.int .i64 no)) :
    Calls Tryd.prog 55 #[.iface 103 (.pointer (some ⟨p, 0, none⟩)), .iface 70 (.int .i64 no)] w fun ev w' => ev = .returned (.bool true) ∧ w' = w := by
  have h75 := @run_callFunc_extern Tryd.prog 75 _ ReflectliteType.typeOf Tryd.func75 (by kernel_rfl) (by kernel_rfl) (by kernel_rfl) (by kernel_rfl)
  have h108 := @run_callFunc_extern Tryd.prog 108 _ (ReflectliteType.method (fun t => do Rtype.noPackHeld "Comparable" t; pure (.bool (← typeInfo t).comparable))) Tryd.func108 (by kernel_rfl) (by kernel_rfl) (by kernel_rfl) (by kernel_rfl)
  have tT := is_typeOf
  have hC : ∀ W : World, (callFunc 108 #[.agg #[.pointer (some ⟨3, 70, none⟩)]]).run Tryd.prog W = .ok (.value (.bool true)) W := fun W => (h108 _ W).trans (by rw [is_comparable]; rfl)
  clear h108
  have mR := er_methodComparable
  have nI := is_noIs
  have uW := is_hasUnwrap
  have mU := is_methodUnwrap
  have hty := run_eql_iface_types (P := Tryd.prog) 103 70 (.pointer (some ⟨p, 0, none⟩)) (.int .i64 no) Tryd.underlying62 (by decide) w
  have heq := Lib.run_eql_iface_int (P := Tryd.prog) w (t := 62) (tx := 70) (k := .i64) (q := .i64) no no Tryd.underlying62 (by kernel_rfl) Tryd.underlying70
  rw [show (no == no) = true by simp] at heq
  go_enter Tryd.func55, Tryd.ntmps55
  go_wp2
  refine wp_loop_rounds 2 ?_
  rw [rounds_succ]
  go_wp2
  rw [rounds_succ]
  go_wp2
  go_ret
  exact ⟨rfl, rfl⟩
end Go.Proofs.YtpbpkhbmopjdjaaDoor
