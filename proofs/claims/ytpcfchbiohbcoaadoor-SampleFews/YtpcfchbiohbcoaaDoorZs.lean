/-
  Zs.
-/
import Derived.Test.YtpcfchbiohbcoaaDoorZf
import Derived.Laws.StructEq
namespace Go.Proofs.YtpcfchbiohbcoaaDoor
open Go.RowKit
set_option maxRecDepth 100000

def traceV (a b : Int) : Value := .agg #[.int .u64 a, .int .u64 b]
theorem eqI_trace (d : Nat) (a b a' b' : Int) (W : World) : (Op.equalIn (d + 2) 33 (.agg #[.int .u64 a, .int .u64 b]) (.agg #[.int .u64 a', .int .u64 b'])).run Tryd.prog W = .ok (decide (a = a' ∧ b = b')) W := by
  have u3 := Tryd.underlying31
  have a3 := Tryd.isAgg31
  have z3 := Tryd.sizeOf31
  have hS : Tryd.prog.underlying 33 = some (.struct (Tryd.prog.fieldsOf 33)) := by kernel_rfl
  have hp : Tryd.prog.stoodInHeld 33 = false := by kernel_rfl
  rw [run_equalIn_agg W (d + 1) 33 _ _ hS hp]
  simp only [Program.fieldsOf, Tryd.underlying33]
  go_simp
  by_cases h1 : a = a' <;> by_cases h2 : b = b' <;> simp [h1, h2]
theorem eqI_value (d : Nat) (k k' : Int) (s s' : ByteArray) (n n' : Int) (W : World) : (Op.equalIn (d + 2) 118 (.agg #[.int .i64 k, .string s, .int .i64 n]) (.agg #[.int .i64 k', .string s', .int .i64 n'])).run Tryd.prog W = .ok (decide (k = k' ∧ s = s' ∧ n = n')) W := by
  have u1 := Tryd.underlying116
  have a1 := Tryd.isAgg116
  have z1 := Tryd.sizeOf116
  have u2 := Tryd.underlying9
  have a2 := Tryd.isAgg9
  have z2 := Tryd.sizeOf9
  have u3 := Tryd.underlying2
  have a3 := Tryd.isAgg2
  have z3 := Tryd.sizeOf2
  have hS : Tryd.prog.underlying 118 = some (.struct (Tryd.prog.fieldsOf 118)) := by kernel_rfl
  have hp : Tryd.prog.stoodInHeld 118 = false := by kernel_rfl
  have hs : (s.toList == s'.toList) = decide (s = s') := by
    by_cases h : s = s'
    · simp [h]
    · have : ¬ s.toList = s'.toList := fun e => h (bytes_ext _ _ e)
      simp [h, this]
  rw [run_equalIn_agg W (d + 1) 118 _ _ hS hp]
  simp only [Program.fieldsOf, Tryd.underlying118]
  go_simp
  by_cases h1 : k = k' <;> by_cases h2 : s = s' <;> by_cases h3 : n = n' <;> simp [h1, h2, h3]
theorem eqI_event (d : Nat) (k k' : Int) (s s' : ByteArray) (W : World) : (Op.equalIn (d + 2) 125 (.agg #[.int .i64 k, .string s]) (.agg #[.int .i64 k', .string s'])).run Tryd.prog W = .ok (decide (k = k' ∧ s = s')) W := by
  have u2 := Tryd.underlying9
  have a2 := Tryd.isAgg9
  have z2 := Tryd.sizeOf9
  have u3 := Tryd.underlying2
  have a3 := Tryd.isAgg2
  have z3 := Tryd.sizeOf2
  have hS : Tryd.prog.underlying 125 = some (.struct (Tryd.prog.fieldsOf 125)) := by kernel_rfl
  have hp : Tryd.prog.stoodInHeld 125 = false := by kernel_rfl
  have hs : (s.toList == s'.toList) = decide (s = s') := by
    by_cases h : s = s'
    · simp [h]
    · have : ¬ s.toList = s'.toList := fun e => h (bytes_ext _ _ e)
      simp [h, this]
  rw [run_equalIn_agg W (d + 1) 125 _ _ hS hp]
  simp only [Program.fieldsOf, Tryd.underlying125]
  go_simp
  by_cases h1 : k = k' <;> by_cases h2 : s = s' <;> simp [h1, h2]
theorem eqI_attr (d : Nat) (x y : AttrD) (W : World) : (Op.equalIn (d + 3) 120 (.agg #[.string x.key, .int .i64 x.kind, .string x.text, .int .i64 x.num]) (.agg #[.string y.key, .int .i64 y.kind, .string y.text, .int .i64 y.num])).run Tryd.prog W = .ok (decide (x.key = y.key ∧ x.kind = y.kind ∧ x.text = y.text ∧ x.num = y.num)) W := by
  have u2 := Tryd.underlying9
  have a2 := Tryd.isAgg9
  have z2 := Tryd.sizeOf9
  have a4 := Tryd.isAgg118
  have z4 := Tryd.sizeOf118
  have hT := eqI_value d x.kind y.kind x.text y.text x.num y.num
  have hs : (x.key.toList == y.key.toList) = decide (x.key = y.key) := by
    by_cases h : x.key = y.key
    · simp [h]
    · have : ¬ x.key.toList = y.key.toList := fun e => h (bytes_ext _ _ e)
      simp [h, this]
  have hS : Tryd.prog.underlying 120 = some (.struct (Tryd.prog.fieldsOf 120)) := by kernel_rfl
  have hp : Tryd.prog.stoodInHeld 120 = false := by kernel_rfl
  rw [run_equalIn_agg W (d + 2) 120 _ _ hS hp]
  simp only [Program.fieldsOf, Tryd.underlying120]
  go_simp
  by_cases h1 : x.key = y.key <;> by_cases h2 : x.kind = y.kind <;> by_cases h3 : x.text = y.text <;> by_cases h4 : x.num = y.num <;> simp [h1, h2, h3, h4]

theorem run_neq_of {T : TypeId} {xs ys : Array Value} {b : Bool} {W : World} (h : (Op.equalIn 10000 T (.agg xs) (.agg ys)).run Tryd.prog W = .ok b W) : (binOp .neq T (.agg xs) (.agg ys)).run Tryd.prog W = .ok (.bool (!b)) W := by
  rw [run_neq_struct, h]; rfl
theorem run_eql_of {T : TypeId} {xs ys : Array Value} {b : Bool} {W : World} (h : (Op.equalIn 10000 T (.agg xs) (.agg ys)).run Tryd.prog W = .ok b W) : (binOp .eql T (.agg xs) (.agg ys)).run Tryd.prog W = .ok (.bool b) W := by
  rw [run_eql_struct, h]; rfl
theorem guard_trace : Tryd.prog.eqGuardType Tryd.prog.depth 33 = false := by kernel_rfl
theorem guard_attr : Tryd.prog.eqGuardType Tryd.prog.depth 120 = false := by kernel_rfl
theorem guard_event : Tryd.prog.eqGuardType Tryd.prog.depth 125 = false := by kernel_rfl
end Go.Proofs.YtpcfchbiohbcoaaDoor
