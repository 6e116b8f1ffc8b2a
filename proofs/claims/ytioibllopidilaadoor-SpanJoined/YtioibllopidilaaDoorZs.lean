/-
  '==' at this layer's structs.
-/
import Derived.Test.YtioibllopidilaaDoorZf
import Derived.Laws.StructEq
namespace Go.Proofs.YtioibllopidilaaDoor
open Go.RowKit
set_option maxRecDepth 100000

def traceV (a b : Int) : Value := .agg #[.int .u64 a, .int .u64 b]
theorem eqI_trace (d : Nat) (a b a' b' : Int) (W : World) : (Op.equalIn (d + 2) 25 (.agg #[.int .u64 a, .int .u64 b]) (.agg #[.int .u64 a', .int .u64 b'])).run Tryd.prog W = .ok (decide (a = a' ∧ b = b')) W := by
  have u3 := Tryd.underlying23
  have a3 := Tryd.isAgg23
  have z3 := Tryd.sizeOf23
  have hS : Tryd.prog.underlying 25 = some (.struct (Tryd.prog.fieldsOf 25)) := by kernel_rfl
  have hp : Tryd.prog.stoodInHeld 25 = false := by kernel_rfl
  rw [run_equalIn_agg W (d + 1) 25 _ _ hS hp]
  simp only [Program.fieldsOf, Tryd.underlying25]
  go_simp
  by_cases h1 : a = a' <;> by_cases h2 : b = b' <;> simp [h1, h2]
theorem eqI_value (d : Nat) (k k' : Int) (s s' : ByteArray) (n n' : Int) (W : World) : (Op.equalIn (d + 2) 60 (.agg #[.int .i64 k, .string s, .int .i64 n]) (.agg #[.int .i64 k', .string s', .int .i64 n'])).run Tryd.prog W = .ok (decide (k = k' ∧ s = s' ∧ n = n')) W := by
  have u1 := Tryd.underlying58
  have a1 := Tryd.isAgg58
  have z1 := Tryd.sizeOf58
  have u2 := Tryd.underlying9
  have a2 := Tryd.isAgg9
  have z2 := Tryd.sizeOf9
  have u3 := Tryd.underlying2
  have a3 := Tryd.isAgg2
  have z3 := Tryd.sizeOf2
  have hS : Tryd.prog.underlying 60 = some (.struct (Tryd.prog.fieldsOf 60)) := by kernel_rfl
  have hp : Tryd.prog.stoodInHeld 60 = false := by kernel_rfl
  have hs : (s.toList == s'.toList) = decide (s = s') := by
    by_cases h : s = s'
    · simp [h]
    · have : ¬ s.toList = s'.toList := fun e => h (bytes_ext _ _ e)
      simp [h, this]
  rw [run_equalIn_agg W (d + 1) 60 _ _ hS hp]
  simp only [Program.fieldsOf, Tryd.underlying60]
  go_simp
  by_cases h1 : k = k' <;> by_cases h2 : s = s' <;> by_cases h3 : n = n' <;> simp [h1, h2, h3]
theorem eqI_event (d : Nat) (k k' : Int) (s s' : ByteArray) (W : World) : (Op.equalIn (d + 2) 64 (.agg #[.int .i64 k, .string s]) (.agg #[.int .i64 k', .string s'])).run Tryd.prog W = .ok (decide (k = k' ∧ s = s')) W := by
  have u2 := Tryd.underlying9
  have a2 := Tryd.isAgg9
  have z2 := Tryd.sizeOf9
  have u3 := Tryd.underlying2
  have a3 := Tryd.isAgg2
  have z3 := Tryd.sizeOf2
  have hS : Tryd.prog.underlying 64 = some (.struct (Tryd.prog.fieldsOf 64)) := by kernel_rfl
  have hp : Tryd.prog.stoodInHeld 64 = false := by kernel_rfl
  have hs : (s.toList == s'.toList) = decide (s = s') := by
    by_cases h : s = s'
    · simp [h]
    · have : ¬ s.toList = s'.toList := fun e => h (bytes_ext _ _ e)
      simp [h, this]
  rw [run_equalIn_agg W (d + 1) 64 _ _ hS hp]
  simp only [Program.fieldsOf, Tryd.underlying64]
  go_simp
  by_cases h1 : k = k' <;> by_cases h2 : s = s' <;> simp [h1, h2]
theorem eqI_name (d : Nat) (a b c a' b' c' : Int) (W : World) : (Op.equalIn (d + 3) 53 (.agg #[.int .u64 a, .int .u64 b, .int .u64 c]) (.agg #[.int .u64 a', .int .u64 b', .int .u64 c'])).run Tryd.prog W = .ok (decide (a = a' ∧ b = b' ∧ c = c')) W := by
  have u3 := Tryd.underlying26
  have a3 := Tryd.isAgg26
  have z3 := Tryd.sizeOf26
  have a4 := Tryd.isAgg25
  have z4 := Tryd.sizeOf25
  have hT := eqI_trace d a b a' b'
  have hS : Tryd.prog.underlying 53 = some (.struct (Tryd.prog.fieldsOf 53)) := by kernel_rfl
  have hp : Tryd.prog.stoodInHeld 53 = false := by kernel_rfl
  rw [run_equalIn_agg W (d + 2) 53 _ _ hS hp]
  simp only [Program.fieldsOf, Tryd.underlying53]
  go_simp
  by_cases h1 : a = a' <;> by_cases h2 : b = b' <;> by_cases h3 : c = c' <;> simp [h1, h2, h3]
theorem eqI_attr (d : Nat) (x y : AttrD) (W : World) : (Op.equalIn (d + 3) 62 (.agg #[.string x.key, .int .i64 x.kind, .string x.text, .int .i64 x.num]) (.agg #[.string y.key, .int .i64 y.kind, .string y.text, .int .i64 y.num])).run Tryd.prog W = .ok (decide (x.key = y.key ∧ x.kind = y.kind ∧ x.text = y.text ∧ x.num = y.num)) W := by
  have u2 := Tryd.underlying9
  have a2 := Tryd.isAgg9
  have z2 := Tryd.sizeOf9
  have a4 := Tryd.isAgg60
  have z4 := Tryd.sizeOf60
  have hT := eqI_value d x.kind y.kind x.text y.text x.num y.num
  have hs : (x.key.toList == y.key.toList) = decide (x.key = y.key) := by
    by_cases h : x.key = y.key
    · simp [h]
    · have : ¬ x.key.toList = y.key.toList := fun e => h (bytes_ext _ _ e)
      simp [h, this]
  have hS : Tryd.prog.underlying 62 = some (.struct (Tryd.prog.fieldsOf 62)) := by kernel_rfl
  have hp : Tryd.prog.stoodInHeld 62 = false := by kernel_rfl
  rw [run_equalIn_agg W (d + 2) 62 _ _ hS hp]
  simp only [Program.fieldsOf, Tryd.underlying62]
  go_simp
  by_cases h1 : x.key = y.key <;> by_cases h2 : x.kind = y.kind <;> by_cases h3 : x.text = y.text <;> by_cases h4 : x.num = y.num <;> simp [h1, h2, h3, h4]

theorem run_neq_of {T : TypeId} {xs ys : Array Value} {b : Bool} {W : World} (h : (Op.equalIn 10000 T (.agg xs) (.agg ys)).run Tryd.prog W = .ok b W) : (binOp .neq T (.agg xs) (.agg ys)).run Tryd.prog W = .ok (.bool (!b)) W := by
  rw [run_neq_struct, h]; rfl
theorem run_eql_of {T : TypeId} {xs ys : Array Value} {b : Bool} {W : World} (h : (Op.equalIn 10000 T (.agg xs) (.agg ys)).run Tryd.prog W = .ok b W) : (binOp .eql T (.agg xs) (.agg ys)).run Tryd.prog W = .ok (.bool b) W := by
  rw [run_eql_struct, h]; rfl
theorem guard_trace : Tryd.prog.eqGuardType Tryd.prog.depth 25 = false := by kernel_rfl
theorem guard_name : Tryd.prog.eqGuardType Tryd.prog.depth 53 = false := by kernel_rfl
theorem guard_attr : Tryd.prog.eqGuardType Tryd.prog.depth 62 = false := by kernel_rfl
theorem guard_event : Tryd.prog.eqGuardType Tryd.prog.depth 64 = false := by kernel_rfl
end Go.Proofs.YtioibllopidilaaDoor
