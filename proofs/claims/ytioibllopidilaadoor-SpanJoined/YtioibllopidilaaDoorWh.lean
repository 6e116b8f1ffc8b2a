/-
  unicode/utf8.DecodeRune's contract of the shelf, at this dump.
-/
import Derived.Shelf.Spec.DecodeRune
import Derived.Test.YtioibllopidilaaDoorWa
namespace Go.Proofs.YtioibllopidilaaDoor
open Go.Shelf Go.RowKit
def lays32_ren : Go.Shelf.Ren := ⟨fun | 32 => 102 | 49 => 103 | n => n, fun | 30 => 42 | 21 => 21 | 3 => 3 | 0 => 0 | 5 => 5 | 4 => 4 | 33 => 159 | 66 => 129 | 25 => 105 | 69 => 132 | 68 => 131 | n => n, fun | 2 => 0 | 3 => 1 | n => n⟩
theorem lays32 : Go.Proofs.Lays7.n32 Tryd.prog lays32_ren := {
  mixed := by kernel_rfl
  f32 := Tryd.func102.trans (congrArg some (by kernel_rfl))
  f49 := Tryd.func103.trans (congrArg some (by kernel_rfl))
  t0 := Tryd.underlying0
  a0 := Tryd.isAgg0
  z0 := Tryd.sizeOf0
  v0 := Tryd.zeroValue0
  i0 := by kernel_rfl
  t3 := Tryd.underlying3
  a3 := Tryd.isAgg3
  z3 := Tryd.sizeOf3
  v3 := Tryd.zeroValue3
  i3 := by kernel_rfl
  t4 := Tryd.underlying4
  a4 := Tryd.isAgg4
  z4 := Tryd.sizeOf4
  v4 := Tryd.zeroValue4
  i4 := by kernel_rfl
  t5 := Tryd.underlying5
  a5 := Tryd.isAgg5
  z5 := Tryd.sizeOf5
  v5 := Tryd.zeroValue5
  i5 := by kernel_rfl
  t21 := Tryd.underlying21
  a21 := Tryd.isAgg21
  z21 := Tryd.sizeOf21
  v21 := Tryd.zeroValue21
  i21 := by kernel_rfl
  t25 := Tryd.underlying105
  a25 := Tryd.isAgg105
  z25 := Tryd.sizeOf105
  v25 := Tryd.zeroValue105
  i25 := by kernel_rfl
  t30 := Tryd.underlying42
  a30 := Tryd.isAgg42
  z30 := Tryd.sizeOf42
  v30 := Tryd.zeroValue42
  i30 := by kernel_rfl
  t33 := Tryd.underlying159
  a33 := Tryd.isAgg159
  z33 := Tryd.sizeOf159
  v33 := Tryd.zeroValue159
  i33 := by kernel_rfl
  t66 := Tryd.underlying129
  a66 := Tryd.isAgg129
  z66 := Tryd.sizeOf129
  t68 := Tryd.underlying131
  a68 := Tryd.isAgg131
  z68 := Tryd.sizeOf131
  v68 := Tryd.zeroValue131
  i68 := by kernel_rfl
  t69 := Tryd.underlying132
  a69 := Tryd.isAgg132
  z69 := Tryd.sizeOf132
  v69 := Tryd.zeroValue132
  i69 := by kernel_rfl
  g2 := by kernel_rfl
  g3 := by kernel_rfl }
end Go.Proofs.YtioibllopidilaaDoor
