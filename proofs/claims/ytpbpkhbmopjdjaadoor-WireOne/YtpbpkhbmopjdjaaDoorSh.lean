/-
  unicode/utf8.DecodeRune's contract of the shelf, at this dump.
-/
import Derived.Shelf.Spec.DecodeRune
import Derived.Test.YtpbpkhbmopjdjaaDoorCl
namespace Go.Proofs.YtpbpkhbmopjdjaaDoor
open Go.Shelf Go.RowKit
def lays32_ren : Go.Shelf.Ren := ⟨fun | 32 => 79 | 49 => 82 | n => n, fun | 30 => 55 | 21 => 21 | 3 => 3 | 0 => 0 | 5 => 5 | 4 => 4 | 33 => 146 | 66 => 162 | 25 => 93 | 69 => 165 | 68 => 164 | n => n, fun | 2 => 1 | 3 => 2 | n => n⟩
theorem lays32 : Go.Proofs.Lays7.n32 Tryd.prog lays32_ren := {
  mixed := by kernel_rfl
  f32 := Tryd.func79.trans (congrArg some (by kernel_rfl))
  f49 := Tryd.func82.trans (congrArg some (by kernel_rfl))
  t0 := Tryd.underlying0
  a0 := Tryd.isAgg0
  z0 := Tryd.sizeOf0
  v0 := Tryd.zeroValue0
  i0 := by kernel_rfl
  t3 := Tryd.underlying3
  a3 := Tryd.isAgg3
  z3 := Tryd.sizeOf3
  v3 := Tryd.zeroValue3
  i3 := by kernel_rfl
  t4 := Tryd.underlying4
  a4 := Tryd.isAgg4
  z4 := Tryd.sizeOf4
  v4 := Tryd.zeroValue4
  i4 := by kernel_rfl
  t5 := Tryd.underlying5
  a5 := Tryd.isAgg5
  z5 := Tryd.sizeOf5
  v5 := Tryd.zeroValue5
  i5 := by kernel_rfl
  t21 := Tryd.underlying21
  a21 := Tryd.isAgg21
  z21 := Tryd.sizeOf21
  v21 := Tryd.zeroValue21
  i21 := by kernel_rfl
  t25 := Tryd.underlying93
  a25 := Tryd.isAgg93
  z25 := Tryd.sizeOf93
  v25 := Tryd.zeroValue93
  i25 := by kernel_rfl
  t30 := Tryd.underlying55
  a30 := Tryd.isAgg55
  z30 := Tryd.sizeOf55
  v30 := Tryd.zeroValue55
  i30 := by kernel_rfl
  t33 := Tryd.underlying146
  a33 := Tryd.isAgg146
  z33 := Tryd.sizeOf146
  v33 := Tryd.zeroValue146
  i33 := by kernel_rfl
  t66 := Tryd.underlying162
  a66 := Tryd.isAgg162
  z66 := Tryd.sizeOf162
  t68 := Tryd.underlying164
  a68 := Tryd.isAgg164
  z68 := Tryd.sizeOf164
  v68 := Tryd.zeroValue164
  i68 := by kernel_rfl
  t69 := Tryd.underlying165
  a69 := Tryd.isAgg165
  z69 := Tryd.sizeOf165
  v69 := Tryd.zeroValue165
  i69 := by kernel_rfl
  g2 := by kernel_rfl
  g3 := by kernel_rfl }
end Go.Proofs.YtpbpkhbmopjdjaaDoor
