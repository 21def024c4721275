/-
  bytes.Cut, laid at this program.
-/
import Derived.Shelf.Bytes.SlCut
import Derived.Test.YtlamdhklfibjmaaDoorProg
namespace Go.Proofs
open Go.Shelf
open Go.RowKit
def Tryd.cutT_ren : Go.Shelf.Ren := ⟨fun | 4 => 36 | 5 => 49 | 6 => 58 | 7 => 35 | 8 => 59 | 9 => 60 | 10 => 61 | 11 => 67 | 12 => 68 | n => n, fun | 22 => 44 | 4 => 4 | 3 => 3 | 0 => 0 | 5 => 5 | 29 => 87 | 9 => 9 | 31 => 93 | 30 => 28 | n => n, fun | 0 => 0 | n => n⟩
theorem Tryd.cutT : Go.Proofs.SlLaysT.n4 Tryd.prog Tryd.cutT_ren := {
  mixed := by kernel_rfl
  f4 := Tryd.func36.trans (congrArg some (by kernel_rfl))
  f5 := Tryd.func49.trans (congrArg some (by kernel_rfl))
  f6 := Tryd.func58.trans (congrArg some (by kernel_rfl))
  f7 := Tryd.func35.trans (congrArg some (by kernel_rfl))
  f8 := Tryd.func59.trans (congrArg some (by kernel_rfl))
  f9 := Tryd.func60.trans (congrArg some (by kernel_rfl))
  f10 := Tryd.func61.trans (congrArg some (by kernel_rfl))
  f11 := Tryd.func67.trans (congrArg some (by kernel_rfl))
  f12 := Tryd.func68.trans (congrArg some (by kernel_rfl))
  t0 := Tryd.underlying0
  a0 := Tryd.isAgg0
  z0 := Tryd.sizeOf0
  v0 := Tryd.zeroValue0
  t3 := Tryd.underlying3
  a3 := Tryd.isAgg3
  z3 := Tryd.sizeOf3
  v3 := Tryd.zeroValue3
  t4 := Tryd.underlying4
  a4 := Tryd.isAgg4
  z4 := Tryd.sizeOf4
  v4 := Tryd.zeroValue4
  t5 := Tryd.underlying5
  a5 := Tryd.isAgg5
  z5 := Tryd.sizeOf5
  v5 := Tryd.zeroValue5
  t9 := Tryd.underlying9
  a9 := Tryd.isAgg9
  z9 := Tryd.sizeOf9
  v9 := Tryd.zeroValue9
  t22 := Tryd.underlying44
  a22 := Tryd.isAgg44
  z22 := Tryd.sizeOf44
  v22 := Tryd.zeroValue44
  t29 := Tryd.underlying87
  a29 := Tryd.isAgg87
  z29 := Tryd.sizeOf87
  v29 := Tryd.zeroValue87
  t30 := Tryd.underlying28
  a30 := Tryd.isAgg28
  z30 := Tryd.sizeOf28
  v30 := Tryd.zeroValue28
  t31 := Tryd.underlying93
  a31 := Tryd.isAgg93
  z31 := Tryd.sizeOf93
  v31 := Tryd.zeroValue93
  g0 := by kernel_rfl }
end Go.Proofs
