/- slices.Insert at []int, by the library's contract: which functions of this program it is. -/
import Derived.Shelf.Spec.SlicesInsertGrow
import Derived.Test.YteingehdkpfpcaaDoorProg
namespace Go.Proofs.YteingehdkpfpcaaDoor
namespace Ins
open Go.Shelf
def insI_ren : Go.Shelf.Ren := ⟨fun | 21 => 52 | 27 => 59 | 28 => 60 | 35 => 63 | 39 => 64 | n => n, fun | 22 => 29 | 3 => 3 | 4 => 4 | 0 => 0 | n => n, fun | n => n⟩
theorem insI : Go.Proofs.Lays2.n21 Tryd.prog insI_ren := {
  mixed := by kernel_rfl
  f21 := Tryd.func52.trans (congrArg some (by kernel_rfl))
  f27 := Tryd.func59.trans (congrArg some (by kernel_rfl))
  f28 := Tryd.func60.trans (congrArg some (by kernel_rfl))
  f35 := Tryd.func63.trans (congrArg some (by kernel_rfl))
  f39 := Tryd.func64.trans (congrArg some (by kernel_rfl))
  t0 := Tryd.underlying0
  a0 := Tryd.isAgg0
  z0 := Tryd.sizeOf0
  v0 := Tryd.zeroValue0
  t3 := Tryd.underlying3
  a3 := Tryd.isAgg3
  z3 := Tryd.sizeOf3
  v3 := Tryd.zeroValue3
  t4 := Tryd.underlying4
  a4 := Tryd.isAgg4
  z4 := Tryd.sizeOf4
  v4 := Tryd.zeroValue4
  t22 := Tryd.underlying29
  a22 := Tryd.isAgg29
  z22 := Tryd.sizeOf29
  v22 := Tryd.zeroValue29
  i3 := by kernel_rfl }
end Ins
end Go.Proofs.YteingehdkpfpcaaDoor
