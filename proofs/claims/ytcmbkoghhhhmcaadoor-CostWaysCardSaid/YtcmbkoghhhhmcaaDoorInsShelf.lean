/- slices.Insert at []int, by the library's contract: which functions of this program it is. -/
import Derived.Shelf.Spec.SlicesInsertGrow
import Derived.Test.YtcmbkoghhhhmcaaDoorProg
namespace Go.Proofs.YtcmbkoghhhhmcaaDoor
namespace Ins
open Go.Shelf
def insI_ren : Go.Shelf.Ren := ⟨fun | 21 => 44 | 27 => 49 | 28 => 50 | 35 => 51 | 39 => 52 | n => n, fun | 22 => 34 | 3 => 3 | 4 => 4 | 0 => 0 | n => n, fun | n => n⟩
theorem insI : Go.Proofs.Lays2.n21 Tryd.prog insI_ren := {
  mixed := by kernel_rfl
  f21 := Tryd.func44.trans (congrArg some (by kernel_rfl))
  f27 := Tryd.func49.trans (congrArg some (by kernel_rfl))
  f28 := Tryd.func50.trans (congrArg some (by kernel_rfl))
  f35 := Tryd.func51.trans (congrArg some (by kernel_rfl))
  f39 := Tryd.func52.trans (congrArg some (by kernel_rfl))
  t0 := Tryd.underlying0
  a0 := Tryd.isAgg0
  z0 := Tryd.sizeOf0
  v0 := Tryd.zeroValue0
  t3 := Tryd.underlying3
  a3 := Tryd.isAgg3
  z3 := Tryd.sizeOf3
  v3 := Tryd.zeroValue3
  t4 := Tryd.underlying4
  a4 := Tryd.isAgg4
  z4 := Tryd.sizeOf4
  v4 := Tryd.zeroValue4
  t22 := Tryd.underlying34
  a22 := Tryd.isAgg34
  z22 := Tryd.sizeOf34
  v22 := Tryd.zeroValue34
  i3 := by kernel_rfl }
end Ins
end Go.Proofs.YtcmbkoghhhhmcaaDoor
