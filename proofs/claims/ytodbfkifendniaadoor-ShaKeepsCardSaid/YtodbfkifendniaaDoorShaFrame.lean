/- What the statements' lists give: the table of the primes' numbers. -/
import Derived.Test.YtodbfkifendniaaDoorCards
import Derived.Test.YtodbfkifendniaaDoorTie
import Derived.Test.YtodbfkifendniaaDoorShaW8
import Derived.Deep.DeepHandedRow
import Derived.Lib.LaidTab
namespace Go.Proofs.YtodbfkifendniaaDoor
open Go.ChangeShapes Go.WideShapes Go.ChangeAt Go.RowKit
namespace Sha
theorem own : ownKnob Tryd.prog.godebug = none := by kernel_rfl
theorem laidOut : laidOutB Tryd.prog = true := by kernel_rfl
theorem gTab : Tryd.prog.globalNamed "tappet/sha.cubeRoots" = some 0 := by kernel_rfl
theorem gTabType : (Tryd.prog.globals[0]?).map (·.type) = some 55 := by kernel_rfl
theorem cells53 : Tryd.prog.cellsOf 55 = 64 := by kernel_rfl
theorem cells36 : Tryd.prog.cellsOf 36 = 1 := by kernel_rfl
theorem table {W : World} (h : laidMetH Tryd.prog [("tappet/sha.cubeRoots", Rows.laid_tappet_sha_cubeRoots)] W) : Lib.TabIs Tryd.prog W "tappet/sha.cubeRoots" .u32 Ks :=
  Lib.tabIs_of_head (rest := []) gTab gTabType Tryd.underlying55 Tryd.underlying36 cells36 cells53 h
theorem roots {W : World} (h : laidMetH Tryd.prog [("tappet/sha.cubeRoots", Rows.laid_tappet_sha_cubeRoots)] W) : Roots W := fun j hj => (table h).cell gTab j (by rw [Ks_length]; exact hj)
/-- a world for the witness: the settled one, the table holding what its initialiser lays -/
noncomputable def laidWorld (os : Os) : World :=
  { World.holding Tryd.prog os ⟨#[], #[], []⟩ with heap := (World.holding Tryd.prog os ⟨#[], #[], []⟩).heap.modify 0 fun
      | .cells _ t frozen => .cells (Ks.map fun z => Value.int .u32 z).toArray t frozen
      | o => o }
theorem laid_met (os : Os) (args : Array Value) : laidMet Tryd.prog [("tappet/sha.cubeRoots", Rows.laid_tappet_sha_cubeRoots)] ((laidWorld os).forCall (fun _ _ => 0) ⟨#[], args, []⟩).memory :=
  laidMet_of_run' 8 (by kernel_rfl) (by kernel_rfl)
end Sha
end Go.Proofs.YtodbfkifendniaaDoor
