/- isa.Takes. · isa.Gives. -/
import Derived.Test.YtjoiogdckbaeaaaDoorCodeMay
namespace Go.Proofs.YtjoiogdckbaeaaaDoor
open Go.ChangeShapes Go.WideShapes Go.ChangeAt Go.RowKit
namespace Isa
set_option linter.unusedVariables false
set_option linter.unusedSimpArgs false
theorem takes_any (op : Int) (h0 : 0 ≤ op) (h1 : op ≤ 255) (w : World) (hT : Tabs w) : Calls Tryd.prog 44 #[.int .u8 op] w fun e w' => e = .returned (.int .i64 (takesI op)) ∧ Below w.heap.size w w' := by
  have hk := Lib.hid (kind_any op h0 h1 w hT)
  clear hT
  unfold kindV kindA at hk
  generalize sB (nm op) = x0 at hk ⊢
  generalize takesI op = x1 at hk ⊢
  generalize givesI op = x2 at hk ⊢
  generalize jumpsI op = x7 at hk ⊢
  go_enter Tryd.func44, Tryd.ntmps44
  go_wp2_with fail
  refine hk.out.mono ?_
  rintro e w' ⟨rfl, hb⟩
  go_wp2_with (simp only [fd1])
  go_ret
  exact ⟨rfl, hb⟩
end Isa
end Go.Proofs.YtjoiogdckbaeaaaDoor
namespace Go.Proofs.YtjoiogdckbaeaaaDoor
open Go.ChangeShapes Go.WideShapes Go.ChangeAt Go.RowKit
namespace Isa
set_option linter.unusedVariables false
set_option linter.unusedSimpArgs false
theorem gives_any (op : Int) (h0 : 0 ≤ op) (h1 : op ≤ 255) (w : World) (hT : Tabs w) : Calls Tryd.prog 45 #[.int .u8 op] w fun e w' => e = .returned (.int .i64 (givesI op)) ∧ Below w.heap.size w w' := by
  have hk := Lib.hid (kind_any op h0 h1 w hT)
  clear hT
  unfold kindV kindA at hk
  generalize sB (nm op) = x0 at hk ⊢
  generalize takesI op = x1 at hk ⊢
  generalize givesI op = x2 at hk ⊢
  generalize jumpsI op = x7 at hk ⊢
  go_enter Tryd.func45, Tryd.ntmps45
  go_wp2_with fail
  refine hk.out.mono ?_
  rintro e w' ⟨rfl, hb⟩
  go_wp2_with (simp only [fd2])
  go_ret
  exact ⟨rfl, hb⟩
end Isa
end Go.Proofs.YtjoiogdckbaeaaaDoor
