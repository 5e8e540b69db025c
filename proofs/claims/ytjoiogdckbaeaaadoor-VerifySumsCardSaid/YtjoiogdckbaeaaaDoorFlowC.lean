/- What is asked of the program's calls of layer 11, told once. -/
import Derived.Test.YtjoiogdckbaeaaaDoorCodeMay
import Derived.Test.YtjoiogdckbaeaaaDoorCodeOwn
import Derived.Test.YtjoiogdckbaeaaaDoorFlowM
namespace Go.Proofs.YtjoiogdckbaeaaaDoor
open Go.ChangeShapes Go.WideShapes Go.ChangeAt Go.RowKit
namespace Flw
open Isa
set_option linter.unusedVariables false
set_option linter.unusedSimpArgs false
/-- flow.Check, of any program -/
def CheckC : Prop := ∀ (l : List Iv) (a : Option Addr) (n c : Nat) (w : World), Tabs w → n ≤ c → c ≤ 9223372036854775807 → IRow w a n l →
  Calls Tryd.prog 27 #[.slice a n c] w fun e w' => e = .returned (.tuple #[.int .i64 (chkN l : Nat), .int .i64 (chkE l)]) ∧ Below w.heap.size w w'
/-- flow.Come -/
def ComeC : Prop := ∀ (l : List Iv) (a : Option Addr) (n c : Nat) (w : World), Tabs w → n ≤ c → c ≤ 9223372036854775807 → IRow w a n l →
  Calls Tryd.prog 16 #[.slice a n c] w fun e w' => ∃ v, e = .returned v ∧ w'.ownsRow w.heap.size 4 1 v (comeL l).length (bls (comeL l)) ∧ Below w.heap.size w w'
/-- flow.Order -/
def OrderC : Prop := ∀ (l : List Iv) (a : Option Addr) (n c : Nat) (w : World), Tabs w → n ≤ c → c ≤ 9223372036854775807 → IRow w a n l →
  Calls Tryd.prog 46 #[.slice a n c] w fun e w' => ∃ v, e = .returned (.tuple #[v, .bool (ordA l).2]) ∧ numsP w.heap.size (ordA l).1 w' v ∧ Below w.heap.size w w'
end Flw
end Go.Proofs.YtjoiogdckbaeaaaDoor
