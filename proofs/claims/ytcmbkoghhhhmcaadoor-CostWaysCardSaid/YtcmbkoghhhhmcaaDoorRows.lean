/-
  NARROWER THAN 'FOR EVERY INPUT', by the rows' own cells (each row's printed sentence says how): CostTells: laid · CostWays: laid · CostSteps: laid.
  DERIVED. THE GIVEN ROWS OF THIS SEAT. 3 by the template 'for every input the law returns true; each argument reads behind the call as it read before'; 0 by the template 'total and deterministic' (their statements: YtcmbkoghhhhmcaaDoorTotals.lean).
  GIVEN WITH THE SEED: the statements are not yours to turn. If you find one false, say at which input.
  Laid BY PROGRAM, IN A SANDBOX (cutbox-rows.mjs): the forced cells as the released guide's own fill.sh prints them over the translation 023beafe07297319… (all of the seat's roots in one cut). By AI agents, Wed Nov 11 2026. No macro, syntax, notation, axiom, sorry.
-/
import Derived.Test.YtcmbkoghhhhmcaaDoorChecked
import GoSem.Claim
import GoSem.ClaimJoined
import GoSem.ClaimMapViews
import Derived.JoinedTies
import Derived.KernelRfl
namespace Go.Proofs.YtcmbkoghhhhmcaaDoor
/- THE CELL 'sum', in the pinned program and in every row, IS THE sha256 OF THE DUMP (.gsa) THAT YtcmbkoghhhhmcaaDoorProg.lean LOADS. Nothing in Lean hashes anything: it is a label: what it is worth is what the hold of that sum in a sandbox is worth. -/
noncomputable def Tryd.pinned : Pinned := { name := "ytcmbkoghhhhmcaadoor", sum := "023beafe072973194083401e1badefda26ec48c8d55b39e383db78eafa90d08e", checked := Tryd.checked }
namespace Rows
def none {H : Type} : Left H := { results := [], args := [] }

/- WHAT THE LISTED PACKAGE-LEVEL VARIABLES READ AS WHEN THE CALL BEGINS. Each datum BY PROGRAM (the guide's laid-datum.mjs) off the statement by which the dump's own 'gosem.cut.vars' lays the variable. In a bare row this is a premise. The card (YtcmbkoghhhhmcaaDoorCards.lean) ties it to the program's text. -/
def laid_tappet_isa_kinds {H : Type} : DataW H := .agg [.agg [.lit (.string []), .lit (.int .i64 0), .lit (.int .i64 0), .lit (.bool false), .lit (.int .i64 0), .lit (.int .i64 0), .lit (.bool false), .lit (.bool false)], .agg [.lit (.string [112, 117, 115, 104]), .lit (.int .i64 0), .lit (.int .i64 1), .lit (.bool false), .lit (.int .i64 0), .lit (.int .i64 0), .lit (.bool true), .lit (.bool false)], .agg [.lit (.string [100, 117, 112]), .lit (.int .i64 1), .lit (.int .i64 2), .lit (.bool false), .lit (.int .i64 0), .lit (.int .i64 0), .lit (.bool false), .lit (.bool false)], .agg [.lit (.string [100, 114, 111, 112]), .lit (.int .i64 1), .lit (.int .i64 0), .lit (.bool false), .lit (.int .i64 0), .lit (.int .i64 0), .lit (.bool false), .lit (.bool false)], .agg [.lit (.string [115, 119, 97, 112]), .lit (.int .i64 2), .lit (.int .i64 2), .lit (.bool false), .lit (.int .i64 0), .lit (.int .i64 0), .lit (.bool false), .lit (.bool false)], .agg [.lit (.string [97, 100, 100]), .lit (.int .i64 2), .lit (.int .i64 1), .lit (.bool false), .lit (.int .i64 0), .lit (.int .i64 0), .lit (.bool false), .lit (.bool false)], .agg [.lit (.string [115, 117, 98]), .lit (.int .i64 2), .lit (.int .i64 1), .lit (.bool false), .lit (.int .i64 0), .lit (.int .i64 0), .lit (.bool false), .lit (.bool false)], .agg [.lit (.string [109, 117, 108]), .lit (.int .i64 2), .lit (.int .i64 1), .lit (.bool false), .lit (.int .i64 0), .lit (.int .i64 0), .lit (.bool false), .lit (.bool false)], .agg [.lit (.string [100, 105, 118]), .lit (.int .i64 2), .lit (.int .i64 1), .lit (.bool false), .lit (.int .i64 0), .lit (.int .i64 0), .lit (.bool false), .lit (.bool false)], .agg [.lit (.string [109, 111, 100]), .lit (.int .i64 2), .lit (.int .i64 1), .lit (.bool false), .lit (.int .i64 0), .lit (.int .i64 0), .lit (.bool false), .lit (.bool false)], .agg [.lit (.string [97, 110, 100]), .lit (.int .i64 2), .lit (.int .i64 1), .lit (.bool false), .lit (.int .i64 0), .lit (.int .i64 0), .lit (.bool false), .lit (.bool false)], .agg [.lit (.string [111, 114]), .lit (.int .i64 2), .lit (.int .i64 1), .lit (.bool false), .lit (.int .i64 0), .lit (.int .i64 0), .lit (.bool false), .lit (.bool false)], .agg [.lit (.string [120, 111, 114]), .lit (.int .i64 2), .lit (.int .i64 1), .lit (.bool false), .lit (.int .i64 0), .lit (.int .i64 0), .lit (.bool false), .lit (.bool false)], .agg [.lit (.string [115, 104, 108]), .lit (.int .i64 2), .lit (.int .i64 1), .lit (.bool false), .lit (.int .i64 0), .lit (.int .i64 0), .lit (.bool false), .lit (.bool false)], .agg [.lit (.string [115, 104, 114]), .lit (.int .i64 2), .lit (.int .i64 1), .lit (.bool false), .lit (.int .i64 0), .lit (.int .i64 0), .lit (.bool false), .lit (.bool false)], .agg [.lit (.string [101, 113]), .lit (.int .i64 2), .lit (.int .i64 1), .lit (.bool false), .lit (.int .i64 0), .lit (.int .i64 0), .lit (.bool false), .lit (.bool false)], .agg [.lit (.string [108, 101, 115, 115]), .lit (.int .i64 2), .lit (.int .i64 1), .lit (.bool false), .lit (.int .i64 0), .lit (.int .i64 0), .lit (.bool false), .lit (.bool false)], .agg [.lit (.string [108, 111, 97, 100]), .lit (.int .i64 1), .lit (.int .i64 1), .lit (.bool true), .lit (.int .i64 0), .lit (.int .i64 0), .lit (.bool true), .lit (.bool false)], .agg [.lit (.string [115, 116, 111, 114, 101]), .lit (.int .i64 2), .lit (.int .i64 0), .lit (.bool true), .lit (.int .i64 0), .lit (.int .i64 0), .lit (.bool true), .lit (.bool false)], .agg [.lit (.string [106, 117, 109, 112]), .lit (.int .i64 0), .lit (.int .i64 0), .lit (.bool false), .lit (.int .i64 0), .lit (.int .i64 0), .lit (.bool true), .lit (.bool true)], .agg [.lit (.string [122, 101, 114, 111]), .lit (.int .i64 1), .lit (.int .i64 0), .lit (.bool false), .lit (.int .i64 0), .lit (.int .i64 0), .lit (.bool true), .lit (.bool true)], .agg [.lit (.string [105, 110]), .lit (.int .i64 0), .lit (.int .i64 1), .lit (.bool false), .lit (.int .i64 16), .lit (.int .i64 0), .lit (.bool false), .lit (.bool false)], .agg [.lit (.string [111, 117, 116]), .lit (.int .i64 1), .lit (.int .i64 0), .lit (.bool false), .lit (.int .i64 16), .lit (.int .i64 0), .lit (.bool false), .lit (.bool false)], .agg [.lit (.string [114, 101, 97, 100]), .lit (.int .i64 0), .lit (.int .i64 1), .lit (.bool false), .lit (.int .i64 16), .lit (.int .i64 16), .lit (.bool false), .lit (.bool false)], .agg [.lit (.string [97, 103, 101]), .lit (.int .i64 0), .lit (.int .i64 1), .lit (.bool false), .lit (.int .i64 16), .lit (.int .i64 0), .lit (.bool false), .lit (.bool false)], .agg [.lit (.string [112, 117, 116]), .lit (.int .i64 1), .lit (.int .i64 0), .lit (.bool false), .lit (.int .i64 16), .lit (.int .i64 16), .lit (.bool false), .lit (.bool false)], .agg [.lit (.string [115, 101, 110, 100]), .lit (.int .i64 0), .lit (.int .i64 0), .lit (.bool false), .lit (.int .i64 16), .lit (.int .i64 0), .lit (.bool false), .lit (.bool false)], .agg [.lit (.string [121, 105, 101, 108, 100]), .lit (.int .i64 0), .lit (.int .i64 0), .lit (.bool false), .lit (.int .i64 0), .lit (.int .i64 0), .lit (.bool false), .lit (.bool false)]]

/-- 'tappetlaw13.CostTells': WHATEVER THE INPUT: true; the input reads as it did. -/
def costTellsSpec : ChangeSpec := { name := "costTells", fn := fun _ => fun
  | [d] => { results := [.lit (.bool true)], args := [d] }
  | _ => none }
def costTellsRow : OpenClaim := { program := "ytcmbkoghhhhmcaadoor", sum := "023beafe072973194083401e1badefda26ec48c8d55b39e383db78eafa90d08e", func := "tappet/tappetlaw13.CostTells", spec := "costTells", inPlace := ["slices.overlaps[int]"], unfollowed := true, recurses := true, named := ["tappet/isa.kinds"], apart := false, laid := [("tappet/isa.kinds", laid_tappet_isa_kinds)] }
def CostTellsSaid : Prop := costTellsRow.holds Tryd.pinned (OpenSpec.ofChange costTellsSpec)

/-- ITS FALSE NEIGHBOUR: 'it returns false'. Refute it at one input. -/
def costTellsWrong : ChangeSpec := { name := "costTells", fn := fun _ => fun
  | [d] => { results := [.lit (.bool false)], args := [d] }
  | _ => none }
def CostTellsWrongFalsely : Prop := costTellsRow.holds Tryd.pinned (OpenSpec.ofChange costTellsWrong)

/-- 'tappetlaw13.CostWays': WHATEVER THE INPUT: true; the input reads as it did. -/
def costWaysSpec : ChangeSpec := { name := "costWays", fn := fun _ => fun
  | [d1, d2, d3] => { results := [.lit (.bool true)], args := [d1, d2, d3] }
  | _ => none }
def costWaysRow : OpenClaim := { program := "ytcmbkoghhhhmcaadoor", sum := "023beafe072973194083401e1badefda26ec48c8d55b39e383db78eafa90d08e", func := "tappet/tappetlaw13.CostWays", spec := "costWays", inPlace := ["slices.overlaps[int]"], unfollowed := true, recurses := true, named := ["tappet/isa.kinds"], apart := false, laid := [("tappet/isa.kinds", laid_tappet_isa_kinds)] }
def CostWaysSaid : Prop := costWaysRow.holds Tryd.pinned (OpenSpec.ofChange costWaysSpec)

/-- ITS FALSE NEIGHBOUR: 'it returns false'. Refute it at one input. -/
def costWaysWrong : ChangeSpec := { name := "costWays", fn := fun _ => fun
  | [d1, d2, d3] => { results := [.lit (.bool false)], args := [d1, d2, d3] }
  | _ => none }
def CostWaysWrongFalsely : Prop := costWaysRow.holds Tryd.pinned (OpenSpec.ofChange costWaysWrong)

/-- 'tappetlaw13.CostSteps': WHATEVER THE INPUT: true; the input reads as it did. -/
def costStepsSpec : ChangeSpec := { name := "costSteps", fn := fun _ => fun
  | [d] => { results := [.lit (.bool true)], args := [d] }
  | _ => none }
def costStepsRow : OpenClaim := { program := "ytcmbkoghhhhmcaadoor", sum := "023beafe072973194083401e1badefda26ec48c8d55b39e383db78eafa90d08e", func := "tappet/tappetlaw13.CostSteps", spec := "costSteps", inPlace := ["slices.overlaps[int]"], unfollowed := true, recurses := true, named := ["tappet/isa.kinds"], apart := false, laid := [("tappet/isa.kinds", laid_tappet_isa_kinds)] }
def CostStepsSaid : Prop := costStepsRow.holds Tryd.pinned (OpenSpec.ofChange costStepsSpec)

/-- ITS FALSE NEIGHBOUR: 'it returns false'. Refute it at one input. -/
def costStepsWrong : ChangeSpec := { name := "costSteps", fn := fun _ => fun
  | [d] => { results := [.lit (.bool false)], args := [d] }
  | _ => none }
def CostStepsWrongFalsely : Prop := costStepsRow.holds Tryd.pinned (OpenSpec.ofChange costStepsWrong)

/- THE SECOND FORM. 'bulk': how many values and letters a reading holds, each counted each time it is reached (what is shared counts as often as it is met; a slice's spare places count too). A statement '..UptoSaid' is the law's where the arguments, and the package variables that the reading takes, are together of bulk at most 1048576: NARROWER than '..Said'. Prove '..Said' where nothing that the law and all that it calls make is longer than what came in: it says more and counts as full. Else prove '..UptoSaid'. A law counts once. -/
mutual
def uptoBulk {H : Type} : DataW H → Nat
  | .lit (.string bytes) => bytes.length + 1
  | .lit _ => 1
  | .nil => 1
  | .ptr d => uptoBulk d + 1
  | .slice elems spare => uptoBulkAll elems + uptoBulkAll spare + 1
  | .agg parts => uptoBulkAll parts + 1
  | .iface _ d => uptoBulk d + 1
  | .map entries => uptoBulkEntries entries + 1
  | .held _ => 1
def uptoBulkAll {H : Type} : List (DataW H) → Nat
  | [] => 0
  | d :: r => uptoBulk d + uptoBulkAll r
def uptoBulkEntries {H : Type} : List (Lit × DataW H) → Nat
  | [] => 0
  | x :: r => uptoBulkEntry x + uptoBulkEntries r
def uptoBulkEntry {H : Type} : Lit × DataW H → Nat
  | (.string bytes, d) => bytes.length + uptoBulk d + 1
  | (_, d) => uptoBulk d + 1
 end
def uptoSmall : (H : Type) → List (DataW H) → Bool := fun _ ds => decide (uptoBulkAll ds ≤ 1048576)
def OpenSpec.upto (s : _root_.Go.ChangeSpec) : _root_.Go.OpenSpec := { _root_.Go.OpenSpec.ofChange s with cond := some uptoSmall }

/-- 'tappetlaw13.CostTells', WHERE WHAT IT READS IS OF BULK AT MOST 1048576: true; the input reads as it did. -/
def costTellsUptoRow : OpenClaim := { program := "ytcmbkoghhhhmcaadoor", sum := "023beafe072973194083401e1badefda26ec48c8d55b39e383db78eafa90d08e", func := "tappet/tappetlaw13.CostTells", spec := "costTells", inPlace := ["slices.overlaps[int]"], unfollowed := true, recurses := true, named := ["tappet/isa.kinds"], apart := false, laid := [("tappet/isa.kinds", laid_tappet_isa_kinds)], narrowed := true }
def CostTellsUptoSaid : Prop := costTellsUptoRow.holds Tryd.pinned (OpenSpec.upto costTellsSpec)

/-- 'tappetlaw13.CostWays', WHERE WHAT IT READS IS OF BULK AT MOST 1048576: true; the input reads as it did. -/
def costWaysUptoRow : OpenClaim := { program := "ytcmbkoghhhhmcaadoor", sum := "023beafe072973194083401e1badefda26ec48c8d55b39e383db78eafa90d08e", func := "tappet/tappetlaw13.CostWays", spec := "costWays", inPlace := ["slices.overlaps[int]"], unfollowed := true, recurses := true, named := ["tappet/isa.kinds"], apart := false, laid := [("tappet/isa.kinds", laid_tappet_isa_kinds)], narrowed := true }
def CostWaysUptoSaid : Prop := costWaysUptoRow.holds Tryd.pinned (OpenSpec.upto costWaysSpec)

/-- 'tappetlaw13.CostSteps', WHERE WHAT IT READS IS OF BULK AT MOST 1048576: true; the input reads as it did. -/
def costStepsUptoRow : OpenClaim := { program := "ytcmbkoghhhhmcaadoor", sum := "023beafe072973194083401e1badefda26ec48c8d55b39e383db78eafa90d08e", func := "tappet/tappetlaw13.CostSteps", spec := "costSteps", inPlace := ["slices.overlaps[int]"], unfollowed := true, recurses := true, named := ["tappet/isa.kinds"], apart := false, laid := [("tappet/isa.kinds", laid_tappet_isa_kinds)], narrowed := true }
def CostStepsUptoSaid : Prop := costStepsUptoRow.holds Tryd.pinned (OpenSpec.upto costStepsSpec)

end Rows
end Go.Proofs.YtcmbkoghhhhmcaaDoor
