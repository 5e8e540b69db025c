/-
  NARROWER THAN 'FOR EVERY INPUT', by the rows' own cells (each row's printed sentence says how): FlowTells: laid · FlowWays: laid · FlowLeft: laid · HeightTells: laid · HeightWays: laid · HeightBounds: laid.
  DERIVED. THE GIVEN ROWS OF THIS SEAT. 6 by the template 'for every input the law returns true; each argument reads behind the call as it read before'; 0 by the template 'total and deterministic' (their statements: YteingehdkpfpcaaDoorTotals.lean).
  GIVEN WITH THE SEED: the statements are not yours to turn. If you find one false, say at which input.
  Laid BY PROGRAM, IN A SANDBOX (cutbox-rows.mjs): the forced cells as the released guide's own fill.sh prints them over the translation 1206a27cbce9bc0c… (all of the seat's roots in one cut). By AI agents, Wed Nov 11 2026. No macro, syntax, notation, axiom, sorry.
-/
import Derived.Test.YteingehdkpfpcaaDoorChecked
import GoSem.Claim
import GoSem.ClaimJoined
import GoSem.ClaimMapViews
import Derived.JoinedTies
import Derived.KernelRfl
namespace Go.Proofs.YteingehdkpfpcaaDoor
/- THE CELL 'sum', in the pinned program and in every row, IS THE sha256 OF THE DUMP (.gsa) THAT YteingehdkpfpcaaDoorProg.lean LOADS. Nothing in Lean hashes anything: it is a label: what it is worth is what the hold of that sum in a sandbox is worth. -/
noncomputable def Tryd.pinned : Pinned := { name := "yteingehdkpfpcaadoor", sum := "1206a27cbce9bc0c096a98d35f3fb51bb3d6497b0d079486c4db972055e0344f", checked := Tryd.checked }
namespace Rows
def none {H : Type} : Left H := { results := [], args := [] }

/- WHAT THE LISTED PACKAGE-LEVEL VARIABLES READ AS WHEN THE CALL BEGINS. Each datum BY PROGRAM (the guide's laid-datum.mjs) off the statement by which the dump's own 'gosem.cut.vars' lays the variable. In a bare row this is a premise. The card (YteingehdkpfpcaaDoorCards.lean) ties it to the program's text. -/
def laid_tappet_isa_kinds {H : Type} : DataW H := .agg [.agg [.lit (.string []), .lit (.int .i64 0), .lit (.int .i64 0), .lit (.bool false), .lit (.int .i64 0), .lit (.int .i64 0), .lit (.bool false), .lit (.bool false)], .agg [.lit (.string [112, 117, 115, 104]), .lit (.int .i64 0), .lit (.int .i64 1), .lit (.bool false), .lit (.int .i64 0), .lit (.int .i64 0), .lit (.bool true), .lit (.bool false)], .agg [.lit (.string [100, 117, 112]), .lit (.int .i64 1), .lit (.int .i64 2), .lit (.bool false), .lit (.int .i64 0), .lit (.int .i64 0), .lit (.bool false), .lit (.bool false)], .agg [.lit (.string [100, 114, 111, 112]), .lit (.int .i64 1), .lit (.int .i64 0), .lit (.bool false), .lit (.int .i64 0), .lit (.int .i64 0), .lit (.bool false), .lit (.bool false)], .agg [.lit (.string [115, 119, 97, 112]), .lit (.int .i64 2), .lit (.int .i64 2), .lit (.bool false), .lit (.int .i64 0), .lit (.int .i64 0), .lit (.bool false), .lit (.bool false)], .agg [.lit (.string [97, 100, 100]), .lit (.int .i64 2), .lit (.int .i64 1), .lit (.bool false), .lit (.int .i64 0), .lit (.int .i64 0), .lit (.bool false), .lit (.bool false)], .agg [.lit (.string [115, 117, 98]), .lit (.int .i64 2), .lit (.int .i64 1), .lit (.bool false), .lit (.int .i64 0), .lit (.int .i64 0), .lit (.bool false), .lit (.bool false)], .agg [.lit (.string [109, 117, 108]), .lit (.int .i64 2), .lit (.int .i64 1), .lit (.bool false), .lit (.int .i64 0), .lit (.int .i64 0), .lit (.bool false), .lit (.bool false)], .agg [.lit (.string [100, 105, 118]), .lit (.int .i64 2), .lit (.int .i64 1), .lit (.bool false), .lit (.int .i64 0), .lit (.int .i64 0), .lit (.bool false), .lit (.bool false)], .agg [.lit (.string [109, 111, 100]), .lit (.int .i64 2), .lit (.int .i64 1), .lit (.bool false), .lit (.int .i64 0), .lit (.int .i64 0), .lit (.bool false), .lit (.bool false)], .agg [.lit (.string [97, 110, 100]), .lit (.int .i64 2), .lit (.int .i64 1), .lit (.bool false), .lit (.int .i64 0), .lit (.int .i64 0), .lit (.bool false), .lit (.bool false)], .agg [.lit (.string [111, 114]), .lit (.int .i64 2), .lit (.int .i64 1), .lit (.bool false), .lit (.int .i64 0), .lit (.int .i64 0), .lit (.bool false), .lit (.bool false)], .agg [.lit (.string [120, 111, 114]), .lit (.int .i64 2), .lit (.int .i64 1), .lit (.bool false), .lit (.int .i64 0), .lit (.int .i64 0), .lit (.bool false), .lit (.bool false)], .agg [.lit (.string [115, 104, 108]), .lit (.int .i64 2), .lit (.int .i64 1), .lit (.bool false), .lit (.int .i64 0), .lit (.int .i64 0), .lit (.bool false), .lit (.bool false)], .agg [.lit (.string [115, 104, 114]), .lit (.int .i64 2), .lit (.int .i64 1), .lit (.bool false), .lit (.int .i64 0), .lit (.int .i64 0), .lit (.bool false), .lit (.bool false)], .agg [.lit (.string [101, 113]), .lit (.int .i64 2), .lit (.int .i64 1), .lit (.bool false), .lit (.int .i64 0), .lit (.int .i64 0), .lit (.bool false), .lit (.bool false)], .agg [.lit (.string [108, 101, 115, 115]), .lit (.int .i64 2), .lit (.int .i64 1), .lit (.bool false), .lit (.int .i64 0), .lit (.int .i64 0), .lit (.bool false), .lit (.bool false)], .agg [.lit (.string [108, 111, 97, 100]), .lit (.int .i64 1), .lit (.int .i64 1), .lit (.bool true), .lit (.int .i64 0), .lit (.int .i64 0), .lit (.bool true), .lit (.bool false)], .agg [.lit (.string [115, 116, 111, 114, 101]), .lit (.int .i64 2), .lit (.int .i64 0), .lit (.bool true), .lit (.int .i64 0), .lit (.int .i64 0), .lit (.bool true), .lit (.bool false)], .agg [.lit (.string [106, 117, 109, 112]), .lit (.int .i64 0), .lit (.int .i64 0), .lit (.bool false), .lit (.int .i64 0), .lit (.int .i64 0), .lit (.bool true), .lit (.bool true)], .agg [.lit (.string [122, 101, 114, 111]), .lit (.int .i64 1), .lit (.int .i64 0), .lit (.bool false), .lit (.int .i64 0), .lit (.int .i64 0), .lit (.bool true), .lit (.bool true)], .agg [.lit (.string [105, 110]), .lit (.int .i64 0), .lit (.int .i64 1), .lit (.bool false), .lit (.int .i64 16), .lit (.int .i64 0), .lit (.bool false), .lit (.bool false)], .agg [.lit (.string [111, 117, 116]), .lit (.int .i64 1), .lit (.int .i64 0), .lit (.bool false), .lit (.int .i64 16), .lit (.int .i64 0), .lit (.bool false), .lit (.bool false)], .agg [.lit (.string [114, 101, 97, 100]), .lit (.int .i64 0), .lit (.int .i64 1), .lit (.bool false), .lit (.int .i64 16), .lit (.int .i64 16), .lit (.bool false), .lit (.bool false)], .agg [.lit (.string [97, 103, 101]), .lit (.int .i64 0), .lit (.int .i64 1), .lit (.bool false), .lit (.int .i64 16), .lit (.int .i64 0), .lit (.bool false), .lit (.bool false)], .agg [.lit (.string [112, 117, 116]), .lit (.int .i64 1), .lit (.int .i64 0), .lit (.bool false), .lit (.int .i64 16), .lit (.int .i64 16), .lit (.bool false), .lit (.bool false)], .agg [.lit (.string [115, 101, 110, 100]), .lit (.int .i64 0), .lit (.int .i64 0), .lit (.bool false), .lit (.int .i64 16), .lit (.int .i64 0), .lit (.bool false), .lit (.bool false)], .agg [.lit (.string [121, 105, 101, 108, 100]), .lit (.int .i64 0), .lit (.int .i64 0), .lit (.bool false), .lit (.int .i64 0), .lit (.int .i64 0), .lit (.bool false), .lit (.bool false)]]

/-- 'tappetlaw11.FlowTells': WHATEVER THE INPUT: true; the input reads as it did. -/
def flowTellsSpec : ChangeSpec := { name := "flowTells", fn := fun _ => fun
  | [d1, d2] => { results := [.lit (.bool true)], args := [d1, d2] }
  | _ => none }
def flowTellsRow : OpenClaim := { program := "yteingehdkpfpcaadoor", sum := "1206a27cbce9bc0c096a98d35f3fb51bb3d6497b0d079486c4db972055e0344f", func := "tappet/tappetlaw11.FlowTells", spec := "flowTells", inPlace := ["slices.overlaps[int]"], unfollowed := true, recurses := true, named := ["tappet/isa.kinds"], apart := false, laid := [("tappet/isa.kinds", laid_tappet_isa_kinds)] }
def FlowTellsSaid : Prop := flowTellsRow.holds Tryd.pinned (OpenSpec.ofChange flowTellsSpec)

/-- ITS FALSE NEIGHBOUR: 'it returns false'. Refute it at one input. -/
def flowTellsWrong : ChangeSpec := { name := "flowTells", fn := fun _ => fun
  | [d1, d2] => { results := [.lit (.bool false)], args := [d1, d2] }
  | _ => none }
def FlowTellsWrongFalsely : Prop := flowTellsRow.holds Tryd.pinned (OpenSpec.ofChange flowTellsWrong)

/-- 'tappetlaw11.FlowWays': WHATEVER THE INPUT: true; the input reads as it did. -/
def flowWaysSpec : ChangeSpec := { name := "flowWays", fn := fun _ => fun
  | [d1, d2] => { results := [.lit (.bool true)], args := [d1, d2] }
  | _ => none }
def flowWaysRow : OpenClaim := { program := "yteingehdkpfpcaadoor", sum := "1206a27cbce9bc0c096a98d35f3fb51bb3d6497b0d079486c4db972055e0344f", func := "tappet/tappetlaw11.FlowWays", spec := "flowWays", inPlace := ["slices.overlaps[int]"], unfollowed := true, recurses := true, named := ["tappet/isa.kinds"], apart := false, laid := [("tappet/isa.kinds", laid_tappet_isa_kinds)] }
def FlowWaysSaid : Prop := flowWaysRow.holds Tryd.pinned (OpenSpec.ofChange flowWaysSpec)

/-- ITS FALSE NEIGHBOUR: 'it returns false'. Refute it at one input. -/
def flowWaysWrong : ChangeSpec := { name := "flowWays", fn := fun _ => fun
  | [d1, d2] => { results := [.lit (.bool false)], args := [d1, d2] }
  | _ => none }
def FlowWaysWrongFalsely : Prop := flowWaysRow.holds Tryd.pinned (OpenSpec.ofChange flowWaysWrong)

/-- 'tappetlaw11.FlowLeft': WHATEVER THE INPUT: true; the input reads as it did. -/
def flowLeftSpec : ChangeSpec := { name := "flowLeft", fn := fun _ => fun
  | [d1, d2] => { results := [.lit (.bool true)], args := [d1, d2] }
  | _ => none }
def flowLeftRow : OpenClaim := { program := "yteingehdkpfpcaadoor", sum := "1206a27cbce9bc0c096a98d35f3fb51bb3d6497b0d079486c4db972055e0344f", func := "tappet/tappetlaw11.FlowLeft", spec := "flowLeft", inPlace := ["slices.overlaps[int]"], unfollowed := true, recurses := true, named := ["tappet/isa.kinds"], apart := false, laid := [("tappet/isa.kinds", laid_tappet_isa_kinds)] }
def FlowLeftSaid : Prop := flowLeftRow.holds Tryd.pinned (OpenSpec.ofChange flowLeftSpec)

/-- ITS FALSE NEIGHBOUR: 'it returns false'. Refute it at one input. -/
def flowLeftWrong : ChangeSpec := { name := "flowLeft", fn := fun _ => fun
  | [d1, d2] => { results := [.lit (.bool false)], args := [d1, d2] }
  | _ => none }
def FlowLeftWrongFalsely : Prop := flowLeftRow.holds Tryd.pinned (OpenSpec.ofChange flowLeftWrong)

/-- 'tappetlaw12.HeightTells': WHATEVER THE INPUT: true; the input reads as it did. -/
def heightTellsSpec : ChangeSpec := { name := "heightTells", fn := fun _ => fun
  | [d1, d2] => { results := [.lit (.bool true)], args := [d1, d2] }
  | _ => none }
def heightTellsRow : OpenClaim := { program := "yteingehdkpfpcaadoor", sum := "1206a27cbce9bc0c096a98d35f3fb51bb3d6497b0d079486c4db972055e0344f", func := "tappet/tappetlaw12.HeightTells", spec := "heightTells", inPlace := ["slices.overlaps[int]"], unfollowed := true, recurses := true, named := ["tappet/isa.kinds"], apart := false, laid := [("tappet/isa.kinds", laid_tappet_isa_kinds)] }
def HeightTellsSaid : Prop := heightTellsRow.holds Tryd.pinned (OpenSpec.ofChange heightTellsSpec)

/-- ITS FALSE NEIGHBOUR: 'it returns false'. Refute it at one input. -/
def heightTellsWrong : ChangeSpec := { name := "heightTells", fn := fun _ => fun
  | [d1, d2] => { results := [.lit (.bool false)], args := [d1, d2] }
  | _ => none }
def HeightTellsWrongFalsely : Prop := heightTellsRow.holds Tryd.pinned (OpenSpec.ofChange heightTellsWrong)

/-- 'tappetlaw12.HeightWays': WHATEVER THE INPUT: true; the input reads as it did. -/
def heightWaysSpec : ChangeSpec := { name := "heightWays", fn := fun _ => fun
  | [d1, d2, d3] => { results := [.lit (.bool true)], args := [d1, d2, d3] }
  | _ => none }
def heightWaysRow : OpenClaim := { program := "yteingehdkpfpcaadoor", sum := "1206a27cbce9bc0c096a98d35f3fb51bb3d6497b0d079486c4db972055e0344f", func := "tappet/tappetlaw12.HeightWays", spec := "heightWays", inPlace := ["slices.overlaps[int]"], unfollowed := true, recurses := true, named := ["tappet/isa.kinds"], apart := false, laid := [("tappet/isa.kinds", laid_tappet_isa_kinds)] }
def HeightWaysSaid : Prop := heightWaysRow.holds Tryd.pinned (OpenSpec.ofChange heightWaysSpec)

/-- ITS FALSE NEIGHBOUR: 'it returns false'. Refute it at one input. -/
def heightWaysWrong : ChangeSpec := { name := "heightWays", fn := fun _ => fun
  | [d1, d2, d3] => { results := [.lit (.bool false)], args := [d1, d2, d3] }
  | _ => none }
def HeightWaysWrongFalsely : Prop := heightWaysRow.holds Tryd.pinned (OpenSpec.ofChange heightWaysWrong)

/-- 'tappetlaw12.HeightBounds': WHATEVER THE INPUT: true; the input reads as it did. -/
def heightBoundsSpec : ChangeSpec := { name := "heightBounds", fn := fun _ => fun
  | [d1, d2] => { results := [.lit (.bool true)], args := [d1, d2] }
  | _ => none }
def heightBoundsRow : OpenClaim := { program := "yteingehdkpfpcaadoor", sum := "1206a27cbce9bc0c096a98d35f3fb51bb3d6497b0d079486c4db972055e0344f", func := "tappet/tappetlaw12.HeightBounds", spec := "heightBounds", inPlace := ["slices.overlaps[int]"], unfollowed := true, recurses := true, named := ["tappet/isa.kinds"], apart := false, laid := [("tappet/isa.kinds", laid_tappet_isa_kinds)] }
def HeightBoundsSaid : Prop := heightBoundsRow.holds Tryd.pinned (OpenSpec.ofChange heightBoundsSpec)

/-- ITS FALSE NEIGHBOUR: 'it returns false'. Refute it at one input. -/
def heightBoundsWrong : ChangeSpec := { name := "heightBounds", fn := fun _ => fun
  | [d1, d2] => { results := [.lit (.bool false)], args := [d1, d2] }
  | _ => none }
def HeightBoundsWrongFalsely : Prop := heightBoundsRow.holds Tryd.pinned (OpenSpec.ofChange heightBoundsWrong)

/- THE SECOND FORM. 'bulk': how many values and letters a reading holds, each counted each time it is reached (what is shared counts as often as it is met; a slice's spare places count too). A statement '..UptoSaid' is the law's where the arguments, and the package variables that the reading takes, are together of bulk at most 1048576: NARROWER than '..Said'. Prove '..Said' where nothing that the law and all that it calls make is longer than what came in: it says more and counts as full. Else prove '..UptoSaid'. A law counts once. -/
mutual
def uptoBulk {H : Type} : DataW H → Nat
  | .lit (.string bytes) => bytes.length + 1
  | .lit _ => 1
  | .nil => 1
  | .ptr d => uptoBulk d + 1
  | .slice elems spare => uptoBulkAll elems + uptoBulkAll spare + 1
  | .agg parts => uptoBulkAll parts + 1
  | .iface _ d => uptoBulk d + 1
  | .map entries => uptoBulkEntries entries + 1
  | .held _ => 1
def uptoBulkAll {H : Type} : List (DataW H) → Nat
  | [] => 0
  | d :: r => uptoBulk d + uptoBulkAll r
def uptoBulkEntries {H : Type} : List (Lit × DataW H) → Nat
  | [] => 0
  | x :: r => uptoBulkEntry x + uptoBulkEntries r
def uptoBulkEntry {H : Type} : Lit × DataW H → Nat
  | (.string bytes, d) => bytes.length + uptoBulk d + 1
  | (_, d) => uptoBulk d + 1
 end
def uptoSmall : (H : Type) → List (DataW H) → Bool := fun _ ds => decide (uptoBulkAll ds ≤ 1048576)
def OpenSpec.upto (s : _root_.Go.ChangeSpec) : _root_.Go.OpenSpec := { _root_.Go.OpenSpec.ofChange s with cond := some uptoSmall }

/-- 'tappetlaw11.FlowTells', WHERE WHAT IT READS IS OF BULK AT MOST 1048576: true; the input reads as it did. -/
def flowTellsUptoRow : OpenClaim := { program := "yteingehdkpfpcaadoor", sum := "1206a27cbce9bc0c096a98d35f3fb51bb3d6497b0d079486c4db972055e0344f", func := "tappet/tappetlaw11.FlowTells", spec := "flowTells", inPlace := ["slices.overlaps[int]"], unfollowed := true, recurses := true, named := ["tappet/isa.kinds"], apart := false, laid := [("tappet/isa.kinds", laid_tappet_isa_kinds)], narrowed := true }
def FlowTellsUptoSaid : Prop := flowTellsUptoRow.holds Tryd.pinned (OpenSpec.upto flowTellsSpec)

/-- 'tappetlaw11.FlowWays', WHERE WHAT IT READS IS OF BULK AT MOST 1048576: true; the input reads as it did. -/
def flowWaysUptoRow : OpenClaim := { program := "yteingehdkpfpcaadoor", sum := "1206a27cbce9bc0c096a98d35f3fb51bb3d6497b0d079486c4db972055e0344f", func := "tappet/tappetlaw11.FlowWays", spec := "flowWays", inPlace := ["slices.overlaps[int]"], unfollowed := true, recurses := true, named := ["tappet/isa.kinds"], apart := false, laid := [("tappet/isa.kinds", laid_tappet_isa_kinds)], narrowed := true }
def FlowWaysUptoSaid : Prop := flowWaysUptoRow.holds Tryd.pinned (OpenSpec.upto flowWaysSpec)

/-- 'tappetlaw11.FlowLeft', WHERE WHAT IT READS IS OF BULK AT MOST 1048576: true; the input reads as it did. -/
def flowLeftUptoRow : OpenClaim := { program := "yteingehdkpfpcaadoor", sum := "1206a27cbce9bc0c096a98d35f3fb51bb3d6497b0d079486c4db972055e0344f", func := "tappet/tappetlaw11.FlowLeft", spec := "flowLeft", inPlace := ["slices.overlaps[int]"], unfollowed := true, recurses := true, named := ["tappet/isa.kinds"], apart := false, laid := [("tappet/isa.kinds", laid_tappet_isa_kinds)], narrowed := true }
def FlowLeftUptoSaid : Prop := flowLeftUptoRow.holds Tryd.pinned (OpenSpec.upto flowLeftSpec)

/-- 'tappetlaw12.HeightTells', WHERE WHAT IT READS IS OF BULK AT MOST 1048576: true; the input reads as it did. -/
def heightTellsUptoRow : OpenClaim := { program := "yteingehdkpfpcaadoor", sum := "1206a27cbce9bc0c096a98d35f3fb51bb3d6497b0d079486c4db972055e0344f", func := "tappet/tappetlaw12.HeightTells", spec := "heightTells", inPlace := ["slices.overlaps[int]"], unfollowed := true, recurses := true, named := ["tappet/isa.kinds"], apart := false, laid := [("tappet/isa.kinds", laid_tappet_isa_kinds)], narrowed := true }
def HeightTellsUptoSaid : Prop := heightTellsUptoRow.holds Tryd.pinned (OpenSpec.upto heightTellsSpec)

/-- 'tappetlaw12.HeightWays', WHERE WHAT IT READS IS OF BULK AT MOST 1048576: true; the input reads as it did. -/
def heightWaysUptoRow : OpenClaim := { program := "yteingehdkpfpcaadoor", sum := "1206a27cbce9bc0c096a98d35f3fb51bb3d6497b0d079486c4db972055e0344f", func := "tappet/tappetlaw12.HeightWays", spec := "heightWays", inPlace := ["slices.overlaps[int]"], unfollowed := true, recurses := true, named := ["tappet/isa.kinds"], apart := false, laid := [("tappet/isa.kinds", laid_tappet_isa_kinds)], narrowed := true }
def HeightWaysUptoSaid : Prop := heightWaysUptoRow.holds Tryd.pinned (OpenSpec.upto heightWaysSpec)

/-- 'tappetlaw12.HeightBounds', WHERE WHAT IT READS IS OF BULK AT MOST 1048576: true; the input reads as it did. -/
def heightBoundsUptoRow : OpenClaim := { program := "yteingehdkpfpcaadoor", sum := "1206a27cbce9bc0c096a98d35f3fb51bb3d6497b0d079486c4db972055e0344f", func := "tappet/tappetlaw12.HeightBounds", spec := "heightBounds", inPlace := ["slices.overlaps[int]"], unfollowed := true, recurses := true, named := ["tappet/isa.kinds"], apart := false, laid := [("tappet/isa.kinds", laid_tappet_isa_kinds)], narrowed := true }
def HeightBoundsUptoSaid : Prop := heightBoundsUptoRow.holds Tryd.pinned (OpenSpec.upto heightBoundsSpec)

end Rows
end Go.Proofs.YteingehdkpfpcaaDoor
