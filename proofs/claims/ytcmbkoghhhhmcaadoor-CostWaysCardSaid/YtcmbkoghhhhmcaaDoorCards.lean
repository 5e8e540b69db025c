/-
  DERIVED. GIVEN WITH THE SEED: THE CARDS: each row of YtcmbkoghhhhmcaaDoorRows.lean that lists a variable, with what it lists TIED to the program's text (the seventh form; the later family's looks); each row that meets fmt, with fmt's text TOLD by the authors' own Lean function (tested against real Go, not proved from fmt's source: count such statements apart). THE CARD IS WHAT COUNTS. Prove the row's statement (the work); the ties are given (YtcmbkoghhhhmcaaDoorTie.lean); close each card by the builder's one call (the guide's Derived/Test/ToyasCard.lean, 'card_holds'). Laid BY PROGRAM, IN A SANDBOX (cutbox-door.mjs). By AI agents, Wed Nov 11 2026. No macro, syntax, notation, axiom, sorry.
-/
import Derived.Test.YtcmbkoghhhhmcaaDoorRows
import GoSem.ClaimSeven
namespace Go.Proofs.YtcmbkoghhhhmcaaDoor
namespace Rows

/-- THE TIED CARD OF 'tappetlaw13.CostTells'. -/
def costTellsCard : Claim7 := { stood := { row := costTellsRow, standIns := [], harness := (true, "b524850a409e30905b98a3a73656bf192aa00478ece9a3d8346f737240c2519a"), looks := false }, kinds := [], alts := [], laidByText := true, laidKinds := [.data], laidTests := true, laidLooks := .later }
def CostTellsCardSaid : Prop := Claim7.holds Tryd.pinned (.plain (OpenSpec.ofChange costTellsSpec)) costTellsCard

/-- THE TIED CARD OF 'tappetlaw13.CostWays'. -/
def costWaysCard : Claim7 := { stood := { row := costWaysRow, standIns := [], harness := (true, "b524850a409e30905b98a3a73656bf192aa00478ece9a3d8346f737240c2519a"), looks := false }, kinds := [], alts := [], laidByText := true, laidKinds := [.data], laidTests := true, laidLooks := .later }
def CostWaysCardSaid : Prop := Claim7.holds Tryd.pinned (.plain (OpenSpec.ofChange costWaysSpec)) costWaysCard

/-- THE TIED CARD OF 'tappetlaw13.CostSteps'. -/
def costStepsCard : Claim7 := { stood := { row := costStepsRow, standIns := [], harness := (true, "b524850a409e30905b98a3a73656bf192aa00478ece9a3d8346f737240c2519a"), looks := false }, kinds := [], alts := [], laidByText := true, laidKinds := [.data], laidTests := true, laidLooks := .later }
def CostStepsCardSaid : Prop := Claim7.holds Tryd.pinned (.plain (OpenSpec.ofChange costStepsSpec)) costStepsCard

/-- THE SECOND FORM's CARD OF 'tappetlaw13.CostTells'. -/
def costTellsUptoCard : Claim7 := { stood := { row := costTellsUptoRow, standIns := [], harness := (true, "b524850a409e30905b98a3a73656bf192aa00478ece9a3d8346f737240c2519a"), looks := false }, kinds := [], alts := [], laidByText := true, laidKinds := [.data], laidTests := true, laidLooks := .later }
def CostTellsUptoCardSaid : Prop := Claim7.holds Tryd.pinned (.plain (OpenSpec.upto costTellsSpec)) costTellsUptoCard

/-- THE SECOND FORM's CARD OF 'tappetlaw13.CostWays'. -/
def costWaysUptoCard : Claim7 := { stood := { row := costWaysUptoRow, standIns := [], harness := (true, "b524850a409e30905b98a3a73656bf192aa00478ece9a3d8346f737240c2519a"), looks := false }, kinds := [], alts := [], laidByText := true, laidKinds := [.data], laidTests := true, laidLooks := .later }
def CostWaysUptoCardSaid : Prop := Claim7.holds Tryd.pinned (.plain (OpenSpec.upto costWaysSpec)) costWaysUptoCard

/-- THE SECOND FORM's CARD OF 'tappetlaw13.CostSteps'. -/
def costStepsUptoCard : Claim7 := { stood := { row := costStepsUptoRow, standIns := [], harness := (true, "b524850a409e30905b98a3a73656bf192aa00478ece9a3d8346f737240c2519a"), looks := false }, kinds := [], alts := [], laidByText := true, laidKinds := [.data], laidTests := true, laidLooks := .later }
def CostStepsUptoCardSaid : Prop := Claim7.holds Tryd.pinned (.plain (OpenSpec.upto costStepsSpec)) costStepsUptoCard
end Rows
end Go.Proofs.YtcmbkoghhhhmcaaDoor
