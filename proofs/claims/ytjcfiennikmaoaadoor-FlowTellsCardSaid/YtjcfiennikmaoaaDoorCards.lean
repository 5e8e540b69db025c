/-
  DERIVED. GIVEN WITH THE SEED: THE CARDS: each row of YtjcfiennikmaoaaDoorRows.lean that lists a variable, with what it lists TIED to the program's text (the seventh form; the later family's looks); each row that meets fmt, with fmt's text TOLD by the authors' own Lean function (tested against real Go, not proved from fmt's source: count such statements apart). THE CARD IS WHAT COUNTS. Prove the row's statement (the work); the ties are given (YtjcfiennikmaoaaDoorTie.lean); close each card by the builder's one call (the guide's Derived/Test/ToyasCard.lean, 'card_holds'). Laid BY PROGRAM, IN A SANDBOX (cutbox-door.mjs). By AI agents, Wed Nov 11 2026. No macro, syntax, notation, axiom, sorry.
-/
import Derived.Test.YtjcfiennikmaoaaDoorRows
import GoSem.ClaimSeven
namespace Go.Proofs.YtjcfiennikmaoaaDoor
namespace Rows

/-- THE TIED CARD OF 'tappetlaw11.FlowTells'. -/
def flowTellsCard : Claim7 := { stood := { row := flowTellsRow, standIns := [], harness := (true, "5a51af9f525c7392f3adfc4a213486f77a5115f356699d536c8d0ac37f984217"), looks := false }, kinds := [], alts := [], laidByText := true, laidKinds := [.data], laidTests := true, laidLooks := .later }
def FlowTellsCardSaid : Prop := Claim7.holds Tryd.pinned (.plain (OpenSpec.ofChange flowTellsSpec)) flowTellsCard

/-- THE TIED CARD OF 'tappetlaw11.FlowWays'. -/
def flowWaysCard : Claim7 := { stood := { row := flowWaysRow, standIns := [], harness := (true, "5a51af9f525c7392f3adfc4a213486f77a5115f356699d536c8d0ac37f984217"), looks := false }, kinds := [], alts := [], laidByText := true, laidKinds := [.data], laidTests := true, laidLooks := .later }
def FlowWaysCardSaid : Prop := Claim7.holds Tryd.pinned (.plain (OpenSpec.ofChange flowWaysSpec)) flowWaysCard

/-- THE TIED CARD OF 'tappetlaw11.FlowLeft'. -/
def flowLeftCard : Claim7 := { stood := { row := flowLeftRow, standIns := [], harness := (true, "5a51af9f525c7392f3adfc4a213486f77a5115f356699d536c8d0ac37f984217"), looks := false }, kinds := [], alts := [], laidByText := true, laidKinds := [.data], laidTests := true, laidLooks := .later }
def FlowLeftCardSaid : Prop := Claim7.holds Tryd.pinned (.plain (OpenSpec.ofChange flowLeftSpec)) flowLeftCard

/-- THE SECOND FORM's CARD OF 'tappetlaw11.FlowTells'. -/
def flowTellsUptoCard : Claim7 := { stood := { row := flowTellsUptoRow, standIns := [], harness := (true, "5a51af9f525c7392f3adfc4a213486f77a5115f356699d536c8d0ac37f984217"), looks := false }, kinds := [], alts := [], laidByText := true, laidKinds := [.data], laidTests := true, laidLooks := .later }
def FlowTellsUptoCardSaid : Prop := Claim7.holds Tryd.pinned (.plain (OpenSpec.upto flowTellsSpec)) flowTellsUptoCard

/-- THE SECOND FORM's CARD OF 'tappetlaw11.FlowWays'. -/
def flowWaysUptoCard : Claim7 := { stood := { row := flowWaysUptoRow, standIns := [], harness := (true, "5a51af9f525c7392f3adfc4a213486f77a5115f356699d536c8d0ac37f984217"), looks := false }, kinds := [], alts := [], laidByText := true, laidKinds := [.data], laidTests := true, laidLooks := .later }
def FlowWaysUptoCardSaid : Prop := Claim7.holds Tryd.pinned (.plain (OpenSpec.upto flowWaysSpec)) flowWaysUptoCard

/-- THE SECOND FORM's CARD OF 'tappetlaw11.FlowLeft'. -/
def flowLeftUptoCard : Claim7 := { stood := { row := flowLeftUptoRow, standIns := [], harness := (true, "5a51af9f525c7392f3adfc4a213486f77a5115f356699d536c8d0ac37f984217"), looks := false }, kinds := [], alts := [], laidByText := true, laidKinds := [.data], laidTests := true, laidLooks := .later }
def FlowLeftUptoCardSaid : Prop := Claim7.holds Tryd.pinned (.plain (OpenSpec.upto flowLeftSpec)) flowLeftUptoCard
end Rows
end Go.Proofs.YtjcfiennikmaoaaDoor
