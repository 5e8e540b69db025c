/-
  DERIVED. GIVEN WITH THE SEED: THE CARDS: each row of YteingehdkpfpcaaDoorRows.lean that lists a variable, with what it lists TIED to the program's text (the seventh form; the later family's looks); each row that meets fmt, with fmt's text TOLD by the authors' own Lean function (tested against real Go, not proved from fmt's source: count such statements apart). THE CARD IS WHAT COUNTS. Prove the row's statement (the work); the ties are given (YteingehdkpfpcaaDoorTie.lean); close each card by the builder's one call (the guide's Derived/Test/ToyasCard.lean, 'card_holds'). Laid BY PROGRAM, IN A SANDBOX (cutbox-door.mjs). By AI agents, Wed Nov 11 2026. No macro, syntax, notation, axiom, sorry.
-/
import Derived.Test.YteingehdkpfpcaaDoorRows
import GoSem.ClaimSeven
namespace Go.Proofs.YteingehdkpfpcaaDoor
namespace Rows

/-- THE TIED CARD OF 'tappetlaw11.FlowTells'. -/
def flowTellsCard : Claim7 := { stood := { row := flowTellsRow, standIns := [], harness := (true, "1daf62bcbec84f22ee1684c2058a6305d9b8fadd5115d624c566245904916290"), looks := false }, kinds := [], alts := [], laidByText := true, laidKinds := [.data], laidTests := true, laidLooks := .later }
def FlowTellsCardSaid : Prop := Claim7.holds Tryd.pinned (.plain (OpenSpec.ofChange flowTellsSpec)) flowTellsCard

/-- THE TIED CARD OF 'tappetlaw11.FlowWays'. -/
def flowWaysCard : Claim7 := { stood := { row := flowWaysRow, standIns := [], harness := (true, "1daf62bcbec84f22ee1684c2058a6305d9b8fadd5115d624c566245904916290"), looks := false }, kinds := [], alts := [], laidByText := true, laidKinds := [.data], laidTests := true, laidLooks := .later }
def FlowWaysCardSaid : Prop := Claim7.holds Tryd.pinned (.plain (OpenSpec.ofChange flowWaysSpec)) flowWaysCard

/-- THE TIED CARD OF 'tappetlaw11.FlowLeft'. -/
def flowLeftCard : Claim7 := { stood := { row := flowLeftRow, standIns := [], harness := (true, "1daf62bcbec84f22ee1684c2058a6305d9b8fadd5115d624c566245904916290"), looks := false }, kinds := [], alts := [], laidByText := true, laidKinds := [.data], laidTests := true, laidLooks := .later }
def FlowLeftCardSaid : Prop := Claim7.holds Tryd.pinned (.plain (OpenSpec.ofChange flowLeftSpec)) flowLeftCard

/-- THE TIED CARD OF 'tappetlaw12.HeightTells'. -/
def heightTellsCard : Claim7 := { stood := { row := heightTellsRow, standIns := [], harness := (true, "1daf62bcbec84f22ee1684c2058a6305d9b8fadd5115d624c566245904916290"), looks := false }, kinds := [], alts := [], laidByText := true, laidKinds := [.data], laidTests := true, laidLooks := .later }
def HeightTellsCardSaid : Prop := Claim7.holds Tryd.pinned (.plain (OpenSpec.ofChange heightTellsSpec)) heightTellsCard

/-- THE TIED CARD OF 'tappetlaw12.HeightWays'. -/
def heightWaysCard : Claim7 := { stood := { row := heightWaysRow, standIns := [], harness := (true, "1daf62bcbec84f22ee1684c2058a6305d9b8fadd5115d624c566245904916290"), looks := false }, kinds := [], alts := [], laidByText := true, laidKinds := [.data], laidTests := true, laidLooks := .later }
def HeightWaysCardSaid : Prop := Claim7.holds Tryd.pinned (.plain (OpenSpec.ofChange heightWaysSpec)) heightWaysCard

/-- THE TIED CARD OF 'tappetlaw12.HeightBounds'. -/
def heightBoundsCard : Claim7 := { stood := { row := heightBoundsRow, standIns := [], harness := (true, "1daf62bcbec84f22ee1684c2058a6305d9b8fadd5115d624c566245904916290"), looks := false }, kinds := [], alts := [], laidByText := true, laidKinds := [.data], laidTests := true, laidLooks := .later }
def HeightBoundsCardSaid : Prop := Claim7.holds Tryd.pinned (.plain (OpenSpec.ofChange heightBoundsSpec)) heightBoundsCard

/-- THE SECOND FORM's CARD OF 'tappetlaw11.FlowTells'. -/
def flowTellsUptoCard : Claim7 := { stood := { row := flowTellsUptoRow, standIns := [], harness := (true, "1daf62bcbec84f22ee1684c2058a6305d9b8fadd5115d624c566245904916290"), looks := false }, kinds := [], alts := [], laidByText := true, laidKinds := [.data], laidTests := true, laidLooks := .later }
def FlowTellsUptoCardSaid : Prop := Claim7.holds Tryd.pinned (.plain (OpenSpec.upto flowTellsSpec)) flowTellsUptoCard

/-- THE SECOND FORM's CARD OF 'tappetlaw11.FlowWays'. -/
def flowWaysUptoCard : Claim7 := { stood := { row := flowWaysUptoRow, standIns := [], harness := (true, "1daf62bcbec84f22ee1684c2058a6305d9b8fadd5115d624c566245904916290"), looks := false }, kinds := [], alts := [], laidByText := true, laidKinds := [.data], laidTests := true, laidLooks := .later }
def FlowWaysUptoCardSaid : Prop := Claim7.holds Tryd.pinned (.plain (OpenSpec.upto flowWaysSpec)) flowWaysUptoCard

/-- THE SECOND FORM's CARD OF 'tappetlaw11.FlowLeft'. -/
def flowLeftUptoCard : Claim7 := { stood := { row := flowLeftUptoRow, standIns := [], harness := (true, "1daf62bcbec84f22ee1684c2058a6305d9b8fadd5115d624c566245904916290"), looks := false }, kinds := [], alts := [], laidByText := true, laidKinds := [.data], laidTests := true, laidLooks := .later }
def FlowLeftUptoCardSaid : Prop := Claim7.holds Tryd.pinned (.plain (OpenSpec.upto flowLeftSpec)) flowLeftUptoCard

/-- THE SECOND FORM's CARD OF 'tappetlaw12.HeightTells'. -/
def heightTellsUptoCard : Claim7 := { stood := { row := heightTellsUptoRow, standIns := [], harness := (true, "1daf62bcbec84f22ee1684c2058a6305d9b8fadd5115d624c566245904916290"), looks := false }, kinds := [], alts := [], laidByText := true, laidKinds := [.data], laidTests := true, laidLooks := .later }
def HeightTellsUptoCardSaid : Prop := Claim7.holds Tryd.pinned (.plain (OpenSpec.upto heightTellsSpec)) heightTellsUptoCard

/-- THE SECOND FORM's CARD OF 'tappetlaw12.HeightWays'. -/
def heightWaysUptoCard : Claim7 := { stood := { row := heightWaysUptoRow, standIns := [], harness := (true, "1daf62bcbec84f22ee1684c2058a6305d9b8fadd5115d624c566245904916290"), looks := false }, kinds := [], alts := [], laidByText := true, laidKinds := [.data], laidTests := true, laidLooks := .later }
def HeightWaysUptoCardSaid : Prop := Claim7.holds Tryd.pinned (.plain (OpenSpec.upto heightWaysSpec)) heightWaysUptoCard

/-- THE SECOND FORM's CARD OF 'tappetlaw12.HeightBounds'. -/
def heightBoundsUptoCard : Claim7 := { stood := { row := heightBoundsUptoRow, standIns := [], harness := (true, "1daf62bcbec84f22ee1684c2058a6305d9b8fadd5115d624c566245904916290"), looks := false }, kinds := [], alts := [], laidByText := true, laidKinds := [.data], laidTests := true, laidLooks := .later }
def HeightBoundsUptoCardSaid : Prop := Claim7.holds Tryd.pinned (.plain (OpenSpec.upto heightBoundsSpec)) heightBoundsUptoCard
end Rows
end Go.Proofs.YteingehdkpfpcaaDoor
