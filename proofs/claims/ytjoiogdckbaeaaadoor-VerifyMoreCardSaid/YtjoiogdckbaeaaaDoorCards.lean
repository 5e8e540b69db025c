/-
  DERIVED. GIVEN WITH THE SEED: THE CARDS: each row of YtjoiogdckbaeaaaDoorRows.lean that lists a variable, with what it lists TIED to the program's text (the seventh form; the later family's looks); each row that meets fmt, with fmt's text TOLD by the authors' own Lean function (tested against real Go, not proved from fmt's source: count such statements apart). THE CARD IS WHAT COUNTS. Prove the row's statement (the work); the ties are given (YtjoiogdckbaeaaaDoorTie.lean); close each card by the builder's one call (the guide's Derived/Test/ToyasCard.lean, 'card_holds'). Laid BY PROGRAM, IN A SANDBOX (cutbox-door.mjs). By AI agents, Wed Nov 11 2026. No macro, syntax, notation, axiom, sorry.
-/
import Derived.Test.YtjoiogdckbaeaaaDoorRows
import GoSem.ClaimSeven
namespace Go.Proofs.YtjoiogdckbaeaaaDoor
namespace Rows

/-- THE TIED CARD OF 'tappetlaw14.VerifyChecks'. -/
def verifyChecksCard : Claim7 := { stood := { row := verifyChecksRow, standIns := [], harness := (true, "8d4ded68668b891768a8f032c8ea3f27969c6418eaa3901e5ec556c337fed524"), looks := false }, kinds := [], alts := [], laidByText := true, laidKinds := [.data], laidTests := true, laidLooks := .later }
def VerifyChecksCardSaid : Prop := Claim7.holds Tryd.pinned (.plain (OpenSpec.ofChange verifyChecksSpec)) verifyChecksCard

/-- THE TIED CARD OF 'tappetlaw14.VerifyMore'. -/
def verifyMoreCard : Claim7 := { stood := { row := verifyMoreRow, standIns := [], harness := (true, "8d4ded68668b891768a8f032c8ea3f27969c6418eaa3901e5ec556c337fed524"), looks := false }, kinds := [], alts := [], laidByText := true, laidKinds := [.data], laidTests := true, laidLooks := .later }
def VerifyMoreCardSaid : Prop := Claim7.holds Tryd.pinned (.plain (OpenSpec.ofChange verifyMoreSpec)) verifyMoreCard

/-- THE TIED CARD OF 'tappetlaw14.VerifySums'. -/
def verifySumsCard : Claim7 := { stood := { row := verifySumsRow, standIns := [], harness := (true, "8d4ded68668b891768a8f032c8ea3f27969c6418eaa3901e5ec556c337fed524"), looks := false }, kinds := [], alts := [], laidByText := true, laidKinds := [.data], laidTests := true, laidLooks := .later }
def VerifySumsCardSaid : Prop := Claim7.holds Tryd.pinned (.plain (OpenSpec.ofChange verifySumsSpec)) verifySumsCard

/-- THE SECOND FORM's CARD OF 'tappetlaw14.VerifyChecks'. -/
def verifyChecksUptoCard : Claim7 := { stood := { row := verifyChecksUptoRow, standIns := [], harness := (true, "8d4ded68668b891768a8f032c8ea3f27969c6418eaa3901e5ec556c337fed524"), looks := false }, kinds := [], alts := [], laidByText := true, laidKinds := [.data], laidTests := true, laidLooks := .later }
def VerifyChecksUptoCardSaid : Prop := Claim7.holds Tryd.pinned (.plain (OpenSpec.upto verifyChecksSpec)) verifyChecksUptoCard

/-- THE SECOND FORM's CARD OF 'tappetlaw14.VerifyMore'. -/
def verifyMoreUptoCard : Claim7 := { stood := { row := verifyMoreUptoRow, standIns := [], harness := (true, "8d4ded68668b891768a8f032c8ea3f27969c6418eaa3901e5ec556c337fed524"), looks := false }, kinds := [], alts := [], laidByText := true, laidKinds := [.data], laidTests := true, laidLooks := .later }
def VerifyMoreUptoCardSaid : Prop := Claim7.holds Tryd.pinned (.plain (OpenSpec.upto verifyMoreSpec)) verifyMoreUptoCard

/-- THE SECOND FORM's CARD OF 'tappetlaw14.VerifySums'. -/
def verifySumsUptoCard : Claim7 := { stood := { row := verifySumsUptoRow, standIns := [], harness := (true, "8d4ded68668b891768a8f032c8ea3f27969c6418eaa3901e5ec556c337fed524"), looks := false }, kinds := [], alts := [], laidByText := true, laidKinds := [.data], laidTests := true, laidLooks := .later }
def VerifySumsUptoCardSaid : Prop := Claim7.holds Tryd.pinned (.plain (OpenSpec.upto verifySumsSpec)) verifySumsUptoCard
end Rows
end Go.Proofs.YtjoiogdckbaeaaaDoor
