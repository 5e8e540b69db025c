/- Values as they are read: no more bits than are written, a list's things all of one kind: no program. -/
import Derived.Test.YtimhppgepiikbaaWireMath3
namespace Go.Proofs.Ytimhppgepiikbaa
namespace Wire
/-- all are of one kind -/
def AllK (K : Int) : F → Prop
  | .nil => True
  | .cons k _ _ _ _ next => k = K ∧ AllK K next
def FlatV (k n i : Int) (b : List Int) (sub : F) : Prop :=
  sub = .nil ∧ ((k = 1 ∧ n < 256 ∧ i = 0 ∧ b = []) ∨ (k = 2 ∧ n < 65536 ∧ i = 0 ∧ b = []) ∨ (k = 4 ∧ n < 4294967296 ∧ i = 0 ∧ b = []) ∨ (k = 8 ∧ i = 0 ∧ b = []) ∨ (k = 5 ∧ n = 0 ∧ b = []) ∨ (k = 6 ∧ n = 0 ∧ i = 0))
def Flat : F → Prop
  | .nil => True
  | .cons k n i b sub next => FlatV k n i b sub ∧ Flat next
def PlainV (k n i : Int) (b : List Int) (sub : F) : Prop := FlatV k n i b sub ∨ (k = 7 ∧ n = 0 ∧ i = 0 ∧ b = [] ∧ Flat sub ∧ ∃ K, AllK K sub)
def Plain : F → Prop
  | .nil => True
  | .cons k n i b sub next => PlainV k n i b sub ∧ Plain next
theorem flat_of : ∀ (f : F) (K : Int), ¬ K = 7 → AllK K f → Plain f → Flat f
  | .nil, _, _, _, _ => trivial
  | .cons k n i b sub next, K, hK, ha, hp => by
    refine ⟨?_, flat_of next K hK ha.2 hp.2⟩
    rcases hp.1 with h | h
    · exact h
    · exact absurd (ha.1.symm.trans h.1) hK
end Wire
end Go.Proofs.Ytimhppgepiikbaa
