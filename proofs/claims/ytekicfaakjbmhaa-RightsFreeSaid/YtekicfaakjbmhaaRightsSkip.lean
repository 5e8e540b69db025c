/- The law of a loop over an iterator, whose values are not taken. -/
import Derived.Test.YtekicfaakjbmhaaRightsSeq
namespace Go.Proofs.Ytekicfaakjbmhaa
open Go.ChangeShapes Go.WideShapes
namespace Rights
set_option linter.unusedVariables false
variable {P : Program}
theorem wpIn_rangeFunc_q_skip {α : Type} {g : Operand} {ps : Array Tmp} {body : Code} {Q : Exit → Act → World → Prop} {a : Act} {w : World}
    {gf : Nat} {lb : Array Value} (hg : a.eval g = .func (.func gf) #[] lb) (eg : ∀ args w, (callFunc gf args).run P w = .ok (.enter gf args) w)
    {encs : α → Array Value} {c : Nat → Prop} {L : List α} {w0 : World} (hseq : SeqQ P gf lb encs c L w0) (hb0 : Kept (fun k => ¬ c k) w0 w) (hcw : ∀ k, c k → k < w.heap.size) (hps : ∀ x, (encs x).size = ps.size)
    (I : List α → (Nat → Prop) → World → Prop) (Ix : Code → List α → (Nat → Prop) → World → Prop)
    (hI : Stable (fun k => k = w.heap.size ∨ k = w.heap.size + 1) I) (hIx : ∀ c, Stable (fun k => k = w.heap.size ∨ k = w.heap.size + 1) (Ix c)) (h0 : I [] (fun _ => False) w)
    (hbody : ∀ (l : Nat) (pre : List α) (x : α) (q : Nat → Prop) (W : World), pre ++ [x] <+: L → (∀ k, q k → w.heap.size + 2 ≤ k ∧ k < W.heap.size) → w.heap.size + 2 ≤ W.heap.size → I pre q W →
      body.wpIn (Fence.wide.inRound l) 0 P (postQ w.heap.size c I Ix (pre ++ [x]) q W) { tmps := (ps.zip (encs x)).foldl (fun t (p, v) => t.setIfInBounds p v) a.tmps, defers := [] } W)
    (hdone : ∀ (q : Nat → Prop) (W : World), I L q W → w.heap.size + 2 ≤ W.heap.size → (∀ k, q k → w.heap.size + 2 ≤ k ∧ k < W.heap.size) → W.heap[w.heap.size]? = some (.deferred (some [])) → Q .normal { a with defers := { target := .collected w.heap.size, args := #[] } :: a.defers } W)
    (hstop : ∀ (c : Code) (pre : List α) (q : Nat → Prop) (W : World), pre <+: L → Ix c pre q W → w.heap.size + 2 ≤ W.heap.size → (∀ k, q k → w.heap.size + 2 ≤ k ∧ k < W.heap.size) → W.heap[w.heap.size]? = some (.deferred (some [])) → c.wpIn Fence.wide 0 P Q { a with defers := { target := .collected w.heap.size, args := #[] } :: a.defers } W) :
    (Code.rangeFunc g ps .skip body).wpIn Fence.wide 0 P Q a w :=
  wpIn_rangeFunc_q hg eg hseq hb0 hcw hps I Ix hI hIx h0 _ (fun l x W K hK => wpIn_skip hK) hbody hdone hstop
end Rights
end Go.Proofs.Ytekicfaakjbmhaa
