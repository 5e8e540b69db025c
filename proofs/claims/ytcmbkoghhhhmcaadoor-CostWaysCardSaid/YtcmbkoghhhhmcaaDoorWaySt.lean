/- A store that is worked off, and a row of numbers beside it: what stands in memory meanwhile. -/
import Derived.Test.YtcmbkoghhhhmcaaDoorFlowTurn
import Derived.Test.YtcmbkoghhhhmcaaDoorFlowInts
import Derived.Test.YtcmbkoghhhhmcaaDoorFlowMath6
namespace Go.Proofs.YtcmbkoghhhhmcaaDoor
open Go.ChangeShapes Go.WideShapes Go.ChangeAt Go.RowKit
namespace Flw
open Isa
open Goes
open Rights (Kept)
set_option linter.unusedVariables false
set_option linter.unusedSimpArgs false
/-- g: those that wait; O: the row; W0: the world ahead; q: what else may be written -/
structure WSt (g O : Nat) (q : Nat → Prop) (W0 : World) (A : List Int) (R : List Nat) (v : Value) (V : World) : Prop where
  bw : Box V g 63 v
  row : PRow V O A
  own : V.ownsRow W0.heap.size 3 1 v R.length (nums R)
  kp : Kept (fun k => k = O ∨ k = g ∨ q k) W0 V
  lg : g < W0.heap.size
  lO : O < W0.heap.size
section
variable {g O : Nat} {q : Nat → Prop} {W0 : World} {A : List Int} {R : List Nat} {v : Value} {V : World}
theorem WSt.gO (h : WSt g O q W0 A R v V) : g ≠ O := ne_kind h.bw h.row (by intro e; injection e with _ e _; exact absurd e (by decide))
theorem WSt.ge (h : WSt g O q W0 A R v V) {k : Nat} (hk : v.ownBlock = some k) : W0.heap.size ≤ k ∧ k < V.heap.size := own_lt h.own hk
theorem WSt.kept (h : WSt g O q W0 A R v V) {p : Nat → Prop} {V' : World} (hk : Kept p V V') (hg : ¬ p g) (hO : ¬ p O) (hv : ∀ k, v.ownBlock = some k → ¬ p k) (hp : ∀ k, p k → k < W0.heap.size → q k) : WSt g O q W0 A R v V' :=
  ⟨h.bw.kept hk hg, hk.same h.row hO, own_kept h.own hk hv, h.kp.trans' hk fun k hlt hpk => .inr (.inr (hp k hpk hlt)), h.lg, h.lO⟩
theorem WSt.below (h : WSt g O q W0 A R v V) {V' : World} (hb : Below V.heap.size V V') : WSt g O q W0 A R v V' :=
  h.kept (kept_of hb fun k h1 h2 => absurd h1 (by omega) : Kept (fun _ => False) V V') (fun x => x) (fun x => x) (fun _ _ x => x) (fun _ x => x.elim)
/-- one number of the row is set -/
theorem WSt.set (h : WSt g O q W0 A R v V) (x : Nat) (u : Int) : Kept (fun k => k = O) V (V.setCell ⟨O, x, none⟩ (.int .i64 u)) ∧ WSt g O q W0 (A.set x u) R v (V.setCell ⟨O, x, none⟩ (.int .i64 u)) := by
  have hk : Kept (fun k => k = O) V (V.setCell ⟨O, x, none⟩ (.int .i64 u)) := kept_set _ _ _ _ rfl
  exact ⟨hk, h.bw.kept hk h.gO, h.row.set x u, own_kept h.own hk (fun k hk2 e => by have := (h.ge hk2).1; have := h.lO; have e2 : k = O := e; omega), h.kp.trans (hk.mono fun k _ e => .inl e), h.lg, h.lO⟩
/-- one more waits -/
theorem WSt.put {x : Nat} {Y : World} {e : Ending} (h : WSt g O q W0 A R v V) (hq : PutP W0.heap.size g v R x V e Y) :
    ∃ a c R', e = .returned (.tuple #[]) ∧ R'.length = R.length + 1 ∧ Fal R' ∧ (∀ m, m ∈ R' ↔ m = x ∨ m ∈ R) ∧ ((Value.slice a (R.length + 1 : Nat) c).ownBlock = v.ownBlock ∨ ∃ g, (Value.slice a (R.length + 1 : Nat) c).ownBlock = some g ∧ V.heap.size ≤ g) ∧
      Kept (fun k => v.ownBlock = some k ∨ k = g) V Y ∧ WSt g O q W0 A R' (.slice a (R.length + 1 : Nat) c) Y := by
  obtain ⟨a, c, R', he, hl, hf, hm, hb, ho, hk, hat⟩ := hq
  refine ⟨a, c, R', he, hl, hf, hm, hat, hk, hb, hk.same h.row ?_, by rw [hl]; exact ho, h.kp.trans' hk ?_, h.lg, h.lO⟩
  · rintro (e | e)
    · have := (h.ge e).1; have := h.lO; omega
    · exact h.gO e.symm
  · rintro k hlt (e | e)
    · have := (h.ge e).1; omega
    · exact .inr (.inl e)
/-- the least one is taken out -/
theorem WSt.step {R' : List Nat} {k x : Nat} {v' : Value} {V' : World} (h : WSt g O q W0 A R v V) (hs : wStep g (R, v) k (R', v') V V') (ha : WAt W0.heap.size g x (R', v') V') : R = R' ++ [k] ∧ v'.ownBlock = v.ownBlock ∧ Kept (fun j => j = g) V V' ∧ WSt g O q W0 A R' v' V' := by
  obtain ⟨h1, h2, h3⟩ := hs
  exact ⟨h1, h2, h3, ha.bw, h3.same h.row h.gO.symm, ha.own, h.kp.trans (h3.mono fun k _ e => .inr (.inl e)), h.lg, h.lO⟩
/-- how it begins -/
theorem WSt.start (hg : W0.heap[g]? = some (.cells #[.slice none 0 0] 63 (0, 0))) (hO : PRow W0 O A) : WSt g O q W0 A [] (.slice none 0 0) W0 :=
  ⟨hg, hO, World.ownsRow_nil _ _ _ _, Kept.refl _ _, lt_of_block hg, hO.lt⟩
end
/-- a box of the iterator is no block of the store or of the row -/
theorem box_ne {V : World} {x y : Nat} {t u : TypeId} {a b : Value} (h : Box V x t a) (k : Box V y u b) (ht : t ≠ u) : x ≠ y := ne_kind h k (by intro e; injection e with _ e _; exact ht e)
theorem box_ne_own {V : World} {x S n : Nat} {t : TypeId} {a v : Value} {xs : List Value} (h : Box V x t a) (k : V.ownsRow S 3 1 v n xs) (ht : t ≠ 3) {j : Nat} (hj : v.ownBlock = some j) : x ≠ j := fun e => own_ne_wait ht k h hj e.symm
theorem box_ne_row {V : World} {x O : Nat} {t : TypeId} {a : Value} {A : List Int} (h : Box V x t a) (k : PRow V O A) (ht : t ≠ 3) : x ≠ O := ne_kind h k (by intro e; injection e with _ e _; exact ht e)
end Flw
end Go.Proofs.YtcmbkoghhhhmcaaDoor
