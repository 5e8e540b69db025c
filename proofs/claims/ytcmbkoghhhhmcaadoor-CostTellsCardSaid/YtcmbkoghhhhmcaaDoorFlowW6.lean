/- flow.Come: what stands in memory while it works. -/
import Derived.Test.YtcmbkoghhhhmcaaDoorFlowW4
import Derived.Test.YtcmbkoghhhhmcaaDoorFlowGi
import Derived.Test.YtcmbkoghhhhmcaaDoorFlowMarks
import Derived.Test.YtcmbkoghhhhmcaaDoorFlowMath5
import Derived.Test.YtcmbkoghhhhmcaaDoorFlowR3
namespace Go.Proofs.YtcmbkoghhhhmcaaDoor
open Go.ChangeShapes Go.WideShapes Go.ChangeAt Go.RowKit
namespace Flw
open Isa
open Goes
open Rights (Kept)
set_option linter.unusedVariables false
set_option linter.unusedSimpArgs false
/-- a whole block of bools is a row of the call's own -/
theorem brow_own {V : World} {O n S : Nat} {Bl : List Bool} (h : BRow V O Bl) (hl : Bl.length = n) (hS : S ≤ O) (hn : n ≤ 1000000) : V.ownsRow S 4 1 (.slice (some ⟨O, 0, none⟩) n n) n (bls Bl) := by
  have e : (bls Bl).length = n := by simp [bls, hl]
  refine ⟨by omega, .inr ⟨O, n, (bls Bl).toArray, rfl, hS, h, Nat.le_refl _, by unfold maxLen; omega, by simp [e], ?_⟩⟩
  rw [Nat.mul_one, List.toList_toArray]
  exact List.take_of_length_le (by omega)
/-- while Come works: the two boxes, the row of bools, the row of those that are open -/
structure CSt (S1 S2 O n : Nat) (w : World) (Bl : List Bool) (op : List Nat) (v : Value) (V : World) : Prop where
  b1 : Box V S1 33 (.slice (some ⟨O, 0, none⟩) n n)
  b2 : Box V S2 34 v
  row : BRow V O Bl
  own : V.ownsRow w.heap.size 3 1 v op.length (nums op)
  bel : Below w.heap.size w V
  l1 : w.heap.size ≤ S1
  l2 : w.heap.size ≤ S2
  lO : w.heap.size ≤ O
section
variable {S1 S2 O n : Nat} {w : World} {Bl : List Bool} {op : List Nat} {v : Value} {V : World}
theorem CSt.ne12 (h : CSt S1 S2 O n w Bl op v V) : S1 ≠ S2 := ne_kind h.b1 h.b2 (by intro e; injection e with _ e _; exact absurd e (by decide))
theorem CSt.ne1O (h : CSt S1 S2 O n w Bl op v V) : S1 ≠ O := ne_kind h.b1 h.row (by intro e; injection e with _ e _; exact absurd e (by decide))
theorem CSt.ne2O (h : CSt S1 S2 O n w Bl op v V) : S2 ≠ O := ne_kind h.b2 h.row (by intro e; injection e with _ e _; exact absurd e (by decide))
theorem CSt.neg (h : CSt S1 S2 O n w Bl op v V) {g : Nat} (hg : v.ownBlock = some g) : g ≠ S1 ∧ g ≠ S2 ∧ g ≠ O := by
  obtain ⟨cur, hc⟩ := own_block h.own hg
  exact ⟨ne_kind hc h.b1 (by intro e; injection e with _ e _; exact absurd e (by decide)), ne_kind hc h.b2 (by intro e; injection e with _ e _; exact absurd e (by decide)), ne_kind hc h.row (by intro e; injection e with _ e _; exact absurd e (by decide))⟩
theorem CSt.kept (h : CSt S1 S2 O n w Bl op v V) {p : Nat → Prop} {V' : World} (hk : Kept p V V') (h1 : ¬ p S1) (h2 : ¬ p S2) (hO : ¬ p O) (hg : ∀ g, v.ownBlock = some g → ¬ p g) (hp : ∀ k, p k → w.heap.size ≤ k) : CSt S1 S2 O n w Bl op v V' :=
  ⟨h.b1.kept hk h1, h.b2.kept hk h2, hk.same h.row hO, own_kept h.own hk hg, h.bel.trans (below_of hk h.bel.size hp), h.l1, h.l2, h.lO⟩
theorem CSt.below (h : CSt S1 S2 O n w Bl op v V) {V' : World} (hb : Below V.heap.size V V') : CSt S1 S2 O n w Bl op v V' :=
  h.kept (kept_of hb fun k h1 h2 => absurd h1 (by omega) : Kept (fun _ => False) V V') (fun x => x) (fun x => x) (fun x => x) (fun _ _ x => x) (fun _ x => x.elim)
/-- the open list's variable is set to a shorter list -/
theorem CSt.pop {rest : List Nat} {k g cap : Nat} (h : CSt S1 S2 O n w Bl (rest ++ [k]) (.slice (some ⟨g, 0, none⟩) (rest.length + 1) cap) V) :
    CSt S1 S2 O n w Bl rest (.slice (some ⟨g, 0, none⟩) rest.length cap) (V.setCell ⟨S2, 0, none⟩ (.slice (some ⟨g, 0, none⟩) rest.length cap)) := by
  have hk : Kept (fun k => k = S2) V (V.setCell ⟨S2, 0, none⟩ (.slice (some ⟨g, 0, none⟩) rest.length cap)) := kept_set _ _ _ _ rfl
  have e : nums (rest ++ [k]) = nums rest ++ [.int .i64 (k : Nat)] := by simp [nums]
  have ho := h.own
  rw [e, List.length_append, List.length_singleton] at ho
  have ho2 := own_take ho (k := rest.length) (by simp [nums]) (by omega)
  have hn := h.neg (g := g) rfl
  exact ⟨h.b1.kept hk h.ne12, h.b2.set _, hk.same h.row h.ne2O.symm, own_kept ho2 hk (fun g' hg' => by simp [Value.ownBlock] at hg'; subst hg'; exact hn.2.1), h.bel.trans (below_of hk h.bel.size (fun k hk => by have := h.l2; omega)), h.l1, h.l2, h.lO⟩
/-- one is marked -/
theorem CSt.mark (h : CSt S1 S2 O n w Bl op v V) (x : Nat) : CSt S1 S2 O n w (Bl.set x true) op v (V.setCell ⟨O, x, none⟩ (.bool true)) := by
  have hk : Kept (fun k => k = O) V (V.setCell ⟨O, x, none⟩ (.bool true)) := kept_set _ _ _ _ rfl
  exact ⟨h.b1.kept hk h.ne1O, h.b2.kept hk h.ne2O, h.row.set x true, own_kept h.own hk (fun g hg => (h.neg hg).2.2), h.bel.trans (below_of hk h.bel.size (fun k hk => by have := h.lO; omega)), h.l1, h.l2, h.lO⟩
/-- one more is open: what append leaves, and the variable set to it -/
theorem CSt.push {x : Nat} {o : Obj} {Y : World} {v' : Value} (h : CSt S1 S2 O n w Bl op v V) (hg : (V.alloc o).grownBy Y v.ownBlock) (ho : Y.ownsRow w.heap.size 3 1 v' (op.length + 1) (nums op ++ [.int .i64 (x : Nat)])) :
    Kept (fun k => k = S2 ∨ v.ownBlock = some k) V (Y.setCell ⟨S2, 0, none⟩ v') ∧ CSt S1 S2 O n w Bl (op ++ [x]) v' (Y.setCell ⟨S2, 0, none⟩ v') := by
  have k1 : Kept (fun k => v.ownBlock = some k) V Y := ((Kept.refl _ V).alloc o).trans (kept_grown hg)
  have k2 : Kept (fun k => k = S2) Y (Y.setCell ⟨S2, 0, none⟩ v') := kept_set _ _ _ _ rfl
  have n1 : ¬ v.ownBlock = some S1 := fun e => (h.neg e).1 rfl
  have n2 : ¬ v.ownBlock = some S2 := fun e => (h.neg e).2.1 rfl
  have nO : ¬ v.ownBlock = some O := fun e => (h.neg e).2.2 rfl
  have b2 := h.b2.kept k1 n2
  have e : nums (op ++ [x]) = nums op ++ [.int .i64 (x : Nat)] := by simp [nums]
  have hb : Below w.heap.size w Y := h.bel.trans (below_of k1 h.bel.size (fun k hk => (own_lt h.own hk).1))
  refine ⟨(k1.mono fun k _ q => .inr q).trans (k2.mono fun k _ q => .inl q), (h.b1.kept k1 n1).kept k2 h.ne12, b2.set v', k2.same (k1.same h.row nO) h.ne2O.symm, ?_, hb.trans (below_of k2 hb.size (fun k hk => by have := h.l2; omega)), h.l1, h.l2, h.lO⟩
  rw [e, List.length_append]
  refine own_kept ho k2 fun g hg2 => ?_
  obtain ⟨cur, hc⟩ := own_block ho hg2
  exact ne_kind hc b2 (by intro e; injection e with _ e _; exact absurd e (by decide))
end
/-- while Come looks behind k: X: the heap's size ahead of the iterator, B: behind it -/
structure RI (S1 S2 O n : Nat) (w : World) (l : List Iv) (k N X B : Nat) (rs : List Nat) (pre : List Nat) (Bl : List Bool) (op : List Nat) (v : Value) (V : World) : Prop where
  c : CSt S1 S2 O n w Bl op v V
  j : Wj l n Bl op k pre
  vb : ∀ g, v.ownBlock = some g → g < X ∨ B + 2 ≤ g
  m : 2 * fcount Bl + op.length ≤ N
  ms : Mk w.heap.size rs V
structure RX (S1 S2 O X B : Nat) (w : World) (rs : List Nat) : Prop where
  x1 : S1 < X
  x2 : S2 < X
  xO : O < X
  xr : ∀ r ∈ rs, r < X
  xb : X ≤ B
  xw : w.heap.size ≤ X
theorem ri_steady {S1 S2 O n k N X B : Nat} {w : World} {l : List Iv} {rs : List Nat} (h : RX S1 S2 O X B w rs) : Steady B (fun pre V => ∃ Bl op v, RI S1 S2 O n w l k N X B rs pre Bl op v V) := by
  obtain ⟨h1, h2, h3, h4, h5, h6⟩ := h
  rintro pre V V' ⟨Bl, op, v, hc, hj, hv, hm, hmk⟩ hk
  refine ⟨Bl, op, v, hc.kept hk (by omega) (by omega) (by omega) (fun g hg => by have := hv g hg; omega) (fun k hk => by omega), hj, hv, hm, hmk.kept hk fun r hr => by have := h4 r hr; omega⟩
theorem ri_mark {S1 S2 O n k N X B x : Nat} {w V Y : World} {l : List Iv} {rs pre op : List Nat} {Bl : List Bool} {v v' : Value} {o : Obj} (hx : RX S1 S2 O X B w rs) (h : RI S1 S2 O n w l k N X B rs pre Bl op v V) (hB : B + 2 ≤ V.heap.size) (hxn : x < n) (hm : x ∈ behL l k) (hb : Bl.getD x false = false)
    (hg : ((V.setCell ⟨O, x, none⟩ (.bool true)).alloc o).grownBy Y v.ownBlock) (ho : Y.ownsRow w.heap.size 3 1 v' (op.length + 1) (nums op ++ [.int .i64 (x : Nat)])) (hat : v'.ownBlock = v.ownBlock ∨ ∃ g, v'.ownBlock = some g ∧ B + 2 ≤ g) :
    Kept (fun j => j = O ∨ j = S2 ∨ v.ownBlock = some j) V (Y.setCell ⟨S2, 0, none⟩ v') ∧ RI S1 S2 O n w l k N X B rs (pre ++ [x]) (Bl.set x true) (op ++ [x]) v' (Y.setCell ⟨S2, 0, none⟩ v') := by
  obtain ⟨hc, hj, hv, hmm, hmk⟩ := h
  have k0 : Kept (fun j => j = O) V (V.setCell ⟨O, x, none⟩ (.bool true)) := kept_set _ _ _ _ rfl
  have hc1 := hc.mark x
  obtain ⟨k1, hc2⟩ := hc1.push hg ho
  have kk : Kept (fun j => j = O ∨ j = S2 ∨ v.ownBlock = some j) V (Y.setCell ⟨S2, 0, none⟩ v') := (k0.mono fun j _ e => .inl e).trans (k1.mono fun j _ e => .inr e)
  refine ⟨kk, hc2, hj.mark hxn hm, fun g hg2 => ?_, ?_, hmk.kept kk fun r hr => ?_⟩
  · rcases hat with e | ⟨g', e, hge⟩
    · rw [e] at hg2; exact hv g hg2
    · rw [e] at hg2; cases hg2; exact .inr hge
  · have := fcount_set Bl x (by rw [hj.len]; exact hxn)
    rw [hb] at this
    simp only [Bool.false_eq_true, if_false] at this
    rw [List.length_append, List.length_singleton]
    omega
  · rintro (e | e | e)
    · exact hmk.ne_cells hr hc.row e
    · exact hmk.ne_cells hr hc.b2 e
    · obtain ⟨cur, hcur⟩ := own_block hc.own e
      exact hmk.ne_cells hr hcur rfl
end Flw
end Go.Proofs.YtcmbkoghhhhmcaaDoor
