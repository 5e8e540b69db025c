/- What a loop gathers into a variable's row; a row that is cut; unlike blocks. -/
import Derived.Test.YtcmbkoghhhhmcaaDoorFlowBox
namespace Go.Proofs.YtcmbkoghhhhmcaaDoor
open Go.ChangeShapes Go.WideShapes Go.ChangeAt Go.RowKit
namespace Flw
open Isa
open Goes
open Rights (Kept)
set_option linter.unusedVariables false
set_option linter.unusedSimpArgs false
theorem infoIn : (Tryd.prog.info? 3).map (fun i => (i.zero, i.size, i.bytes)) = some (some (.int .i64 0), 1, 8) := by kernel_rfl
/-- between two rounds: the box S has a row with what has come; B: the heap's size when the loop began -/
structure GI (S B : Nat) (w : World) (pre : List Nat) (v : Value) (V : World) : Prop where
  box : Box V S 34 v
  own : V.ownsRow (B + 2) 3 1 v pre.length (nums pre)
  sb : S < B
  bel : Below S w V
theorem gi_steady (S B : Nat) (w : World) : Steady B (fun pre V => ∃ v, GI S B w pre v V) := by
  rintro pre X Y ⟨v, h⟩ hk
  have hs := h.sb
  refine ⟨v, h.box.kept hk (by omega), own_kept h.own hk ?_, hs, h.bel.trans (below_of hk (by have := h.box.lt; omega) (fun k hk => by omega))⟩
  intro g hg
  have := own_lt h.own hg
  omega
theorem gi_next {S B : Nat} {w V Y : World} {pre : List Nat} {x : Nat} {v v' : Value} {o : Obj} (h : GI S B w pre v V) (hV : B + 2 ≤ V.heap.size) (hg : (V.alloc o).grownBy Y v.ownBlock) (ho : Y.ownsRow (B + 2) 3 1 v' (pre.length + 1) (nums pre ++ [.int .i64 (x : Nat)])) :
    Kept (fun k => k = S ∨ B + 2 ≤ k) V (Y.setCell ⟨S, 0, none⟩ v') ∧ GI S B w (pre ++ [x]) v' (Y.setCell ⟨S, 0, none⟩ v') := by
  have hs := h.sb
  have k1 : Kept (fun k => B + 2 ≤ k) V Y := ((Kept.refl _ V).alloc o).trans ((kept_grown hg).mono fun k _ e => (own_lt h.own e).1)
  have k2 : Kept (fun k => k = S ∨ B + 2 ≤ k) V (Y.setCell ⟨S, 0, none⟩ v') := (k1.mono fun k _ e => .inr e).trans (kept_set _ _ _ _ (.inl rfl))
  have b1 : Box Y S 34 v := h.box.kept k1 (by omega)
  refine ⟨k2, b1.set v', ?_, hs, h.bel.trans (below_of k2 (by omega) (fun k hk => by omega))⟩
  have e : nums (pre ++ [x]) = nums pre ++ [.int .i64 (x : Nat)] := by simp [nums]
  rw [e, List.length_append]
  refine own_kept ho (p := fun k => k = S) (kept_set _ _ _ _ rfl) fun g hg2 => ?_
  have := own_lt ho hg2
  omega
theorem own_take {w : World} {S : Nat} {e : TypeId} {g cap n k : Nat} {xs ys : List Value} (h : w.ownsRow S e 1 (.slice (some ⟨g, 0, none⟩) n cap) n (xs ++ ys)) (hk : xs.length = k) (hkn : k ≤ n) : w.ownsRow S e 1 (.slice (some ⟨g, 0, none⟩) k cap) k xs := by
  rcases h.2 with ⟨e1, _⟩ | ⟨g', cap', cur, e1, hg, hgg, h1, h2, h3, h4⟩
  · cases e1
  · injection e1 with e1 e2 e3
    injection e1 with e1
    injection e1 with e1 _ _
    subst e1
    subst e3
    refine ⟨by omega, .inr ⟨g, cap, cur, rfl, hg, hgg, by omega, h2, h3, ?_⟩⟩
    have h5 := congrArg (List.take k) h4
    rw [List.take_take, List.take_left' hk] at h5
    rw [Nat.mul_one] at h5 ⊢
    rwa [Nat.min_eq_left hkn] at h5
/-- blocks that hold unlike things are unlike -/
theorem ne_kind {V : World} {i j : Nat} {a b : Obj} (hi : V.heap[i]? = some a) (hj : V.heap[j]? = some b) (h : a ≠ b) : i ≠ j := fun e => by
  subst e
  rw [hi] at hj
  exact h (Option.some.inj hj)
end Flw
end Go.Proofs.YtcmbkoghhhhmcaaDoor
