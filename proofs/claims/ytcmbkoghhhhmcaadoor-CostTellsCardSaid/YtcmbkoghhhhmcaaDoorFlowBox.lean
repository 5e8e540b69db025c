/- Variables that a closure or a loop's body holds (boxes of one cell), and rows of the call's own, under 'all is kept but ..'. -/
import Derived.Test.YtcmbkoghhhhmcaaDoorFlowSeq
import Derived.Test.YtcmbkoghhhhmcaaDoorCodeOwn
import Derived.Maps.AppendAt
import Derived.OwnWalkIn
namespace Go.Proofs.YtcmbkoghhhhmcaaDoor
open Go.RowKit
namespace Goes
open Rights (Kept)
open Isa
set_option linter.unusedVariables false
set_option linter.unusedSimpArgs false
def Box (V : World) (S : Nat) (ts : TypeId) (v : Value) : Prop := V.heap[S]? = some (.cells #[v] ts (0, 0))
theorem Box.cell {V : World} {S : Nat} {ts : TypeId} {v : Value} (h : Box V S ts v) : V.cell? ⟨S, 0, none⟩ = some v := cells_at h 0
theorem Box.free {V : World} {S : Nat} {ts : TypeId} {v : Value} (h : Box V S ts v) : V.frozen? ⟨S, 0, none⟩ = false := by
  have h' : V.heap[S]? = some (.cells #[v] ts (0, 0)) := h
  simp [World.frozen?, h']
theorem Box.lt {V : World} {S : Nat} {ts : TypeId} {v : Value} (h : Box V S ts v) : S < V.heap.size := lt_of_block h
theorem Box.new (V : World) (ts : TypeId) (v : Value) : Box (V.alloc (.cells #[v] ts)) V.heap.size ts v := alloc_new V _
theorem Box.kept {V V' : World} {S : Nat} {ts : TypeId} {v : Value} {p : Nat → Prop} (h : Box V S ts v) (hk : Kept p V V') (hp : ¬ p S) : Box V' S ts v := hk.same h hp
theorem Box.below {V V' : World} {S : Nat} {ts : TypeId} {v : Value} (h : Box V S ts v) {B : Nat} (hb : Below B V V') (hB : V.heap.size ≤ B) : Box V' S ts v := (hb.block S (Nat.lt_of_lt_of_le h.lt hB)).trans h
theorem Box.set {V : World} {S : Nat} {ts : TypeId} {v : Value} (h : Box V S ts v) (u : Value) : Box (V.setCell ⟨S, 0, none⟩ u) S ts u := by
  obtain ⟨hlt, he⟩ := Array.getElem?_eq_some_iff.1 h
  show (V.heap.modify S _)[S]? = _
  rw [Array.getElem?_eq_getElem (by rw [Array.size_modify]; exact hlt), Array.getElem_modify_self, he]
  rfl
theorem Box.other {V : World} {S : Nat} {ts : TypeId} {v : Value} (h : Box V S ts v) {g : Nat} (hne : S ≠ g) (k : Nat) (u : Value) : Box (V.setCell ⟨g, k, none⟩ u) S ts v := (setCell_blk V S g k u hne).trans h
theorem kept_set {p : Nat → Prop} (V : World) (g k : Nat) (u : Value) (hp : p g) : Kept p V (V.setCell ⟨g, k, none⟩ u) := (Kept.refl p V).setCell (x := ⟨g, k, none⟩) (.inl hp) u
theorem kept_grown {X Y : World} {row : Option Nat} (h : X.grownBy Y row) : Kept (fun k => row = some k) X Y := ⟨h.os, h.tape, h.output, h.size, fun k hk hn => h.block k hk (fun e => hn e.symm)⟩
theorem kept_of {p : Nat → Prop} {B : Nat} {w w' : World} (h : Below B w w') (hp : ∀ k, k < w.heap.size → B ≤ k → p k) : Kept p w w' := ⟨h.os, h.tape, h.output, h.size, fun k hk hn => h.block k (by rcases Nat.lt_or_ge k B with q | q; exact q; exact absurd (hp k hk q) hn)⟩
theorem below_of {p : Nat → Prop} {B : Nat} {w w' : World} (h : Kept p w w') (hB : B ≤ w.heap.size) (hp : ∀ k, p k → B ≤ k) : Below B w w' := h.toBelow hB (fun k hk hpk => by have := hp k hpk; omega)
theorem own_kept {w w' : World} {S : Nat} {e : TypeId} {sz : Nat} {v : Value} {n : Nat} {xs : List Value} {p : Nat → Prop} (h : w.ownsRow S e sz v n xs) (hk : Kept p w w') (hp : ∀ g, v.ownBlock = some g → ¬ p g) : w'.ownsRow S e sz v n xs := by
  refine ⟨h.1, ?_⟩
  rcases h.2 with hn | ⟨g, cap, cur, rfl, hg, hgg, rest⟩
  · exact .inl hn
  · exact .inr ⟨g, cap, cur, rfl, hg, hk.same hgg (hp g rfl), rest⟩
theorem own_base {w : World} {S T : Nat} {e : TypeId} {sz : Nat} {v : Value} {n : Nat} {xs : List Value} (h : w.ownsRow S e sz v n xs) (hT : T ≤ S) : w.ownsRow T e sz v n xs := by
  refine ⟨h.1, ?_⟩
  rcases h.2 with hn | ⟨g, cap, cur, rfl, hg, rest⟩
  · exact .inl hn
  · exact .inr ⟨g, cap, cur, rfl, Nat.le_trans hT hg, rest⟩
/-- the block of a row is what it says -/
theorem own_lt {w : World} {S : Nat} {e : TypeId} {sz : Nat} {v : Value} {n : Nat} {xs : List Value} (h : w.ownsRow S e sz v n xs) {g : Nat} (hg : v.ownBlock = some g) : S ≤ g ∧ g < w.heap.size := h.lt g hg
/-- an append whose run is known, inside a fence -/
theorem wpListIn_append_run {F : Fence} {m : Nat} {P : Program} {ops : Array Oper} {rest : List Oper} {o : Oper} {a : Act} {w : World} {Q : Exit → Act → World → Prop} (hgd : o.guard = none) (s x : Operand) (t t' : TypeId)
    (ho : o.op = .call { callee := .builtin .append, args := #[s, x], argTypes := #[t, t'] }) (vs vx v : Value) (w1 : World) (ty : TypeId) (hty : o.type = ty) (hs : a.eval s = vs) (hx : a.eval x = vx) (hrun : (Builtin.append_ #[t, t'] ty #[vs, vx]).run P w = .ok v w1)
    (h : wpListIn F m P ops Q rest (a.put o.dst v) w1) : wpListIn F m P ops Q (o :: rest) a w := by
  refine wpListIn_plain hgd fun K hK' => ?_
  subst hty
  unfold Oper.wpIn
  refine ⟨?_, ?_⟩
  · simp [Oper.about, ho, resolve, Target.leads, Sem.run_pure]
  · rw [Oper.semAt_plain F _ _ (by rw [ho]; intro c hc'; cases hc')]
    simp [execOp, ho, resolve, invoke, builtin, hs, hx, hrun, Result.andThen]
    exact hK' _ _ h
theorem infoInt : (Tryd.prog.info? 3).map (fun i => (i.zero, i.size, i.bytes)) = some (some (.int .i64 0), 1, 8) := by kernel_rfl
/-- one more number behind a row of the call's own -/
theorem app_num {w : World} {S : Nat} {v : Value} {n : Nat} {xs : List Value} (h : w.ownsRow S 3 1 v n xs) (hS : S ≤ w.heap.size) (hn : n ≤ 1000000000) (x : Nat) (ty : TypeId) :
    ∃ a c w', (Builtin.append_ #[34, 34] ty #[v, .slice (some ⟨w.heap.size, 0, none⟩) 1 1]).run Tryd.prog (w.alloc (.cells #[.int .i64 (x : Nat)] 3)) = .ok (.slice a (n + 1 : Nat) c) w' ∧
      w'.ownsRow S 3 1 (.slice a (n + 1 : Nat) c) (n + 1) (xs ++ [.int .i64 (x : Nat)]) ∧ (w.alloc (.cells #[.int .i64 (x : Nat)] 3)).grownBy w' v.ownBlock ∧
      ((Value.slice a (n + 1 : Nat) c).ownBlock = v.ownBlock ∨ ∃ g, (Value.slice a (n + 1 : Nat) c).ownBlock = some g ∧ w.heap.size ≤ g) := by
  obtain ⟨i0, hi, hz0, hz1, hz2⟩ := info_parts infoInt
  obtain ⟨v', w', hr, ho, hg, _, hat⟩ := run_append_own_at (P := Tryd.prog) (w.alloc (.cells #[.int .i64 (x : Nat)] 3)) S 34 ty 3 i0 (.int .i64 0) 1 8 Tryd.underlying34 hi hz0 hz1 hz2 rfl (by decide) v n xs (h.alloc _) ⟨w.heap.size, 0, none⟩ 1 1 [.int .i64 (x : Nat)] rfl (World.news_of_block (heap_alloc_new w _)) (by intro u hu; simp at hu; subst hu; rfl) (by unfold maxLen; omega) (by omega) (by simp; omega)
  obtain ⟨a, c, rfl, _, _⟩ := own_shape ho
  exact ⟨a, c, w', hr, ho, hg, hat.imp id fun e => ⟨_, e, by simp⟩⟩
end Goes
end Go.Proofs.YtcmbkoghhhhmcaaDoor
