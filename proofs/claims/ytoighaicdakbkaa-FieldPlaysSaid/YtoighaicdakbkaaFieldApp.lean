/- append as a run: to an empty literal, to a row of the call's own; rows with room. -/
import Derived.Test.YtoighaicdakbkaaFieldMem
import Derived.Laws.AppendOwn
import Derived.Laws.OwnMore
import Derived.Deep.RegionLaw
import Derived.Tactics
namespace Go.Proofs.Ytoighaicdakbkaa
open Go.ChangeShapes Go.WideShapes Go.ChangeAt Go.RowKit
namespace Fld
set_option linter.unusedVariables false
set_option linter.unusedSimpArgs false
/-- an append whose run is known -/
theorem wpList_append_run {P : Program} {ops : Array Oper} {rest : List Oper} {o : Oper} {a : Act} {w : World} {Q : Exit → Act → World → Prop} (hgd : o.guard = none) (s x : Operand) (t t' : TypeId)
    (ho : o.op = .call { callee := .builtin .append, args := #[s, x], argTypes := #[t, t'] }) (vs vx v : Value) (w1 : World) (ty : TypeId) (hty : o.type = ty) (hs : a.eval s = vs) (hx : a.eval x = vx) (hrun : (Builtin.append_ #[t, t'] ty #[vs, vx]).run P w = .ok v w1)
    (h : wpList P ops Q rest (a.put o.dst v) w1) : wpList P ops Q (o :: rest) a w := by
  refine wpList_plain hgd fun K hK => ?_
  subst hty
  unfold Oper.wp
  simp only [execOp, ho, resolve, invoke, builtin, Sem.run_bind, Sem.run_pure, Result.andThen_ok, List.map_toArray, List.map_cons, List.map_nil, hs, hx, hrun]
  exact hK _ _ h
/-- the same in a region that draws -/
theorem step_append_run {P : Program} {ops : Array Oper} {o : Oper} {a : Act} {w : World} {K : Act → World → Prop} {Q : Exit → Act → World → Prop} {E : Prop}
    (hg : o.guard = none) (s x : Operand) (t t' : TypeId) (hop : o.op = Op.call { callee := Callee.builtin Builtin.append, args := #[s, x], argTypes := #[t, t'] }) (vs vx v : Value) (w1 : World) (ty : TypeId) (hty : o.type = ty)
    (hs : a.eval s = vs) (hx : a.eval x = vx) (hrun : (Builtin.append_ #[t, t'] ty #[vs, vx]).run P w = .ok v w1) (hK : K (a.put o.dst v) w1) :
    if Region.wanted o (yielded ops a.tmps) = true then Oper.wp P o a w K Q else E := by
  have hw : Region.wanted o (yielded ops a.tmps) = true := by simp [Region.wanted, hg]
  rw [if_pos hw]
  subst hty
  unfold Oper.wp
  simp only [execOp, hop, resolve, invoke, builtin, Sem.run_bind, Sem.run_pure, Result.andThen_ok, List.map_toArray, List.map_cons, List.map_nil, hs, hx, hrun]
  exact hK
/-- a row of words with room behind them -/
structure ORow (w : World) (g cap : Nat) (l : List Int) : Prop where
  le : l.length ≤ cap
  row : ∃ cur, w.heap[g]? = some (.cells cur 23 (0, 0)) ∧ cur.size = cap ∧ cur.toList.take l.length = nums l
section
variable {w w' : World} {g cap : Nat} {l : List Int}
theorem ORow.block (h : ORow w g cap l) (hb : w'.heap[g]? = w.heap[g]?) : ORow w' g cap l := by
  obtain ⟨cur, h1, h2⟩ := h.row
  exact ⟨h.le, cur, hb.trans h1, h2⟩
theorem ORow.lt (h : ORow w g cap l) : g < w.heap.size := by
  obtain ⟨cur, h1, _⟩ := h.row
  exact lt_of_block h1
theorem ORow.kept (h : ORow w g cap l) {p : Nat → Prop} (hk : Kept p w w') (hp : ¬ p g) : ORow w' g cap l := h.block (hk.block g h.lt hp)
theorem ORow.below (h : ORow w g cap l) (hb : Below w.heap.size w w') : ORow w' g cap l := h.block (hb.block g h.lt)
theorem ORow.cell (h : ORow w g cap l) (i : Nat) (hi : i < l.length) : CF w g i (.int .u32 (l.getD i 0)) := by
  obtain ⟨cur, h1, h2, h3⟩ := h.row
  refine ⟨?_, row_free h1 i⟩
  rw [cell_of_row _ _ _ _ _ _ h1, ← nums_at l i hi, ← h3, List.getElem?_take_of_lt hi]
  simp
theorem ORow.nrow (h : ORow w g cap l) {p : Nat → Prop} (hp : ¬ p g) : NRow p w (some ⟨g, 0, none⟩) l.length l :=
  ⟨rfl, .inr ⟨g, 0, rfl, hp, fun i hi => by rw [Nat.zero_add]; exact (h.cell i hi).1⟩⟩
theorem ORow.set (h : ORow w g cap l) (i : Nat) (x : Int) (hi : i < l.length) : ORow (w.setCell ⟨g, i, none⟩ (.int .u32 x)) g cap (l.set i x) := by
  obtain ⟨cur, h1, h2, h3⟩ := h.row
  refine ⟨by rw [List.length_set]; exact h.le, _, row_setCell h1, by simpa using h2, ?_⟩
  rw [Array.toList_setIfInBounds, List.take_set, List.length_set, h3]
  simp [nums, List.map_set]
theorem ORow.ne {b : Nat} {cs : Array Value} {t : TypeId} {f : Nat × Nat} (h : ORow w g cap l) (k : w.heap[b]? = some (.cells cs t f)) (hn : 23 ≠ t) : g ≠ b := by
  obtain ⟨cur, h1, _⟩ := h.row
  exact ne_type h1 k hn
end
theorem infoU' : ∃ i0 z, Try.prog.info? 23 = some i0 ∧ i0.zero = some z ∧ i0.size = 1 ∧ i0.bytes = 4 ∧ z.cells.size = 1 := by
  obtain ⟨i0, hi, hz0, hz1, hz2⟩ := info_parts infoU
  exact ⟨i0, _, hi, hz0, hz1, hz2, rfl⟩
/-- the words of a row behind an empty literal -/
theorem app_new {p : Nat → Prop} (w : World) {a : Option Addr} {n c : Nat} {l : List Int} (h : NRow p w a n l) (hn : n ≤ 1000000) (ha : a = none → c = 0) (ty : TypeId) :
    ∃ g cap w', (Builtin.append_ #[22, 22] ty #[.slice (some ⟨w.heap.size, 0, none⟩) 0 0, .slice a n c]).run Try.prog (w.alloc (.cells #[] 23)) = .ok (.slice (some ⟨g, 0, none⟩) n cap) w' ∧
      ORow w' g cap l ∧ w.heap.size ≤ g ∧ Below w.heap.size w w' := by
  obtain ⟨i0, z, hi, hz0, hz1, hz2, hzs⟩ := infoU'
  have hl := h.1
  have hown := World.ownsRow_made (base := w.heap.size) (e := 23) (size := 1) w #[] 0 (Nat.le_refl _) (Nat.zero_le _) rfl
  cases a with
  | none =>
    have hn0 : n = 0 := by
      rcases h.2 with h0 | ⟨b, off, e, _⟩
      · exact h0
      · cases e
    subst hn0
    obtain rfl := ha rfl
    have hrun := run_append_owned_none (P := Try.prog) (w := w.alloc (.cells #[] 23)) w.heap.size 22 ty 23 i0 1 uU hi _ 0 [] hown
    refine ⟨w.heap.size, 0, _, hrun, ⟨by omega, #[], heap_alloc_new _ _, rfl, ?_⟩, Nat.le_refl _, below_alloc _ _⟩
    rw [List.eq_nil_of_length_eq_zero hl]; rfl
  | some x =>
    have hsrc : ∀ j u, (nums l)[j]? = some u → (w.alloc (.cells #[] 23)).cell? (x.add j) = some u := fun j u hu => by
      have hj : j < l.length := by have := (List.getElem?_eq_some_iff.1 hu).1; rwa [nums_len] at this
      rcases row_src (h.below (below_alloc w (.cells #[] 23)) (Nat.le_refl _)) with h0 | ⟨y, e, hy⟩
      · omega
      · cases e; exact hy j u hu
    obtain ⟨v', w', h1, h2, h3, h4⟩ := run_append_own (P := Try.prog) (w := w.alloc (.cells #[] 23)) w.heap.size 22 ty 23 i0 z 1 4 uU hi hz0 hz1 hz2 hzs (by decide) _ 0 [] hown x n c (nums l) (by rw [nums_len, hl]; omega) hsrc (nums_one l) (by unfold maxLen; omega) (by omega) (by simp)
    obtain ⟨q1, q2⟩ := h2
    rcases q2 with ⟨e, _⟩ | ⟨g, cap, cur, rfl, q3, q4, q5, q6, q7, q8⟩
    · exact absurd (h4.1 e).1 (by simp)
    · have hn1 : 0 + n = n := by omega
      rw [hn1] at h1 q5 q8
      refine ⟨g, cap, w', h1, ⟨by omega, cur, q4, by omega, ?_⟩, q3, (below_alloc w (.cells #[] 23)).grown h3 (by simp) (by intro k hk; simp [Value.ownBlock] at hk; omega)⟩
      rw [hl, show n = n * 1 from by omega, q8]
      rfl
/-- the same wherever the empty literal lies: all blocks that are there stay as they are -/
theorem app_ext {p : Nat → Prop} (w : World) {e0 : Nat} (he : w.heap[e0]? = some (.cells #[] 23 (0, 0))) {a : Option Addr} {n c : Nat} {l : List Int} (h : NRow p w a n l) (hn : n ≤ 1000000) (ha : a = none → c = 0) (ty : TypeId) :
    ∃ g cap w', (Builtin.append_ #[22, 22] ty #[.slice (some ⟨e0, 0, none⟩) 0 0, .slice a n c]).run Try.prog w = .ok (.slice (some ⟨g, 0, none⟩) n cap) w' ∧
      ORow w' g cap l ∧ (g = e0 ∨ g = w.heap.size) ∧ Below w.heap.size w w' := by
  obtain ⟨i0, z, hi, hz0, hz1, hz2, hzs⟩ := infoU'
  have hl := h.1
  have hown : w.ownsRow 0 23 1 (.slice (some ⟨e0, 0, none⟩) 0 0) 0 [] := ⟨by simp, .inr ⟨e0, 0, #[], rfl, Nat.zero_le _, he, Nat.le_refl _, Nat.zero_le _, rfl, by simp⟩⟩
  by_cases h0 : n = 0
  · subst h0
    have hl0 := List.eq_nil_of_length_eq_zero hl
    subst hl0
    have hO : ORow w e0 0 [] := ⟨Nat.le_refl _, #[], he, rfl, rfl⟩
    cases a with
    | none =>
      obtain rfl := ha rfl
      exact ⟨e0, 0, w, run_append_owned_none (P := Try.prog) (w := w) 0 22 ty 23 i0 1 uU hi _ 0 [] hown, hO, .inl rfl, Below.refl _ _⟩
    | some x =>
      have hr := run_append_room (P := Try.prog) w 22 ty 23 i0 uU hi e0 0 0 #[] he x 0 c [] (by simp) (by simp) (by simp) (by omega) (by simp)
      simp at hr
      rw [setRow_self w e0 #[] 23 (0, 0) he] at hr
      exact ⟨e0, 0, w, hr, hO, .inl rfl, Below.refl _ _⟩
  · obtain ⟨x, rfl, hx⟩ := (row_src h).resolve_left h0
    have hr := run_append_grow (P := Try.prog) w 22 ty 23 i0 z uU hi hz0 ⟨e0, 0, none⟩ 0 0 [] (by simp) (by simp) x n c (nums l) (by rw [nums_len, hl, hz1]; omega) hx (by omega) (by omega) (growslice_fits (by omega) (by rw [hz2]; omega))
    rw [Nat.zero_add] at hr
    have hge := grownCap_ge w n 0 23
    refine ⟨_, _, _, hr, ⟨by rw [hl]; exact hge, _, heap_alloc_new w.drew _, ?_, ?_⟩, .inr rfl, (Below.refl _ w).drew.trans ((below_alloc w.drew _).mono (Nat.le_refl _))⟩
    · simp only [Array.size_append, List.size_toArray, size_zeroCells, hzs, nums_len, List.length_nil]
      omega
    · simp only [Array.toList_append, List.append_assoc, List.nil_append]
      rw [hl, ← hl, ← nums_len l]
      exact List.take_left
end Fld
end Go.Proofs.Ytoighaicdakbkaa
