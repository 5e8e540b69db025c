/- slices.Insert on a row of numbers of the call's own: what it leaves. -/
import Derived.Test.YtcmbkoghhhhmcaaDoorInsShelf
import Derived.Test.YtcmbkoghhhhmcaaDoorFlowBox
namespace Go.Proofs.YtcmbkoghhhhmcaaDoor
open Go.ChangeShapes Go.WideShapes Go.ChangeAt Go.RowKit
namespace Ins
open Isa
open Goes
open Rights (Kept)
set_option linter.unusedVariables false
set_option linter.unusedSimpArgs false
theorem row_setCell {w : World} {b j : Nat} {cs : Array Value} {t : TypeId} {fr : Nat × Nat} {u : Value} (h : w.heap[b]? = some (.cells cs t fr)) :
    (w.setCell ⟨b, j, none⟩ u).heap[b]? = some (.cells (cs.setIfInBounds j u) t fr) := by
  have hlt := lt_of_block h
  have h' : w.heap[b] = .cells cs t fr := by simpa [Array.getElem?_eq_getElem hlt] using h
  show (w.heap.modify b _)[b]? = _
  rw [Array.getElem?_eq_getElem (by simpa using hlt), Array.getElem_modify_self, h']
  rfl
theorem row_setCells {b : Nat} {t : TypeId} {fr : Nat × Nat} : ∀ (vs : List Value) (o : Nat) (w : World) (cs : Array Value), w.heap[b]? = some (.cells cs t fr) →
    ∃ cs', (w.setCells b o vs).heap[b]? = some (.cells cs' t fr) ∧ cs'.size = cs.size ∧ ∀ i, i < cs.size → cs'[i]? = if o ≤ i ∧ i < o + vs.length then vs[i - o]? else cs[i]?
  | [], o, w, cs, h => ⟨cs, h, rfl, fun i hi => by rw [if_neg (by simp only [List.length_nil]; omega)]⟩
  | v :: r, o, w, cs, h => by
    obtain ⟨cs', h1, h2, h3⟩ := row_setCells r (o + 1) (w.setCell ⟨b, o, none⟩ v) _ (row_setCell (j := o) (u := v) h)
    refine ⟨cs', h1, by simpa using h2, fun i hi => ?_⟩
    rw [h3 i (by simpa using hi)]
    simp only [List.length_cons]
    by_cases e : i = o
    · subst e
      rw [if_neg (by omega), if_pos (by omega)]
      simp [Array.getElem?_setIfInBounds, hi]
    · by_cases hh : o + 1 ≤ i ∧ i < o + 1 + r.length
      · rw [if_pos hh, if_pos (by omega), show i - o = (i - (o + 1)) + 1 from by omega, List.getElem?_cons_succ]
      · rw [if_neg hh, if_neg (by omega), Array.getElem?_setIfInBounds, if_neg (by omega)]
theorem kept_setCells {p : Nat → Prop} {a : World} {g : Nat} (hp : p g ∨ a.heap.size ≤ g) : ∀ (vs : List Value) (o : Nat) (w : World), Kept p a w → Kept p a (w.setCells g o vs)
  | [], _, _, h => h
  | v :: r, o, w, h => kept_setCells hp r (o + 1) _ (h.setCell (x := ⟨g, o, none⟩) hp v)
theorem kept_drew {p : Nat → Prop} {a w : World} (h : Kept p a w) : Kept p a w.drew := ⟨h.os, h.tape, h.output, h.size, h.block⟩
/-- what has come in between -/
def insL {α : Type} (xs : List α) (k : Nat) (x : α) : List α := xs.take k ++ x :: xs.drop k
theorem insL_len {α : Type} (xs : List α) (k : Nat) (x : α) : (insL xs k x).length = xs.length + 1 := by
  unfold insL
  simp only [List.length_append, List.length_take, List.length_cons, List.length_drop]
  omega
theorem insL_map {α β : Type} (f : α → β) (xs : List α) (k : Nat) (x : α) : (insL xs k x).map f = insL (xs.map f) k (f x) := by
  unfold insL
  rw [List.map_append, List.map_cons, List.map_take, List.map_drop]
theorem insL_end {α : Type} (xs : List α) (x : α) : insL xs xs.length x = xs ++ [x] := by
  unfold insL
  rw [List.take_length, List.drop_length]
theorem insL_at {α : Type} (xs : List α) (k : Nat) (hk : k ≤ xs.length) (x : α) (i : Nat) : (insL xs k x)[i]? = if i < k then xs[i]? else if i = k then some x else xs[i - 1]? := by
  unfold insL
  by_cases h1 : i < k
  · rw [if_pos h1, List.getElem?_append_left (by rw [List.length_take]; omega), List.getElem?_take, if_pos h1]
  · rw [if_neg h1, List.getElem?_append_right (by rw [List.length_take]; omega), List.length_take, Nat.min_eq_left hk]
    by_cases h2 : i = k
    · subst h2
      rw [if_pos rfl, Nat.sub_self]
      rfl
    · rw [if_neg h2, show i - k = (i - k - 1) + 1 from by omega, List.getElem?_cons_succ, List.getElem?_drop]
      congr 1
      omega
theorem take_is {cur : Array Value} {n : Nat} {ys : List Value} (hl : ys.length = n) (hs : n ≤ cur.size) (h : ∀ i, i < n → cur[i]? = ys[i]?) : cur.toList.take n = ys := by
  apply List.ext_getElem?
  intro i
  by_cases hi : i < n
  · rw [List.getElem?_take, if_pos hi, ← h i hi, Array.getElem?_toList]
  · rw [List.getElem?_eq_none (by rw [List.length_take]; omega), List.getElem?_eq_none (by omega)]
theorem cur_at {cur : Array Value} {n : Nat} {xs : List Value} (h : cur.toList.take n = xs) {i : Nat} (hi : i < n) : cur[i]? = xs[i]? := by
  rw [← h, List.getElem?_take, if_pos hi, Array.getElem?_toList]
/-- the row behind both copies, whichever came first -/
theorem row_ins {V : World} {g k n : Nat} {cur : Array Value} {t : TypeId} {xs : List Value} {x : Value} (h : V.heap[g]? = some (.cells cur t (0, 0))) (hl : xs.length = n) (hk : k ≤ n) (hs : n + 1 ≤ cur.size) (hc : ∀ i, i < k → cur[i]? = xs[i]?) :
    (∃ cur', ((V.setCells g (k + 1) (xs.drop k)).setCells g k [x]).heap[g]? = some (.cells cur' t (0, 0)) ∧ cur'.size = cur.size ∧ cur'.toList.take (n + 1) = insL xs k x) ∧
    (∃ cur', ((V.setCells g k [x]).setCells g (k + 1) (xs.drop k)).heap[g]? = some (.cells cur' t (0, 0)) ∧ cur'.size = cur.size ∧ cur'.toList.take (n + 1) = insL xs k x) := by
  have hd : (xs.drop k).length = n - k := by rw [List.length_drop, hl]
  have hins : (insL xs k x).length = n + 1 := by rw [insL_len, hl]
  constructor
  · obtain ⟨c1, h1, s1, e1⟩ := row_setCells (xs.drop k) (k + 1) V cur h
    obtain ⟨c2, h2, s2, e2⟩ := row_setCells [x] k _ c1 h1
    refine ⟨c2, h2, s2.trans s1, take_is hins (by omega) fun i hi => ?_⟩
    rw [insL_at xs k (by omega) x i, e2 i (by omega), e1 i (by omega)]
    simp only [List.length_singleton, hd]
    by_cases q1 : i < k
    · rw [if_neg (by omega), if_neg (by omega), if_pos q1]; exact hc i q1
    · rw [if_neg q1]
      by_cases q2 : i = k
      · subst q2; rw [if_pos (by omega), if_pos rfl, Nat.sub_self]; rfl
      · rw [if_neg (by omega), if_pos (by omega), if_neg q2, List.getElem?_drop]
        congr 1
        omega
  · obtain ⟨c1, h1, s1, e1⟩ := row_setCells [x] k V cur h
    obtain ⟨c2, h2, s2, e2⟩ := row_setCells (xs.drop k) (k + 1) _ c1 h1
    refine ⟨c2, h2, s2.trans s1, take_is hins (by omega) fun i hi => ?_⟩
    rw [insL_at xs k (by omega) x i, e2 i (by omega), e1 i (by omega)]
    simp only [List.length_singleton, hd]
    by_cases q1 : i < k
    · rw [if_neg (by omega), if_neg (by omega), if_pos q1]; exact hc i q1
    · rw [if_neg q1]
      by_cases q2 : i = k
      · subst q2; rw [if_neg (by omega), if_pos (by omega), if_pos rfl, Nat.sub_self]; rfl
      · rw [if_pos (by omega), if_neg q2, List.getElem?_drop]
        congr 1
        omega
end Ins
end Go.Proofs.YtcmbkoghhhhmcaaDoor
