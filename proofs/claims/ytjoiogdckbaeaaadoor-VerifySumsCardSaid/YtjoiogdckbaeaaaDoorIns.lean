/- slices.Insert at []int, by the library's contract: which functions of this program it is. · slices.Insert on a row of numbers of the call's own: what it leaves. · slices.Insert of one number into a row of the call's own. -/
import Derived.Shelf.Spec.SlicesInsertGrow
import Derived.Test.YtjoiogdckbaeaaaDoorProg
import Derived.Test.YtjoiogdckbaeaaaDoorFlowS
namespace Go.Proofs.YtjoiogdckbaeaaaDoor
namespace Ins
open Go.Shelf
def insI_ren : Go.Shelf.Ren := ⟨fun | 21 => 71 | 27 => 76 | 28 => 77 | 35 => 78 | 39 => 79 | n => n, fun | 22 => 58 | 3 => 3 | 4 => 4 | 0 => 0 | n => n, fun | n => n⟩
theorem insI : Go.Proofs.Lays2.n21 Tryd.prog insI_ren := {
  mixed := by kernel_rfl
  f21 := Tryd.func71.trans (congrArg some (by kernel_rfl))
  f27 := Tryd.func76.trans (congrArg some (by kernel_rfl))
  f28 := Tryd.func77.trans (congrArg some (by kernel_rfl))
  f35 := Tryd.func78.trans (congrArg some (by kernel_rfl))
  f39 := Tryd.func79.trans (congrArg some (by kernel_rfl))
  t0 := Tryd.underlying0
  a0 := Tryd.isAgg0
  z0 := Tryd.sizeOf0
  v0 := Tryd.zeroValue0
  t3 := Tryd.underlying3
  a3 := Tryd.isAgg3
  z3 := Tryd.sizeOf3
  v3 := Tryd.zeroValue3
  t4 := Tryd.underlying4
  a4 := Tryd.isAgg4
  z4 := Tryd.sizeOf4
  v4 := Tryd.zeroValue4
  t22 := Tryd.underlying58
  a22 := Tryd.isAgg58
  z22 := Tryd.sizeOf58
  v22 := Tryd.zeroValue58
  i3 := by kernel_rfl }
end Ins
end Go.Proofs.YtjoiogdckbaeaaaDoor
namespace Go.Proofs.YtjoiogdckbaeaaaDoor
open Go.ChangeShapes Go.WideShapes Go.ChangeAt Go.RowKit
namespace Ins
open Isa
open Goes
open Rights (Kept)
set_option linter.unusedVariables false
set_option linter.unusedSimpArgs false
theorem row_setCell {w : World} {b j : Nat} {cs : Array Value} {t : TypeId} {fr : Nat × Nat} {u : Value} (h : w.heap[b]? = some (.cells cs t fr)) :
    (w.setCell ⟨b, j, none⟩ u).heap[b]? = some (.cells (cs.setIfInBounds j u) t fr) := by
  have hlt := lt_of_block h
  have h' : w.heap[b] = .cells cs t fr := by simpa [Array.getElem?_eq_getElem hlt] using h
  show (w.heap.modify b _)[b]? = _
  rw [Array.getElem?_eq_getElem (by simpa using hlt), Array.getElem_modify_self, h']
  rfl
theorem row_setCells {b : Nat} {t : TypeId} {fr : Nat × Nat} : ∀ (vs : List Value) (o : Nat) (w : World) (cs : Array Value), w.heap[b]? = some (.cells cs t fr) →
    ∃ cs', (w.setCells b o vs).heap[b]? = some (.cells cs' t fr) ∧ cs'.size = cs.size ∧ ∀ i, i < cs.size → cs'[i]? = if o ≤ i ∧ i < o + vs.length then vs[i - o]? else cs[i]?
  | [], o, w, cs, h => ⟨cs, h, rfl, fun i hi => by rw [if_neg (by simp only [List.length_nil]; omega)]⟩
  | v :: r, o, w, cs, h => by
    obtain ⟨cs', h1, h2, h3⟩ := row_setCells r (o + 1) (w.setCell ⟨b, o, none⟩ v) _ (row_setCell (j := o) (u := v) h)
    refine ⟨cs', h1, by simpa using h2, fun i hi => ?_⟩
    rw [h3 i (by simpa using hi)]
    simp only [List.length_cons]
    by_cases e : i = o
    · subst e
      rw [if_neg (by omega), if_pos (by omega)]
      simp [Array.getElem?_setIfInBounds, hi]
    · by_cases hh : o + 1 ≤ i ∧ i < o + 1 + r.length
      · rw [if_pos hh, if_pos (by omega), show i - o = (i - (o + 1)) + 1 from by omega, List.getElem?_cons_succ]
      · rw [if_neg hh, if_neg (by omega), Array.getElem?_setIfInBounds, if_neg (by omega)]
theorem kept_setCells {p : Nat → Prop} {a : World} {g : Nat} (hp : p g ∨ a.heap.size ≤ g) : ∀ (vs : List Value) (o : Nat) (w : World), Kept p a w → Kept p a (w.setCells g o vs)
  | [], _, _, h => h
  | v :: r, o, w, h => kept_setCells hp r (o + 1) _ (h.setCell (x := ⟨g, o, none⟩) hp v)
theorem kept_drew {p : Nat → Prop} {a w : World} (h : Kept p a w) : Kept p a w.drew := ⟨h.os, h.tape, h.output, h.size, h.block⟩
/-- what has come in between -/
def insL {α : Type} (xs : List α) (k : Nat) (x : α) : List α := xs.take k ++ x :: xs.drop k
theorem insL_len {α : Type} (xs : List α) (k : Nat) (x : α) : (insL xs k x).length = xs.length + 1 := by
  unfold insL
  simp only [List.length_append, List.length_take, List.length_cons, List.length_drop]
  omega
theorem insL_map {α β : Type} (f : α → β) (xs : List α) (k : Nat) (x : α) : (insL xs k x).map f = insL (xs.map f) k (f x) := by
  unfold insL
  rw [List.map_append, List.map_cons, List.map_take, List.map_drop]
theorem insL_end {α : Type} (xs : List α) (x : α) : insL xs xs.length x = xs ++ [x] := by
  unfold insL
  rw [List.take_length, List.drop_length]
theorem insL_at {α : Type} (xs : List α) (k : Nat) (hk : k ≤ xs.length) (x : α) (i : Nat) : (insL xs k x)[i]? = if i < k then xs[i]? else if i = k then some x else xs[i - 1]? := by
  unfold insL
  by_cases h1 : i < k
  · rw [if_pos h1, List.getElem?_append_left (by rw [List.length_take]; omega), List.getElem?_take, if_pos h1]
  · rw [if_neg h1, List.getElem?_append_right (by rw [List.length_take]; omega), List.length_take, Nat.min_eq_left hk]
    by_cases h2 : i = k
    · subst h2
      rw [if_pos rfl, Nat.sub_self]
      rfl
    · rw [if_neg h2, show i - k = (i - k - 1) + 1 from by omega, List.getElem?_cons_succ, List.getElem?_drop]
      congr 1
      omega
theorem take_is {cur : Array Value} {n : Nat} {ys : List Value} (hl : ys.length = n) (hs : n ≤ cur.size) (h : ∀ i, i < n → cur[i]? = ys[i]?) : cur.toList.take n = ys := by
  apply List.ext_getElem?
  intro i
  by_cases hi : i < n
  · rw [List.getElem?_take, if_pos hi, ← h i hi, Array.getElem?_toList]
  · rw [List.getElem?_eq_none (by rw [List.length_take]; omega), List.getElem?_eq_none (by omega)]
theorem cur_at {cur : Array Value} {n : Nat} {xs : List Value} (h : cur.toList.take n = xs) {i : Nat} (hi : i < n) : cur[i]? = xs[i]? := by
  rw [← h, List.getElem?_take, if_pos hi, Array.getElem?_toList]
/-- the row behind both copies, whichever came first -/
theorem row_ins {V : World} {g k n : Nat} {cur : Array Value} {t : TypeId} {xs : List Value} {x : Value} (h : V.heap[g]? = some (.cells cur t (0, 0))) (hl : xs.length = n) (hk : k ≤ n) (hs : n + 1 ≤ cur.size) (hc : ∀ i, i < k → cur[i]? = xs[i]?) :
    (∃ cur', ((V.setCells g (k + 1) (xs.drop k)).setCells g k [x]).heap[g]? = some (.cells cur' t (0, 0)) ∧ cur'.size = cur.size ∧ cur'.toList.take (n + 1) = insL xs k x) ∧
    (∃ cur', ((V.setCells g k [x]).setCells g (k + 1) (xs.drop k)).heap[g]? = some (.cells cur' t (0, 0)) ∧ cur'.size = cur.size ∧ cur'.toList.take (n + 1) = insL xs k x) := by
  have hd : (xs.drop k).length = n - k := by rw [List.length_drop, hl]
  have hins : (insL xs k x).length = n + 1 := by rw [insL_len, hl]
  constructor
  · obtain ⟨c1, h1, s1, e1⟩ := row_setCells (xs.drop k) (k + 1) V cur h
    obtain ⟨c2, h2, s2, e2⟩ := row_setCells [x] k _ c1 h1
    refine ⟨c2, h2, s2.trans s1, take_is hins (by omega) fun i hi => ?_⟩
    rw [insL_at xs k (by omega) x i, e2 i (by omega), e1 i (by omega)]
    simp only [List.length_singleton, hd]
    by_cases q1 : i < k
    · rw [if_neg (by omega), if_neg (by omega), if_pos q1]; exact hc i q1
    · rw [if_neg q1]
      by_cases q2 : i = k
      · subst q2; rw [if_pos (by omega), if_pos rfl, Nat.sub_self]; rfl
      · rw [if_neg (by omega), if_pos (by omega), if_neg q2, List.getElem?_drop]
        congr 1
        omega
  · obtain ⟨c1, h1, s1, e1⟩ := row_setCells [x] k V cur h
    obtain ⟨c2, h2, s2, e2⟩ := row_setCells (xs.drop k) (k + 1) _ c1 h1
    refine ⟨c2, h2, s2.trans s1, take_is hins (by omega) fun i hi => ?_⟩
    rw [insL_at xs k (by omega) x i, e2 i (by omega), e1 i (by omega)]
    simp only [List.length_singleton, hd]
    by_cases q1 : i < k
    · rw [if_neg (by omega), if_neg (by omega), if_pos q1]; exact hc i q1
    · rw [if_neg q1]
      by_cases q2 : i = k
      · subst q2; rw [if_neg (by omega), if_pos (by omega), if_pos rfl, Nat.sub_self]; rfl
      · rw [if_pos (by omega), if_neg q2, List.getElem?_drop]
        congr 1
        omega
end Ins
end Go.Proofs.YtjoiogdckbaeaaaDoor
namespace Go.Proofs.YtjoiogdckbaeaaaDoor
open Go.ChangeShapes Go.WideShapes Go.ChangeAt Go.RowKit
namespace Ins
open Isa
open Goes
open Rights (Kept)
set_option linter.unusedVariables false
set_option linter.unusedSimpArgs false
/-- a row with one more in between -/
def InsP (S : Nat) (v : Value) (ys : List Value) (w : World) (e : Ending) (w' : World) : Prop :=
  ∃ a c, e = .returned (.slice a ys.length c) ∧ w'.ownsRow S 3 1 (.slice a ys.length c) ys.length ys ∧ Kept (fun j => v.ownBlock = some j) w w' ∧
    ((Value.slice a ys.length c).ownBlock = v.ownBlock ∨ ∃ g, (Value.slice a ys.length c).ownBlock = some g ∧ w.heap.size ≤ g)
theorem isSome_at {w : World} {g j : Nat} {cur : Array Value} {t : TypeId} (h : w.heap[g]? = some (.cells cur t (0, 0))) (hj : j < cur.size) : (w.cell? ⟨g, j, none⟩).isSome = true := by
  rw [cells_at h j, Array.getElem?_eq_getElem hj]; rfl
theorem free_at {w : World} {g : Nat} {cur : Array Value} {t : TypeId} (h : w.heap[g]? = some (.cells cur t (0, 0))) (j : Nat) : w.frozen? ⟨g, j, none⟩ = false := by simp [World.frozen?, h]
set_option maxHeartbeats 1600000 in
theorem insert_any {w : World} {S : Nat} {v : Value} {n : Nat} {xs : List Value} (h : w.ownsRow S 3 1 v n xs) (hx1 : ∀ u ∈ xs, u.oneCell' = true) (hS : S ≤ w.heap.size) (hn : n ≤ 1000000) (k : Nat) (hk : k ≤ n) (vb : Nat) (x : Int)
    (hv : w.heap[vb]? = some (.cells #[.int .i64 x] 3 (0, 0))) (hne : ∀ g, v.ownBlock = some g → vb ≠ g) :
    Calls Tryd.prog 71 #[v, .int .i64 (k : Nat), .slice (some ⟨vb, 0, none⟩) 1 1] w (InsP S v (insL xs k (.int .i64 x)) w) := by
  have hxl : xs.length = n := by have := h.1; omega
  have hyl : (insL xs k (Value.int .i64 x)).length = n + 1 := by rw [insL_len, hxl]
  have hvs : ∀ j u, [Value.int .i64 x][j]? = some u → w.cell? ⟨vb, 0 + j, none⟩ = some u := fun j u hj => by
    have hj0 : j = 0 := by have := (List.getElem?_eq_some_iff.1 hj).1; simp at this; omega
    subst hj0
    simp at hj
    subst hj
    exact cells_at hv 0
  have h1v : ∀ u ∈ [Value.int .i64 x], u.oneCell' = true := fun u hu => by simp at hu; subst hu; rfl
  unfold InsP
  rw [hyl]
  -- a new row behind it
  have grow : ∀ (base : Option Addr) (c : Nat), v = .slice base n c → n ≤ c → c < n + 1 → (base = none → n = 0) → (∀ a, base = some a → ∀ j u, xs[j]? = some u → w.cell? (a.add j) = some u) → k = n →
      Calls Tryd.prog 71 #[.slice base n c, .int .i64 (k : Nat), .slice (some ⟨vb, 0, none⟩) 1 1] w fun e w' => ∃ a c, e = .returned (.slice a (n + 1) c) ∧ w'.ownsRow S 3 1 (.slice a (n + 1) c) (n + 1) (insL xs k (.int .i64 x)) ∧ Kept (fun j => v.ownBlock = some j) w w' ∧
    ((Value.slice a (n + 1) c).ownBlock = v.ownBlock ∨ ∃ g, (Value.slice a (n + 1) c).ownBlock = some g ∧ w.heap.size ≤ g) := fun base c hvE hnc hc hnil hcs hkn => by
    subst hkn
    refine (Any2.slices_Insert_int_end_grow insI base k c vb 0 1 1 xs [.int .i64 x] w (by omega) hnc hc (by omega) hxl rfl hnil hcs hvs h1v).mono ?_
    rintro e w' ⟨he, hw'⟩
    have hG := grownCap_ge w (k + 1) c (insI_ren.t 3)
    have hGm := grownCap_le_maxLen w (k + 1) c (insI_ren.t 3) (by unfold maxLen; omega)
    generalize grownCap w (k + 1) c (insI_ren.t 3) = G at *
    subst he
    subst hw'
    refine ⟨_, _, rfl, ⟨by omega, .inr ⟨w.heap.size, G, _, rfl, hS, heap_alloc_new w.drew _, hG, hGm, ?_, ?_⟩⟩, (kept_drew (Kept.refl _ w)).alloc _, .inr ⟨_, rfl, Nat.le_refl _⟩⟩
    · simp [Builtin.zeroCells, Value.cells, hxl]
      omega
    · have e : insL xs k (Value.int .i64 x) = xs ++ [.int .i64 x] := by rw [← hxl]; exact insL_end _ _
      rw [e, Nat.mul_one]
      have e2 : (xs ++ [Value.int .i64 x]).length = k + 1 := by simp [hxl]
      rw [Array.toList_append, List.toList_toArray, ← e2, List.take_left]
  rcases h.2 with ⟨rfl, rfl⟩ | ⟨g, c, cur, rfl, hg, hh, hnc, hcm, hcs, htk⟩
  · exact grow none 0 rfl (Nat.le_refl _) (by omega) (fun _ => rfl) (fun a e => by cases e) (by omega)
  · rw [Nat.mul_one] at hcs htk
    have hcell : ∀ j u, xs[j]? = some u → w.cell? ⟨g, 0 + j, none⟩ = some u := fun j u hj => by
      rw [Nat.zero_add, cells_at hh j, cur_at htk (by have := (List.getElem?_eq_some_iff.1 hj).1; omega)]
      exact hj
    by_cases hroom : n + 1 ≤ c
    · by_cases hkn : k = n
      · subst hkn
        refine (Any2.slices_Insert_int_end_room insI g 0 k c vb 0 1 1 [.int .i64 x] w (by omega) hroom (by unfold maxLen at hcm; omega) rfl (fun j hj => isSome_at hh (by omega)) (fun j hj => free_at hh _) hvs h1v).mono ?_
        rintro e w' ⟨rfl, rfl⟩
        rw [Nat.zero_add]
        obtain ⟨_, cur', h1, h2, h3⟩ := row_ins (V := w) (k := k) (x := .int .i64 x) hh hxl (Nat.le_refl _) (by omega) (fun i hi => cur_at htk hi)
        have e0 : xs.drop k = [] := List.drop_eq_nil_of_le (by omega)
        rw [e0] at h1
        exact ⟨_, _, rfl, ⟨by omega, .inr ⟨g, c, cur', rfl, hg, h1, hroom, hcm, by omega, by rw [Nat.mul_one]; exact h3⟩⟩, (kept_setCells (p := fun j => j = g) (.inl rfl) _ _ _ (Kept.refl _ w)).mono (fun j _ e => by have e2 : j = g := e; subst e2; rfl), .inl rfl⟩
      · refine (Any2.slices_Insert_int_shift insI g 0 n c k vb 0 1 1 xs [.int .i64 x] w (by omega) (by omega) hroom (by unfold maxLen at hcm; omega) (hne g rfl) hxl rfl hcell (fun j hj => isSome_at hh (by omega)) (fun j hj => free_at hh _) hvs hx1 h1v
          3 3 1 c ?_ ?_ (by omega) (free_at hv _) (free_at hv _)).mono ?_
        · simp [World.shape?, hv]
        · simp [World.shape?, hh, hcs]
        rintro e w' ⟨rfl, rfl⟩
        rw [Nat.zero_add, Nat.zero_add]
        obtain ⟨⟨cur', h1, h2, h3⟩, _⟩ := row_ins (V := w.drew) (k := k) (x := .int .i64 x) hh hxl hk (by omega) (fun i hi => cur_at htk (by omega))
        exact ⟨_, _, rfl, ⟨by omega, .inr ⟨g, c, cur', rfl, hg, h1, hroom, hcm, by omega, by rw [Nat.mul_one]; exact h3⟩⟩, (kept_setCells (p := fun j => j = g) (.inl rfl) _ _ _ (kept_setCells (p := fun j => j = g) (.inl rfl) _ _ _ (kept_drew (Kept.refl _ w)))).mono (fun j _ e => by have e2 : j = g := e; subst e2; rfl), .inl rfl⟩
    · by_cases hkn : k = n
      · exact grow (some ⟨g, 0, none⟩) c rfl hnc (by omega) (fun e => by cases e) (fun a e j u hj => by cases e; rw [Addr.add_lit]; exact hcell j u hj) hkn
      · refine (Any2.slices_Insert_int_grow insI g 0 n c k vb 0 1 1 xs [.int .i64 x] w (by omega) (by omega) hnc (by omega) (by omega) hxl rfl hcell hvs hx1 h1v).mono ?_
        rintro e w' ⟨he, hw'⟩
        have hG := grownCap_ge w (n + 1) c (insI_ren.t 3)
        have hGm := grownCap_le_maxLen w (n + 1) c (insI_ren.t 3) (by unfold maxLen; omega)
        generalize grownCap w (n + 1) c (insI_ren.t 3) = G at *
        subst he
        obtain ⟨ROW, hROW⟩ : ∃ ROW : Array Value, (xs.take k).toArray ++ Builtin.zeroCells (Value.int .i64 0).cells (n + 1 - k) ++ Builtin.zeroCells (Value.int .i64 0).cells (G - (n + 1)) = ROW := ⟨_, rfl⟩
        have hRl : ROW.size = G := by
          rw [← hROW]
          simp [Builtin.zeroCells, Value.cells, hxl]
          omega
        have hRa : ∀ i, i < k → ROW[i]? = xs[i]? := fun i hi => by
          rw [← hROW, Array.append_assoc, Array.getElem?_append_left (by simp [hxl]; omega)]
          simp [List.getElem?_take, hi]
        rw [hROW] at hw'
        clear hROW
        have hX : (w.alloc (.cells ROW 3)).heap[w.heap.size]? = some (.cells ROW 3 (0, 0)) := alloc_new w _
        obtain ⟨_, cur', h1, h2, h3⟩ := row_ins (V := (w.alloc (.cells ROW 3)).drew.drew) (k := k) (x := .int .i64 x) hX hxl hk (by omega) hRa
        have hd : ∀ (V : World) (o : Nat) (vs : List Value), (V.setCells w.heap.size o vs).drew = V.drew.setCells w.heap.size o vs := fun V o vs => drew_setCells _ _ _ _
        rw [hd] at hw'
        have hw2 : w' = ((w.alloc (.cells ROW 3)).drew.drew.setCells w.heap.size k [.int .i64 x]).setCells w.heap.size (k + 1) (xs.drop k) := hw'
        subst hw2
        refine ⟨_, _, rfl, ⟨by omega, .inr ⟨w.heap.size, G, cur', rfl, hS, h1, hG, hGm, by omega, by rw [Nat.mul_one]; exact h3⟩⟩, ?_, .inr ⟨_, rfl, Nat.le_refl _⟩⟩
        exact kept_setCells (.inr (Nat.le_refl _)) _ _ _ (kept_setCells (.inr (Nat.le_refl _)) _ _ _ (kept_drew (kept_drew ((Kept.refl _ w).alloc _))))
end Ins
end Go.Proofs.YtjoiogdckbaeaaaDoor
