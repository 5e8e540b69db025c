/- slices.Insert of one number into a row of the call's own. -/
import Derived.Test.YtcmbkoghhhhmcaaDoorInsMem
namespace Go.Proofs.YtcmbkoghhhhmcaaDoor
open Go.ChangeShapes Go.WideShapes Go.ChangeAt Go.RowKit
namespace Ins
open Isa
open Goes
open Rights (Kept)
set_option linter.unusedVariables false
set_option linter.unusedSimpArgs false
/-- a row with one more in between -/
def InsP (S : Nat) (v : Value) (ys : List Value) (w : World) (e : Ending) (w' : World) : Prop :=
  ∃ a c, e = .returned (.slice a ys.length c) ∧ w'.ownsRow S 3 1 (.slice a ys.length c) ys.length ys ∧ Kept (fun j => v.ownBlock = some j) w w' ∧
    ((Value.slice a ys.length c).ownBlock = v.ownBlock ∨ ∃ g, (Value.slice a ys.length c).ownBlock = some g ∧ w.heap.size ≤ g)
theorem isSome_at {w : World} {g j : Nat} {cur : Array Value} {t : TypeId} (h : w.heap[g]? = some (.cells cur t (0, 0))) (hj : j < cur.size) : (w.cell? ⟨g, j, none⟩).isSome = true := by
  rw [cells_at h j, Array.getElem?_eq_getElem hj]; rfl
theorem free_at {w : World} {g : Nat} {cur : Array Value} {t : TypeId} (h : w.heap[g]? = some (.cells cur t (0, 0))) (j : Nat) : w.frozen? ⟨g, j, none⟩ = false := by simp [World.frozen?, h]
set_option maxHeartbeats 1600000 in
theorem insert_any {w : World} {S : Nat} {v : Value} {n : Nat} {xs : List Value} (h : w.ownsRow S 3 1 v n xs) (hx1 : ∀ u ∈ xs, u.oneCell' = true) (hS : S ≤ w.heap.size) (hn : n ≤ 1000000) (k : Nat) (hk : k ≤ n) (vb : Nat) (x : Int)
    (hv : w.heap[vb]? = some (.cells #[.int .i64 x] 3 (0, 0))) (hne : ∀ g, v.ownBlock = some g → vb ≠ g) :
    Calls Tryd.prog 44 #[v, .int .i64 (k : Nat), .slice (some ⟨vb, 0, none⟩) 1 1] w (InsP S v (insL xs k (.int .i64 x)) w) := by
  have hxl : xs.length = n := by have := h.1; omega
  have hyl : (insL xs k (Value.int .i64 x)).length = n + 1 := by rw [insL_len, hxl]
  have hvs : ∀ j u, [Value.int .i64 x][j]? = some u → w.cell? ⟨vb, 0 + j, none⟩ = some u := fun j u hj => by
    have hj0 : j = 0 := by have := (List.getElem?_eq_some_iff.1 hj).1; simp at this; omega
    subst hj0
    simp at hj
    subst hj
    exact cells_at hv 0
  have h1v : ∀ u ∈ [Value.int .i64 x], u.oneCell' = true := fun u hu => by simp at hu; subst hu; rfl
  unfold InsP
  rw [hyl]
  -- a new row behind it
  have grow : ∀ (base : Option Addr) (c : Nat), v = .slice base n c → n ≤ c → c < n + 1 → (base = none → n = 0) → (∀ a, base = some a → ∀ j u, xs[j]? = some u → w.cell? (a.add j) = some u) → k = n →
      Calls Tryd.prog 44 #[.slice base n c, .int .i64 (k : Nat), .slice (some ⟨vb, 0, none⟩) 1 1] w fun e w' => ∃ a c, e = .returned (.slice a (n + 1) c) ∧ w'.ownsRow S 3 1 (.slice a (n + 1) c) (n + 1) (insL xs k (.int .i64 x)) ∧ Kept (fun j => v.ownBlock = some j) w w' ∧
    ((Value.slice a (n + 1) c).ownBlock = v.ownBlock ∨ ∃ g, (Value.slice a (n + 1) c).ownBlock = some g ∧ w.heap.size ≤ g) := fun base c hvE hnc hc hnil hcs hkn => by
    subst hkn
    refine (Any2.slices_Insert_int_end_grow insI base k c vb 0 1 1 xs [.int .i64 x] w (by omega) hnc hc (by omega) hxl rfl hnil hcs hvs h1v).mono ?_
    rintro e w' ⟨he, hw'⟩
    have hG := grownCap_ge w (k + 1) c (insI_ren.t 3)
    have hGm := grownCap_le_maxLen w (k + 1) c (insI_ren.t 3) (by unfold maxLen; omega)
    generalize grownCap w (k + 1) c (insI_ren.t 3) = G at *
    subst he
    subst hw'
    refine ⟨_, _, rfl, ⟨by omega, .inr ⟨w.heap.size, G, _, rfl, hS, heap_alloc_new w.drew _, hG, hGm, ?_, ?_⟩⟩, (kept_drew (Kept.refl _ w)).alloc _, .inr ⟨_, rfl, Nat.le_refl _⟩⟩
    · simp [Builtin.zeroCells, Value.cells, hxl]
      omega
    · have e : insL xs k (Value.int .i64 x) = xs ++ [.int .i64 x] := by rw [← hxl]; exact insL_end _ _
      rw [e, Nat.mul_one]
      have e2 : (xs ++ [Value.int .i64 x]).length = k + 1 := by simp [hxl]
      rw [Array.toList_append, List.toList_toArray, ← e2, List.take_left]
  rcases h.2 with ⟨rfl, rfl⟩ | ⟨g, c, cur, rfl, hg, hh, hnc, hcm, hcs, htk⟩
  · exact grow none 0 rfl (Nat.le_refl _) (by omega) (fun _ => rfl) (fun a e => by cases e) (by omega)
  · rw [Nat.mul_one] at hcs htk
    have hcell : ∀ j u, xs[j]? = some u → w.cell? ⟨g, 0 + j, none⟩ = some u := fun j u hj => by
      rw [Nat.zero_add, cells_at hh j, cur_at htk (by have := (List.getElem?_eq_some_iff.1 hj).1; omega)]
      exact hj
    by_cases hroom : n + 1 ≤ c
    · by_cases hkn : k = n
      · subst hkn
        refine (Any2.slices_Insert_int_end_room insI g 0 k c vb 0 1 1 [.int .i64 x] w (by omega) hroom (by unfold maxLen at hcm; omega) rfl (fun j hj => isSome_at hh (by omega)) (fun j hj => free_at hh _) hvs h1v).mono ?_
        rintro e w' ⟨rfl, rfl⟩
        rw [Nat.zero_add]
        obtain ⟨_, cur', h1, h2, h3⟩ := row_ins (V := w) (k := k) (x := .int .i64 x) hh hxl (Nat.le_refl _) (by omega) (fun i hi => cur_at htk hi)
        have e0 : xs.drop k = [] := List.drop_eq_nil_of_le (by omega)
        rw [e0] at h1
        exact ⟨_, _, rfl, ⟨by omega, .inr ⟨g, c, cur', rfl, hg, h1, hroom, hcm, by omega, by rw [Nat.mul_one]; exact h3⟩⟩, (kept_setCells (p := fun j => j = g) (.inl rfl) _ _ _ (Kept.refl _ w)).mono (fun j _ e => by have e2 : j = g := e; subst e2; rfl), .inl rfl⟩
      · refine (Any2.slices_Insert_int_shift insI g 0 n c k vb 0 1 1 xs [.int .i64 x] w (by omega) (by omega) hroom (by unfold maxLen at hcm; omega) (hne g rfl) hxl rfl hcell (fun j hj => isSome_at hh (by omega)) (fun j hj => free_at hh _) hvs hx1 h1v
          3 3 1 c ?_ ?_ (by omega) (free_at hv _) (free_at hv _)).mono ?_
        · simp [World.shape?, hv]
        · simp [World.shape?, hh, hcs]
        rintro e w' ⟨rfl, rfl⟩
        rw [Nat.zero_add, Nat.zero_add]
        obtain ⟨⟨cur', h1, h2, h3⟩, _⟩ := row_ins (V := w.drew) (k := k) (x := .int .i64 x) hh hxl hk (by omega) (fun i hi => cur_at htk (by omega))
        exact ⟨_, _, rfl, ⟨by omega, .inr ⟨g, c, cur', rfl, hg, h1, hroom, hcm, by omega, by rw [Nat.mul_one]; exact h3⟩⟩, (kept_setCells (p := fun j => j = g) (.inl rfl) _ _ _ (kept_setCells (p := fun j => j = g) (.inl rfl) _ _ _ (kept_drew (Kept.refl _ w)))).mono (fun j _ e => by have e2 : j = g := e; subst e2; rfl), .inl rfl⟩
    · by_cases hkn : k = n
      · exact grow (some ⟨g, 0, none⟩) c rfl hnc (by omega) (fun e => by cases e) (fun a e j u hj => by cases e; rw [Addr.add_lit]; exact hcell j u hj) hkn
      · refine (Any2.slices_Insert_int_grow insI g 0 n c k vb 0 1 1 xs [.int .i64 x] w (by omega) (by omega) hnc (by omega) (by omega) hxl rfl hcell hvs hx1 h1v).mono ?_
        rintro e w' ⟨he, hw'⟩
        have hG := grownCap_ge w (n + 1) c (insI_ren.t 3)
        have hGm := grownCap_le_maxLen w (n + 1) c (insI_ren.t 3) (by unfold maxLen; omega)
        generalize grownCap w (n + 1) c (insI_ren.t 3) = G at *
        subst he
        obtain ⟨ROW, hROW⟩ : ∃ ROW : Array Value, (xs.take k).toArray ++ Builtin.zeroCells (Value.int .i64 0).cells (n + 1 - k) ++ Builtin.zeroCells (Value.int .i64 0).cells (G - (n + 1)) = ROW := ⟨_, rfl⟩
        have hRl : ROW.size = G := by
          rw [← hROW]
          simp [Builtin.zeroCells, Value.cells, hxl]
          omega
        have hRa : ∀ i, i < k → ROW[i]? = xs[i]? := fun i hi => by
          rw [← hROW, Array.append_assoc, Array.getElem?_append_left (by simp [hxl]; omega)]
          simp [List.getElem?_take, hi]
        rw [hROW] at hw'
        clear hROW
        have hX : (w.alloc (.cells ROW 3)).heap[w.heap.size]? = some (.cells ROW 3 (0, 0)) := alloc_new w _
        obtain ⟨_, cur', h1, h2, h3⟩ := row_ins (V := (w.alloc (.cells ROW 3)).drew.drew) (k := k) (x := .int .i64 x) hX hxl hk (by omega) hRa
        have hd : ∀ (V : World) (o : Nat) (vs : List Value), (V.setCells w.heap.size o vs).drew = V.drew.setCells w.heap.size o vs := fun V o vs => drew_setCells _ _ _ _
        rw [hd] at hw'
        have hw2 : w' = ((w.alloc (.cells ROW 3)).drew.drew.setCells w.heap.size k [.int .i64 x]).setCells w.heap.size (k + 1) (xs.drop k) := hw'
        subst hw2
        refine ⟨_, _, rfl, ⟨by omega, .inr ⟨w.heap.size, G, cur', rfl, hS, h1, hG, hGm, by omega, by rw [Nat.mul_one]; exact h3⟩⟩, ?_, .inr ⟨_, rfl, Nat.le_refl _⟩⟩
        exact kept_setCells (.inr (Nat.le_refl _)) _ _ _ (kept_setCells (.inr (Nat.le_refl _)) _ _ _ (kept_drew (kept_drew ((Kept.refl _ w).alloc _))))
end Ins
end Go.Proofs.YtcmbkoghhhhmcaaDoor
