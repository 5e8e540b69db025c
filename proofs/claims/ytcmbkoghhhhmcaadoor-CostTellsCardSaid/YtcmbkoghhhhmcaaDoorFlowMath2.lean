/- What is come to, found round by round: what stands in each round. No program. -/
import Derived.Test.YtcmbkoghhhhmcaaDoorFlowMath
namespace Go.Proofs.YtcmbkoghhhhmcaaDoor
namespace Flw
open Isa
set_option linter.unusedVariables false
set_option linter.unusedSimpArgs false
def fcount : List Bool → Nat
  | [] => 0
  | b :: r => (if b then 0 else 1) + fcount r
theorem fcount_set : ∀ (B : List Bool) (k : Nat), k < B.length → fcount (B.set k true) + (if B.getD k false then 0 else 1) = fcount B
  | [], k, h => by simp at h
  | b :: r, 0, _ => by simp [fcount]; omega
  | b :: r, k + 1, h => by
    have := fcount_set r k (by simpa using h)
    simp only [List.set_cons_succ, fcount, List.getD_cons_succ]
    omega
theorem getD_set {B : List Bool} {k : Nat} (hk : k < B.length) (j : Nat) : (B.set k true).getD j false = if k = j then true else B.getD j false := by
  rw [List.getD_eq_getElem?_getD, List.getElem?_set, List.getD_eq_getElem?_getD]
  split
  · rfl
  · rfl
theorem set_same : ∀ (B : List Bool) (k : Nat), B.getD k false = true → B.set k true = B
  | [], k, h => by simp at h
  | b :: r, 0, h => by simp at h; subst h; rfl
  | b :: r, k + 1, h => by
    rw [List.set_cons_succ, set_same r k (by simpa using h)]
/-- what stands between two instructions of a round that began with B0 -/
structure Mid (l : List Iv) (B0 B : List Bool) (n k : Nat) (mb : Bool) : Prop where
  len : B.length = n
  mono : ∀ j, B0.getD j false = true → B.getD j false = true
  sound : ∀ j, B.getD j false = true → Come l j
  quiet : mb = false → B = B0 ∧ ∀ t, t < k → B0.getD t false = true → ∀ m ∈ behL l t, B0.getD m false = true
  moved : mb = true → fcount B < fcount B0
/-- and in the middle of instruction t -/
structure Inn (l : List Iv) (B0 B : List Bool) (n t j : Nat) (mb : Bool) : Prop where
  len : B.length = n
  mono : ∀ j, B0.getD j false = true → B.getD j false = true
  sound : ∀ j, B.getD j false = true → Come l j
  quiet : mb = false → B = B0 ∧ (∀ t', t' < t → B0.getD t' false = true → ∀ m ∈ behL l t', B0.getD m false = true) ∧ ∀ i, i < j → B0.getD ((behL l t).getD i 0) false = true
  moved : mb = true → fcount B < fcount B0
theorem Mid.start {l : List Iv} {B : List Bool} {n : Nat} (h : B.length = n) (hs : ∀ j, B.getD j false = true → Come l j) : Mid l B B n 0 false :=
  ⟨h, fun _ h => h, hs, fun _ => ⟨rfl, fun t ht => by omega⟩, fun h => by cases h⟩
theorem Mid.inn {l : List Iv} {B0 B : List Bool} {n t : Nat} {mb : Bool} (h : Mid l B0 B n t mb) : Inn l B0 B n t 0 mb :=
  ⟨h.len, h.mono, h.sound, fun e => ⟨(h.quiet e).1, (h.quiet e).2, fun i hi => by omega⟩, h.moved⟩
theorem Inn.step {l : List Iv} {B0 B : List Bool} {n t j : Nat} {mb : Bool} (h : Inn l B0 B n t j mb) (hj : j < (behL l t).length) (hm : (behL l t).getD j 0 < n) (ht : B.getD t false = true) :
    Inn l B0 (B.set ((behL l t).getD j 0) true) n t (j + 1) (mb || !B.getD ((behL l t).getD j 0) false) := by
  have hmem : (behL l t).getD j 0 ∈ behL l t := by
    rw [List.getD_eq_getElem?_getD, List.getElem?_eq_getElem hj]; simp
  have hml : (behL l t).getD j 0 < B.length := by rw [h.len]; exact hm
  refine ⟨by rw [List.length_set]; exact h.len, fun i hi => ?_, fun i hi => ?_, fun e => ?_, fun e => ?_⟩
  · rw [getD_set hml]
    split
    · rfl
    · exact h.mono i hi
  · rw [getD_set hml] at hi
    split at hi
    · rename_i e
      rw [← e]
      exact .step (h.sound t ht) hmem
    · exact h.sound i hi
  · simp only [Bool.or_eq_false_iff, Bool.not_eq_false'] at e
    obtain ⟨e1, e2⟩ := e
    obtain ⟨q1, q2, q3⟩ := h.quiet e1
    refine ⟨by rw [set_same _ _ e2]; exact q1, q2, fun i hi => ?_⟩
    by_cases e : i = j
    · rw [e, ← q1]; exact e2
    · exact q3 i (by omega)
  · have hc := fcount_set B _ hml
    cases mb with
    | true =>
      have := h.moved rfl
      omega
    | false =>
      obtain ⟨q1, _, _⟩ := h.quiet rfl
      simp only [Bool.false_or, Bool.not_eq_true'] at e
      rw [e] at hc
      rw [← q1]
      simp only [Bool.false_eq_true, if_false] at hc
      omega
theorem Inn.done {l : List Iv} {B0 B : List Bool} {n t j : Nat} {mb : Bool} (h : Inn l B0 B n t j mb) (he : (behL l t).length ≤ j ∨ B.getD t false = false) : Mid l B0 B n (t + 1) mb := by
  refine ⟨h.len, h.mono, h.sound, fun e => ?_, h.moved⟩
  obtain ⟨q1, q2, q3⟩ := h.quiet e
  refine ⟨q1, fun t' ht' hb m hm => ?_⟩
  by_cases e : t' = t
  · subst e
    rcases he with he | he
    · obtain ⟨i, hi, rfl⟩ := List.getElem_of_mem hm
      have := q3 i (by omega)
      have e2 : (behL l t').getD i 0 = (behL l t')[i] := by rw [List.getD_eq_getElem?_getD, List.getElem?_eq_getElem hi]; rfl
      rwa [e2] at this
    · rw [q1] at he
      rw [hb] at he
      cases he
  · exact q2 t' (by omega) hb m hm
theorem Mid.come {l : List Iv} (hf : Fine l) (hw : ∀ i ∈ l, i.wf) {B0 B : List Bool} {n : Nat} (h : Mid l B0 B n n false) (hn : l.length = n) (h0 : B0.getD 0 false = true) : B0 = (List.range n).map (comeB l) := by
  obtain ⟨q1, q2⟩ := h.quiet rfl
  subst q1
  have key := come_is hf hw (fun k => B.getD k false) h0 (fun k _ hk => h.sound k hk) (fun k hk hb m hm => q2 k (by omega) hb m hm)
  apply List.ext_getElem
  · simp [h.len]
  · intro i h1 h2
    have := key i (by rw [hn, ← h.len]; exact h1)
    simp only [List.getElem_map, List.getElem_range]
    rw [← this, List.getD_eq_getElem?_getD, List.getElem?_eq_getElem h1]
    rfl
end Flw
end Go.Proofs.YtcmbkoghhhhmcaaDoor
