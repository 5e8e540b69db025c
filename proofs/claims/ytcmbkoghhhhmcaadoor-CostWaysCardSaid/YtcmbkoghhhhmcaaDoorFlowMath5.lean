/- What is come to, with a list of those that are still to be looked behind: what stands. No program. -/
import Derived.Test.YtcmbkoghhhhmcaaDoorFlowMath2
namespace Go.Proofs.YtcmbkoghhhhmcaaDoor
namespace Flw
open Isa
set_option linter.unusedVariables false
set_option linter.unusedSimpArgs false
theorem snoc_cases {α : Type} (l : List α) : l = [] ∨ ∃ r k, l = r ++ [k] := by
  rcases List.eq_nil_or_concat l with h | ⟨r, k, h⟩
  · exact .inl h
  · exact .inr ⟨r, k, by rw [h, List.concat_eq_append]⟩
theorem fcount_le : ∀ (B : List Bool), fcount B ≤ B.length
  | [] => Nat.le_refl _
  | b :: r => by
    have := fcount_le r
    unfold fcount
    rw [List.length_cons]
    split <;> omega
/-- between two rounds: op: those that are still to be looked behind -/
structure Wk (l : List Iv) (n : Nat) (B : List Bool) (op : List Nat) : Prop where
  len : B.length = n
  zero : B.getD 0 false = true
  sound : ∀ j, B.getD j false = true → Come l j
  on : ∀ k ∈ op, B.getD k false = true
  closed : ∀ k, k < n → B.getD k false = true → k ∈ op ∨ ∀ m ∈ behL l k, B.getD m false = true
/-- while one looks behind k: those of pre are marked -/
structure Wj (l : List Iv) (n : Nat) (B : List Bool) (op : List Nat) (k : Nat) (pre : List Nat) : Prop where
  len : B.length = n
  zero : B.getD 0 false = true
  sound : ∀ j, B.getD j false = true → Come l j
  on : ∀ k ∈ op, B.getD k false = true
  here : B.getD k false = true
  done : ∀ m ∈ pre, B.getD m false = true
  closed : ∀ t, t < n → B.getD t false = true → t = k ∨ t ∈ op ∨ ∀ m ∈ behL l t, B.getD m false = true
theorem getD_lt {B : List Bool} {k : Nat} (h : B.getD k false = true) : k < B.length := by
  rcases Nat.lt_or_ge k B.length with q | q
  · exact q
  · rw [List.getD_eq_getElem?_getD, List.getElem?_eq_none q] at h; cases h
theorem Wk.start {l : List Iv} (hf : Fine l) : Wk l l.length ((List.replicate l.length false).set 0 true) [0] := by
  have hs := hf.some
  have hl : (List.replicate l.length false).length = l.length := List.length_replicate
  have hz : ((List.replicate l.length false).set 0 true).getD 0 false = true := by rw [getD_set (by rw [hl]; exact hs), if_pos rfl]
  refine ⟨by rw [List.length_set]; exact hl, hz, fun j hj => ?_, fun k hk => ?_, fun k hk hB => ?_⟩
  · rw [getD_set (by rw [hl]; exact hs)] at hj
    split at hj
    · rename_i e; rw [← e]; exact .zero
    · rw [List.getD_eq_getElem?_getD, List.getElem?_replicate] at hj
      split at hj <;> simp at hj
  · simp at hk; rw [hk]; exact hz
  · rw [getD_set (by rw [hl]; exact hs)] at hB
    split at hB
    · rename_i e; left; rw [← e]; simp
    · rw [List.getD_eq_getElem?_getD, List.getElem?_replicate] at hB
      split at hB <;> simp at hB
theorem Wk.pop {l : List Iv} {n : Nat} {B : List Bool} {op : List Nat} {k : Nat} (h : Wk l n B (op ++ [k])) : Wj l n B op k [] :=
  ⟨h.len, h.zero, h.sound, fun j hj => h.on j (by simp [hj]), h.on k (by simp), by simp, fun t ht hB => by
    rcases h.closed t ht hB with q | q
    · rcases List.mem_append.1 q with q | q
      · exact .inr (.inl q)
      · simp at q; exact .inl q
    · exact .inr (.inr q)⟩
theorem Wj.seen {l : List Iv} {n : Nat} {B : List Bool} {op : List Nat} {k : Nat} {pre : List Nat} (h : Wj l n B op k pre) {x : Nat} (hx : B.getD x false = true) : Wj l n B op k (pre ++ [x]) :=
  ⟨h.len, h.zero, h.sound, h.on, h.here, fun m hm => by
    rcases List.mem_append.1 hm with q | q
    · exact h.done m q
    · simp at q; rw [q]; exact hx, h.closed⟩
theorem Wj.mark {l : List Iv} {n : Nat} {B : List Bool} {op : List Nat} {k : Nat} {pre : List Nat} (h : Wj l n B op k pre) {x : Nat} (hx : x < n) (hm : x ∈ behL l k) : Wj l n (B.set x true) (op ++ [x]) k (pre ++ [x]) := by
  have hxl : x < B.length := by rw [h.len]; exact hx
  have up : ∀ j, B.getD j false = true → (B.set x true).getD j false = true := fun j hj => by
    rw [getD_set hxl]
    split
    · rfl
    · exact hj
  have at_ : (B.set x true).getD x false = true := by rw [getD_set hxl, if_pos rfl]
  refine ⟨by rw [List.length_set]; exact h.len, up 0 h.zero, fun j hj => ?_, fun j hj => ?_, up k h.here, fun m hm' => ?_, fun t ht hB => ?_⟩
  · rw [getD_set hxl] at hj
    split at hj
    · rename_i e; rw [← e]; exact .step (h.sound k h.here) hm
    · exact h.sound j hj
  · rcases List.mem_append.1 hj with q | q
    · exact up j (h.on j q)
    · simp at q; rw [q]; exact at_
  · rcases List.mem_append.1 hm' with q | q
    · exact up m (h.done m q)
    · simp at q; rw [q]; exact at_
  · rw [getD_set hxl] at hB
    split at hB
    · rename_i e; right; left; rw [← e]; simp
    · rcases h.closed t ht hB with q | q | q
      · exact .inl q
      · exact .inr (.inl (by simp [q]))
      · exact .inr (.inr fun m hm' => up m (q m hm'))
theorem Wj.fin {l : List Iv} {n : Nat} {B : List Bool} {op : List Nat} {k : Nat} (h : Wj l n B op k (behL l k)) : Wk l n B op :=
  ⟨h.len, h.zero, h.sound, h.on, fun t ht hB => by
    rcases h.closed t ht hB with q | q | q
    · subst q; exact .inr h.done
    · exact .inl q
    · exact .inr q⟩
theorem Wk.come {l : List Iv} (hf : Fine l) (hw : ∀ i ∈ l, i.wf) {B : List Bool} (h : Wk l l.length B []) : B = (List.range l.length).map (comeB l) := by
  have key := come_is hf hw (fun k => B.getD k false) h.zero (fun k _ hk => h.sound k hk) (fun k hk hb m hm => by
    rcases h.closed k hk hb with q | q
    · simp at q
    · exact q m hm)
  apply List.ext_getElem
  · simp [h.len]
  · intro i h1 h2
    have := key i (by rw [← h.len]; exact h1)
    simp only [List.getElem_map, List.getElem_range]
    rw [← this, List.getD_eq_getElem?_getD, List.getElem?_eq_getElem h1]
    rfl
end Flw
end Go.Proofs.YtcmbkoghhhhmcaaDoor
