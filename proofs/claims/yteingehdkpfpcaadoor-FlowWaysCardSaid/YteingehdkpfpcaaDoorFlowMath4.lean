/- The places of an order. No program. -/
import Derived.Test.YteingehdkpfpcaaDoorFlowMath3
namespace Go.Proofs.YteingehdkpfpcaaDoor
namespace Flw
open Isa
set_option linter.unusedVariables false
set_option linter.unusedSimpArgs false
/-- a number's place, from 1 on; 0: none -/
def pl : List Nat → Nat → Nat
  | [], _ => 0
  | a :: r, x => if a = x then 1 else if pl r x = 0 then 0 else pl r x + 1
theorem pl_app (T : List Nat) (k x : Nat) (hk : k ∉ T) : pl (T ++ [k]) x = if k = x then T.length + 1 else pl T x := by
  induction T with
  | nil => simp [pl]
  | cons a r ih =>
    simp only [List.mem_cons, not_or] at hk
    rw [List.cons_append]
    unfold pl
    rw [ih hk.2]
    by_cases e : k = x
    · subst e
      have h1 : ¬ a = k := fun q => hk.1 q.symm
      rw [if_neg h1, if_pos rfl, if_neg (by omega), if_pos rfl]
      simp
    · rw [if_neg e, if_neg e]
theorem pl_at : ∀ (T : List Nat) (i x : Nat), T.Nodup → T[i]? = some x → pl T x = i + 1
  | [], i, x, _, h => by simp at h
  | a :: r, 0, x, _, h => by
    simp at h
    unfold pl
    rw [if_pos h]
  | a :: r, i + 1, x, hn, h => by
    have hr : r[i]? = some x := by simpa using h
    have hm : x ∈ r := List.mem_of_getElem? hr
    have hne : ¬ a = x := fun e => by subst e; exact (List.nodup_cons.1 hn).1 hm
    have := pl_at r i x (List.nodup_cons.1 hn).2 hr
    unfold pl
    rw [if_neg hne, this, if_neg (by omega)]
theorem pl_no : ∀ (T : List Nat) (x : Nat), x ∉ T → pl T x = 0
  | [], x, _ => rfl
  | a :: r, x, h => by
    simp only [List.mem_cons, not_or] at h
    unfold pl
    rw [if_neg (fun e => h.1 e.symm), pl_no r x h.2]
    rfl
theorem pl_le : ∀ (T : List Nat) (x : Nat), pl T x ≤ T.length
  | [], _ => Nat.le_refl _
  | a :: r, x => by
    have := pl_le r x
    unfold pl
    rw [List.length_cons]
    split
    · omega
    · split <;> omega
def plc (n : Nat) (T : List Nat) (i : Nat) : List Int := (List.range n).map fun x => ((pl (T.take i) x : Nat) : Int)
theorem plc_len (n : Nat) (T : List Nat) (i : Nat) : (plc n T i).length = n := by simp [plc]
theorem plc_at {n x : Nat} (T : List Nat) (i : Nat) (hx : x < n) : (plc n T i).getD x 0 = ((pl (T.take i) x : Nat) : Int) := by
  unfold plc
  rw [List.getD_eq_getElem?_getD, List.getElem?_map, List.getElem?_range hx]
  rfl
theorem plc_zero (n : Nat) (T : List Nat) : plc n T 0 = List.replicate n 0 := by
  apply List.ext_getElem
  · simp [plc]
  · intro i h1 h2
    simp [plc, pl]
theorem take_succ' {T : List Nat} {i : Nat} (hi : i < T.length) : T.take (i + 1) = T.take i ++ [T.getD i 0] := by
  rw [List.take_add_one, List.getElem?_eq_getElem hi, List.getD_eq_getElem?_getD, List.getElem?_eq_getElem hi]
  rfl
theorem not_take {T : List Nat} (hn : T.Nodup) {i : Nat} (hi : i < T.length) : T.getD i 0 ∉ T.take i := by
  intro h
  obtain ⟨j, hj, e⟩ := List.getElem_of_mem h
  have hj' : j < i := by rw [List.length_take] at hj; omega
  rw [List.getElem_take, List.getD_eq_getElem?_getD, List.getElem?_eq_getElem hi] at e
  have e2 : T[j]? = T[i]? := by rw [List.getElem?_eq_getElem (by omega), List.getElem?_eq_getElem hi, e]; rfl
  have := (List.getElem?_inj (by omega) hn).1 e2
  omega
theorem plc_free {n : Nat} {T : List Nat} (hn : T.Nodup) {i : Nat} (hi : i < T.length) (hx : T.getD i 0 < n) : (plc n T i).getD (T.getD i 0) 0 = 0 := by
  rw [plc_at T i hx, pl_no _ _ (not_take hn hi)]
  rfl
theorem plc_step {n : Nat} {T : List Nat} (hn : T.Nodup) {i : Nat} (hi : i < T.length) : (plc n T i).set (T.getD i 0) ((i + 1 : Nat) : Int) = plc n T (i + 1) := by
  apply List.ext_getElem
  · simp [plc]
  · intro x h1 h2
    rw [List.getElem_set]
    simp only [plc, List.getElem_map, List.getElem_range]
    rw [take_succ' hi, pl_app _ _ _ (not_take hn hi), List.length_take, Nat.min_eq_left (by omega)]
    split <;> rfl
theorem plc_full {n x : Nat} (T : List Nat) (hx : x < n) : (plc n T T.length).getD x 0 = ((pl T x : Nat) : Int) := by
  rw [plc_at T _ hx, List.take_length]
/-- of a program with an order: places grow -/
theorem pl_edge {l : List Iv} {T : List Nat} (hf : Fine l) (hw : ∀ i ∈ l, i.wf) (ht : Told l T) (ha : allT l T = true) {x m : Nat} (hx : Come l x) (hm : m ∈ behL l x) : pl T x < pl T m := by
  have hxm := allT_true.1 ha x (come_lt hf hw hx) (comeB_iff.2 hx)
  have hcm := Come.step hx hm
  have hmm := allT_true.1 ha m (come_lt hf hw hcm) (comeB_iff.2 hcm)
  obtain ⟨i, hi, e1⟩ := List.getElem_of_mem hxm
  obtain ⟨j, hj, e2⟩ := List.getElem_of_mem hmm
  have q1 : T[i]? = some x := by rw [List.getElem?_eq_getElem hi, e1]
  have q2 : T[j]? = some m := by rw [List.getElem?_eq_getElem hj, e2]
  rw [pl_at T i x ht.nodup q1, pl_at T j m ht.nodup q2]
  have := ht.edge i j x m q1 q2 hm
  omega
theorem pl_first {l : List Iv} {T : List Nat} (hf : Fine l) (hw : ∀ i ∈ l, i.wf) (ht : Told l T) (ha : allT l T = true) : pl T 0 = 1 := pl_at T 0 0 ht.nodup (ord_zero hf hw ht ha)
theorem beh_none {l : List Iv} {n : Nat} (h : behL l n = []) : (l.getD n iz).op = 27 := by
  unfold behL behI at h
  split at h
  · assumption
  · split at h
    · simp at h
    · split at h
      · split at h <;> simp at h
      · simp at h
end Flw
end Go.Proofs.YteingehdkpfpcaaDoor
