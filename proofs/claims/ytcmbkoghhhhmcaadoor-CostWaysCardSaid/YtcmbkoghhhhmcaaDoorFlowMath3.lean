/- The order, told round by round: what stands in each round. No program. -/
import Derived.Test.YtcmbkoghhhhmcaaDoorFlowMath2
namespace Go.Proofs.YtcmbkoghhhhmcaaDoor
namespace Flw
open Isa
set_option linter.unusedVariables false
set_option linter.unusedSimpArgs false
theorem map_at {n k : Nat} (f : Nat → Bool) (hk : k < n) : ((List.range n).map f).getD k false = f k := by
  rw [List.getD_eq_getElem?_getD, List.getElem?_map, List.getElem?_range hk]
  rfl
/-- which numbers are told -/
def tB (n : Nat) (T : List Nat) : List Bool := (List.range n).map fun k => T.contains k
theorem tB_len (n : Nat) (T : List Nat) : (tB n T).length = n := by simp [tB]
theorem tB_at {n k : Nat} (T : List Nat) (hk : k < n) : (tB n T).getD k false = T.contains k := map_at _ hk
theorem tB_nil (n : Nat) : tB n [] = List.replicate n false := by
  apply List.ext_getElem
  · simp [tB]
  · intro i h1 h2
    simp [tB]
theorem tB_add {n k : Nat} (T : List Nat) : (tB n T).set k true = tB n (T ++ [k]) := by
  apply List.ext_getElem
  · simp [tB]
  · intro i h1 h2
    rw [List.getElem_set]
    simp only [tB, List.getElem_map, List.getElem_range]
    split
    · rename_i e; subst e; simp
    · rename_i e
      rw [Bool.eq_iff_iff]
      simp
      intro h; exact absurd h.symm e
/-- who has to wait, as far as t -/
structure Wt (l : List Iv) (T : List Nat) (W : List Bool) (n t : Nat) : Prop where
  len : W.length = n
  is : ∀ x, x < n → (W.getD x false = true ↔ ∃ p, p < t ∧ comeB l p = true ∧ p ∉ T ∧ x ∈ behL l p)
theorem Wt.start (l : List Iv) (T : List Nat) (n : Nat) : Wt l T (List.replicate n false) n 0 := by
  refine ⟨List.length_replicate, fun x hx => ?_⟩
  rw [List.getD_eq_getElem?_getD, List.getElem?_replicate, if_pos hx]
  constructor
  · intro h; cases h
  · rintro ⟨p, hp, _⟩; omega
theorem Wt.skip {l : List Iv} {T : List Nat} {W : List Bool} {n t : Nat} (h : Wt l T W n t) (hs : comeB l t = false ∨ t ∈ T) : Wt l T W n (t + 1) := by
  refine ⟨h.len, fun x hx => (h.is x hx).trans ?_⟩
  constructor
  · rintro ⟨p, hp, r⟩; exact ⟨p, by omega, r⟩
  · rintro ⟨p, hp, h1, h2, h3⟩
    by_cases e : p = t
    · subst e
      rcases hs with hs | hs
      · rw [hs] at h1; cases h1
      · exact absurd hs h2
    · exact ⟨p, by omega, h1, h2, h3⟩
structure Wi (W0 W : List Bool) (n : Nat) (nx : List Nat) (j : Nat) : Prop where
  len : W.length = n
  is : ∀ x, x < n → (W.getD x false = true ↔ W0.getD x false = true ∨ ∃ i, i < j ∧ nx.getD i 0 = x)
theorem Wi.start {W : List Bool} {n : Nat} (h : W.length = n) (nx : List Nat) : Wi W W n nx 0 := by
  refine ⟨h, fun x hx => ⟨.inl, fun h => ?_⟩⟩
  rcases h with h | ⟨i, hi, _⟩
  · exact h
  · omega
theorem Wi.step {W0 W : List Bool} {n : Nat} {nx : List Nat} {j : Nat} (h : Wi W0 W n nx j) (hm : nx.getD j 0 < n) : Wi W0 (W.set (nx.getD j 0) true) n nx (j + 1) := by
  refine ⟨by rw [List.length_set]; exact h.len, fun x hx => ?_⟩
  rw [getD_set (by rw [h.len]; exact hm)]
  constructor
  · intro q
    split at q
    · rename_i e; exact .inr ⟨j, by omega, e⟩
    · rcases (h.is x hx).1 q with q | ⟨i, hi, e⟩
      · exact .inl q
      · exact .inr ⟨i, by omega, e⟩
  · intro q
    split
    · rfl
    · rename_i ne
      refine (h.is x hx).2 ?_
      rcases q with q | ⟨i, hi, e⟩
      · exact .inl q
      · by_cases e2 : i = j
        · rw [e2] at e; exact absurd e ne
        · exact .inr ⟨i, by omega, e⟩
theorem Wi.done {l : List Iv} {T : List Nat} {W0 W : List Bool} {n t : Nat} (h0 : Wt l T W0 n t) (h : Wi W0 W n (behL l t) (behL l t).length) (hc : comeB l t = true) (hn : t ∉ T) : Wt l T W n (t + 1) := by
  refine ⟨h.len, fun x hx => (h.is x hx).trans ?_⟩
  rw [h0.is x hx]
  constructor
  · rintro (⟨p, hp, r⟩ | ⟨i, hi, e⟩)
    · exact ⟨p, by omega, r⟩
    · refine ⟨t, by omega, hc, hn, ?_⟩
      rw [← e, List.getD_eq_getElem?_getD, List.getElem?_eq_getElem hi]
      simp
  · rintro ⟨p, hp, h1, h2, h3⟩
    by_cases e : p = t
    · subst e
      obtain ⟨i, hi, e⟩ := List.getElem_of_mem h3
      exact .inr ⟨i, hi, by rw [List.getD_eq_getElem?_getD, List.getElem?_eq_getElem hi]; exact e⟩
    · exact .inl ⟨p, by omega, h1, h2, h3⟩
theorem Wt.wait {l : List Iv} {T : List Nat} {W : List Bool} {n : Nat} (h : Wt l T W n n) (hn : l.length = n) (x : Nat) (hx : x < n) : W.getD x false = waitB l T x := by
  rw [Bool.eq_iff_iff, h.is x hx]
  constructor
  · rintro ⟨p, hp, h1, h2, h3⟩
    cases e : waitB l T x with
    | true => rfl
    | false => exact absurd (waitB_false.1 e p (by omega) h1 h3) h2
  · intro q
    unfold waitB at q
    rw [List.any_eq_true] at q
    obtain ⟨p, hp, q⟩ := q
    rw [List.mem_range, hn] at hp
    simp only [Bool.and_eq_true, Bool.not_eq_true', List.contains_eq_mem, decide_eq_true_eq, decide_eq_false_iff_not] at q
    exact ⟨p, hp, q.1.1, q.1.2, q.2⟩
/-- how many are left, as far as t -/
def Lf (l : List Iv) (T : List Nat) (t lf : Nat) : Prop := lf ≤ t ∧ ((lf = 0 ∧ ∀ p, p < t → comeB l p = true → p ∈ T) ∨ (0 < lf ∧ ∃ p, p < t ∧ comeB l p = true ∧ p ∉ T))
theorem Lf.start (l : List Iv) (T : List Nat) : Lf l T 0 0 := ⟨by omega, .inl ⟨rfl, fun p hp => by omega⟩⟩
theorem Lf.skip {l : List Iv} {T : List Nat} {t lf : Nat} (h : Lf l T t lf) (hs : comeB l t = false ∨ t ∈ T) : Lf l T (t + 1) lf := by
  refine ⟨by have := h.1; omega, ?_⟩
  rcases h.2 with ⟨e, h2⟩ | ⟨e, p, hp, r⟩
  · refine .inl ⟨e, fun p hp hc => ?_⟩
    by_cases q : p = t
    · subst q
      rcases hs with hs | hs
      · rw [hs] at hc; cases hc
      · exact hs
    · exact h2 p (by omega) hc
  · exact .inr ⟨e, p, by omega, r⟩
theorem Lf.one {l : List Iv} {T : List Nat} {t lf : Nat} (h : Lf l T t lf) (hc : comeB l t = true) (hn : t ∉ T) : Lf l T (t + 1) (lf + 1) :=
  ⟨by have := h.1; omega, .inr ⟨by omega, t, by omega, hc, hn⟩⟩
theorem Lf.all {l : List Iv} {T : List Nat} (h : Lf l T l.length 0) : allT l T = true := by
  rcases h.2 with ⟨_, h2⟩ | ⟨e, _⟩
  · exact allT_true.2 h2
  · omega
theorem Lf.some {l : List Iv} {T : List Nat} {lf : Nat} (h : Lf l T l.length lf) (h0 : 0 < lf) : allT l T = false := by
  rcases h.2 with ⟨e, _⟩ | ⟨_, p, hp, hc, hn⟩
  · omega
  · cases e : allT l T with
    | false => rfl
    | true => exact absurd (allT_true.1 e p hp hc) hn
theorem ordGo_all {l : List Iv} {T : List Nat} {f : Nat} (hf : 0 < f) (ha : allT l T = true) : ordGo l f T = (T, true) := by
  obtain ⟨g, rfl⟩ : ∃ g, f = g + 1 := ⟨f - 1, by omega⟩
  unfold ordGo
  rw [if_pos ha]
theorem ordGo_none {l : List Iv} {T : List Nat} {f : Nat} (hf : 0 < f) (ha : allT l T = false) (hn : ∀ t, t < l.length → cand l T t = false) : ordGo l f T = ([], false) := by
  obtain ⟨g, rfl⟩ : ∃ g, f = g + 1 := ⟨f - 1, by omega⟩
  unfold ordGo
  rw [ha, if_neg (by simp), first_none hn, if_neg (Nat.lt_irrefl _)]
theorem ordGo_next {l : List Iv} {T : List Nat} {f k : Nat} (ha : allT l T = false) (hk : k < l.length) (hn : ∀ t, t < k → cand l T t = false) (h : cand l T k = true) : ordGo l (f + 1) T = ordGo l f (T ++ [k]) := by
  have e : first (cand l T) l.length = k := first_at hk hn h
  show (if allT l T then _ else _) = _
  rw [ha, if_neg (by simp), e, if_pos hk]
/-- what stands between two rounds -/
structure Od (l : List Iv) (n : Nat) (T : List Nat) : Prop where
  told : Told l T
  go : ordGo l (n + 1 - T.length) T = ordA l
theorem Od.start {l : List Iv} (hf : Fine l) : Od l l.length [] := by
  refine ⟨told_nil l, ?_⟩
  unfold ordA
  rw [(chk_of hf).1, if_pos rfl]
  rfl
theorem Od.all {l : List Iv} {T : List Nat} (h : Od l l.length T) (ha : allT l T = true) : ordA l = (T, true) := by
  rw [← h.go]
  have := told_len h.told
  exact ordGo_all (by omega) ha
theorem Od.none {l : List Iv} {T : List Nat} (h : Od l l.length T) (ha : allT l T = false) (hn : ∀ t, t < l.length → cand l T t = false) : ordA l = ([], false) := by
  rw [← h.go]
  have := told_len h.told
  exact ordGo_none (by omega) ha hn
theorem Od.next {l : List Iv} {T : List Nat} (h : Od l l.length T) (ha : allT l T = false) {k : Nat} (hk : k < l.length) (hn : ∀ t, t < k → cand l T t = false) (hc : cand l T k = true) : Od l l.length (T ++ [k]) := by
  refine ⟨told_add h.told hk hc, ?_⟩
  rw [← h.go]
  have := told_len h.told
  have e : l.length + 1 - T.length = (l.length - T.length) + 1 := by omega
  rw [e, ordGo_next ha hk hn hc, List.length_append, List.length_singleton]
  congr 1
  omega
end Flw
end Go.Proofs.YtcmbkoghhhhmcaaDoor
