/- Of a byte less there is too few: two readers side by side. -/
import Derived.Test.YtimhppgepiikbaaWireM5
namespace Go.Proofs.Ytimhppgepiikbaa
open Go.ChangeShapes Go.WideShapes Go.ChangeAt Go.RowKit
namespace Wire
set_option linter.unusedVariables false
/-- a reader of all bytes, and one of fewer, which is as far, or has too few -/
def Rel (D : List Int) (M : Nat) (s s' : RS) : Prop := s.d = D ∧ s.e = 0 ∧ (s'.e = 40 ∨ (s'.d = D.take M ∧ s'.p = s.p ∧ s'.e = 0))
theorem num_err40 {s : RS} (h : s.e = 40) (m : Nat) : s.num m = (0, s) := by unfold RS.num; rw [if_neg (by omega)]
theorem num_rel {D : List Int} {M : Nat} {s s' : RS} (h : Rel D M s s') (m : Nat) (he : (s.num m).2.e = 0) : Rel D M (s.num m).2 (s'.num m).2 ∧ ((s'.num m).2.e = 0 → (s'.num m).1 = (s.num m).1) := by
  obtain ⟨d, p, e⟩ := s
  obtain ⟨h1, h2, h3⟩ := h
  simp only at h1 h2
  subst h1; subst h2
  have hfit : ¬ d.length < p + m := by
    intro hh
    simp only [RS.num, if_true] at he
    rw [if_pos hh] at he
    simp at he
  have e1 : RS.num ⟨d, p, 0⟩ m = (un ((d.drop p).take m), ⟨d, p + m, 0⟩) := by simp only [RS.num, if_true]; rw [if_neg hfit]
  rw [e1]
  rcases h3 with h3 | ⟨h3, h4, h5⟩
  · rw [num_err40 h3]
    exact ⟨⟨rfl, rfl, Or.inl h3⟩, fun h => by simp only at h; omega⟩
  · obtain ⟨d', p', e'⟩ := s'
    simp only at h3 h4 h5
    subst h3; subst h4; subst h5
    by_cases hs : (d.take M).length < p' + m
    · have e2 : RS.num ⟨d.take M, p', 0⟩ m = (0, ⟨d.take M, p', 40⟩) := by simp only [RS.num, if_true]; rw [if_pos hs]
      rw [e2]
      exact ⟨⟨rfl, rfl, Or.inl rfl⟩, fun h => by simp only at h; omega⟩
    · have e2 : RS.num ⟨d.take M, p', 0⟩ m = (un (((d.take M).drop p').take m), ⟨d.take M, p' + m, 0⟩) := by simp only [RS.num, if_true]; rw [if_neg hs]
      rw [e2]
      refine ⟨⟨rfl, rfl, Or.inr ⟨rfl, rfl, rfl⟩⟩, fun _ => ?_⟩
      simp only
      congr 1
      rw [List.length_take] at hs
      rw [List.drop_take, List.take_take, Nat.min_eq_left (by omega)]
theorem count_err40 {s : RS} (h : s.e = 40) (most : Int) (hm : 0 ≤ most) (m : Nat) : s.count most m = (0, s) := by
  unfold RS.count; rw [num_err40 h]; rw [if_neg (by simp only; omega), if_neg (by simp only; omega)]
theorem count_ok {s : RS} {most : Int} {m : Nat} (h : (s.count most m).2.e = 0) : (s.num m).2.e = 0 ∧ ¬ most < (s.num m).1 ∧ s.count most m = s.num m := by
  by_cases h1 : most < (s.num m).1
  · have e : s.count most m = (0, (s.num m).2.fail 42) := by unfold RS.count; rw [if_pos h1]
    rw [e] at h
    exact absurd h (fail_bad _ 42 (by decide))
  · by_cases h2 : (s.num m).2.e = 0
    · exact ⟨h2, h1, by unfold RS.count; rw [if_neg h1, if_pos h2]⟩
    · have e : s.count most m = (0, (s.num m).2) := by unfold RS.count; rw [if_neg h1, if_neg h2]
      rw [e] at h
      exact absurd h h2
theorem num_e40 {s : RS} {m : Nat} (h : (s.num m).2.e = 40) : (s.num m).1 = 0 := by
  revert h
  unfold RS.num
  split
  · split
    · intro _; rfl
    · intro h; simp at h
  · intro _; rfl
theorem count_rel {D : List Int} {M : Nat} {s s' : RS} (h : Rel D M s s') (most : Int) (hm : 0 ≤ most) (m : Nat) (he : (s.count most m).2.e = 0) : Rel D M (s.count most m).2 (s'.count most m).2 ∧ ((s'.count most m).2.e = 0 → (s'.count most m).1 = (s.count most m).1) ∧ ((s'.count most m).2.e = 40 → (s'.count most m).1 = 0) := by
  obtain ⟨h1, h2, h3⟩ := count_ok he
  obtain ⟨r1, r2⟩ := num_rel h m h1
  rw [h3]
  rcases r1.2.2 with hr | ⟨_, _, hr⟩
  · have e : s'.count most m = (0, (s'.num m).2) := by unfold RS.count; rw [num_e40 hr, if_neg (by omega), if_neg (by omega)]
    rw [e]
    exact ⟨r1, fun h => by simp only at h; omega, fun _ => rfl⟩
  · have e : s'.count most m = s'.num m := by unfold RS.count; rw [r2 hr, if_neg h2, if_pos hr]
    rw [e]
    exact ⟨r1, r2, fun h => by omega⟩
theorem bytes_err40 {s : RS} (h : s.e = 40) (most : Int) (hm : 0 ≤ most) : (s.bytes most).2 = s := by
  unfold RS.bytes; rw [count_err40 h most hm]; rw [if_neg (by simp only; omega)]
theorem bytes_rel {D : List Int} {M : Nat} {s s' : RS} (h : Rel D M s s') (most : Int) (hm : 0 ≤ most) (he : (s.bytes most).2.e = 0) : Rel D M (s.bytes most).2 (s'.bytes most).2 := by
  have hc : (s.count most 4).2.e = 0 := by
    apply Classical.byContradiction
    intro hh
    unfold RS.bytes at he
    rw [if_neg hh] at he
    exact hh he
  obtain ⟨r1, r2, r3⟩ := count_rel h most hm 4 hc
  have hfit : ¬ ((s.count most 4).2.d.length : Int) < (s.count most 4).2.p + (s.count most 4).1 := by
    intro hh
    unfold RS.bytes at he
    rw [if_pos hc, if_pos hh] at he
    simp at he
  have e1 : (s.bytes most).2 = ⟨(s.count most 4).2.d, (s.count most 4).2.p + (s.count most 4).1.toNat, 0⟩ := by unfold RS.bytes; rw [if_pos hc, if_neg hfit]
  rw [e1]
  obtain ⟨q1, q2, q3⟩ := r1
  rcases q3 with q3 | ⟨q3, q4, q5⟩
  · have e2 : (s'.bytes most).2 = (s'.count most 4).2 := by unfold RS.bytes; rw [if_neg (by omega)]
    rw [e2]
    exact ⟨q1, rfl, Or.inl q3⟩
  · by_cases hs : ((s'.count most 4).2.d.length : Int) < (s'.count most 4).2.p + (s'.count most 4).1
    · have e2 : (s'.bytes most).2 = ⟨s'.d, s'.p, 40⟩ := by unfold RS.bytes; rw [if_pos q5, if_pos hs]
      rw [e2]
      exact ⟨q1, rfl, Or.inl rfl⟩
    · have e2 : (s'.bytes most).2 = ⟨(s'.count most 4).2.d, (s'.count most 4).2.p + (s'.count most 4).1.toNat, 0⟩ := by unfold RS.bytes; rw [if_pos q5, if_neg hs]
      rw [e2]
      exact ⟨q1, rfl, Or.inr ⟨q3, by simp only; rw [q4, r2 q5], rfl⟩⟩
theorem flat_err40 {s : RS} (h : s.e = 40) (k most : Int) (hm : 0 ≤ most) : (rdFlat k most s).s = s := by
  unfold rdFlat
  simp only [num_err40 h]
  repeat (first | (split; rotate_left) | rfl)
  all_goals first | rfl | exact bytes_err40 h most hm
theorem flat_rel {D : List Int} {M : Nat} {s s' : RS} (h : Rel D M s s') (k most : Int) (hm : 0 ≤ most) (he : (rdFlat k most s).s.e = 0) : Rel D M (rdFlat k most s).s (rdFlat k most s').s := by
  by_cases h1 : k = 1
  · subst h1; exact (num_rel h 1 he).1
  by_cases h2 : k = 2
  · subst h2; exact (num_rel h 2 he).1
  by_cases h4 : k = 4
  · subst h4; exact (num_rel h 4 he).1
  by_cases h8 : k = 8
  · subst h8; exact (num_rel h 8 he).1
  by_cases h5 : k = 5
  · subst h5; exact (num_rel h 4 he).1
  by_cases h6 : k = 6
  · subst h6; exact bytes_rel h most hm he
  have e : ∀ t, (rdFlat k most t).s = t := fun t => by unfold rdFlat; rw [if_neg h1, if_neg h2, if_neg h4, if_neg h8, if_neg h5, if_neg h6]
  rw [e, e]
  exact h
theorem many_err40 (k most : Int) (hm : 0 ≤ most) : ∀ (n : Nat) {s : RS}, s.e = 40 → (rdMany k most n s).2 = s
  | 0, s, h => rfl
  | n + 1, s, h => by
    simp only [rdMany]
    rw [flat_err40 h k most hm, if_neg (by omega)]
theorem many_rel {D : List Int} {M : Nat} (k most : Int) (hm : 0 ≤ most) : ∀ (n : Nat) {s s' : RS}, Rel D M s s' → (rdMany k most n s).2.e = 0 → Rel D M (rdMany k most n s).2 (rdMany k most n s').2
  | 0, s, s', h, he => h
  | n + 1, s, s', h, he => by
    have h0 : (rdFlat k most s).s.e = 0 := by
      apply Classical.byContradiction
      intro hh
      simp only [rdMany] at he
      rw [if_neg hh] at he
      exact hh he
    have hr := flat_rel h k most hm h0
    have e1 : (rdMany k most (n + 1) s).2 = (rdMany k most n (rdFlat k most s).s).2 := by simp only [rdMany]; rw [if_pos h0]
    rw [e1] at he ⊢
    have h2 := many_rel k most hm n hr he
    rcases hr.2.2 with q | ⟨_, _, q⟩
    · have e2 : (rdMany k most (n + 1) s').2 = (rdFlat k most s').s := by simp only [rdMany]; rw [if_neg (by omega)]
      rw [e2]
      exact ⟨h2.1, h2.2.1, Or.inl q⟩
    · have e2 : (rdMany k most (n + 1) s').2 = (rdMany k most n (rdFlat k most s').s).2 := by simp only [rdMany]; rw [if_pos q]
      rw [e2]
      exact h2
theorem list_err40 {s : RS} (h : s.e = 40) (ek en most : Int) (hm : 0 ≤ most) : (rdList ek en most s).2 = s := by
  unfold rdList; rw [count_err40 h most hm]; rfl
theorem list_rel {D : List Int} {M : Nat} {s s' : RS} (h : Rel D M s s') (ek en most : Int) (hm : 0 ≤ most) (hn : 0 ≤ en) (he : (rdList ek en most s).2.e = 0) : Rel D M (rdList ek en most s).2 (rdList ek en most s').2 := by
  unfold rdList at he ⊢
  have hc : (s.count most 2).2.e = 0 := by
    apply Classical.byContradiction
    intro hh
    rw [RS.count_none s most 2 hh] at he
    exact hh he
  obtain ⟨r1, r2, r3⟩ := count_rel h most hm 2 hc
  have h2 := many_rel ek en hn (s.count most 2).1.toNat r1 he
  rcases r1.2.2 with q | ⟨_, _, q⟩
  · rw [r3 q]
    exact ⟨h2.1, h2.2.1, Or.inl q⟩
  · rw [r2 q]
    exact h2
theorem vs_rel {D : List Int} {M : Nat} {s s' : RS} (h : Rel D M s s') (k : Int) (sub : F) (he : (rdVs k sub s).e = 0) : Rel D M (rdVs k sub s) (rdVs k sub s') := by
  unfold rdVs at he ⊢
  by_cases h7 : k = 7
  · rw [if_pos h7] at he
    rw [if_pos h7, if_pos h7]
    exact list_rel h _ _ _ (by omega) (by cases sub <;> simp [kindE]) he
  · rw [if_neg h7] at he
    rw [if_neg h7, if_neg h7]
    exact flat_rel h _ _ (by omega) he
/-- the state that all values' reading leaves -/
def rdS : F → RS → RS
  | .nil, s => s
  | .cons k _ _ _ sub next, s => rdS next (rdVs k sub s)
theorem rdS_short : ∀ (f : F) (D R : List Int) (M p : Nat) (s' : RS), Plain f → Nums f → Good f → Small f → D.drop p = enc f ++ R → Rel D M ⟨D, p, 0⟩ s' → Rel D M ⟨D, p + (enc f).length, 0⟩ (rdS f s')
  | .nil, D, R, M, p, s', _, _, _, _, _, h => h
  | .cons k n i b sub next, D, R, M, p, s', hp, hn, hg, hs, hd, h => by
    have hd' : D.drop p = encV k n i b sub ++ (enc next ++ R) := by rw [hd]; simp [enc, encV]
    have e := vs_back hp.1 ⟨hn.1, hn.2.1⟩ hg.1 hg.2.2 hs.1 hs.2.1 hd'
    have hr := vs_rel h k sub (by rw [e])
    rw [e] at hr
    have h2 := rdS_short next D R M _ _ hp.2 hn.2.2 hg.2.1 hs.2.2 (drop_more hd') hr
    show Rel D M _ (rdS next (rdVs k sub s'))
    have e3 : p + (enc (.cons k n i b sub next)).length = p + (encV k n i b sub).length + (enc next).length := by simp [enc, encV, Nat.add_assoc]
    rw [e3]
    exact h2
end Wire
end Go.Proofs.Ytimhppgepiikbaa
