/- A frame behind a region, out of the frame ahead of it. -/
import Derived.Test.YtcmbkoghhhhmcaaDoorRightsPosts
namespace Go.Posts
theorem foldl_set_size (f : Tmp → Value) : ∀ (ds : List Tmp) (T : Array Value), (ds.foldl (fun T d => T.setIfInBounds d (f d)) T).size = T.size
  | [], _ => rfl
  | d :: ds, T => by rw [List.foldl_cons, foldl_set_size f ds]; simp
theorem foldl_set_get (f : Tmp → Value) : ∀ (ds : List Tmp) (T : Array Value) (i : Nat), i < T.size → (ds.foldl (fun T d => T.setIfInBounds d (f d)) T)[i]?.getD undef = if i ∈ ds then f i else T[i]?.getD undef
  | [], T, i, _ => by simp
  | d :: ds, T, i, hi => by
    rw [List.foldl_cons, foldl_set_get f ds _ i (by simpa using hi)]
    by_cases h1 : i ∈ ds
    · simp [h1]
    · by_cases h2 : d = i
      · subst h2; simp [h1, hi]
      · have h3 : ¬ i = d := fun e => h2 e.symm
        simp [h1, h3, Array.getElem?_setIfInBounds_ne h2]
theorem Same.frame {ops : Array Oper} {a0 a : Act} (h : Same ops a0 a) (ds : List Tmp) (hd : ∀ t, isDst ops t = true → t ∈ ds) : a.tmps = ds.foldl (fun T d => T.setIfInBounds d (a.tmps.getD d undef)) a0.tmps := by
  have key : ∀ i, i < a.tmps.size → a.tmps[i]?.getD undef = (ds.foldl (fun T d => T.setIfInBounds d (a.tmps.getD d undef)) a0.tmps)[i]?.getD undef := fun i hi => by
    rw [foldl_set_get (fun d => a.tmps.getD d undef) ds a0.tmps i (by rw [← h.size]; exact hi)]
    by_cases hm : i ∈ ds
    · rw [if_pos hm]; simp
    · rw [if_neg hm]
      have := h.other i (by
        cases e : isDst ops i with
        | false => rfl
        | true => exact absurd (hd i e) hm)
      simpa using this
  have hs : (ds.foldl (fun T d => T.setIfInBounds d (a.tmps.getD d undef)) a0.tmps).size = a0.tmps.size := foldl_set_size (fun d => a.tmps.getD d undef) ds a0.tmps
  refine Array.ext (by rw [hs, h.size]) fun i h1 h2 => ?_
  have := key i h1
  rwa [Array.getElem?_eq_getElem h1, Array.getElem?_eq_getElem h2] at this
end Go.Posts
