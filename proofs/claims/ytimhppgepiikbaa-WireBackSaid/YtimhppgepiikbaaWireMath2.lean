/- What the document writes of a value, step by step: no program. -/
import Derived.Test.YtimhppgepiikbaaWireMath
namespace Go.Proofs.Ytimhppgepiikbaa
namespace Wire
theorem rF_step {k n i : Int} {b : List Int} {sub next : F} {l M : List Int} (hb : ¬ bad k i sub) (hM : moreB k n i b sub = M) (ho : ¬ 524288 < l.length + M.length) (h7 : ¬ k = 7) : rF (.cons k n i b sub next) l = rF next (l ++ M) := by
  subst hM
  simp only [rF]
  rw [if_neg hb, if_neg ho, if_neg h7]
theorem rF_bad {k n i : Int} {b : List Int} {sub next : F} {l : List Int} (hb : bad k i sub) : rF (.cons k n i b sub next) l = ([], 2) := by
  simp only [rF]
  rw [if_pos hb]
theorem rF_over {k n i : Int} {b : List Int} {sub next : F} {l M : List Int} (hb : ¬ bad k i sub) (hM : moreB k n i b sub = M) (ho : 524288 < l.length + M.length) : rF (.cons k n i b sub next) l = ([], 3) := by
  subst hM
  simp only [rF]
  rw [if_neg hb, if_pos ho]
theorem rF_list {n i : Int} {b : List Int} {sub next : F} {l M : List Int} (hb : ¬ bad 7 i sub) (hM : moreB 7 n i b sub = M) (ho : ¬ 524288 < l.length + M.length) (he : (rF sub (l ++ M)).2 = 0) : rF (.cons 7 n i b sub next) l = rF next (rF sub (l ++ M)).1 := by
  subst hM
  simp only [rF]
  rw [if_neg hb, if_neg ho, if_pos trivial, if_pos he]
theorem rF_list_err {n i : Int} {b : List Int} {sub next : F} {l M : List Int} (hb : ¬ bad 7 i sub) (hM : moreB 7 n i b sub = M) (ho : ¬ 524288 < l.length + M.length) (he : ¬ (rF sub (l ++ M)).2 = 0) : rF (.cons 7 n i b sub next) l = ([], (rF sub (l ++ M)).2) := by
  subst hM
  simp only [rF]
  rw [if_neg hb, if_neg ho, if_pos trivial, if_neg he]
end Wire
end Go.Proofs.Ytimhppgepiikbaa
