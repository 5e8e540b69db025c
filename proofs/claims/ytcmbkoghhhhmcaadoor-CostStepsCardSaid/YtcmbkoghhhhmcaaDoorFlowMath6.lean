/- How many stand ahead of each instruction, and the order by a falling list of those that may be next. No program. -/
import Derived.Test.YtcmbkoghhhhmcaaDoorFlowMath5
import Derived.Test.YtcmbkoghhhhmcaaDoorFlowMath3
namespace Go.Proofs.YtcmbkoghhhhmcaaDoor
namespace Flw
open Isa
set_option linter.unusedVariables false
set_option linter.unusedSimpArgs false
theorem beh_nodup (l : List Iv) (n : Nat) : (behL l n).Nodup := by
  unfold behL behI
  generalize l.getD n iz = i
  split
  · simp
  · split
    · simp
    · split
      · split
        · simp
        · rename_i h
          simp
          intro e
          omega
      · simp
theorem prefix_new {pre : List Nat} {x : Nat} {L : List Nat} (h : pre ++ [x] <+: L) (hn : L.Nodup) : x ∉ pre := by
  have := (h.sublist.nodup hn)
  rw [List.nodup_append] at this
  intro hm
  exact this.2.2 x hm x (by simp) rfl
/-! ### Lists of numbers, given by a function -/
def fnL (m : Nat) (f : Nat → Int) : List Int := (List.range m).map f
theorem fnL_len (m : Nat) (f : Nat → Int) : (fnL m f).length = m := by simp [fnL]
theorem fnL_at {m x : Nat} (f : Nat → Int) (hx : x < m) : (fnL m f).getD x 0 = f x := by
  unfold fnL
  rw [List.getD_eq_getElem?_getD, List.getElem?_map, List.getElem?_range hx]
  rfl
theorem fnL_set {m x : Nat} (f : Nat → Int) (u : Int) : (fnL m f).set x u = fnL m fun y => if y = x then u else f y := by
  apply List.ext_getElem
  · simp [fnL]
  · intro i h1 h2
    rw [List.getElem_set]
    simp only [fnL, List.getElem_map, List.getElem_range]
    split
    · rename_i e; rw [if_pos e.symm]
    · rename_i e; rw [if_neg (fun q => e q.symm)]
theorem fnL_congr {m : Nat} {f g : Nat → Int} (h : ∀ x, x < m → f x = g x) : fnL m f = fnL m g := List.map_congr_left fun x hx => h x (by simpa using hx)
theorem fnL_zero (m : Nat) : fnL m (fun _ => 0) = List.replicate m 0 := by
  apply List.ext_getElem
  · simp [fnL]
  · intro i h1 h2
    simp [fnL]
/-! ### How many are ahead -/
def cn (l : List Iv) (Cm : List Bool) (t x : Nat) : Nat := (List.range t).countP fun p => Cm.getD p false && (behL l p).contains x
theorem cn_zero (l : List Iv) (Cm : List Bool) (x : Nat) : cn l Cm 0 x = 0 := rfl
theorem cn_succ (l : List Iv) (Cm : List Bool) (t x : Nat) : cn l Cm (t + 1) x = cn l Cm t x + (if (Cm.getD t false && (behL l t).contains x) = true then 1 else 0) := by
  unfold cn
  rw [List.range_succ, List.countP_append, List.countP_singleton]
theorem cn_le (l : List Iv) (Cm : List Bool) (t x : Nat) : cn l Cm t x ≤ t := by
  unfold cn
  have := List.countP_le_length (p := fun p => Cm.getD p false && (behL l p).contains x) (l := List.range t)
  rwa [List.length_range] at this
/-- while one goes over those behind t -/
def cm (l : List Iv) (Cm : List Bool) (t : Nat) (pre : List Nat) (x : Nat) : Int := (cn l Cm t x : Nat) + (if pre.contains x = true then 1 else 0)
theorem cm_nil (l : List Iv) (Cm : List Bool) (t : Nat) : cm l Cm t [] = fun x => ((cn l Cm t x : Nat) : Int) := by
  funext x
  simp [cm]
theorem cm_step {l : List Iv} {Cm : List Bool} {t : Nat} {pre : List Nat} {x : Nat} (hx : x ∉ pre) (m : Nat) : (fnL m (cm l Cm t pre)).set x (cm l Cm t pre x + 1) = fnL m (cm l Cm t (pre ++ [x])) := by
  rw [fnL_set]
  refine fnL_congr fun y _ => ?_
  unfold cm
  by_cases e : y = x
  · subst e
    have h1 : pre.contains y = false := by simpa using hx
    have h2 : (pre ++ [y]).contains y = true := by simp
    rw [if_pos rfl, h1, h2]
    simp
  · rw [if_neg e]
    have h2 : (pre ++ [x]).contains y = pre.contains y := by
      rw [Bool.eq_iff_iff]
      simp [e]
    rw [h2]
theorem cm_fin {l : List Iv} {Cm : List Bool} {t : Nat} (h : Cm.getD t false = true) : cm l Cm t (behL l t) = fun x => ((cn l Cm (t + 1) x : Nat) : Int) := by
  funext x
  rw [cn_succ, h]
  unfold cm
  cases (behL l t).contains x <;> simp
theorem cn_skip {l : List Iv} {Cm : List Bool} {t : Nat} (h : Cm.getD t false = false) (x : Nat) : cn l Cm (t + 1) x = cn l Cm t x := by
  rw [cn_succ, h]
  simp
/-! ### How many that are not told are ahead -/
noncomputable def wc (l : List Iv) (T : List Nat) (x : Nat) : Nat := (List.range l.length).countP fun p => comeB l p && !T.contains p && (behL l p).contains x
theorem wc_wait (l : List Iv) (T : List Nat) (x : Nat) : waitB l T x = decide (0 < wc l T x) := by
  unfold waitB wc
  rw [Bool.eq_iff_iff, List.any_eq_true, decide_eq_true_eq, List.countP_pos_iff]
theorem wc_le (l : List Iv) (T : List Nat) (x : Nat) : wc l T x ≤ l.length := by
  unfold wc
  have := List.countP_le_length (p := fun p => comeB l p && !T.contains p && (behL l p).contains x) (l := List.range l.length)
  rwa [List.length_range] at this
theorem wc_start {l : List Iv} (h : chkE l = 0) (x : Nat) : cn l (comeL l) l.length x = wc l [] x := by
  unfold cn wc
  apply List.countP_congr
  intro p hp
  have hp' : p < l.length := by simpa using hp
  have : (comeL l).getD p false = comeB l p := by
    unfold comeL
    rw [if_pos h]
    exact map_at _ hp'
  rw [this]
  simp
theorem countP_one (f g : Nat → Bool) (k : Nat) (h : ∀ p, p ≠ k → f p = g p) (hg : g k = false) : ∀ n, (List.range n).countP f = (List.range n).countP g + (if k < n ∧ f k = true then 1 else 0)
  | 0 => by simp
  | n + 1 => by
    rw [List.range_succ, List.countP_append, List.countP_append, List.countP_singleton, List.countP_singleton, countP_one f g k h hg n]
    by_cases e : n = k
    · subst e
      rw [if_neg (by omega : ¬ (n < n ∧ f n = true)), hg]
      cases f n <;> simp
    · rw [h n e]
      have : (k < n + 1 ∧ f k = true) ↔ (k < n ∧ f k = true) := ⟨fun q => ⟨by omega, q.2⟩, fun q => ⟨by omega, q.2⟩⟩
      simp only [this]
      omega
theorem wc_add {l : List Iv} {T : List Nat} {k : Nat} (hk : k < l.length) (hc : comeB l k = true) (hT : k ∉ T) (x : Nat) : wc l T x = wc l (T ++ [k]) x + (if (behL l k).contains x = true then 1 else 0) := by
  unfold wc
  have h1 : ∀ p, p ≠ k → (comeB l p && !T.contains p && (behL l p).contains x) = (comeB l p && !(T ++ [k]).contains p && (behL l p).contains x) := fun p hp => by
    have : (T ++ [k]).contains p = T.contains p := by
      rw [Bool.eq_iff_iff]
      simp [hp]
    rw [this]
  have h2 : (comeB l k && !(T ++ [k]).contains k && (behL l k).contains x) = false := by simp
  have e : (comeB l k && !T.contains k && (behL l k).contains x) = (behL l k).contains x := by
    have : T.contains k = false := by simpa using hT
    rw [hc, this]
    simp
  rw [countP_one (fun p => comeB l p && !T.contains p && (behL l p).contains x) (fun p => comeB l p && !(T ++ [k]).contains p && (behL l p).contains x) k h1 h2 l.length]
  simp only [e, hk, true_and]
/-- while one goes over those behind k -/
noncomputable def wm (l : List Iv) (T : List Nat) (pre : List Nat) (x : Nat) : Int := (wc l T x : Nat) - (if pre.contains x = true then 1 else 0)
theorem wm_nil (l : List Iv) (T : List Nat) : wm l T [] = fun x => ((wc l T x : Nat) : Int) := by
  funext x
  simp [wm]
theorem wm_here {l : List Iv} {T pre : List Nat} {x : Nat} (hx : x ∉ pre) : wm l T pre x = ((wc l T x : Nat) : Int) := by
  unfold wm
  have : pre.contains x = false := by simpa using hx
  rw [this]
  simp
theorem wm_step {l : List Iv} {T pre : List Nat} {x : Nat} (hx : x ∉ pre) (m : Nat) : (fnL m (wm l T pre)).set x (((wc l T x : Nat) : Int) - 1) = fnL m (wm l T (pre ++ [x])) := by
  rw [fnL_set]
  refine fnL_congr fun y _ => ?_
  unfold wm
  by_cases e : y = x
  · subst e
    have h2 : (pre ++ [y]).contains y = true := by simp
    rw [if_pos rfl, h2]
    simp
  · rw [if_neg e]
    have h2 : (pre ++ [x]).contains y = pre.contains y := by
      rw [Bool.eq_iff_iff]
      simp [e]
    rw [h2]
theorem wm_fin {l : List Iv} {T : List Nat} {k : Nat} (hk : k < l.length) (hc : comeB l k = true) (hT : k ∉ T) : wm l T (behL l k) = fun x => ((wc l (T ++ [k]) x : Nat) : Int) := by
  funext x
  unfold wm
  rw [wc_add hk hc hT x]
  cases (behL l k).contains x <;> simp
/-! ### Who may be next -/
/-- R: who may be next, the least one last -/
structure Rdy (l : List Iv) (T R : List Nat) : Prop where
  fal : R.Pairwise (fun a b => b < a)
  is : ∀ m, m ∈ R ↔ m < l.length ∧ cand l T m = true
theorem cand_iff {l : List Iv} {T : List Nat} {m : Nat} : cand l T m = true ↔ comeB l m = true ∧ m ∉ T ∧ wc l T m = 0 := by
  unfold cand
  rw [wc_wait]
  simp
  constructor
  · rintro ⟨⟨h1, h2⟩, h3⟩; exact ⟨h1, h2, by omega⟩
  · rintro ⟨h1, h2, h3⟩; exact ⟨⟨h1, h2⟩, by omega⟩
/-- at first -/
theorem Rdy.start {l : List Iv} (hf : Fine l) (hw : ∀ i ∈ l, i.wf) : Rdy l [] (if wc l [] 0 = 0 then [0] else []) := by
  have key : ∀ m, m < l.length ∧ cand l [] m = true ↔ m = 0 ∧ wc l [] 0 = 0 := fun m => by
    rw [cand_iff]
    constructor
    · rintro ⟨h1, h2, _, h3⟩
      have e : m = 0 := by
        by_cases q : m = 0
        · exact q
        · exfalso
          obtain ⟨p, hp, hb⟩ := come_back (comeB_iff.1 h2) q
          have hw0 : waitB l [] m = false := by rw [wc_wait, h3]; rfl
          have := waitB_false.1 hw0 p (come_lt hf hw hp) (comeB_iff.2 hp) hb
          simp at this
      subst e
      exact ⟨rfl, h3⟩
    · rintro ⟨rfl, h⟩
      exact ⟨hf.some, comeB_iff.2 .zero, by simp, h⟩
  split
  · rename_i h
    exact ⟨by simp, fun m => by rw [key]; simp [h]⟩
  · rename_i h
    exact ⟨by simp, fun m => by rw [key]; simp [h]⟩
/-- while one goes over those behind k, which has been told -/
structure Rdm (l : List Iv) (T rest : List Nat) (pre R : List Nat) : Prop where
  fal : R.Pairwise (fun a b => b < a)
  is : ∀ m, m ∈ R ↔ m ∈ rest ∨ (m ∈ pre ∧ wc l T m = 1)
theorem snoc_least {R : List Nat} {k : Nat} (h : (R ++ [k]).Pairwise (fun a b => b < a)) : ∀ m ∈ R, k < m := by
  rw [List.pairwise_append] at h
  exact fun m hm => h.2.2 m hm k (by simp)
theorem Rdy.pop {l : List Iv} {T rest : List Nat} {k : Nat} (h : Rdy l T (rest ++ [k])) : k < l.length ∧ cand l T k = true ∧ (∀ t, t < k → cand l T t = false) ∧ Rdm l T rest [] rest := by
  have hk := (h.is k).1 (by simp)
  have hl := snoc_least h.fal
  refine ⟨hk.1, hk.2, fun t ht => ?_, (List.pairwise_append.1 h.fal).1, fun m => by simp⟩
  cases e : cand l T t with
  | false => rfl
  | true =>
    have := (h.is t).2 ⟨by omega, e⟩
    rcases List.mem_append.1 this with q | q
    · have := hl t q; omega
    · simp at q; omega
/-- one behind k is not there yet -/
theorem Rdm.new {l : List Iv} {T rest pre R : List Nat} {k x : Nat} (h : Rdy l T (rest ++ [k])) (hm : Rdm l T rest pre R) (hk : k < l.length) (hc : cand l T k = true) (hx : x ∈ behL l k) (hp : x ∉ pre) : x ∉ R ∧ 1 ≤ wc l T x := by
  obtain ⟨c1, c2, c3⟩ := cand_iff.1 hc
  have hw : 1 ≤ wc l T x := by
    rw [wc_add hk c1 c2 x]
    have : (behL l k).contains x = true := by simpa using hx
    rw [this]
    simp
  refine ⟨fun q => ?_, hw⟩
  rcases (hm.is x).1 q with q | q
  · have := ((h.is x).1 (by simp [q])).2
    have := (cand_iff.1 this).2.2
    omega
  · exact hp q.1
theorem Rdm.stay {l : List Iv} {T rest pre R : List Nat} {x : Nat} (hm : Rdm l T rest pre R) (hw : wc l T x ≠ 1) : Rdm l T rest (pre ++ [x]) R :=
  ⟨hm.fal, fun m => by
    rw [hm.is m]
    constructor
    · rintro (q | q)
      · exact .inl q
      · exact .inr ⟨by simp [q.1], q.2⟩
    · rintro (q | q)
      · exact .inl q
      · refine .inr ⟨?_, q.2⟩
        rcases List.mem_append.1 q.1 with r | r
        · exact r
        · simp at r; rw [r] at q; exact absurd q.2 hw⟩
theorem Rdm.add {l : List Iv} {T rest pre R R' : List Nat} {x : Nat} (hm : Rdm l T rest pre R) (hw : wc l T x = 1) (hf : R'.Pairwise (fun a b => b < a)) (hR : ∀ m, m ∈ R' ↔ m = x ∨ m ∈ R) : Rdm l T rest (pre ++ [x]) R' :=
  ⟨hf, fun m => by
    rw [hR m, hm.is m]
    constructor
    · rintro (q | q | q)
      · subst q; exact .inr ⟨by simp, hw⟩
      · exact .inl q
      · exact .inr ⟨by simp [q.1], q.2⟩
    · rintro (q | q)
      · exact .inr (.inl q)
      · rcases List.mem_append.1 q.1 with r | r
        · exact .inr (.inr ⟨r, q.2⟩)
        · simp at r; exact .inl r⟩
theorem Rdm.fin {l : List Iv} (hf : Fine l) (hw : ∀ i ∈ l, i.wf) {T rest R : List Nat} {k : Nat} (h : Rdy l T (rest ++ [k])) (ht : Told l T) (hm : Rdm l T rest (behL l k) R) (hk : k < l.length) (hc : cand l T k = true) : Rdy l (T ++ [k]) R := by
  obtain ⟨c1, c2, c3⟩ := cand_iff.1 hc
  refine ⟨hm.fal, fun m => ?_⟩
  rw [hm.is m, cand_iff]
  have hadd := wc_add hk c1 c2 m
  constructor
  · rintro (q | ⟨q1, q2⟩)
    · obtain ⟨a1, a2⟩ := (h.is m).1 (by simp [q])
      obtain ⟨b1, b2, b3⟩ := cand_iff.1 a2
      have := snoc_least h.fal m q
      refine ⟨a1, b1, ?_, by omega⟩
      simp only [List.mem_append, List.mem_singleton, not_or]
      exact ⟨b2, by omega⟩
    · have hcm : comeB l m = true := comeB_iff.2 (.step (comeB_iff.1 c1) q1)
      have hin : (behL l k).contains m = true := by simpa using q1
      rw [hin, if_pos rfl] at hadd
      refine ⟨come_lt hf hw (comeB_iff.1 hcm), hcm, ?_, by omega⟩
      simp only [List.mem_append, List.mem_singleton, not_or]
      refine ⟨fun hmT => ?_, fun e => ?_⟩
      · obtain ⟨j, hj, e⟩ := List.getElem_of_mem hmT
        obtain ⟨i, _, hi⟩ := ht.pre j m (by rw [List.getElem?_eq_getElem hj, e]) k hk c1 q1
        exact c2 (List.mem_of_getElem? hi)
      · subst e; omega
  · rintro ⟨a1, b1, b2, b3⟩
    simp only [List.mem_append, List.mem_singleton, not_or] at b2
    by_cases q : m ∈ behL l k
    · have hin : (behL l k).contains m = true := by simpa using q
      rw [hin, if_pos rfl] at hadd
      exact .inr ⟨q, by omega⟩
    · have hin : (behL l k).contains m = false := by simpa using q
      rw [hin] at hadd
      simp at hadd
      have := (h.is m).2 ⟨a1, cand_iff.2 ⟨b1, b2.1, by omega⟩⟩
      rcases List.mem_append.1 this with r | r
      · exact .inl r
      · simp at r; exact absurd r b2.2
theorem Rdm.lt {l : List Iv} {T rest pre R : List Nat} {k : Nat} (h : Rdy l T (rest ++ [k])) (hm : Rdm l T rest pre R) (hp : ∀ x ∈ pre, x < l.length) : ∀ m ∈ R, m < l.length := fun m hq => by
  rcases (hm.is m).1 hq with q | q
  · exact ((h.is m).1 (by simp [q])).1
  · exact hp m q.1
theorem fal_nodup {R : List Nat} (h : R.Pairwise (fun a b => b < a)) : R.Nodup := h.imp fun q e => by omega
theorem fal_len {R : List Nat} {N : Nat} (h : R.Pairwise (fun a b => b < a)) (hb : ∀ m ∈ R, m < N) : R.length ≤ N := len_nodup N R (fal_nodup h) hb
/-- when nobody may be next -/
theorem Rdy.out {l : List Iv} {T : List Nat} (h : Rdy l T []) : ∀ t, t < l.length → cand l T t = false := fun t ht => by
  cases e : cand l T t with
  | false => rfl
  | true => have := (h.is t).2 ⟨ht, e⟩; simp at this
/-- all have been told just if nobody waits -/
theorem Rdy.all {l : List Iv} {T : List Nat} (h : Rdy l T []) (h0 : ∀ x, x < l.length → wc l T x = 0) : allT l T = true := by
  refine allT_true.2 fun p hp hc => ?_
  by_cases q : p ∈ T
  · exact q
  · have := (h.is p).2 ⟨hp, cand_iff.2 ⟨hc, q, h0 p hp⟩⟩
    simp at this
theorem wc_left {l : List Iv} {T : List Nat} {x : Nat} (h : 0 < wc l T x) : allT l T = false := by
  cases e : allT l T with
  | false => rfl
  | true =>
    unfold wc at h
    rw [List.countP_pos_iff] at h
    obtain ⟨p, hp, hq⟩ := h
    have hp' : p < l.length := by simpa using hp
    simp at hq
    exact absurd (allT_true.1 e p hp' hq.1.1) hq.1.2
end Flw
end Go.Proofs.YtcmbkoghhhhmcaaDoor
