/- Posts.lean with a tail: the region's last operations come up in one order alone, behind all others; beside what each operation leaves, one thing J that holds throughout. No program. -/
import Derived.Test.YtodbfkifendniaaDoorPosts
namespace Go.Posts
open Go.RowKit
def depsOf (ops : Array Oper) (i : Nat) : List Nat := match ops[i]? with | some o => (o.after.toList.filter fun e => Region.binds .any e).map (·.on) | none => []
def clo (ops : Array Oper) : Nat → List Nat → List Nat
  | 0, S => S
  | f + 1, S => clo ops f (S ++ S.flatMap (depsOf ops))
def tailB (ops : Array Oper) (n f : Nat) : Bool := (List.range' n (ops.size - n)).all fun j => (List.range n).all fun i => (clo ops f (depsOf ops j)).contains i
def downB' (ops : Array Oper) (n : Nat) : Bool := (List.range n).all fun i => (depsOf ops i).all fun j => decide (j < i)
/-- the first n have come up -/
def firsts (N n : Nat) : Array Bool := (List.replicate n true ++ List.replicate (N - n) false).toArray
section
variable {P : Program} {ops : Array Oper} {Q : Exit → Act → World → Prop} {Post : Nat → Value → World → Prop} {J : Act → World → Prop} {a0 : Act} {w0 : World} {n f : Nat}

theorem mem_depsOf {i : Nat} {o : Oper} (ho : ops[i]? = some o) {e : Edge} (he : e ∈ o.after) (hb : Region.binds .any e = true) : e.on ∈ depsOf ops i := by
  unfold depsOf
  rw [ho]
  simp only [List.mem_map, List.mem_filter, Array.mem_toList_iff]
  exact ⟨e, ⟨he, hb⟩, rfl⟩
theorem clo_listed {listed : Array Bool} (hc : ∀ i, listed.getD i false = true → ∀ j ∈ depsOf ops i, listed.getD j false = true) : ∀ (f : Nat) (S : List Nat), (∀ i ∈ S, listed.getD i false = true) → ∀ i ∈ clo ops f S, listed.getD i false = true
  | 0, _, h, i, hi => h i hi
  | f + 1, S, h, i, hi => clo_listed hc f _ (fun j hj => by
      rcases List.mem_append.1 hj with hj | hj
      · exact h j hj
      · obtain ⟨k, hk, hj⟩ := List.mem_flatMap.1 hj
        exact hc k (h k hk) j hj) i hi

/-- what an operation is to be shown -/
def StepJ (P : Program) (ops : Array Oper) (Q : Exit → Act → World → Prop) (Post : Nat → Value → World → Prop) (J : Act → World → Prop) (a0 : Act) (w0 : World) (i : Nat) (o : Oper) : Prop :=
  ∀ a X, Ext w0 X → Same ops a0 a → Deps ops Post o a X → J a X → wpOp P ops Q i (fun a' Y => ((∃ v, a' = a.put o.dst v) ∧ Post i (val o a') Y ∧ Ext X Y) ∧ J a' Y) a X

theorem wpAny_tail (hn : n ≤ ops.size) (hap : apartB ops = true) (hdn : downB' ops n = true) (htl : tailB ops n f = true) (hst : ∀ i v X Y, Post i v X → Ext X Y → Post i v Y)
    (hstep : ∀ i o, i < n → ops[i]? = some o → StepJ P ops Q Post J a0 w0 i o)
    (hfin : ∀ a Y, Ext w0 Y → Same ops a0 a → J a Y → (∀ i o, i < n → ops[i]? = some o → Post i (val o a) Y) → wpAny P .any ops Q (ops.size - n) (firsts ops.size n) a Y) :
    ∀ (fuel : Nat) (listed : Array Bool) (a : Act) (X : World), listed.size = ops.size → listed.toList.count false = fuel → (∀ j, n ≤ j → listed.getD j false = false) →
      (∀ i, listed.getD i false = true → ∀ j ∈ depsOf ops i, listed.getD j false = true) → Ext w0 X → Same ops a0 a → J a X →
      (∀ i o, ops[i]? = some o → listed.getD i false = true → Post i (val o a) X) → wpAny P .any ops Q fuel listed a X := by
  intro fuel
  induction fuel with
  | zero =>
    intro listed a X hsz hc hno hcl hX hs hJ hp
    -- none is left: then n is all
    have hall : ∀ i, i < ops.size → listed.getD i false = true := by
      intro i hi
      have hli : i < listed.size := by omega
      rw [List.count_eq_zero] at hc
      have hm : listed[i] ∈ listed.toList := by simp
      cases hb : listed[i] with
      | true => simp [hli, hb]
      | false => exact absurd (hb ▸ hm) hc
    have hN : n = ops.size := by
      rcases Nat.lt_or_ge n ops.size with h | h
      · have h1 := hno n (Nat.le_refl _)
        rw [hall n h] at h1
        cases h1
      · omega
    have h0 := hfin a X hX hs hJ (fun i o hi ho => hp i o ho (hall i (by omega)))
    rw [show ops.size - n = 0 from by omega] at h0
    have he : firsts ops.size n = listed := by
      apply Array.ext
      · simp [firsts]; omega
      · intro i h1 h2
        have h3 := hall i (by omega)
        simp [h2] at h3
        rw [h3]
        simp [firsts, show i < n from by omega]
    rw [he] at h0
    exact h0
  | succ fuel ih =>
    intro listed a X hsz hc hno hcl hX hs hJ hp
    by_cases hfull : ∀ i, i < n → listed.getD i false = true
    · have he : firsts ops.size n = listed := by
        apply Array.ext
        · simp [firsts]; omega
        · intro i h1 h2
          by_cases hi : i < n
          · have h3 := hfull i hi
            simp [h2] at h3
            rw [h3]
            simp [firsts, hi]
          · have h3 := hno i (by omega)
            simp [h2] at h3
            rw [h3]
            simp [firsts, List.getElem_append, hi]
      have hcn : ops.size - n = fuel + 1 := by
        rw [← hc, ← he]
        simp [firsts, List.count_replicate]
      have h0 := hfin a X hX hs hJ (fun i o hi ho => hp i o ho (hfull i hi))
      rw [he, hcn] at h0
      exact h0
    · have hlow : ∀ i ∈ Region.ready .any ops listed, i < n := by
        intro j hj
        rcases Nat.lt_or_ge j n with h | h
        · exact h
        · exfalso
          apply hfull
          obtain ⟨_, o, ho, hd⟩ := mem_ready.1 hj
          have hjs := (Array.getElem?_eq_some_iff.1 ho).1
          unfold tailB at htl
          rw [List.all_eq_true] at htl
          have h1 := htl j (by rw [List.mem_range'_1]; omega)
          rw [List.all_eq_true] at h1
          intro i hi
          have h2 := h1 i (List.mem_range.2 hi)
          rw [List.contains_iff_mem] at h2
          refine clo_listed hcl f _ (fun k hk => ?_) i h2
          unfold depsOf at hk
          rw [ho] at hk
          simp only [List.mem_map, List.mem_filter, Array.mem_toList_iff] at hk
          obtain ⟨e, ⟨he, hb⟩, rfl⟩ := hk
          exact hd e he hb
      refine ⟨fun hr => ?_, fun i hi => ?_⟩
      · exfalso
        apply hfull
        intro i
        induction i using Nat.strongRecOn with
        | ind i ihi =>
          intro hi
          cases hg : listed.getD i false with
          | true => rfl
          | false =>
            exfalso
            have hio : i < ops.size := by omega
            have hmem : i ∈ Region.ready .any ops listed := by
              rw [mem_ready]
              refine ⟨?_, ops[i], Array.getElem?_eq_getElem hio, fun e he hb => ?_⟩
              · have hli : i < listed.size := by omega
                simp [hli] at hg ⊢
                exact hg
              · have hm := mem_depsOf (Array.getElem?_eq_getElem hio) he hb
                unfold downB' at hdn
                rw [List.all_eq_true] at hdn
                have h1 := hdn i (List.mem_range.2 hi)
                rw [List.all_eq_true] at h1
                have h2 := h1 _ hm
                simp only [decide_eq_true_eq] at h2
                exact ihi e.on h2 (by omega)
            rw [hr] at hmem
            cases hmem
      · have hin := hlow i hi
        obtain ⟨h0, o, ho, hdeps⟩ := mem_ready.1 hi
        have hlo := (Array.getElem?_eq_some_iff.1 ho).1
        have hli : i < listed.size := by omega
        have hfalse : listed[i] = false := by simpa [hli] using h0
        refine wpOp_mono ?_ (hstep i o hin ho a X hX hs ?_ hJ)
        · rintro a' Y ⟨⟨⟨v, rfl⟩, hPi, hXY⟩, hJ'⟩
          refine ih _ _ _ (by simpa using hsz) ?_ ?_ ?_ (hX.trans hXY) (same_put ho hs) hJ' ?_
          · have : (listed.setIfInBounds i true).toList.count false = listed.toList.count false - 1 := by
              rw [Array.toList_setIfInBounds, List.count_set (by simpa using hli)]
              simp [hfalse]
            omega
          · intro j hj
            rw [getD_set_ne false (by omega)]
            exact hno j hj
          · intro j hj k hk
            by_cases hij : i = j
            · subst hij
              unfold depsOf at hk
              rw [ho] at hk
              simp only [List.mem_map, List.mem_filter, Array.mem_toList_iff] at hk
              obtain ⟨e, ⟨he, hb⟩, rfl⟩ := hk
              exact getD_set_true (hdeps e he hb)
            · rw [getD_set_ne false hij] at hj
              exact getD_set_true (hcl j hj k hk)
          · intro j p hj hl
            by_cases hij : i = j
            · subst hij
              rw [ho] at hj
              cases hj
              exact hPi
            · rw [getD_set_ne false hij] at hl
              have h1 := hst j _ X Y (hp j p hj hl) hXY
              rw [val_put (fun d hd => apart_spec hap hj ho (Ne.symm hij) d hd)]
              exact h1
        · refine depsL_of _ fun e he hb => ?_
          cases hq : ops[e.on]? with
          | none => trivial
          | some p => exact hp e.on p hq (hdeps e (by simpa using he) hb)

def StepsJ (P : Program) (ops : Array Oper) (Q : Exit → Act → World → Prop) (Post : Nat → Value → World → Prop) (J : Act → World → Prop) (a0 : Act) (w0 : World) : Nat → List Oper → Prop
  | _, [] => True
  | k, o :: rest => StepJ P ops Q Post J a0 w0 k o ∧ StepsJ P ops Q Post J a0 w0 (k + 1) rest
theorem stepsJ_at : ∀ (l : List Oper) (k : Nat), StepsJ P ops Q Post J a0 w0 k l → ∀ j o, l[j]? = some o → StepJ P ops Q Post J a0 w0 (k + j) o
  | [], _, _, j, o, h => by simp at h
  | x :: l, k, hs, 0, o, h => by
    simp at h; subst h; exact hs.1
  | x :: l, k, hs, j + 1, o, h => by
    have := stepsJ_at l (k + 1) hs.2 j o (by simpa using h)
    rwa [show k + 1 + j = k + (j + 1) from by omega] at this
/-- THE LAW, for a region that is written out, with a tail from number n on. -/
theorem wp_region_tail {id : Nat} (n f : Nat) (Post : Nat → Value → World → Prop) (J : Act → World → Prop) (hm : P.follows .mixedOrders = true) (hn : n ≤ ops.size) (hap : apartB ops = true) (hdn : downB' ops n = true) (htl : tailB ops n f = true) (hst : ∀ i v X Y, Post i v X → Ext X Y → Post i v Y)
    (hJ : J a0 w0.drew) (hstep : StepsJ P ops Q Post J a0 w0 0 (ops.toList.take n))
    (hfin : ∀ a Y, Ext w0 Y → Same ops a0 a → J a Y → Left Post a Y 0 (ops.toList.take n) → wpAny P .any ops Q (ops.size - n) (firsts ops.size n) a Y) :
    (Code.region id ops true).wp P Q a0 w0 := by
  refine wp_region_any hm ?_
  refine wpAny_tail hn hap hdn htl hst (fun i o hi ho => ?_) (fun a Y hY hs hJ hall => ?_) ops.size _ a0 _ (by simp) (by simp) ?_ ?_ (Ext.drew w0) ⟨rfl, rfl, fun _ _ => rfl⟩ hJ ?_
  · have := stepsJ_at _ 0 hstep i o (by rw [List.getElem?_take_of_lt hi]; simpa using ho)
    rwa [Nat.zero_add] at this
  · refine hfin a Y hY hs hJ (left_of _ _ fun j o hj => ?_)
    rw [Nat.zero_add]
    have hjn : j < n := by
      have := (List.getElem?_eq_some_iff.1 hj).1
      simp at this
      omega
    rw [List.getElem?_take_of_lt hjn] at hj
    exact hall j o hjn (by simpa using hj)
  · intro j _
    by_cases h : j < ops.size
    · simp [h]
    · simp [h]
  · intro i hi
    by_cases h : i < ops.size
    · simp [h] at hi
    · simp [h] at hi
  · intro i o ho hl
    exfalso
    have hlo := (Array.getElem?_eq_some_iff.1 ho).1
    simp [hlo] at hl
/-- with J kept -/
theorem with_J {i : Nat} {o : Oper} {a : Act} {X : World} (h : wpOp P ops Q i (fun a' Y => (∃ v, a' = a.put o.dst v) ∧ Post i (val o a') Y ∧ Ext X Y) a X) (hJ : ∀ v Y, Ext X Y → J (a.put o.dst v) Y) :
    wpOp P ops Q i (fun a' Y => ((∃ v, a' = a.put o.dst v) ∧ Post i (val o a') Y ∧ Ext X Y) ∧ J a' Y) a X :=
  wpOp_mono (fun a' Y h => by
    obtain ⟨⟨v, rfl⟩, h2, h3⟩ := h
    exact ⟨⟨⟨v, rfl⟩, h2, h3⟩, hJ v Y h3⟩) h
end
end Go.Posts
