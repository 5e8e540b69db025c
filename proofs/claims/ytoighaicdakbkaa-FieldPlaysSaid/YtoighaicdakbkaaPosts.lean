/- A region that draws its order, by what each operation leaves behind: one proof for each operation, whatever the order. The operations only read, make new blocks, or call what only makes new blocks. No program. -/
import Derived.Orders
import Derived.Below
import Derived.KernelRfl
import Derived.OneCell
namespace Go.Posts
open Go.RowKit
/-- all blocks that are there stay as they are -/
def Ext (X Y : World) : Prop := Below X.heap.size X Y
theorem Ext.refl (X : World) : Ext X X := Below.refl _ _
theorem Ext.trans {X Y Z : World} (h : Ext X Y) (k : Ext Y Z) : Ext X Z := Below.trans h (Below.mono k h.size)
theorem Ext.alloc (X : World) (o : Obj) : Ext X (X.alloc o) := (Below.refl _ _).alloc (Nat.le_refl _) _
theorem Ext.drew (X : World) : Ext X X.drew := (Below.refl _ _).drew
/-- what an operation has left in its slot -/
def val (o : Oper) (a : Act) : Value := match o.dst with | some d => a.tmps.getD d undef | none => undef
def apartB (ops : Array Oper) : Bool := (List.range ops.size).all fun i => (List.range ops.size).all fun j => i == j || (match ops[i]?, ops[j]? with | some x, some y => x.dst.isNone || x.dst != y.dst | _, _ => true)
def downB (ops : Array Oper) : Bool := (List.range ops.size).all fun i => match ops[i]? with | some o => o.after.all fun e => decide (e.on < i) | none => true
def isDst (ops : Array Oper) (t : Tmp) : Bool := ops.toList.any fun o => o.dst == some t
/-- the slots that the region does not write are as they were -/
structure Same (ops : Array Oper) (a0 a : Act) : Prop where
  defers : a.defers = a0.defers
  size : a.tmps.size = a0.tmps.size
  other : ∀ t, isDst ops t = false → a.tmps.getD t undef = a0.tmps.getD t undef
/-- what stands when an operation may come up -/
def DepsL (ops : Array Oper) (Post : Nat → Value → World → Prop) (a : Act) (X : World) : List Edge → Prop
  | [] => True
  | e :: r => (if Region.binds .any e = true then (match ops[e.on]? with | some p => Post e.on (val p a) X | none => True) else True) ∧ DepsL ops Post a X r
def Deps (ops : Array Oper) (Post : Nat → Value → World → Prop) (o : Oper) (a : Act) (X : World) : Prop := DepsL ops Post a X o.after.toList
theorem depsL_of {ops : Array Oper} {Post : Nat → Value → World → Prop} {a : Act} {X : World} : ∀ (l : List Edge), (∀ e ∈ l, Region.binds .any e = true → match ops[e.on]? with | some p => Post e.on (val p a) X | none => True) → DepsL ops Post a X l
  | [], _ => trivial
  | e :: r, h => ⟨by
      split
      · rename_i hb; exact h e (by simp) hb
      · trivial, depsL_of r fun e' he' => h e' (by simp [he'])⟩

section
variable {P : Program} {ops : Array Oper} {Q : Exit → Act → World → Prop} {Post : Nat → Value → World → Prop} {a0 : Act} {w0 : World}

theorem apart_spec (h : apartB ops = true) {i j : Nat} {x y : Oper} (hi : ops[i]? = some x) (hj : ops[j]? = some y) (hne : i ≠ j) (d : Tmp) (hx : x.dst = some d) : y.dst ≠ some d := by
  have li : i < ops.size := (Array.getElem?_eq_some_iff.1 hi).1
  have lj : j < ops.size := (Array.getElem?_eq_some_iff.1 hj).1
  unfold apartB at h
  rw [List.all_eq_true] at h
  have h1 := h i (List.mem_range.2 li)
  rw [List.all_eq_true] at h1
  have h2 := h1 j (List.mem_range.2 lj)
  rw [hi, hj] at h2
  simp only [hx, Bool.or_eq_true, beq_iff_eq, Option.isNone_some, Bool.false_eq_true, false_or, bne_iff_ne, ne_eq] at h2
  rcases h2 with h2 | h2
  · exact absurd h2 hne
  · exact fun h3 => h2 h3.symm
theorem val_put {o p : Oper} {a : Act} {v : Value} (h : ∀ d, p.dst = some d → o.dst ≠ some d) : val p (a.put o.dst v) = val p a := by
  unfold val
  cases hp : p.dst with
  | none => rfl
  | some d =>
    have := h d hp
    cases ho : o.dst with
    | none => rfl
    | some e =>
      have hne : e ≠ d := fun h' => this (by rw [ho, h'])
      simp [Act.put, Array.getElem?_setIfInBounds_ne hne]
theorem same_put {o : Oper} {i : Nat} {a : Act} {v : Value} (hi : ops[i]? = some o) (h : Same ops a0 a) : Same ops a0 (a.put o.dst v) := by
  refine ⟨by cases o.dst <;> exact h.defers, by cases o.dst <;> simp [Act.put, h.size], fun t ht => ?_⟩
  rw [← h.other t ht]
  cases ho : o.dst with
  | none => rfl
  | some e =>
    have hne : e ≠ t := by
      intro he
      subst he
      have : isDst ops e = true := by
        unfold isDst
        rw [List.any_eq_true]
        obtain ⟨hl, hv⟩ := Array.getElem?_eq_some_iff.1 hi
        exact ⟨o, by rw [← hv]; simp, by rw [ho]; simp⟩
      rw [this] at ht
      cases ht
    simp [Act.put, Array.getElem?_setIfInBounds_ne hne]

theorem wpAny_posts (hap : apartB ops = true) (hdn : downB ops = true) (hst : ∀ i v X Y, Post i v X → Ext X Y → Post i v Y)
    (hstep : ∀ i o, ops[i]? = some o → ∀ a X, Ext w0 X → Same ops a0 a → Deps ops Post o a X → wpOp P ops Q i (fun a' Y => (∃ v, a' = a.put o.dst v) ∧ Post i (val o a') Y ∧ Ext X Y) a X)
    (hfin : ∀ a Y, Ext w0 Y → Same ops a0 a → (∀ i o, ops[i]? = some o → Post i (val o a) Y) → Q .normal a Y) :
    ∀ (fuel : Nat) (listed : Array Bool) (a : Act) (X : World), listed.size = ops.size → listed.toList.count false ≤ fuel → Ext w0 X → Same ops a0 a →
      (∀ i o, ops[i]? = some o → listed.getD i false = true → Post i (val o a) X) → wpAny P .any ops Q fuel listed a X := by
  have key : ∀ (listed : Array Bool), listed.size = ops.size → Region.ready .any ops listed = [] → ∀ i, i < ops.size → listed.getD i false = true := by
    intro listed hsz hr i
    induction i using Nat.strongRecOn with
    | ind i ih =>
      intro hi
      cases hg : listed.getD i false with
      | true => rfl
      | false =>
        exfalso
        have hmem : i ∈ Region.ready .any ops listed := by
          rw [mem_ready]
          refine ⟨?_, ops[i], Array.getElem?_eq_getElem hi, fun e he _ => ?_⟩
          · have hli : i < listed.size := by omega
            simp [hli] at hg ⊢
            exact hg
          · have hlt : e.on < i := by
              unfold downB at hdn
              rw [List.all_eq_true] at hdn
              have h1 := hdn i (List.mem_range.2 hi)
              rw [Array.getElem?_eq_getElem hi] at h1
              simp only [Array.all_eq_true_iff_forall_mem, decide_eq_true_eq] at h1
              exact h1 e he
            exact ih e.on hlt (by omega)
        rw [hr] at hmem
        cases hmem
  intro fuel
  induction fuel with
  | zero =>
    intro listed a X hsz hc hX hs hp
    have hall : ∀ i, i < ops.size → listed.getD i false = true := by
      intro i hi
      have hli : i < listed.size := by omega
      have h0 : listed.toList.count false = 0 := by omega
      rw [List.count_eq_zero] at h0
      have hm : listed[i] ∈ listed.toList := by simp
      cases hb : listed[i] with
      | true => simp [hli, hb]
      | false => exact absurd (hb ▸ hm) h0
    have hr : Region.ready .any ops listed = [] := by
      apply List.eq_nil_iff_forall_not_mem.2
      intro i hi
      obtain ⟨h1, o, ho, _⟩ := mem_ready.1 hi
      have hlo := (Array.getElem?_eq_some_iff.1 ho).1
      have h2 := hall i hlo
      have hli : i < listed.size := by omega
      simp [hli] at h1 h2
      rw [h1] at h2
      cases h2
    exact ⟨hr, hfin a X hX hs fun i o ho => hp i o ho (hall i (Array.getElem?_eq_some_iff.1 ho).1)⟩
  | succ fuel ih =>
    intro listed a X hsz hc hX hs hp
    refine ⟨fun hr => hfin a X hX hs fun i o ho => hp i o ho (key listed hsz hr i (Array.getElem?_eq_some_iff.1 ho).1), fun i hi => ?_⟩
    obtain ⟨h0, o, ho, hdeps⟩ := mem_ready.1 hi
    have hlo := (Array.getElem?_eq_some_iff.1 ho).1
    have hli : i < listed.size := by omega
    have hfalse : listed[i] = false := by simpa [hli] using h0
    refine wpOp_mono ?_ (hstep i o ho a X hX hs ?_)
    · rintro a' Y ⟨⟨v, rfl⟩, hPi, hXY⟩
      refine ih _ _ _ (by simpa using hsz) ?_ (hX.trans hXY) (same_put ho hs) ?_
      · have hpos : 0 < listed.toList.count false := List.count_pos_iff.2 (by rw [← hfalse]; simp)
        have : (listed.setIfInBounds i true).toList.count false = listed.toList.count false - 1 := by
          rw [Array.toList_setIfInBounds, List.count_set (by simpa using hli)]
          simp [hfalse]
        omega
      · intro j p hj hl
        by_cases hij : i = j
        · subst hij
          rw [ho] at hj
          cases hj
          exact hPi
        · rw [getD_set_ne false hij] at hl
          have h1 := hst j _ X Y (hp j p hj hl) hXY
          rw [val_put (fun d hd => apart_spec hap hj ho (Ne.symm hij) d hd)]
          exact h1
    · refine depsL_of _ fun e he hb => ?_
      cases hq : ops[e.on]? with
      | none => trivial
      | some p => exact hp e.on p hq (hdeps e (by simpa using he) hb)

/-- THE LAW: a region that draws its order. -/
theorem wp_region_posts {id : Nat} (Post : Nat → Value → World → Prop) (hm : P.follows .mixedOrders = true) (hap : apartB ops = true) (hdn : downB ops = true) (hst : ∀ i v X Y, Post i v X → Ext X Y → Post i v Y)
    (hstep : ∀ i o, ops[i]? = some o → ∀ a X, Ext w0 X → Same ops a0 a → Deps ops Post o a X → wpOp P ops Q i (fun a' Y => (∃ v, a' = a.put o.dst v) ∧ Post i (val o a') Y ∧ Ext X Y) a X)
    (hfin : ∀ a Y, Ext w0 Y → Same ops a0 a → (∀ i o, ops[i]? = some o → Post i (val o a) Y) → Q .normal a Y) :
    (Code.region id ops true).wp P Q a0 w0 := by
  refine wp_region_any hm ?_
  refine wpAny_posts hap hdn hst hstep hfin ops.size _ a0 _ (by simp) ?_ (Ext.drew w0) ⟨rfl, rfl, fun _ _ => rfl⟩ ?_
  · simp
  · intro i o ho hl
    exfalso
    have hlo := (Array.getElem?_eq_some_iff.1 ho).1
    simp [hlo] at hl
/-! ### One operation -/
/-- what an operation is to be shown -/
def Step (P : Program) (ops : Array Oper) (Q : Exit → Act → World → Prop) (Post : Nat → Value → World → Prop) (a0 : Act) (w0 : World) (i : Nat) (o : Oper) : Prop :=
  ∀ a X, Ext w0 X → Same ops a0 a → Deps ops Post o a X → wpOp P ops Q i (fun a' Y => (∃ v, a' = a.put o.dst v) ∧ Post i (val o a') Y ∧ Ext X Y) a X
def Steps (P : Program) (ops : Array Oper) (Q : Exit → Act → World → Prop) (Post : Nat → Value → World → Prop) (a0 : Act) (w0 : World) : Nat → List Oper → Prop
  | _, [] => True
  | k, o :: rest => Step P ops Q Post a0 w0 k o ∧ Steps P ops Q Post a0 w0 (k + 1) rest
theorem steps_at : ∀ (l : List Oper) (k : Nat), Steps P ops Q Post a0 w0 k l → ∀ j o, l[j]? = some o → Step P ops Q Post a0 w0 (k + j) o
  | [], _, _, j, o, h => by simp at h
  | x :: l, k, hs, 0, o, h => by
    simp at h; subst h; exact hs.1
  | x :: l, k, hs, j + 1, o, h => by
    have := steps_at l (k + 1) hs.2 j o (by simpa using h)
    rwa [show k + 1 + j = k + (j + 1) from by omega] at this
/-- what all have left, one behind the other -/
def Left (Post : Nat → Value → World → Prop) (a : Act) (Y : World) : Nat → List Oper → Prop
  | _, [] => True
  | k, o :: rest => Post k (val o a) Y ∧ Left Post a Y (k + 1) rest
theorem left_of {a : Act} {Y : World} : ∀ (l : List Oper) (k : Nat), (∀ j o, l[j]? = some o → Post (k + j) (val o a) Y) → Left Post a Y k l
  | [], _, _ => trivial
  | x :: l, k, h => ⟨h 0 x rfl, left_of l (k + 1) fun j o hj => by
      have := h (j + 1) o (by simpa using hj)
      rwa [show k + (j + 1) = k + 1 + j from by omega] at this⟩
/-- THE LAW, for a region that is written out. -/
theorem wp_region {id : Nat} (Post : Nat → Value → World → Prop) (hm : P.follows .mixedOrders = true) (hap : apartB ops = true) (hdn : downB ops = true) (hst : ∀ i v X Y, Post i v X → Ext X Y → Post i v Y)
    (hstep : Steps P ops Q Post a0 w0 0 ops.toList)
    (hfin : ∀ a Y, Ext w0 Y → Same ops a0 a → Left Post a Y 0 ops.toList → Q .normal a Y) :
    (Code.region id ops true).wp P Q a0 w0 :=
  wp_region_posts Post hm hap hdn hst (fun i o ho => by
      have := steps_at ops.toList 0 hstep i o (by simpa using ho)
      rwa [Nat.zero_add] at this)
    fun a Y hY hs hall => hfin a Y hY hs (left_of _ _ fun j o hj => by rw [Nat.zero_add]; exact hall j o (by simpa using hj))

/-- what is asked of each operation, in a list -/
def At (L : List (Value → World → Prop)) (i : Nat) (v : Value) (X : World) : Prop := (L.getD i fun _ _ => True) v X
def Stable (p : Value → World → Prop) : Prop := ∀ v X Y, p v X → Ext X Y → p v Y
def AllStable : List (Value → World → Prop) → Prop
  | [] => True
  | p :: r => Stable p ∧ AllStable r
theorem stable_at : ∀ (L : List (Value → World → Prop)), AllStable L → ∀ i v X Y, At L i v X → Ext X Y → At L i v Y
  | [], _, i, v, X, Y, _, _ => by simp [At]
  | p :: r, h, 0, v, X, Y, hp, hE => h.1 v X Y hp hE
  | p :: r, h, i + 1, v, X, Y, hp, hE => stable_at r h.2 i v X Y hp hE
/-- this value -/
def is (u : Value) : Value → World → Prop := fun v _ => v = u
/-- a slice of all of a new row -/
def row (n : Nat) (cs : Array Value) (t : TypeId) : Value → World → Prop := fun v X => ∃ b, v = .slice (some ⟨b, 0, none⟩) n n ∧ X.heap[b]? = some (.cells cs t (0, 0))
theorem is_stable (u : Value) : Stable (is u) := fun _ _ _ h _ => h
theorem row_stable (n : Nat) (cs : Array Value) (t : TypeId) : Stable (row n cs t) := by
  rintro v X Y ⟨b, rfl, h⟩ hE
  refine ⟨b, rfl, ?_⟩
  rw [hE.block b (lt_of_block h)]
  exact h

theorem val_self {o : Oper} {a : Act} {v : Value} {d : Tmp} (hd : o.dst = some d) (hsz : d < a.tmps.size) : val o (a.put o.dst v) = v := by
  unfold val
  rw [hd]
  simp [Act.put, hsz]
/-- an operation that yields a value -/
theorem op_value {i : Nat} {o : Oper} {a : Act} {X Y : World} {v : Value} {d : Tmp} (hi : ops[i]? = some o) (hw : Region.wanted o (yielded ops a.tmps) = true) (hd : o.dst = some d) (hsz : d < a.tmps.size)
    (hrun : (execOp a.eval o).run P X = .ok (.value v) Y) (hP : Post i v Y) (hE : Ext X Y) : wpOp P ops Q i (fun a' Y => (∃ v, a' = a.put o.dst v) ∧ Post i (val o a') Y ∧ Ext X Y) a X := by
  unfold wpOp
  simp only [hi, hw, if_true]
  refine Or.inl ?_
  unfold Oper.wp
  rw [hrun]
  exact ⟨⟨v, rfl⟩, by rw [val_self hd hsz]; exact hP, hE⟩
/-- a call -/
theorem op_call {i : Nat} {o : Oper} {a : Act} {X : World} {d : Tmp} (hi : ops[i]? = some o) (hw : Region.wanted o (yielded ops a.tmps) = true) (hd : o.dst = some d) (hsz : d < a.tmps.size)
    (f : FuncId) (args : Array Value) (hrun : (execOp a.eval o).run P X = .ok (.enter f args) X) (hc : Calls P f args X fun e Y => ∃ v, e = .returned v ∧ Post i v Y ∧ Ext X Y) : wpOp P ops Q i (fun a' Y => (∃ v, a' = a.put o.dst v) ∧ Post i (val o a') Y ∧ Ext X Y) a X := by
  unfold wpOp
  simp only [hi, hw, if_true]
  refine Or.inl ?_
  unfold Oper.wp
  rw [hrun]
  refine Calls.mono hc ?_
  rintro e Y ⟨v, rfl, hP, hE⟩
  exact ⟨⟨v, rfl⟩, by rw [val_self hd hsz]; exact hP, hE⟩
/-- an operation whose guard says no -/
theorem op_skip {i : Nat} {o : Oper} {a : Act} {X : World} {d : Tmp} (hi : ops[i]? = some o) (hw : Region.wanted o (yielded ops a.tmps) = false) (hd : o.dst = some d) (hsz : d < a.tmps.size) (hP : Post i undef X) :
    wpOp P ops Q i (fun a' Y => (∃ v, a' = a.put o.dst v) ∧ Post i (val o a') Y ∧ Ext X Y) a X := by
  unfold wpOp
  simp only [hi, hw]
  exact ⟨⟨undef, rfl⟩, by rw [val_self hd hsz]; exact hP, Ext.refl _⟩
theorem slot {a : Act} {k : Tmp} {v : Value} (h : a.eval (.tmp k) = v) : a.tmps[k]?.getD undef = v := by simpa [Act.eval] using h
theorem eval_const (a : Act) (v : Value) : a.eval (.const v) = v := rfl
theorem eval_func (a : Act) (f : FuncId) : a.eval (.func f) = .func (.func f) #[] #[] := rfl
theorem wanted_plain {o : Oper} {f : Nat → Option Bool} (hg : o.guard = none) : Region.wanted o f = true := by unfold Region.wanted; rw [hg]
theorem wanted_yes {o oj : Oper} {a : Act} {j : Nat} {b : Bool} {d : Tmp} (hg : o.guard = some (j, b)) (hj : ops[j]? = some oj) (hd : oj.dst = some d) (hv : a.tmps.getD d undef = .bool b) : Region.wanted o (yielded ops a.tmps) = true := by
  unfold Region.wanted yielded
  simp only [hg, hj, Option.bind_some, hd]
  cases h : a.tmps[d]? with
  | none => simp [Array.getD_eq_getD_getElem?, h, undef] at hv
  | some x =>
    have : x = .bool b := by simpa [Array.getD_eq_getD_getElem?, h] using hv
    subst this
    simp
end
end Go.Posts
