/- A region that draws its order, by what each operation leaves behind, inside a fence that lets all in (also in a round): one proof for each operation, whatever the order; the region's last operations come up in one order alone, behind all others. E: what every operation's step keeps; J: what holds throughout. No program. · A frame behind a region, out of the frame ahead of it. · The law of a region that draws, where what holds throughout may speak of which operations have come up. -/
import Derived.OrdersIn
import Derived.TacticsIn
import Derived.BigRegionIn
import Derived.Below
import Derived.KernelRfl
import Derived.OneCell
import Derived.Laws.AppendOwn
namespace Go.Posts
open Go.RowKit
/-- what the steps keep -/
structure Rel (E : World → World → Prop) : Prop where
  refl : ∀ X, E X X
  trans : ∀ X Y Z, E X Y → E Y Z → E X Z
  drew : ∀ X, E X X.drew
/-- all blocks that are there stay as they are -/
def Ext (X Y : World) : Prop := Below X.heap.size X Y
theorem ext_rel : Rel Ext := ⟨fun _ => Below.refl _ _, fun _ _ _ h k => Below.trans h (Below.mono k h.size), fun _ => (Below.refl _ _).drew⟩
theorem Ext.blk {X Y : World} (h : Ext X Y) (k : Nat) (hk : k < X.heap.size) : Y.heap[k]? = X.heap[k]? := Below.block h k hk
/-- what an operation has left in its slot -/
def val (o : Oper) (a : Act) : Value := match o.dst with | some d => a.tmps.getD d undef | none => undef
def apartB (ops : Array Oper) : Bool := (List.range ops.size).all fun i => (List.range ops.size).all fun j => i == j || (match ops[i]?, ops[j]? with | some x, some y => x.dst.isNone || x.dst != y.dst | _, _ => true)
def downB0 (ops : Array Oper) : Bool := (List.range ops.size).all fun i => match ops[i]? with | some o => o.after.all fun e => decide (e.on < i) | none => true
def isDst (ops : Array Oper) (t : Tmp) : Bool := ops.toList.any fun o => o.dst == some t
/-- the slots that the region does not write are as they were -/
structure Same (ops : Array Oper) (a0 a : Act) : Prop where
  defers : a.defers = a0.defers
  size : a.tmps.size = a0.tmps.size
  other : ∀ t, isDst ops t = false → a.tmps.getD t undef = a0.tmps.getD t undef
/-- what stands when an operation may come up -/
def DepsL (ops : Array Oper) (Post : Nat → Value → World → Prop) (a : Act) (X : World) : List Edge → Prop
  | [] => True
  | e :: r => (if Region.binds .any e = true then (match ops[e.on]? with | some p => Post e.on (val p a) X | none => True) else True) ∧ DepsL ops Post a X r
def Deps (ops : Array Oper) (Post : Nat → Value → World → Prop) (o : Oper) (a : Act) (X : World) : Prop := DepsL ops Post a X o.after.toList
theorem depsL_of {ops : Array Oper} {Post : Nat → Value → World → Prop} {a : Act} {X : World} : ∀ (l : List Edge), (∀ e ∈ l, Region.binds .any e = true → match ops[e.on]? with | some p => Post e.on (val p a) X | none => True) → DepsL ops Post a X l
  | [], _ => trivial
  | e :: r, h => ⟨by
      split
      · rename_i hb; exact h e (by simp) hb
      · trivial, depsL_of r fun e' he' => h e' (by simp [he'])⟩

def depsOf (ops : Array Oper) (i : Nat) : List Nat := match ops[i]? with | some o => (o.after.toList.filter fun e => Region.binds .any e).map (·.on) | none => []
def clo (ops : Array Oper) : Nat → List Nat → List Nat
  | 0, S => S
  | f + 1, S => clo ops f (S ++ S.flatMap (depsOf ops))
def tailB (ops : Array Oper) (n f : Nat) : Bool := (List.range' n (ops.size - n)).all fun j => (List.range n).all fun i => (clo ops f (depsOf ops j)).contains i
def downB' (ops : Array Oper) (n : Nat) : Bool := (List.range n).all fun i => (depsOf ops i).all fun j => decide (j < i)
/-- the first n have come up -/
def firsts (N n : Nat) : Array Bool := (List.replicate n true ++ List.replicate (N - n) false).toArray
section
variable {F : Fence} {m : Nat} {P : Program} {ops : Array Oper} {Q : Exit → Act → World → Prop} {E : World → World → Prop} {Post : Nat → Value → World → Prop} {J : Act → World → Prop} {a0 : Act} {w0 : World} {n f : Nat}
theorem apart_spec (h : apartB ops = true) {i j : Nat} {x y : Oper} (hi : ops[i]? = some x) (hj : ops[j]? = some y) (hne : i ≠ j) (d : Tmp) (hx : x.dst = some d) : y.dst ≠ some d := by
  have li : i < ops.size := (Array.getElem?_eq_some_iff.1 hi).1
  have lj : j < ops.size := (Array.getElem?_eq_some_iff.1 hj).1
  unfold apartB at h
  rw [List.all_eq_true] at h
  have h1 := h i (List.mem_range.2 li)
  rw [List.all_eq_true] at h1
  have h2 := h1 j (List.mem_range.2 lj)
  rw [hi, hj] at h2
  simp only [hx, Bool.or_eq_true, beq_iff_eq, Option.isNone_some, Bool.false_eq_true, false_or, bne_iff_ne, ne_eq] at h2
  rcases h2 with h2 | h2
  · exact absurd h2 hne
  · exact fun h3 => h2 h3.symm
theorem val_put {o p : Oper} {a : Act} {v : Value} (h : ∀ d, p.dst = some d → o.dst ≠ some d) : val p (a.put o.dst v) = val p a := by
  unfold val
  cases hp : p.dst with
  | none => rfl
  | some d =>
    have := h d hp
    cases ho : o.dst with
    | none => rfl
    | some e =>
      have hne : e ≠ d := fun h' => this (by rw [ho, h'])
      simp [Act.put, Array.getElem?_setIfInBounds_ne hne]
theorem same_put {o : Oper} {i : Nat} {a : Act} {v : Value} (hi : ops[i]? = some o) (h : Same ops a0 a) : Same ops a0 (a.put o.dst v) := by
  refine ⟨by cases o.dst <;> exact h.defers, by cases o.dst <;> simp [Act.put, h.size], fun t ht => ?_⟩
  rw [← h.other t ht]
  cases ho : o.dst with
  | none => rfl
  | some e =>
    have hne : e ≠ t := by
      intro he
      subst he
      have : isDst ops e = true := by
        unfold isDst
        rw [List.any_eq_true]
        obtain ⟨hl, hv⟩ := Array.getElem?_eq_some_iff.1 hi
        exact ⟨o, by rw [← hv]; simp, by rw [ho]; simp⟩
      rw [this] at ht
      cases ht
    simp [Act.put, Array.getElem?_setIfInBounds_ne hne]

theorem mem_depsOf {i : Nat} {o : Oper} (ho : ops[i]? = some o) {e : Edge} (he : e ∈ o.after) (hb : Region.binds .any e = true) : e.on ∈ depsOf ops i := by
  unfold depsOf
  rw [ho]
  simp only [List.mem_map, List.mem_filter, Array.mem_toList_iff]
  exact ⟨e, ⟨he, hb⟩, rfl⟩
theorem clo_listed {listed : Array Bool} (hc : ∀ i, listed.getD i false = true → ∀ j ∈ depsOf ops i, listed.getD j false = true) : ∀ (f : Nat) (S : List Nat), (∀ i ∈ S, listed.getD i false = true) → ∀ i ∈ clo ops f S, listed.getD i false = true
  | 0, _, h, i, hi => h i hi
  | f + 1, S, h, i, hi => clo_listed hc f _ (fun j hj => by
      rcases List.mem_append.1 hj with hj | hj
      · exact h j hj
      · obtain ⟨k, hk, hj⟩ := List.mem_flatMap.1 hj
        exact hc k (h k hk) j hj) i hi

/-- what an operation is to be shown -/
def StepJ (F : Fence) (m : Nat) (P : Program) (ops : Array Oper) (Q : Exit → Act → World → Prop) (E : World → World → Prop) (Post : Nat → Value → World → Prop) (J : Act → World → Prop) (a0 : Act) (w0 : World) (i : Nat) (o : Oper) : Prop :=
  ∀ a X, E w0 X → Same ops a0 a → Deps ops Post o a X → J a X → val o a = val o a0 → wpOpIn F m P ops Q i (fun a' Y => ((∃ v, a' = a.put o.dst v) ∧ Post i (val o a') Y ∧ E X Y) ∧ J a' Y) a X

theorem wpAnyIn_tail (hE : Rel E) (hn : n ≤ ops.size) (hap : apartB ops = true) (hdn : downB' ops n = true) (htl : tailB ops n f = true) (hst : ∀ i v X Y, Post i v X → E X Y → Post i v Y)
    (hstep : ∀ i o, i < n → ops[i]? = some o → StepJ F m P ops Q E Post J a0 w0 i o)
    (hfin : ∀ a Y, E w0 Y → Same ops a0 a → J a Y → (∀ i o, i < n → ops[i]? = some o → Post i (val o a) Y) → wpAnyIn F m P .any ops Q (ops.size - n) (firsts ops.size n) a Y) :
    ∀ (fuel : Nat) (listed : Array Bool) (a : Act) (X : World), listed.size = ops.size → listed.toList.count false = fuel → (∀ j, n ≤ j → listed.getD j false = false) →
      (∀ i, listed.getD i false = true → ∀ j ∈ depsOf ops i, listed.getD j false = true) → E w0 X → Same ops a0 a → J a X → (∀ i o, ops[i]? = some o → listed.getD i false = false → val o a = val o a0) →
      (∀ i o, ops[i]? = some o → listed.getD i false = true → Post i (val o a) X) → wpAnyIn F m P .any ops Q fuel listed a X := by
  intro fuel
  induction fuel with
  | zero =>
    intro listed a X hsz hc hno hcl hX hs hJ hun hp
    -- none is left: then n is all
    have hall : ∀ i, i < ops.size → listed.getD i false = true := by
      intro i hi
      have hli : i < listed.size := by omega
      rw [List.count_eq_zero] at hc
      have hm : listed[i] ∈ listed.toList := by simp
      cases hb : listed[i] with
      | true => simp [hli, hb]
      | false => exact absurd (hb ▸ hm) hc
    have hN : n = ops.size := by
      rcases Nat.lt_or_ge n ops.size with h | h
      · have h1 := hno n (Nat.le_refl _)
        rw [hall n h] at h1
        cases h1
      · omega
    have h0 := hfin a X hX hs hJ (fun i o hi ho => hp i o ho (hall i (by omega)))
    rw [show ops.size - n = 0 from by omega] at h0
    have he : firsts ops.size n = listed := by
      apply Array.ext
      · simp [firsts]; omega
      · intro i h1 h2
        have h3 := hall i (by omega)
        simp [h2] at h3
        rw [h3]
        simp [firsts, show i < n from by omega]
    rw [he] at h0
    exact h0
  | succ fuel ih =>
    intro listed a X hsz hc hno hcl hX hs hJ hun hp
    by_cases hfull : ∀ i, i < n → listed.getD i false = true
    · have he : firsts ops.size n = listed := by
        apply Array.ext
        · simp [firsts]; omega
        · intro i h1 h2
          by_cases hi : i < n
          · have h3 := hfull i hi
            simp [h2] at h3
            rw [h3]
            simp [firsts, hi]
          · have h3 := hno i (by omega)
            simp [h2] at h3
            rw [h3]
            simp [firsts, List.getElem_append, hi]
      have hcn : ops.size - n = fuel + 1 := by
        rw [← hc, ← he]
        simp [firsts, List.count_replicate]
      have h0 := hfin a X hX hs hJ (fun i o hi ho => hp i o ho (hfull i hi))
      rw [he, hcn] at h0
      exact h0
    · have hlow : ∀ i ∈ Region.ready .any ops listed, i < n := by
        intro j hj
        rcases Nat.lt_or_ge j n with h | h
        · exact h
        · exfalso
          apply hfull
          obtain ⟨_, o, ho, hd⟩ := mem_ready.1 hj
          have hjs := (Array.getElem?_eq_some_iff.1 ho).1
          unfold tailB at htl
          rw [List.all_eq_true] at htl
          have h1 := htl j (by rw [List.mem_range'_1]; omega)
          rw [List.all_eq_true] at h1
          intro i hi
          have h2 := h1 i (List.mem_range.2 hi)
          rw [List.contains_iff_mem] at h2
          refine clo_listed hcl f _ (fun k hk => ?_) i h2
          unfold depsOf at hk
          rw [ho] at hk
          simp only [List.mem_map, List.mem_filter, Array.mem_toList_iff] at hk
          obtain ⟨e, ⟨he, hb⟩, rfl⟩ := hk
          exact hd e he hb
      refine ⟨fun hr => ?_, fun i hi => ?_⟩
      · exfalso
        apply hfull
        intro i
        induction i using Nat.strongRecOn with
        | ind i ihi =>
          intro hi
          cases hg : listed.getD i false with
          | true => rfl
          | false =>
            exfalso
            have hio : i < ops.size := by omega
            have hmem : i ∈ Region.ready .any ops listed := by
              rw [mem_ready]
              refine ⟨?_, ops[i], Array.getElem?_eq_getElem hio, fun e he hb => ?_⟩
              · have hli : i < listed.size := by omega
                simp [hli] at hg ⊢
                exact hg
              · have hm := mem_depsOf (Array.getElem?_eq_getElem hio) he hb
                unfold downB' at hdn
                rw [List.all_eq_true] at hdn
                have h1 := hdn i (List.mem_range.2 hi)
                rw [List.all_eq_true] at h1
                have h2 := h1 _ hm
                simp only [decide_eq_true_eq] at h2
                exact ihi e.on h2 (by omega)
            rw [hr] at hmem
            cases hmem
      · have hin := hlow i hi
        obtain ⟨h0, o, ho, hdeps⟩ := mem_ready.1 hi
        have hlo := (Array.getElem?_eq_some_iff.1 ho).1
        have hli : i < listed.size := by omega
        have hfalse : listed[i] = false := by simpa [hli] using h0
        refine wpOpIn_mono ?_ (hstep i o hin ho a X hX hs ?_ hJ (hun i o ho (by simp [hli, hfalse])))
        · rintro a' Y ⟨⟨⟨v, rfl⟩, hPi, hXY⟩, hJ'⟩
          refine ih _ _ _ (by simpa using hsz) ?_ ?_ ?_ (hE.trans _ _ _ hX hXY) (same_put ho hs) hJ' ?_ ?_
          · have : (listed.setIfInBounds i true).toList.count false = listed.toList.count false - 1 := by
              rw [Array.toList_setIfInBounds, List.count_set (by simpa using hli)]
              simp [hfalse]
            omega
          · intro j hj
            rw [getD_set_ne false (by omega)]
            exact hno j hj
          · intro j hj k hk
            by_cases hij : i = j
            · subst hij
              unfold depsOf at hk
              rw [ho] at hk
              simp only [List.mem_map, List.mem_filter, Array.mem_toList_iff] at hk
              obtain ⟨e, ⟨he, hb⟩, rfl⟩ := hk
              exact getD_set_true (hdeps e he hb)
            · rw [getD_set_ne false hij] at hj
              exact getD_set_true (hcl j hj k hk)
          · intro j p hj hl
            by_cases hij : i = j
            · subst hij
              exfalso
              have hli' : i < (listed.setIfInBounds i true).size := by simpa using hli
              simp [hli] at hl
            · rw [getD_set_ne false hij] at hl
              rw [val_put (fun d hd => apart_spec hap hj ho (Ne.symm hij) d hd)]
              exact hun j p hj hl
          · intro j p hj hl
            by_cases hij : i = j
            · subst hij
              rw [ho] at hj
              cases hj
              exact hPi
            · rw [getD_set_ne false hij] at hl
              have h1 := hst j _ X Y (hp j p hj hl) hXY
              rw [val_put (fun d hd => apart_spec hap hj ho (Ne.symm hij) d hd)]
              exact h1
        · refine depsL_of _ fun e he hb => ?_
          cases hq : ops[e.on]? with
          | none => trivial
          | some p => exact hp e.on p hq (hdeps e (by simpa using he) hb)

def StepsJ (F : Fence) (m : Nat) (P : Program) (ops : Array Oper) (Q : Exit → Act → World → Prop) (E : World → World → Prop) (Post : Nat → Value → World → Prop) (J : Act → World → Prop) (a0 : Act) (w0 : World) : Nat → List Oper → Prop
  | _, [] => True
  | k, o :: rest => StepJ F m P ops Q E Post J a0 w0 k o ∧ StepsJ F m P ops Q E Post J a0 w0 (k + 1) rest
theorem stepsJ_at : ∀ (l : List Oper) (k : Nat), StepsJ F m P ops Q E Post J a0 w0 k l → ∀ j o, l[j]? = some o → StepJ F m P ops Q E Post J a0 w0 (k + j) o
  | [], _, _, j, o, h => by simp at h
  | x :: l, k, hs, 0, o, h => by
    simp at h; subst h; exact hs.1
  | x :: l, k, hs, j + 1, o, h => by
    have := stepsJ_at l (k + 1) hs.2 j o (by simpa using h)
    rwa [show k + 1 + j = k + (j + 1) from by omega] at this
/-- what all have left, one behind the other -/
def Left (Post : Nat → Value → World → Prop) (a : Act) (Y : World) : Nat → List Oper → Prop
  | _, [] => True
  | k, o :: rest => Post k (val o a) Y ∧ Left Post a Y (k + 1) rest
theorem left_of {a : Act} {Y : World} : ∀ (l : List Oper) (k : Nat), (∀ j o, l[j]? = some o → Post (k + j) (val o a) Y) → Left Post a Y k l
  | [], _, _ => trivial
  | x :: l, k, h => ⟨h 0 x rfl, left_of l (k + 1) fun j o hj => by
      have := h (j + 1) o (by simpa using hj)
      rwa [show k + (j + 1) = k + 1 + j from by omega] at this⟩
/-- THE LAW, for a region that is written out, with a tail from number n on. -/
theorem wpIn_region_tail {id : Nat} (hE : Rel E) (n f : Nat) (Post : Nat → Value → World → Prop) (J : Act → World → Prop) (hm : P.follows .mixedOrders = true) (hn : n ≤ ops.size) (hap : apartB ops = true) (hdn : downB' ops n = true) (htl : tailB ops n f = true) (hst : ∀ i v X Y, Post i v X → E X Y → Post i v Y)
    (hJ : J a0 w0.drew) (hstep : StepsJ F m P ops Q E Post J a0 w0 0 (ops.toList.take n))
    (hfin : ∀ a Y, E w0 Y → Same ops a0 a → J a Y → Left Post a Y 0 (ops.toList.take n) → wpAnyIn F m P .any ops Q (ops.size - n) (firsts ops.size n) a Y) :
    (Code.region id ops true).wpIn F m P Q a0 w0 := by
  refine wpIn_region_any hm ?_
  refine wpAnyIn_tail hE hn hap hdn htl hst (fun i o hi ho => ?_) (fun a Y hY hs hJ hall => ?_) ops.size _ a0 _ (by simp) (by simp) ?_ ?_ (hE.drew w0) ⟨rfl, rfl, fun _ _ => rfl⟩ hJ (fun _ _ _ _ => rfl) ?_
  · have := stepsJ_at _ 0 hstep i o (by rw [List.getElem?_take_of_lt hi]; simpa using ho)
    rwa [Nat.zero_add] at this
  · refine hfin a Y hY hs hJ (left_of _ _ fun j o hj => ?_)
    rw [Nat.zero_add]
    have hjn : j < n := by
      have := (List.getElem?_eq_some_iff.1 hj).1
      simp at this
      omega
    rw [List.getElem?_take_of_lt hjn] at hj
    exact hall j o hjn (by simpa using hj)
  · intro j _
    by_cases h : j < ops.size
    · simp [h]
    · simp [h]
  · intro i hi
    by_cases h : i < ops.size
    · simp [h] at hi
    · simp [h] at hi
  · intro i o ho hl
    exfalso
    have hlo := (Array.getElem?_eq_some_iff.1 ho).1
    simp [hlo] at hl
/-- what is asked of each operation, in a list -/
def At (L : List (Value → World → Prop)) (i : Nat) (v : Value) (X : World) : Prop := (L.getD i fun _ _ => True) v X
def Stable (E : World → World → Prop) (p : Value → World → Prop) : Prop := ∀ v X Y, p v X → E X Y → p v Y
def AllStable (E : World → World → Prop) : List (Value → World → Prop) → Prop
  | [] => True
  | p :: r => Stable E p ∧ AllStable E r
theorem stable_at : ∀ (L : List (Value → World → Prop)), AllStable E L → ∀ i v X Y, At L i v X → E X Y → At L i v Y
  | [], _, i, v, X, Y, _, _ => by simp [At]
  | p :: r, h, 0, v, X, Y, hp, hE => h.1 v X Y hp hE
  | p :: r, h, i + 1, v, X, Y, hp, hE => stable_at r h.2 i v X Y hp hE
/-- this value -/
def is (u : Value) : Value → World → Prop := fun v _ => v = u
/-- this value, if it is asked for -/
def on (g : Bool) (u : Value) : Value → World → Prop := fun v _ => g = true → v = u
theorem is_stable (u : Value) : Stable E (is u) := fun _ _ _ h _ => h
theorem on_stable (g : Bool) (u : Value) : Stable E (on g u) := fun _ _ _ h _ => h
theorem val_self {o : Oper} {a : Act} {v : Value} {d : Tmp} (hd : o.dst = some d) (hsz : d < a.tmps.size) : val o (a.put o.dst v) = v := by
  unfold val
  rw [hd]
  simp [Act.put, hsz]
/-- an operation that yields a value -/
theorem op_value {i : Nat} {o : Oper} {a : Act} {X Y : World} {v : Value} {d : Tmp} (hF : ∀ f, F.fn f) (hi : ops[i]? = some o) (hw : Region.wanted o (yielded ops a.tmps) = true) (hs : ∀ c, o.op ≠ .defer c) (hd : o.dst = some d) (hsz : d < a.tmps.size)
    (hrun : (execOp a.eval o).run P X = .ok (.value v) Y) (hP : Post i v Y) (hX : E X Y) (hJ : J (a.put o.dst v) Y) : wpOpIn F m P ops Q i (fun a' Y => ((∃ v, a' = a.put o.dst v) ∧ Post i (val o a') Y ∧ E X Y) ∧ J a' Y) a X := by
  unfold wpOpIn
  simp only [hi, hw, if_true]
  unfold Oper.wpIn
  rw [Oper.semAt_eq _ _ _ hs, hrun]
  exact ⟨fun f _ => hF f, ⟨⟨v, rfl⟩, by rw [val_self hd hsz]; exact hP, hX⟩, hJ⟩
/-- a call -/
theorem op_call {i : Nat} {o : Oper} {a : Act} {X : World} {d : Tmp} (hF : ∀ f, F.fn f) (hdp : F.depth = none) (hi : ops[i]? = some o) (hw : Region.wanted o (yielded ops a.tmps) = true) (hs : ∀ c, o.op ≠ .defer c) (hd : o.dst = some d) (hsz : d < a.tmps.size)
    (f : FuncId) (args : Array Value) (hrun : (execOp a.eval o).run P X = .ok (.enter f args) X) (hc : CallsIn F (m - 1) P f args X fun e Y => ∃ v, e = .returned v ∧ Post i v Y ∧ E X Y ∧ J (a.put o.dst v) Y) :
    wpOpIn F m P ops Q i (fun a' Y => ((∃ v, a' = a.put o.dst v) ∧ Post i (val o a') Y ∧ E X Y) ∧ J a' Y) a X := by
  unfold wpOpIn
  simp only [hi, hw, if_true]
  unfold Oper.wpIn
  rw [Oper.semAt_eq _ _ _ hs, hrun]
  refine ⟨fun f _ => hF f, fun h => by (rw [hdp] at h; simp at h), CallsIn.mono hc ?_⟩
  rintro e Y ⟨v, rfl, hP, hX, hJ⟩
  exact ⟨⟨⟨v, rfl⟩, by rw [val_self hd hsz]; exact hP, hX⟩, hJ⟩
/-- an operation whose guard says no -/
theorem op_skip {i : Nat} {o : Oper} {a : Act} {X : World} {d : Tmp} (hE : Rel E) (hF : ∀ f, F.fn f) (hi : ops[i]? = some o) (hw : Region.wanted o (yielded ops a.tmps) = false) (hd : o.dst = some d) (hsz : d < a.tmps.size) (hP : Post i undef X) (hJ : J (a.put o.dst undef) X) :
    wpOpIn F m P ops Q i (fun a' Y => ((∃ v, a' = a.put o.dst v) ∧ Post i (val o a') Y ∧ E X Y) ∧ J a' Y) a X := by
  unfold wpOpIn
  simp only [hi, hw]
  exact ⟨fun f _ => hF f, ⟨⟨undef, rfl⟩, by rw [val_self hd hsz]; exact hP, hE.refl _⟩, hJ⟩
theorem slot {a : Act} {k : Tmp} {v : Value} (h : a.eval (.tmp k) = v) : a.tmps[k]?.getD undef = v := by simpa [Act.eval] using h
theorem eval_const (a : Act) (v : Value) : a.eval (.const v) = v := rfl
theorem eval_func (a : Act) (f : FuncId) : a.eval (.func f) = .func (.func f) #[] #[] := rfl
theorem wanted_plain {o : Oper} {f : Nat → Option Bool} (hg : o.guard = none) : Region.wanted o f = true := by unfold Region.wanted; rw [hg]
theorem wanted_yes {o oj : Oper} {a : Act} {j : Nat} {b : Bool} {d : Tmp} (hg : o.guard = some (j, b)) (hj : ops[j]? = some oj) (hd : oj.dst = some d) (hv : a.tmps.getD d undef = .bool b) : Region.wanted o (yielded ops a.tmps) = true := by
  unfold Region.wanted yielded
  simp only [hg, hj, Option.bind_some, hd]
  cases h : a.tmps[d]? with
  | none => simp [Array.getD_eq_getD_getElem?, h, undef] at hv
  | some x =>
    have : x = .bool b := by simpa [Array.getD_eq_getD_getElem?, h] using hv
    subst this
    simp
theorem wanted_no {o oj : Oper} {a : Act} {j : Nat} {b : Bool} {d : Tmp} (hg : o.guard = some (j, b)) (hj : ops[j]? = some oj) (hd : oj.dst = some d) (hv : a.tmps.getD d undef = .bool (!b)) : Region.wanted o (yielded ops a.tmps) = false := by
  unfold Region.wanted yielded
  simp only [hg, hj, Option.bind_some, hd]
  cases h : a.tmps[d]? with
  | none => simp [Array.getD_eq_getD_getElem?, h, undef] at hv
  | some x =>
    have : x = .bool (!b) := by simpa [Array.getD_eq_getD_getElem?, h] using hv
    subst this
    cases b <;> simp
/-! ### A frame, written out -/
theorem tmps_out (t : Array Value) (n : Nat) (h : t.size = n) : t = ((List.range n).map fun i => t[i]?.getD undef).toArray := by
  apply Array.ext
  · simp [h]
  · intro i h1 h2
    simp [h1]
theorem out23 (t : Array Value) (h : t.size = 23) : t = #[t[0]?.getD undef, t[1]?.getD undef, t[2]?.getD undef, t[3]?.getD undef, t[4]?.getD undef, t[5]?.getD undef, t[6]?.getD undef, t[7]?.getD undef, t[8]?.getD undef, t[9]?.getD undef, t[10]?.getD undef, t[11]?.getD undef, t[12]?.getD undef, t[13]?.getD undef, t[14]?.getD undef, t[15]?.getD undef, t[16]?.getD undef, t[17]?.getD undef, t[18]?.getD undef, t[19]?.getD undef, t[20]?.getD undef, t[21]?.getD undef, t[22]?.getD undef] := tmps_out t 23 h
theorem out35 (t : Array Value) (h : t.size = 35) : t = #[t[0]?.getD undef, t[1]?.getD undef, t[2]?.getD undef, t[3]?.getD undef, t[4]?.getD undef, t[5]?.getD undef, t[6]?.getD undef, t[7]?.getD undef, t[8]?.getD undef, t[9]?.getD undef, t[10]?.getD undef, t[11]?.getD undef, t[12]?.getD undef, t[13]?.getD undef, t[14]?.getD undef, t[15]?.getD undef, t[16]?.getD undef, t[17]?.getD undef, t[18]?.getD undef, t[19]?.getD undef, t[20]?.getD undef, t[21]?.getD undef, t[22]?.getD undef, t[23]?.getD undef, t[24]?.getD undef, t[25]?.getD undef, t[26]?.getD undef, t[27]?.getD undef, t[28]?.getD undef, t[29]?.getD undef, t[30]?.getD undef, t[31]?.getD undef, t[32]?.getD undef, t[33]?.getD undef, t[34]?.getD undef] := tmps_out t 35 h
/-! ### The tail -/
theorem tail_op {fuel : Nat} {listed : Array Bool} {a : Act} {w : World} (i : Nat) (hr : Region.ready .any ops listed = [i]) (h : wpOpIn F m P ops Q i (wpAnyIn F m P .any ops Q fuel (listed.setIfInBounds i true)) a w) :
    wpAnyIn F m P .any ops Q (fuel + 1) listed a w :=
  ⟨fun h' => (by rw [hr] at h'; simp at h'), fun j hj => (by rw [hr] at hj; simp at hj; subst hj; exact h)⟩
theorem op_val {i : Nat} {o : Oper} {a : Act} {X Y : World} {v : Value} {K : Act → World → Prop} (hF : ∀ f, F.fn f) (hi : ops[i]? = some o) (hw : Region.wanted o (yielded ops a.tmps) = true) (hs : ∀ c, o.op ≠ .defer c)
    (hrun : (execOp a.eval o).run P X = .ok (.value v) Y) (hK : K (a.put o.dst v) Y) : wpOpIn F m P ops Q i K a X := by
  unfold wpOpIn
  simp only [hi, hw, if_true]
  unfold Oper.wpIn
  rw [Oper.semAt_eq _ _ _ hs, hrun]
  exact ⟨fun f _ => hF f, hK⟩
theorem op_no {i : Nat} {o : Oper} {a : Act} {X : World} {K : Act → World → Prop} (hF : ∀ f, F.fn f) (hi : ops[i]? = some o) (hw : Region.wanted o (yielded ops a.tmps) = false) (hK : K (a.put o.dst undef) X) : wpOpIn F m P ops Q i K a X := by
  unfold wpOpIn
  simp only [hi, hw]
  exact ⟨fun f _ => hF f, hK⟩
theorem op_done {i : Nat} {o : Oper} {a : Act} {X Y : World} {K : Act → World → Prop} (hF : ∀ f, F.fn f) (hi : ops[i]? = some o) (hw : Region.wanted o (yielded ops a.tmps) = true) (hs : ∀ c, o.op ≠ .defer c)
    (hrun : (execOp a.eval o).run P X = .ok .skip Y) (hK : K (a.put o.dst undef) Y) : wpOpIn F m P ops Q i K a X := by
  unfold wpOpIn
  simp only [hi, hw, if_true]
  unfold Oper.wpIn
  rw [Oper.semAt_eq _ _ _ hs, hrun]
  exact ⟨fun f _ => hF f, hK⟩
/-- append -/
theorem append_op {o : Oper} {a : Act} {X Y : World} {s x : Operand} {t : TypeId} {v u v' : Value} (ho : o.op = .call { callee := .builtin .append, args := #[s, x], argTypes := #[t, t] }) (hs : a.eval s = v) (hx : a.eval x = u)
    (hr : (Builtin.append_ #[t, t] o.type #[v, u]).run P X = .ok v' Y) : (execOp a.eval o).run P X = .ok (.value v') Y := by
  unfold execOp
  simp only [ho, resolve, invoke, builtin, Sem.run_bind, Sem.run_pure, Result.andThen_ok, List.map_toArray, List.map_cons, List.map_nil, hs, hx, hr]
theorem put_other (a : Act) (d k : Tmp) (v : Value) (h : d ≠ k) : (a.put (some d) v).tmps.getD k undef = a.tmps.getD k undef := by
  simp [Act.put, Array.getElem?_setIfInBounds_ne h]
/-- a call of yield -/
theorem op_round {i : Nat} {o : Oper} {a : Act} {X : World} {K : Act → World → Prop} {l : Nat} {fn : FuncId} {tmps : Array Value} {assign body : Code} (hF : ∀ f, F.fn f) (hdp : F.depth = none) (hi : ops[i]? = some o) (hw : Region.wanted o (yielded ops a.tmps) = true) (hs : ∀ c, o.op ≠ .defer c)
    (hrun : (execOp a.eval o).run P X = .ok (.round l fn tmps assign body) X) (hR : RoundIn F (m - 1) P l fn tmps assign body X fun e Y => ∃ v, e = .returned v ∧ K (a.put o.dst v) Y) : wpOpIn F m P ops Q i K a X := by
  unfold wpOpIn
  simp only [hi, hw, if_true]
  unfold Oper.wpIn
  rw [Oper.semAt_eq _ _ _ hs, hrun]
  refine ⟨fun f _ => hF f, fun h => by (rw [hdp] at h; simp at h), RoundIn.mono hR ?_⟩
  rintro e Y ⟨v, rfl, hK⟩
  exact hK
end
end Go.Posts
namespace Go.Posts
theorem foldl_set_size (f : Tmp → Value) : ∀ (ds : List Tmp) (T : Array Value), (ds.foldl (fun T d => T.setIfInBounds d (f d)) T).size = T.size
  | [], _ => rfl
  | d :: ds, T => by rw [List.foldl_cons, foldl_set_size f ds]; simp
theorem foldl_set_get (f : Tmp → Value) : ∀ (ds : List Tmp) (T : Array Value) (i : Nat), i < T.size → (ds.foldl (fun T d => T.setIfInBounds d (f d)) T)[i]?.getD undef = if i ∈ ds then f i else T[i]?.getD undef
  | [], T, i, _ => by simp
  | d :: ds, T, i, hi => by
    rw [List.foldl_cons, foldl_set_get f ds _ i (by simpa using hi)]
    by_cases h1 : i ∈ ds
    · simp [h1]
    · by_cases h2 : d = i
      · subst h2; simp [h1, hi]
      · have h3 : ¬ i = d := fun e => h2 e.symm
        simp [h1, h3, Array.getElem?_setIfInBounds_ne h2]
theorem Same.frame {ops : Array Oper} {a0 a : Act} (h : Same ops a0 a) (ds : List Tmp) (hd : ∀ t, isDst ops t = true → t ∈ ds) : a.tmps = ds.foldl (fun T d => T.setIfInBounds d (a.tmps.getD d undef)) a0.tmps := by
  have key : ∀ i, i < a.tmps.size → a.tmps[i]?.getD undef = (ds.foldl (fun T d => T.setIfInBounds d (a.tmps.getD d undef)) a0.tmps)[i]?.getD undef := fun i hi => by
    rw [foldl_set_get (fun d => a.tmps.getD d undef) ds a0.tmps i (by rw [← h.size]; exact hi)]
    by_cases hm : i ∈ ds
    · rw [if_pos hm]; simp
    · rw [if_neg hm]
      have := h.other i (by
        cases e : isDst ops i with
        | false => rfl
        | true => exact absurd (hd i e) hm)
      simpa using this
  have hs : (ds.foldl (fun T d => T.setIfInBounds d (a.tmps.getD d undef)) a0.tmps).size = a0.tmps.size := foldl_set_size (fun d => a.tmps.getD d undef) ds a0.tmps
  refine Array.ext (by rw [hs, h.size]) fun i h1 h2 => ?_
  have := key i h1
  rwa [Array.getElem?_eq_getElem h1, Array.getElem?_eq_getElem h2] at this
end Go.Posts
namespace Go.Posts
open Go.RowKit
section
variable {F : Fence} {m : Nat} {P : Program} {ops : Array Oper} {Q : Exit → Act → World → Prop} {E : World → World → Prop} {Post : Nat → Value → World → Prop} {J : Array Bool → Act → World → Prop} {a0 : Act} {w0 : World} {n f : Nat}
def StepL (F : Fence) (m : Nat) (P : Program) (ops : Array Oper) (Q : Exit → Act → World → Prop) (E : World → World → Prop) (Post : Nat → Value → World → Prop) (J : Array Bool → Act → World → Prop) (a0 : Act) (w0 : World) (i : Nat) (o : Oper) : Prop :=
  ∀ listed a X, listed.size = ops.size → listed.getD i false = false → (∀ j ∈ depsOf ops i, listed.getD j false = true) → E w0 X → Same ops a0 a → Deps ops Post o a X → J listed a X → val o a = val o a0 → wpOpIn F m P ops Q i (fun a' Y => ((∃ v, a' = a.put o.dst v) ∧ Post i (val o a') Y ∧ E X Y) ∧ J (listed.setIfInBounds i true) a' Y) a X

theorem wpAnyIn_listed (hE : Rel E) (hn : n ≤ ops.size) (hap : apartB ops = true) (hdn : downB' ops n = true) (htl : tailB ops n f = true) (hst : ∀ i v X Y, Post i v X → E X Y → Post i v Y)
    (hstep : ∀ i o, i < n → ops[i]? = some o → StepL F m P ops Q E Post J a0 w0 i o)
    (hfin : ∀ a Y, E w0 Y → Same ops a0 a → J (firsts ops.size n) a Y → (∀ i o, i < n → ops[i]? = some o → Post i (val o a) Y) → wpAnyIn F m P .any ops Q (ops.size - n) (firsts ops.size n) a Y) :
    ∀ (fuel : Nat) (listed : Array Bool) (a : Act) (X : World), listed.size = ops.size → listed.toList.count false = fuel → (∀ j, n ≤ j → listed.getD j false = false) →
      (∀ i, listed.getD i false = true → ∀ j ∈ depsOf ops i, listed.getD j false = true) → E w0 X → Same ops a0 a → J listed a X → (∀ i o, ops[i]? = some o → listed.getD i false = false → val o a = val o a0) →
      (∀ i o, ops[i]? = some o → listed.getD i false = true → Post i (val o a) X) → wpAnyIn F m P .any ops Q fuel listed a X := by
  intro fuel
  induction fuel with
  | zero =>
    intro listed a X hsz hc hno hcl hX hs hJ hun hp
    -- none is left: then n is all
    have hall : ∀ i, i < ops.size → listed.getD i false = true := by
      intro i hi
      have hli : i < listed.size := by omega
      rw [List.count_eq_zero] at hc
      have hm : listed[i] ∈ listed.toList := by simp
      cases hb : listed[i] with
      | true => simp [hli, hb]
      | false => exact absurd (hb ▸ hm) hc
    have hN : n = ops.size := by
      rcases Nat.lt_or_ge n ops.size with h | h
      · have h1 := hno n (Nat.le_refl _)
        rw [hall n h] at h1
        cases h1
      · omega
    have he : firsts ops.size n = listed := by
      apply Array.ext
      · simp [firsts]; omega
      · intro i h1 h2
        have h3 := hall i (by omega)
        simp [h2] at h3
        rw [h3]
        simp [firsts, show i < n from by omega]
    have h0 := hfin a X hX hs (by rw [he]; exact hJ) (fun i o hi ho => hp i o ho (hall i (by omega)))
    rw [show ops.size - n = 0 from by omega] at h0
    rw [he] at h0
    exact h0
  | succ fuel ih =>
    intro listed a X hsz hc hno hcl hX hs hJ hun hp
    by_cases hfull : ∀ i, i < n → listed.getD i false = true
    · have he : firsts ops.size n = listed := by
        apply Array.ext
        · simp [firsts]; omega
        · intro i h1 h2
          by_cases hi : i < n
          · have h3 := hfull i hi
            simp [h2] at h3
            rw [h3]
            simp [firsts, hi]
          · have h3 := hno i (by omega)
            simp [h2] at h3
            rw [h3]
            simp [firsts, List.getElem_append, hi]
      have hcn : ops.size - n = fuel + 1 := by
        rw [← hc, ← he]
        simp [firsts, List.count_replicate]
      have h0 := hfin a X hX hs (by rw [he]; exact hJ) (fun i o hi ho => hp i o ho (hfull i hi))
      rw [he, hcn] at h0
      exact h0
    · have hlow : ∀ i ∈ Region.ready .any ops listed, i < n := by
        intro j hj
        rcases Nat.lt_or_ge j n with h | h
        · exact h
        · exfalso
          apply hfull
          obtain ⟨_, o, ho, hd⟩ := mem_ready.1 hj
          have hjs := (Array.getElem?_eq_some_iff.1 ho).1
          unfold tailB at htl
          rw [List.all_eq_true] at htl
          have h1 := htl j (by rw [List.mem_range'_1]; omega)
          rw [List.all_eq_true] at h1
          intro i hi
          have h2 := h1 i (List.mem_range.2 hi)
          rw [List.contains_iff_mem] at h2
          refine clo_listed hcl f _ (fun k hk => ?_) i h2
          unfold depsOf at hk
          rw [ho] at hk
          simp only [List.mem_map, List.mem_filter, Array.mem_toList_iff] at hk
          obtain ⟨e, ⟨he, hb⟩, rfl⟩ := hk
          exact hd e he hb
      refine ⟨fun hr => ?_, fun i hi => ?_⟩
      · exfalso
        apply hfull
        intro i
        induction i using Nat.strongRecOn with
        | ind i ihi =>
          intro hi
          cases hg : listed.getD i false with
          | true => rfl
          | false =>
            exfalso
            have hio : i < ops.size := by omega
            have hmem : i ∈ Region.ready .any ops listed := by
              rw [mem_ready]
              refine ⟨?_, ops[i], Array.getElem?_eq_getElem hio, fun e he hb => ?_⟩
              · have hli : i < listed.size := by omega
                simp [hli] at hg ⊢
                exact hg
              · have hm := mem_depsOf (Array.getElem?_eq_getElem hio) he hb
                unfold downB' at hdn
                rw [List.all_eq_true] at hdn
                have h1 := hdn i (List.mem_range.2 hi)
                rw [List.all_eq_true] at h1
                have h2 := h1 _ hm
                simp only [decide_eq_true_eq] at h2
                exact ihi e.on h2 (by omega)
            rw [hr] at hmem
            cases hmem
      · have hin := hlow i hi
        obtain ⟨h0, o, ho, hdeps⟩ := mem_ready.1 hi
        have hlo := (Array.getElem?_eq_some_iff.1 ho).1
        have hli : i < listed.size := by omega
        have hfalse : listed[i] = false := by simpa [hli] using h0
        refine wpOpIn_mono ?_ (hstep i o hin ho listed a X hsz (by simp [hli, hfalse]) (fun j hj => by
            unfold depsOf at hj
            rw [ho] at hj
            simp only [List.mem_map, List.mem_filter, Array.mem_toList_iff] at hj
            obtain ⟨e, ⟨he, hb⟩, rfl⟩ := hj
            exact hdeps e he hb) hX hs ?_ hJ (hun i o ho (by simp [hli, hfalse])))
        · rintro a' Y ⟨⟨⟨v, rfl⟩, hPi, hXY⟩, hJ'⟩
          refine ih _ _ _ (by simpa using hsz) ?_ ?_ ?_ (hE.trans _ _ _ hX hXY) (same_put ho hs) hJ' ?_ ?_
          · have : (listed.setIfInBounds i true).toList.count false = listed.toList.count false - 1 := by
              rw [Array.toList_setIfInBounds, List.count_set (by simpa using hli)]
              simp [hfalse]
            omega
          · intro j hj
            rw [getD_set_ne false (by omega)]
            exact hno j hj
          · intro j hj k hk
            by_cases hij : i = j
            · subst hij
              unfold depsOf at hk
              rw [ho] at hk
              simp only [List.mem_map, List.mem_filter, Array.mem_toList_iff] at hk
              obtain ⟨e, ⟨he, hb⟩, rfl⟩ := hk
              exact getD_set_true (hdeps e he hb)
            · rw [getD_set_ne false hij] at hj
              exact getD_set_true (hcl j hj k hk)
          · intro j p hj hl
            by_cases hij : i = j
            · subst hij
              exfalso
              have hli' : i < (listed.setIfInBounds i true).size := by simpa using hli
              simp [hli] at hl
            · rw [getD_set_ne false hij] at hl
              rw [val_put (fun d hd => apart_spec hap hj ho (Ne.symm hij) d hd)]
              exact hun j p hj hl
          · intro j p hj hl
            by_cases hij : i = j
            · subst hij
              rw [ho] at hj
              cases hj
              exact hPi
            · rw [getD_set_ne false hij] at hl
              have h1 := hst j _ X Y (hp j p hj hl) hXY
              rw [val_put (fun d hd => apart_spec hap hj ho (Ne.symm hij) d hd)]
              exact h1
        · refine depsL_of _ fun e he hb => ?_
          cases hq : ops[e.on]? with
          | none => trivial
          | some p => exact hp e.on p hq (hdeps e (by simpa using he) hb)

def StepsL (F : Fence) (m : Nat) (P : Program) (ops : Array Oper) (Q : Exit → Act → World → Prop) (E : World → World → Prop) (Post : Nat → Value → World → Prop) (J : Array Bool → Act → World → Prop) (a0 : Act) (w0 : World) : Nat → List Oper → Prop
  | _, [] => True
  | k, o :: rest => StepL F m P ops Q E Post J a0 w0 k o ∧ StepsL F m P ops Q E Post J a0 w0 (k + 1) rest
theorem stepsL_at : ∀ (l : List Oper) (k : Nat), StepsL F m P ops Q E Post J a0 w0 k l → ∀ j o, l[j]? = some o → StepL F m P ops Q E Post J a0 w0 (k + j) o
  | [], _, _, j, o, h => by simp at h
  | x :: l, k, hs, 0, o, h => by
    simp at h; subst h; exact hs.1
  | x :: l, k, hs, j + 1, o, h => by
    have := stepsL_at l (k + 1) hs.2 j o (by simpa using h)
    rwa [show k + 1 + j = k + (j + 1) from by omega] at this
/-- THE LAW, for a region that is written out, with a tail from number n on. -/
theorem wpIn_region_listed {id : Nat} (hE : Rel E) (n f : Nat) (Post : Nat → Value → World → Prop) (J : Array Bool → Act → World → Prop) (hm : P.follows .mixedOrders = true) (hn : n ≤ ops.size) (hap : apartB ops = true) (hdn : downB' ops n = true) (htl : tailB ops n f = true) (hst : ∀ i v X Y, Post i v X → E X Y → Post i v Y)
    (hJ : J (Array.replicate ops.size false) a0 w0.drew) (hstep : StepsL F m P ops Q E Post J a0 w0 0 (ops.toList.take n))
    (hfin : ∀ a Y, E w0 Y → Same ops a0 a → J (firsts ops.size n) a Y → Left Post a Y 0 (ops.toList.take n) → wpAnyIn F m P .any ops Q (ops.size - n) (firsts ops.size n) a Y) :
    (Code.region id ops true).wpIn F m P Q a0 w0 := by
  refine wpIn_region_any hm ?_
  refine wpAnyIn_listed hE hn hap hdn htl hst (fun i o hi ho => ?_) (fun a Y hY hs hJ hall => ?_) ops.size _ a0 _ (by simp) (by simp) ?_ ?_ (hE.drew w0) ⟨rfl, rfl, fun _ _ => rfl⟩ hJ (fun _ _ _ _ => rfl) ?_
  · have := stepsL_at _ 0 hstep i o (by rw [List.getElem?_take_of_lt hi]; simpa using ho)
    rwa [Nat.zero_add] at this
  · refine hfin a Y hY hs hJ (left_of _ _ fun j o hj => ?_)
    rw [Nat.zero_add]
    have hjn : j < n := by
      have := (List.getElem?_eq_some_iff.1 hj).1
      simp at this
      omega
    rw [List.getElem?_take_of_lt hjn] at hj
    exact hall j o hjn (by simpa using hj)
  · intro j _
    by_cases h : j < ops.size
    · simp [h]
    · simp [h]
  · intro i hi
    by_cases h : i < ops.size
    · simp [h] at hi
    · simp [h] at hi
  · intro i o ho hl
    exfalso
    have hlo := (Array.getElem?_eq_some_iff.1 ho).1
    simp [hlo] at hl
end
end Go.Posts
