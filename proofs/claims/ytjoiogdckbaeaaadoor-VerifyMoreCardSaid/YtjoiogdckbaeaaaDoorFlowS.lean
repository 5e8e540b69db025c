/- An iterator that makes no blocks of its own: what it and the loop's body promise each other, and the law of the loop over it. No program. · Variables that a closure or a loop's body holds (boxes of one cell), and rows of the call's own, under 'all is kept but ..'. · What a loop gathers into a variable's row; a row that is cut; unlike blocks. · A function that ranges over functions again and again leaves a mark for each: what they are, and how it is left. No program. · Two more laws of loops over iterators: one that takes from a store into which the loop's body puts (a number falls with each round); one that makes no blocks of its own, gone over within such a round. No program. -/
import Derived.Test.YtjoiogdckbaeaaaDoorRightsSeq
import Derived.Test.YtjoiogdckbaeaaaDoorCodeOwn
import Derived.Maps.AppendAt
import Derived.OwnWalkIn
import Derived.RangeFuncLeaves
import Derived.RangeFuncRecord
import Derived.Deep.LoopGhost
namespace Go.Proofs.YtjoiogdckbaeaaaDoor
open Go.RowKit
namespace Goes
open Rights (Kept)
/-- what such an iterator promises to whoever goes over it: L: what it yields; c: the blocks that it reads -/
def SeqN {α : Type} (P : Program) (g : Nat) (lb : Array Value) (encs : α → Array Value) (c : Nat → Prop) (L : List α) (w0 : World) : Prop :=
  ∀ (l : Nat) (J Jx : List α → World → Prop) (W : World), Kept (fun k => ¬ c k) w0 W →
    (∀ pre x W1, pre ++ [x] <+: L → J pre W1 → YieldAt Fence.wide 0 P l (encs x) W1 fun e W' => Kept (fun k => ¬ c k) W1 W' ∧
      ((e = .returned (.bool true) ∧ J (pre ++ [x]) W') ∨ (e = .returned (.bool false) ∧ Jx (pre ++ [x]) W'))) →
    J [] W →
    CallsIn Fence.wide 0 P g (#[.func (.yield l) #[] #[]] ++ lb) W fun e W' => (∃ v, e = .returned v) ∧ (J L W' ∨ (∃ pre, pre <+: L ∧ Jx pre W'))
/-- how a round's body may be left -/
def postN {α : Type} (B : Nat) (c : Nat → Prop) (I : List α → World → Prop) (Ix : Code → List α → World → Prop) (xs : List α) (W : World) : Exit → Act → World → Prop
  | .normal, _, W' => Kept (fun k => ¬ c k ∧ k ≠ B ∧ k ≠ B + 1) W W' ∧ I xs W'
  | .ret, _, W' => Kept (fun k => ¬ c k ∧ k ≠ B ∧ k ≠ B + 1) W W' ∧ Ix .ret xs W'
  | .exit id, _, W' => Kept (fun k => ¬ c k ∧ k ≠ B ∧ k ≠ B + 1) W W' ∧ Ix (.exit id) xs W'
  | .goto t, _, W' => Kept (fun k => ¬ c k ∧ k ≠ B ∧ k ≠ B + 1) W W' ∧ Ix (.goto t) xs W'
  | .panic _, _, _ => False
  | .outgrown, _, _ => False
/-- what the loop's book-keeping does is no harm -/
def Steady {β : Type} (B : Nat) (J : β → World → Prop) : Prop := ∀ s A A', J s A → Kept (fun k => k = B ∨ k = B + 1) A A' → J s A'
variable {P : Program}
/-- THE LAW of a loop over such an iterator, in a function's own frame -/
theorem wpIn_rangeFunc_n {α : Type} {g : Operand} {ps : Array Tmp} {assign body : Code} {Q : Exit → Act → World → Prop} {a : Act} {w : World}
    {gf : Nat} {lb : Array Value} (hg : a.eval g = .func (.func gf) #[] lb) (eg : ∀ args w, (callFunc gf args).run P w = .ok (.enter gf args) w)
    {encs : α → Array Value} {c : Nat → Prop} {L : List α} {w0 : World} (hseq : SeqN P gf lb encs c L w0) (hb0 : Kept (fun k => ¬ c k) w0 w) (hcw : ∀ k, c k → k < w.heap.size) (hps : ∀ x, (encs x).size = ps.size)
    (I : List α → World → Prop) (Ix : Code → List α → World → Prop)
    (hI : Steady w.heap.size I) (hIx : ∀ c, Steady w.heap.size (Ix c)) (h0 : I [] w) (a₁ : α → Act)
    (hassign : ∀ (l : Nat) (x : α) (W : World) (K : Act → World → Prop), K (a₁ x) W →
      assign.wpIn (Fence.wide.inRound l) 0 P (Exit.then K (fun _ _ _ => False)) { tmps := (ps.zip (encs x)).foldl (fun t (p, v) => t.setIfInBounds p v) a.tmps, defers := [] } W)
    (hbody : ∀ (l : Nat) (pre : List α) (x : α) (W : World), pre ++ [x] <+: L → w.heap.size + 2 ≤ W.heap.size → I pre W →
      body.wpIn (Fence.wide.inRound l) 0 P (postN w.heap.size c I Ix (pre ++ [x]) W) (a₁ x) W)
    (hdone : ∀ (W : World), I L W → w.heap.size + 2 ≤ W.heap.size → W.heap[w.heap.size]? = some (.deferred (some [])) → Q .normal { a with defers := { target := .collected w.heap.size, args := #[] } :: a.defers } W)
    (hstop : ∀ (c : Code) (pre : List α) (W : World), pre <+: L → Ix c pre W → w.heap.size + 2 ≤ W.heap.size → W.heap[w.heap.size]? = some (.deferred (some [])) → c.wpIn Fence.wide 0 P Q { a with defers := { target := .collected w.heap.size, args := #[] } :: a.defers } W) :
    (Code.rangeFunc g ps assign body).wpIn Fence.wide 0 P Q a w := by
  refine wpIn_rangeFunc ?_
  intro fn hfn
  have hro : Fence.wide.round = none := rfl
  rw [hro]
  obtain ⟨rec, hrec⟩ : ∃ rec : LoopState → Option Code → Loop, rec = fun st pe => { state := st, pending := pe, fn, tmps := a.tmps, params := ps, assign, body, defers := w.heap.size } := ⟨_, rfl⟩
  obtain ⟨W1, hW1⟩ : ∃ W1, (w.alloc (.deferred (some []))).alloc (.loop (rec .ready none)) = W1 := ⟨_, rfl⟩
  have hsz1 : W1.heap.size = w.heap.size + 2 := by rw [← hW1]; simp
  have hL1 : W1.heap[w.heap.size + 1]? = some (.loop (rec .ready none)) := by
    rw [← hW1]; have := World.alloc_heap_new (w.alloc (.deferred (some []))) (.loop (rec .ready none)); rwa [World.size_alloc] at this
  have hK1 : W1.heap[w.heap.size]? = some (.deferred (some [])) := by
    rw [← hW1]; exact (Below.heap_alloc _ _ _ (by simp)).trans (World.alloc_heap_new w _)
  have hkw : Kept (fun _ => False) w W1 := by rw [← hW1]; exact ((Kept.refl _ w).alloc _).alloc _
  have hI1 : I [] W1 := hI [] w W1 h0 (hkw.mono (fun _ _ h => h.elim))
  have hb1 : Kept (fun k => ¬ c k) w0 W1 := by
    rw [← hW1]; exact (hb0.alloc _).alloc _
  refine ⟨w.heap.size + 1, [{ target := .collected w.heap.size, args := #[] }], W1, { target := .fn (.func gf) lb, args := #[.func (.yield (w.heap.size + 1)) #[] #[]] }, W1, gf,
    #[.func (.yield (w.heap.size + 1)) #[] #[]] ++ lb, W1, ?_, ?_, ?_, ?_, fun h => (by simp [Fence.wide] at h), ?_⟩
  · rw [← hW1, hrec]; exact run_enterLoop_outer _ _ _ _ _
  · simp only [resolve, hg]
    simp [go_sem]
  · intro f' _; exact trivial
  · simp [invoke, go_sem, eg]
  · have book : ∀ {I : List α → World → Prop} {s : List α} {A : World} (o : Obj), Steady w.heap.size I → I s A → I s (A.putObj (w.heap.size + 1) o) := by
      intro I s A o hI h
      exact hI s A _ h ((Kept.refl _ A).put (.inl (.inr rfl)) o)
    refine (hseq (w.heap.size + 1)
      (fun pre W => I pre W ∧ w.heap.size + 2 ≤ W.heap.size ∧ W.heap[w.heap.size + 1]? = some (.loop (rec .ready none)) ∧ W.heap[w.heap.size]? = some (.deferred (some [])))
      (fun pre W => ∃ c, Ix c pre W ∧ w.heap.size + 2 ≤ W.heap.size ∧ W.heap[w.heap.size + 1]? = some (.loop (rec .done (some c))) ∧ W.heap[w.heap.size]? = some (.deferred (some [])))
      W1 hb1 ?_ ⟨hI1, by omega, hL1, hK1⟩).mono ?_
    · -- ONE ROUND
      rintro pre x W hpx ⟨hi, hsz, hl, hk⟩
      have hlt : w.heap.size + 1 < W.heap.size := by omega
      have hy := run_yield (P := P) (args := encs x) hl (by rw [hrec]; exact hps x)
      rw [hrec] at hy
      refine ⟨fn, _, assign, body, hy, roundIn_of_wpIn hfn (hassign _ x W _ ⟨_, run_beginRound hl (by rw [hrec]), ?_⟩)⟩
      have hl2 : (W.putObj (w.heap.size + 1) (.loop { rec .ready none with state := .busy })).heap[w.heap.size + 1]? = some (.loop { rec .ready none with state := .busy }) := World.putObj_heap_same hlt
      have hk2 : (W.putObj (w.heap.size + 1) (.loop { rec .ready none with state := .busy })).heap[w.heap.size]? = some (.deferred (some [])) := (World.putObj_heap_other (by omega)).trans hk
      have hkb : Kept (fun k => ¬ c k) W (W.putObj (w.heap.size + 1) (.loop { rec .ready none with state := .busy })) :=
        (Kept.refl _ W).put (.inl fun h => (by have := hcw _ h; omega)) _
      have hsz2 : (W.putObj (w.heap.size + 1) (.loop { rec .ready none with state := .busy })).heap.size = W.heap.size := World.putObj_size
      refine wpIn_mono (hbody (w.heap.size + 1) pre x _ hpx (by rw [hsz2]; exact hsz) (book _ hI hi)) ?_
      generalize hWb : W.putObj (w.heap.size + 1) (.loop { rec .ready none with state := .busy }) = Wb at hl2 hk2 hkb hsz2 ⊢
      have fin : ∀ (jump : Option Code) (W3 : World), Kept (fun k => ¬ c k ∧ k ≠ w.heap.size ∧ k ≠ w.heap.size + 1) Wb W3 →
          (Instr.endRound (w.heap.size + 1) jump).run P W3 = .ok (.bool jump.isNone) (W3.putObj (w.heap.size + 1) (.loop (rec (if jump.isNone then .ready else .done) jump))) ∧
          Kept (fun k => ¬ c k) W (W3.putObj (w.heap.size + 1) (.loop (rec (if jump.isNone then .ready else .done) jump))) ∧
          w.heap.size + 2 ≤ (W3.putObj (w.heap.size + 1) (.loop (rec (if jump.isNone then .ready else .done) jump))).heap.size ∧
          (W3.putObj (w.heap.size + 1) (.loop (rec (if jump.isNone then .ready else .done) jump))).heap[w.heap.size + 1]? = some (.loop (rec (if jump.isNone then .ready else .done) jump)) ∧
          (W3.putObj (w.heap.size + 1) (.loop (rec (if jump.isNone then .ready else .done) jump))).heap[w.heap.size]? = some (.deferred (some [])) := fun jump W3 hk3 => by
        have hl3 := hk3.same hl2 (by rintro ⟨_, _, h⟩; exact h rfl)
        have hk4 := hk3.same hk2 (by rintro ⟨_, h, _⟩; exact h rfl)
        have hs3 := hk3.size
        have := run_endRound (P := P) jump hl3
        rw [hrec] at this ⊢
        exact ⟨this, (hkb.trans (hk3.mono fun k _ h => h.1)).put (.inl fun h => (by have := hcw _ h; omega)) _, by simp; omega,
          World.putObj_heap_same (Array.getElem?_eq_some_iff.1 hl3).1, (World.putObj_heap_other (by omega)).trans hk4⟩
      rintro e a3 W3 hp
      cases e with
      | normal =>
        obtain ⟨hk3, hi3⟩ := hp
        obtain ⟨hr, h1, h4, h5, h6⟩ := fin none W3 hk3
        exact ⟨_, _, hr, h1, .inl ⟨rfl, book _ hI hi3, h4, h5, h6⟩⟩
      | ret =>
        obtain ⟨hk3, hi3⟩ := hp
        obtain ⟨hr, h1, h4, h5, h6⟩ := fin (some .ret) W3 hk3
        exact ⟨_, _, hr, h1, .inr ⟨rfl, .ret, book _ (hIx _) hi3, h4, h5, h6⟩⟩
      | exit id =>
        obtain ⟨hk3, hi3⟩ := hp
        obtain ⟨hr, h1, h4, h5, h6⟩ := fin (some (.exit id)) W3 hk3
        exact ⟨_, _, hr, h1, .inr ⟨rfl, .exit id, book _ (hIx _) hi3, h4, h5, h6⟩⟩
      | goto t =>
        obtain ⟨hk3, hi3⟩ := hp
        obtain ⟨hr, h1, h4, h5, h6⟩ := fin (some (.goto t)) W3 hk3
        exact ⟨_, _, hr, h1, .inr ⟨rfl, .goto t, book _ (hIx _) hi3, h4, h5, h6⟩⟩
      | panic ch => exact hp.elim
      | outgrown => exact hp.elim
    · -- BEHIND THE ITERATOR
      rintro e W2 ⟨⟨v, rfl⟩, (⟨hi, hsz, hl, hk⟩ | ⟨pre, hSp, c, hi, hsz, hl, hk⟩)⟩
      · exact ⟨none, _, by have := run_endLoop (P := P) hl (by rw [hrec]; simp); rw [hrec] at this; exact this, hdone _ (book _ hI hi) (by simpa using hsz) ((World.putObj_heap_other (by omega)).trans hk)⟩
      · exact ⟨some c, _, by have := run_endLoop (P := P) hl (by rw [hrec]; simp); rw [hrec] at this; exact this, hstop c pre _ hSp (book _ (hIx c) hi) (by simpa using hsz) ((World.putObj_heap_other (by omega)).trans hk)⟩
end Goes
end Go.Proofs.YtjoiogdckbaeaaaDoor
namespace Go.Proofs.YtjoiogdckbaeaaaDoor
open Go.RowKit
namespace Goes
open Rights (Kept)
open Isa
set_option linter.unusedVariables false
set_option linter.unusedSimpArgs false
def Box (V : World) (S : Nat) (ts : TypeId) (v : Value) : Prop := V.heap[S]? = some (.cells #[v] ts (0, 0))
theorem Box.cell {V : World} {S : Nat} {ts : TypeId} {v : Value} (h : Box V S ts v) : V.cell? ⟨S, 0, none⟩ = some v := cells_at h 0
theorem Box.free {V : World} {S : Nat} {ts : TypeId} {v : Value} (h : Box V S ts v) : V.frozen? ⟨S, 0, none⟩ = false := by
  have h' : V.heap[S]? = some (.cells #[v] ts (0, 0)) := h
  simp [World.frozen?, h']
theorem Box.lt {V : World} {S : Nat} {ts : TypeId} {v : Value} (h : Box V S ts v) : S < V.heap.size := lt_of_block h
theorem Box.new (V : World) (ts : TypeId) (v : Value) : Box (V.alloc (.cells #[v] ts)) V.heap.size ts v := alloc_new V _
theorem Box.kept {V V' : World} {S : Nat} {ts : TypeId} {v : Value} {p : Nat → Prop} (h : Box V S ts v) (hk : Kept p V V') (hp : ¬ p S) : Box V' S ts v := hk.same h hp
theorem Box.below {V V' : World} {S : Nat} {ts : TypeId} {v : Value} (h : Box V S ts v) {B : Nat} (hb : Below B V V') (hB : V.heap.size ≤ B) : Box V' S ts v := (hb.block S (Nat.lt_of_lt_of_le h.lt hB)).trans h
theorem Box.set {V : World} {S : Nat} {ts : TypeId} {v : Value} (h : Box V S ts v) (u : Value) : Box (V.setCell ⟨S, 0, none⟩ u) S ts u := by
  obtain ⟨hlt, he⟩ := Array.getElem?_eq_some_iff.1 h
  show (V.heap.modify S _)[S]? = _
  rw [Array.getElem?_eq_getElem (by rw [Array.size_modify]; exact hlt), Array.getElem_modify_self, he]
  rfl
theorem Box.other {V : World} {S : Nat} {ts : TypeId} {v : Value} (h : Box V S ts v) {g : Nat} (hne : S ≠ g) (k : Nat) (u : Value) : Box (V.setCell ⟨g, k, none⟩ u) S ts v := (setCell_blk V S g k u hne).trans h
theorem kept_set {p : Nat → Prop} (V : World) (g k : Nat) (u : Value) (hp : p g) : Kept p V (V.setCell ⟨g, k, none⟩ u) := (Kept.refl p V).setCell (x := ⟨g, k, none⟩) (.inl hp) u
theorem kept_grown {X Y : World} {row : Option Nat} (h : X.grownBy Y row) : Kept (fun k => row = some k) X Y := ⟨h.os, h.tape, h.output, h.size, fun k hk hn => h.block k hk (fun e => hn e.symm)⟩
theorem kept_of {p : Nat → Prop} {B : Nat} {w w' : World} (h : Below B w w') (hp : ∀ k, k < w.heap.size → B ≤ k → p k) : Kept p w w' := ⟨h.os, h.tape, h.output, h.size, fun k hk hn => h.block k (by rcases Nat.lt_or_ge k B with q | q; exact q; exact absurd (hp k hk q) hn)⟩
theorem below_of {p : Nat → Prop} {B : Nat} {w w' : World} (h : Kept p w w') (hB : B ≤ w.heap.size) (hp : ∀ k, p k → B ≤ k) : Below B w w' := h.toBelow hB (fun k hk hpk => by have := hp k hpk; omega)
theorem own_kept {w w' : World} {S : Nat} {e : TypeId} {sz : Nat} {v : Value} {n : Nat} {xs : List Value} {p : Nat → Prop} (h : w.ownsRow S e sz v n xs) (hk : Kept p w w') (hp : ∀ g, v.ownBlock = some g → ¬ p g) : w'.ownsRow S e sz v n xs := by
  refine ⟨h.1, ?_⟩
  rcases h.2 with hn | ⟨g, cap, cur, rfl, hg, hgg, rest⟩
  · exact .inl hn
  · exact .inr ⟨g, cap, cur, rfl, hg, hk.same hgg (hp g rfl), rest⟩
theorem own_base {w : World} {S T : Nat} {e : TypeId} {sz : Nat} {v : Value} {n : Nat} {xs : List Value} (h : w.ownsRow S e sz v n xs) (hT : T ≤ S) : w.ownsRow T e sz v n xs := by
  refine ⟨h.1, ?_⟩
  rcases h.2 with hn | ⟨g, cap, cur, rfl, hg, rest⟩
  · exact .inl hn
  · exact .inr ⟨g, cap, cur, rfl, Nat.le_trans hT hg, rest⟩
/-- the block of a row is what it says -/
theorem own_lt {w : World} {S : Nat} {e : TypeId} {sz : Nat} {v : Value} {n : Nat} {xs : List Value} (h : w.ownsRow S e sz v n xs) {g : Nat} (hg : v.ownBlock = some g) : S ≤ g ∧ g < w.heap.size := h.lt g hg
/-- an append whose run is known, inside a fence -/
theorem wpListIn_append_run {F : Fence} {m : Nat} {P : Program} {ops : Array Oper} {rest : List Oper} {o : Oper} {a : Act} {w : World} {Q : Exit → Act → World → Prop} (hgd : o.guard = none) (s x : Operand) (t t' : TypeId)
    (ho : o.op = .call { callee := .builtin .append, args := #[s, x], argTypes := #[t, t'] }) (vs vx v : Value) (w1 : World) (ty : TypeId) (hty : o.type = ty) (hs : a.eval s = vs) (hx : a.eval x = vx) (hrun : (Builtin.append_ #[t, t'] ty #[vs, vx]).run P w = .ok v w1)
    (h : wpListIn F m P ops Q rest (a.put o.dst v) w1) : wpListIn F m P ops Q (o :: rest) a w := by
  refine wpListIn_plain hgd fun K hK' => ?_
  subst hty
  unfold Oper.wpIn
  refine ⟨?_, ?_⟩
  · simp [Oper.about, ho, resolve, Target.leads, Sem.run_pure]
  · rw [Oper.semAt_plain F _ _ (by rw [ho]; intro c hc'; cases hc')]
    simp [execOp, ho, resolve, invoke, builtin, hs, hx, hrun, Result.andThen]
    exact hK' _ _ h
theorem infoInt : (Tryd.prog.info? 3).map (fun i => (i.zero, i.size, i.bytes)) = some (some (.int .i64 0), 1, 8) := by kernel_rfl
/-- one more number behind a row of the call's own -/
theorem app_num {w : World} {S : Nat} {v : Value} {n : Nat} {xs : List Value} (h : w.ownsRow S 3 1 v n xs) (hS : S ≤ w.heap.size) (hn : n ≤ 1000000000) (x : Nat) (ty : TypeId) :
    ∃ a c w', (Builtin.append_ #[58, 58] ty #[v, .slice (some ⟨w.heap.size, 0, none⟩) 1 1]).run Tryd.prog (w.alloc (.cells #[.int .i64 (x : Nat)] 3)) = .ok (.slice a (n + 1 : Nat) c) w' ∧
      w'.ownsRow S 3 1 (.slice a (n + 1 : Nat) c) (n + 1) (xs ++ [.int .i64 (x : Nat)]) ∧ (w.alloc (.cells #[.int .i64 (x : Nat)] 3)).grownBy w' v.ownBlock ∧
      ((Value.slice a (n + 1 : Nat) c).ownBlock = v.ownBlock ∨ ∃ g, (Value.slice a (n + 1 : Nat) c).ownBlock = some g ∧ w.heap.size ≤ g) := by
  obtain ⟨i0, hi, hz0, hz1, hz2⟩ := info_parts infoInt
  obtain ⟨v', w', hr, ho, hg, _, hat⟩ := run_append_own_at (P := Tryd.prog) (w.alloc (.cells #[.int .i64 (x : Nat)] 3)) S 58 ty 3 i0 (.int .i64 0) 1 8 Tryd.underlying58 hi hz0 hz1 hz2 rfl (by decide) v n xs (h.alloc _) ⟨w.heap.size, 0, none⟩ 1 1 [.int .i64 (x : Nat)] rfl (World.news_of_block (heap_alloc_new w _)) (by intro u hu; simp at hu; subst hu; rfl) (by unfold maxLen; omega) (by omega) (by simp; omega)
  obtain ⟨a, c, rfl, _, _⟩ := own_shape ho
  exact ⟨a, c, w', hr, ho, hg, hat.imp id fun e => ⟨_, e, by simp⟩⟩
end Goes
end Go.Proofs.YtjoiogdckbaeaaaDoor
namespace Go.Proofs.YtjoiogdckbaeaaaDoor
open Go.ChangeShapes Go.WideShapes Go.ChangeAt Go.RowKit
namespace Flw
open Isa
open Goes
open Rights (Kept)
set_option linter.unusedVariables false
set_option linter.unusedSimpArgs false
theorem infoIn : (Tryd.prog.info? 3).map (fun i => (i.zero, i.size, i.bytes)) = some (some (.int .i64 0), 1, 8) := by kernel_rfl
/-- between two rounds: the box S has a row with what has come; B: the heap's size when the loop began -/
structure GI (S B : Nat) (w : World) (pre : List Nat) (v : Value) (V : World) : Prop where
  box : Box V S 58 v
  own : V.ownsRow (B + 2) 3 1 v pre.length (nums pre)
  sb : S < B
  bel : Below S w V
theorem gi_steady (S B : Nat) (w : World) : Steady B (fun pre V => ∃ v, GI S B w pre v V) := by
  rintro pre X Y ⟨v, h⟩ hk
  have hs := h.sb
  refine ⟨v, h.box.kept hk (by omega), own_kept h.own hk ?_, hs, h.bel.trans (below_of hk (by have := h.box.lt; omega) (fun k hk => by omega))⟩
  intro g hg
  have := own_lt h.own hg
  omega
theorem gi_next {S B : Nat} {w V Y : World} {pre : List Nat} {x : Nat} {v v' : Value} {o : Obj} (h : GI S B w pre v V) (hV : B + 2 ≤ V.heap.size) (hg : (V.alloc o).grownBy Y v.ownBlock) (ho : Y.ownsRow (B + 2) 3 1 v' (pre.length + 1) (nums pre ++ [.int .i64 (x : Nat)])) :
    Kept (fun k => k = S ∨ B + 2 ≤ k) V (Y.setCell ⟨S, 0, none⟩ v') ∧ GI S B w (pre ++ [x]) v' (Y.setCell ⟨S, 0, none⟩ v') := by
  have hs := h.sb
  have k1 : Kept (fun k => B + 2 ≤ k) V Y := ((Kept.refl _ V).alloc o).trans ((kept_grown hg).mono fun k _ e => (own_lt h.own e).1)
  have k2 : Kept (fun k => k = S ∨ B + 2 ≤ k) V (Y.setCell ⟨S, 0, none⟩ v') := (k1.mono fun k _ e => .inr e).trans (kept_set _ _ _ _ (.inl rfl))
  have b1 : Box Y S 58 v := h.box.kept k1 (by omega)
  refine ⟨k2, b1.set v', ?_, hs, h.bel.trans (below_of k2 (by omega) (fun k hk => by omega))⟩
  have e : nums (pre ++ [x]) = nums pre ++ [.int .i64 (x : Nat)] := by simp [nums]
  rw [e, List.length_append]
  refine own_kept ho (p := fun k => k = S) (kept_set _ _ _ _ rfl) fun g hg2 => ?_
  have := own_lt ho hg2
  omega
theorem own_take {w : World} {S : Nat} {e : TypeId} {g cap n k : Nat} {xs ys : List Value} (h : w.ownsRow S e 1 (.slice (some ⟨g, 0, none⟩) n cap) n (xs ++ ys)) (hk : xs.length = k) (hkn : k ≤ n) : w.ownsRow S e 1 (.slice (some ⟨g, 0, none⟩) k cap) k xs := by
  rcases h.2 with ⟨e1, _⟩ | ⟨g', cap', cur, e1, hg, hgg, h1, h2, h3, h4⟩
  · cases e1
  · injection e1 with e1 e2 e3
    injection e1 with e1
    injection e1 with e1 _ _
    subst e1
    subst e3
    refine ⟨by omega, .inr ⟨g, cap, cur, rfl, hg, hgg, by omega, h2, h3, ?_⟩⟩
    have h5 := congrArg (List.take k) h4
    rw [List.take_take, List.take_left' hk] at h5
    rw [Nat.mul_one] at h5 ⊢
    rwa [Nat.min_eq_left hkn] at h5
/-- blocks that hold unlike things are unlike -/
theorem ne_kind {V : World} {i j : Nat} {a b : Obj} (hi : V.heap[i]? = some a) (hj : V.heap[j]? = some b) (h : a ≠ b) : i ≠ j := fun e => by
  subst e
  rw [hi] at hj
  exact h (Option.some.inj hj)
end Flw
end Go.Proofs.YtjoiogdckbaeaaaDoor
namespace Go.Proofs.YtjoiogdckbaeaaaDoor
open Go.RowKit
namespace Goes
open Rights (Kept)
open Isa
set_option linter.unusedVariables false
set_option linter.unusedSimpArgs false
/-- the marks of these blocks -/
def dfs (rs : List Nat) : List Deferred := rs.map fun r => { target := .collected r, args := #[] }
def Mk (lo : Nat) (rs : List Nat) (w : World) : Prop := rs.Nodup ∧ ∀ r ∈ rs, lo ≤ r ∧ w.heap[r]? = some (.deferred (some []))
theorem Mk.nil (lo : Nat) (w : World) : Mk lo [] w := ⟨List.nodup_nil, by simp⟩
theorem Mk.kept {lo : Nat} {rs : List Nat} {w w' : World} {p : Nat → Prop} (h : Mk lo rs w) (hk : Kept p w w') (hp : ∀ r ∈ rs, ¬ p r) : Mk lo rs w' :=
  ⟨h.1, fun r hr => ⟨(h.2 r hr).1, hk.same (h.2 r hr).2 (hp r hr)⟩⟩
theorem Mk.lt {lo : Nat} {rs : List Nat} {w : World} (h : Mk lo rs w) {r : Nat} (hr : r ∈ rs) : r < w.heap.size := lt_of_block (h.2 r hr).2
theorem Mk.cons {lo : Nat} {rs : List Nat} {w : World} (h : Mk lo rs w) {B : Nat} (hB : w.heap[B]? = some (.deferred (some []))) (hlo : lo ≤ B) (hn : B ∉ rs) : Mk lo (B :: rs) w :=
  ⟨List.nodup_cons.2 ⟨hn, h.1⟩, fun r hr => by
    rcases List.mem_cons.1 hr with e | e
    · subst e; exact ⟨hlo, hB⟩
    · exact h.2 r e⟩
theorem Mk.ne_cells {lo : Nat} {rs : List Nat} {w : World} (h : Mk lo rs w) {r g : Nat} (hr : r ∈ rs) {cs : Array Value} {t : TypeId} {fr : Nat × Nat} (hg : w.heap[g]? = some (.cells cs t fr)) : r ≠ g := by
  intro e
  subst e
  rw [(h.2 r hr).2] at hg
  cases hg
variable {F : Fence} {n : Nat} {P : Program}
/-- how such a function is left -/
theorem leaves_marks {fn : Func} {tmps : Array Value} {R : Ending → World → Prop} {lo : Nat} : ∀ (rs : List Nat) (w : World), Mk lo rs w →
    (∀ w', Kept (fun k => lo ≤ k ∧ ∃ x, w.heap[k]? = some (.deferred x)) w w' → LeavesIn F n P fn tmps R [] .returning w') → LeavesInM F n P fn tmps R (dfs rs) .returning w
  | [], w, _, h => h w (Kept.refl _ w)
  | r :: rs, w, hm, h => by
    have hr := hm.2 r (by simp)
    have hnd := List.nodup_cons.1 hm.1
    refine ⟨by simp, .inl ⟨r, _, rfl, run_takeDeferred hr.2, ?_⟩⟩
    have hk : Kept (fun k => k = r) w (w.putObj r (.deferred none)) := Kept.put (Kept.refl (fun k => k = r) w) (.inl rfl) _
    refine leaves_marks (lo := lo) rs _ ?_ fun w' hk' => h w' ?_
    · exact ⟨hnd.2, fun s hs => ⟨(hm.2 s (by simp [hs])).1, hk.same (hm.2 s (by simp [hs])).2 (fun e => hnd.1 (by have e2 : s = r := e; rw [← e2]; exact hs))⟩⟩
    · refine (hk.mono fun k _ e => ?_).trans (hk'.mono fun k hlt e => ?_)
      · have e2 : k = r := e
        rw [e2]; exact ⟨hr.1, _, hr.2⟩
      · obtain ⟨e1, x, e2⟩ := e
        by_cases q : k = r
        · subst q; exact ⟨e1, _, hr.2⟩
        · rw [World.putObj_heap_other q] at e2
          exact ⟨e1, x, e2⟩
/-- a loop, by a number that falls; what is to be handed on stands behind a variable -/
theorem wp_loop_k {Q : Exit → Act → World → Prop} {a : Act} {w : World} {c : Code} (I : Nat → Act → World → Prop) (n₀ : Nat) (h₀ : I n₀ a w)
    (round : ∀ n a w, I n a w → ∀ (K : Act → World → Prop), (∀ n' a' w', n' < n → I n' a' w' → K a' w') → c.wp P (Exit.then K Q) a w) : (Code.loop c).wp P Q a w :=
  wp_loop_ghost I n₀ h₀ fun n a w h => round n a w h _ fun n' a' w' q r => ⟨n', q, r⟩
end Goes
end Go.Proofs.YtjoiogdckbaeaaaDoor
namespace Go.Proofs.YtjoiogdckbaeaaaDoor
open Go.RowKit
namespace Goes
open Rights (Kept)
set_option linter.unusedVariables false
/-- what an iterator over a store promises: At: the store is this; step: one is taken out; J: what holds when the iterator looks; Jx: how it is left early -/
def SeqD {α σ : Type} (P : Program) (F : Nat) (lb : Array Value) (encs : α → Array Value) (At : σ → World → Prop) (fin : σ → Prop) (step : σ → α → σ → World → World → Prop) : Prop :=
  ∀ (l : Nat) (J : Nat → σ → World → Prop) (Jx : World → Prop) (W : World) (m0 : Nat) (s0 : σ),
    (∀ m s V, J m s V → At s V) →
    (∀ m s x s1 V V', J m s V → step s x s1 V V' → At s1 V' → YieldAt Fence.wide 0 P l (encs x) V' fun e W' =>
      (e = .returned (.bool true) ∧ ∃ m' s', m' < m ∧ J m' s' W') ∨ (e = .returned (.bool false) ∧ Jx W')) →
    J m0 s0 W →
    CallsIn Fence.wide 0 P F (#[.func (.yield l) #[] #[]] ++ lb) W fun e W' => (∃ v, e = .returned v) ∧ ((∃ m s, fin s ∧ J m s W') ∨ Jx W')
/-- how a round's body may be left -/
def postD {σ : Type} (B : Nat) (I : Nat → σ → World → Prop) (Ix : Code → World → Prop) (m : Nat) (V : World) : Exit → Act → World → Prop
  | .normal, _, W' => Kept (fun k => k ≠ B ∧ k ≠ B + 1) V W' ∧ ∃ m' s', m' < m ∧ I m' s' W'
  | .ret, _, W' => Kept (fun k => k ≠ B ∧ k ≠ B + 1) V W' ∧ Ix .ret W'
  | .exit id, _, W' => Kept (fun k => k ≠ B ∧ k ≠ B + 1) V W' ∧ Ix (.exit id) W'
  | .goto t, _, W' => Kept (fun k => k ≠ B ∧ k ≠ B + 1) V W' ∧ Ix (.goto t) W'
  | .panic _, _, _ => False
  | .outgrown, _, _ => False
variable {P : Program}
/-- THE LAW of a loop over an iterator over a store, in a function's own frame -/
theorem wpIn_rangeFunc_d {α σ : Type} {g : Operand} {ps : Array Tmp} {assign body : Code} {Q : Exit → Act → World → Prop} {a : Act} {w : World}
    {gf : Nat} {lb : Array Value} (hg : a.eval g = .func (.func gf) #[] lb) (eg : ∀ args w, (callFunc gf args).run P w = .ok (.enter gf args) w)
    {encs : α → Array Value} {At : σ → World → Prop} {fin : σ → Prop} {step : σ → α → σ → World → World → Prop} (hseq : SeqD P gf lb encs At fin step) (hps : ∀ x, (encs x).size = ps.size)
    (I : Nat → σ → World → Prop) (Ix : Code → World → Prop) (Im : Nat → α → World → Prop)
    (hI : ∀ m s A A', I m s A → Kept (fun k => k = w.heap.size ∨ k = w.heap.size + 1) A A' → I m s A')
    (hIx : ∀ c A A', Ix c A → Kept (fun k => k = w.heap.size ∨ k = w.heap.size + 1) A A' → Ix c A')
    (hIm : ∀ m x A A', Im m x A → Kept (fun k => k = w.heap.size ∨ k = w.heap.size + 1) A A' → Im m x A')
    (hAt : ∀ m s V, I m s V → At s V)
    (hmid : ∀ m s x s1 V V', I m s V → step s x s1 V V' → At s1 V' → Im m x V' ∧ Kept (fun k => k ≠ w.heap.size ∧ k ≠ w.heap.size + 1) V V')
    (m0 : Nat) (s0 : σ) (h0 : I m0 s0 w) (a₁ : α → Act)
    (hassign : ∀ (l : Nat) (x : α) (W : World) (K : Act → World → Prop), K (a₁ x) W →
      assign.wpIn (Fence.wide.inRound l) 0 P (Exit.then K (fun _ _ _ => False)) { tmps := (ps.zip (encs x)).foldl (fun t (p, v) => t.setIfInBounds p v) a.tmps, defers := [] } W)
    (hbody : ∀ (m : Nat) (x : α) (V : World), w.heap.size + 2 ≤ V.heap.size → (∃ r, V.heap[w.heap.size + 1]? = some (.loop r)) → Im m x V →
      body.wpIn (Fence.wide.inRound (w.heap.size + 1)) 0 P (postD w.heap.size I Ix m V) (a₁ x) V)
    (hdone : ∀ (m : Nat) (s : σ) (W : World), fin s → I m s W → w.heap.size + 2 ≤ W.heap.size → W.heap[w.heap.size]? = some (.deferred (some [])) → Q .normal { a with defers := { target := .collected w.heap.size, args := #[] } :: a.defers } W)
    (hstop : ∀ (c : Code) (W : World), Ix c W → w.heap.size + 2 ≤ W.heap.size → W.heap[w.heap.size]? = some (.deferred (some [])) → c.wpIn Fence.wide 0 P Q { a with defers := { target := .collected w.heap.size, args := #[] } :: a.defers } W) :
    (Code.rangeFunc g ps assign body).wpIn Fence.wide 0 P Q a w := by
  refine wpIn_rangeFunc ?_
  intro fn hfn
  have hro : Fence.wide.round = none := rfl
  rw [hro]
  obtain ⟨rec, hrec⟩ : ∃ rec : LoopState → Option Code → Loop, rec = fun st pe => { state := st, pending := pe, fn, tmps := a.tmps, params := ps, assign, body, defers := w.heap.size } := ⟨_, rfl⟩
  obtain ⟨W1, hW1⟩ : ∃ W1, (w.alloc (.deferred (some []))).alloc (.loop (rec .ready none)) = W1 := ⟨_, rfl⟩
  have hsz1 : W1.heap.size = w.heap.size + 2 := by rw [← hW1]; simp
  have hL1 : W1.heap[w.heap.size + 1]? = some (.loop (rec .ready none)) := by
    rw [← hW1]; have := World.alloc_heap_new (w.alloc (.deferred (some []))) (.loop (rec .ready none)); rwa [World.size_alloc] at this
  have hK1 : W1.heap[w.heap.size]? = some (.deferred (some [])) := by
    rw [← hW1]; exact (Below.heap_alloc _ _ _ (by simp)).trans (World.alloc_heap_new w _)
  have hkw : Kept (fun _ => False) w W1 := by rw [← hW1]; exact ((Kept.refl _ w).alloc _).alloc _
  have hI1 : I m0 s0 W1 := hI m0 s0 w W1 h0 (hkw.mono (fun _ _ h => h.elim))
  refine ⟨w.heap.size + 1, [{ target := .collected w.heap.size, args := #[] }], W1, { target := .fn (.func gf) lb, args := #[.func (.yield (w.heap.size + 1)) #[] #[]] }, W1, gf,
    #[.func (.yield (w.heap.size + 1)) #[] #[]] ++ lb, W1, ?_, ?_, ?_, ?_, fun h => (by simp [Fence.wide] at h), ?_⟩
  · rw [← hW1, hrec]; exact run_enterLoop_outer _ _ _ _ _
  · simp only [resolve, hg]
    simp [go_sem]
  · intro f' _; exact trivial
  · simp [invoke, go_sem, eg]
  · refine (hseq (w.heap.size + 1)
      (fun m s W => I m s W ∧ w.heap.size + 2 ≤ W.heap.size ∧ W.heap[w.heap.size + 1]? = some (.loop (rec .ready none)) ∧ W.heap[w.heap.size]? = some (.deferred (some [])))
      (fun W => ∃ c, Ix c W ∧ w.heap.size + 2 ≤ W.heap.size ∧ W.heap[w.heap.size + 1]? = some (.loop (rec .done (some c))) ∧ W.heap[w.heap.size]? = some (.deferred (some [])))
      W1 m0 s0 (fun m s V h => hAt m s V h.1) ?_ ⟨hI1, by omega, hL1, hK1⟩).mono ?_
    · -- ONE ROUND
      rintro m s x s1 V0 W ⟨hi0, hsz0, hl0, hk0⟩ hst hat
      obtain ⟨hi, hks⟩ := hmid m s x s1 V0 W hi0 hst hat
      have hsz : w.heap.size + 2 ≤ W.heap.size := Nat.le_trans hsz0 hks.size
      have hl := hks.same hl0 (by rintro ⟨_, h⟩; exact h rfl)
      have hk := hks.same hk0 (by rintro ⟨h, _⟩; exact h rfl)
      have hlt : w.heap.size + 1 < W.heap.size := by omega
      have hy := run_yield (P := P) (args := encs x) hl (by rw [hrec]; exact hps x)
      rw [hrec] at hy
      refine ⟨fn, _, assign, body, hy, roundIn_of_wpIn hfn (hassign _ x W _ ⟨_, run_beginRound hl (by rw [hrec]), ?_⟩)⟩
      have hl2 : (W.putObj (w.heap.size + 1) (.loop { rec .ready none with state := .busy })).heap[w.heap.size + 1]? = some (.loop { rec .ready none with state := .busy }) := World.putObj_heap_same hlt
      have hk2 : (W.putObj (w.heap.size + 1) (.loop { rec .ready none with state := .busy })).heap[w.heap.size]? = some (.deferred (some [])) := (World.putObj_heap_other (by omega)).trans hk
      have hkb : Kept (fun k => k = w.heap.size ∨ k = w.heap.size + 1) W (W.putObj (w.heap.size + 1) (.loop { rec .ready none with state := .busy })) :=
        (Kept.refl _ W).put (.inl (.inr rfl)) _
      have hsz2 : (W.putObj (w.heap.size + 1) (.loop { rec .ready none with state := .busy })).heap.size = W.heap.size := World.putObj_size
      refine wpIn_mono (hbody m x _ (by rw [hsz2]; exact hsz) ⟨_, hl2⟩ (hIm m x _ _ hi hkb)) ?_
      generalize hWb : W.putObj (w.heap.size + 1) (.loop { rec .ready none with state := .busy }) = Wb at hl2 hk2 hkb hsz2 ⊢
      have fin2 : ∀ (jump : Option Code) (W3 : World), Kept (fun k => k ≠ w.heap.size ∧ k ≠ w.heap.size + 1) Wb W3 →
          (Instr.endRound (w.heap.size + 1) jump).run P W3 = .ok (.bool jump.isNone) (W3.putObj (w.heap.size + 1) (.loop (rec (if jump.isNone then .ready else .done) jump))) ∧
          Kept (fun k => k = w.heap.size ∨ k = w.heap.size + 1) W3 (W3.putObj (w.heap.size + 1) (.loop (rec (if jump.isNone then .ready else .done) jump))) ∧
          w.heap.size + 2 ≤ (W3.putObj (w.heap.size + 1) (.loop (rec (if jump.isNone then .ready else .done) jump))).heap.size ∧
          (W3.putObj (w.heap.size + 1) (.loop (rec (if jump.isNone then .ready else .done) jump))).heap[w.heap.size + 1]? = some (.loop (rec (if jump.isNone then .ready else .done) jump)) ∧
          (W3.putObj (w.heap.size + 1) (.loop (rec (if jump.isNone then .ready else .done) jump))).heap[w.heap.size]? = some (.deferred (some [])) := fun jump W3 hk3 => by
        have hl3 := hk3.same hl2 (by rintro ⟨_, h⟩; exact h rfl)
        have hk4 := hk3.same hk2 (by rintro ⟨h, _⟩; exact h rfl)
        have hs3 := hk3.size
        have := run_endRound (P := P) jump hl3
        rw [hrec] at this ⊢
        exact ⟨this, (Kept.refl _ W3).put (.inl (.inr rfl)) _, by simp; omega,
          World.putObj_heap_same (Array.getElem?_eq_some_iff.1 hl3).1, (World.putObj_heap_other (by omega)).trans hk4⟩
      rintro e a3 W3 hp
      cases e with
      | normal =>
        obtain ⟨hk3, m', s', hlm, hi3⟩ := hp
        obtain ⟨hr, h1, h4, h5, h6⟩ := fin2 none W3 hk3
        exact ⟨_, _, hr, .inl ⟨rfl, m', s', hlm, hI m' s' _ _ hi3 h1, h4, h5, h6⟩⟩
      | ret =>
        obtain ⟨hk3, hi3⟩ := hp
        obtain ⟨hr, h1, h4, h5, h6⟩ := fin2 (some .ret) W3 hk3
        exact ⟨_, _, hr, .inr ⟨rfl, .ret, hIx _ _ _ hi3 h1, h4, h5, h6⟩⟩
      | exit id =>
        obtain ⟨hk3, hi3⟩ := hp
        obtain ⟨hr, h1, h4, h5, h6⟩ := fin2 (some (.exit id)) W3 hk3
        exact ⟨_, _, hr, .inr ⟨rfl, .exit id, hIx _ _ _ hi3 h1, h4, h5, h6⟩⟩
      | goto t =>
        obtain ⟨hk3, hi3⟩ := hp
        obtain ⟨hr, h1, h4, h5, h6⟩ := fin2 (some (.goto t)) W3 hk3
        exact ⟨_, _, hr, .inr ⟨rfl, .goto t, hIx _ _ _ hi3 h1, h4, h5, h6⟩⟩
      | panic ch => exact hp.elim
      | outgrown => exact hp.elim
    · -- BEHIND THE ITERATOR
      rintro e W2 ⟨⟨v, rfl⟩, (⟨m, s, hfi, hi, hsz, hl, hk⟩ | ⟨c, hi, hsz, hl, hk⟩)⟩
      · exact ⟨none, _, by have := run_endLoop (P := P) hl (by rw [hrec]; simp); rw [hrec] at this; exact this, hdone m s _ hfi (hI m s _ _ hi ((Kept.refl _ W2).put (.inl (.inr rfl)) _)) (by simpa using hsz) ((World.putObj_heap_other (by omega)).trans hk)⟩
      · exact ⟨some c, _, by have := run_endLoop (P := P) hl (by rw [hrec]; simp); rw [hrec] at this; exact this, hstop c _ (hIx c _ _ hi ((Kept.refl _ W2).put (.inl (.inr rfl)) _)) (by simpa using hsz) ((World.putObj_heap_other (by omega)).trans hk)⟩
/-- how an inner round's body may be left -/
def postR {α : Type} (B : Nat) (c : Nat → Prop) (I : List α → World → Prop) (Ix : Code → List α → World → Prop) (xs : List α) (W : World) : Exit → Act → World → Prop
  | .normal, _, W' => Kept (fun k => ¬ c k ∧ k ≠ B) W W' ∧ I xs W'
  | .ret, _, W' => Kept (fun k => ¬ c k ∧ k ≠ B) W W' ∧ Ix .ret xs W'
  | .exit id, _, W' => Kept (fun k => ¬ c k ∧ k ≠ B) W W' ∧ Ix (.exit id) xs W'
  | .goto t, _, W' => Kept (fun k => ¬ c k ∧ k ≠ B) W W' ∧ Ix (.goto t) xs W'
  | .panic _, _, _ => False
  | .outgrown, _, _ => False
/-- THE LAW of a loop over an iterator that makes nothing, within a round of another loop -/
theorem wpIn_rangeFunc_r {α : Type} {g : Operand} {ps : Array Tmp} {assign body : Code} {Q : Exit → Act → World → Prop} {a : Act} {w : World} {l₀ : Nat} (hl₀ : ∃ r₀, w.heap[l₀]? = some (.loop r₀))
    {gf : Nat} {lb : Array Value} (hg : a.eval g = .func (.func gf) #[] lb) (eg : ∀ args w, (callFunc gf args).run P w = .ok (.enter gf args) w)
    {encs : α → Array Value} {c : Nat → Prop} {L : List α} {w0 : World} (hseq : SeqN P gf lb encs c L w0) (hb0 : Kept (fun k => ¬ c k) w0 w) (hcw : ∀ k, c k → k < w.heap.size) (hps : ∀ x, (encs x).size = ps.size)
    (I : List α → World → Prop) (Ix : Code → List α → World → Prop)
    (hI : ∀ s A A', I s A → Kept (fun k => k = w.heap.size) A A' → I s A') (hIx : ∀ c s A A', Ix c s A → Kept (fun k => k = w.heap.size) A A' → Ix c s A') (h0 : I [] w) (a₁ : α → Act)
    (hassign : ∀ (l : Nat) (x : α) (W : World) (K : Act → World → Prop), K (a₁ x) W →
      assign.wpIn (Fence.wide.inRound l) 0 P (Exit.then K (fun _ _ _ => False)) { tmps := (ps.zip (encs x)).foldl (fun t (p, v) => t.setIfInBounds p v) a.tmps, defers := [] } W)
    (hbody : ∀ (l : Nat) (pre : List α) (x : α) (W : World), pre ++ [x] <+: L → w.heap.size + 1 ≤ W.heap.size → I pre W →
      body.wpIn (Fence.wide.inRound l) 0 P (postR w.heap.size c I Ix (pre ++ [x]) W) (a₁ x) W)
    (hdone : ∀ (W : World), I L W → w.heap.size + 1 ≤ W.heap.size → Q .normal a W)
    (hstop : ∀ (c : Code) (pre : List α) (W : World), pre <+: L → Ix c pre W → w.heap.size + 1 ≤ W.heap.size → c.wpIn (Fence.wide.inRound l₀) 0 P Q a W) :
    (Code.rangeFunc g ps assign body).wpIn (Fence.wide.inRound l₀) 0 P Q a w := by
  obtain ⟨r₀, hl₀⟩ := hl₀
  refine wpIn_rangeFunc ?_
  intro fn hfn
  have hro : (Fence.wide.inRound l₀).round = some l₀ := rfl
  rw [hro]
  obtain ⟨rec, hrec⟩ : ∃ rec : LoopState → Option Code → Loop, rec = fun st pe => { state := st, pending := pe, fn, tmps := a.tmps, params := ps, assign, body, defers := r₀.defers } := ⟨_, rfl⟩
  obtain ⟨W1, hW1⟩ : ∃ W1, w.alloc (.loop (rec .ready none)) = W1 := ⟨_, rfl⟩
  have hsz1 : W1.heap.size = w.heap.size + 1 := by rw [← hW1]; simp
  have hL1 : W1.heap[w.heap.size]? = some (.loop (rec .ready none)) := by
    rw [← hW1]; exact World.alloc_heap_new w _
  have hkw : Kept (fun _ => False) w W1 := by rw [← hW1]; exact (Kept.refl _ w).alloc _
  have hI1 : I [] W1 := hI [] w W1 h0 (hkw.mono (fun _ _ h => h.elim))
  have hb1 : Kept (fun k => ¬ c k) w0 W1 := by
    rw [← hW1]; exact hb0.alloc _
  refine ⟨w.heap.size, [], W1, { target := .fn (.func gf) lb, args := #[.func (.yield w.heap.size) #[] #[]] }, W1, gf,
    #[.func (.yield w.heap.size) #[] #[]] ++ lb, W1, ?_, ?_, ?_, ?_, fun h => (by simp [Fence.wide, Fence.inRound] at h), ?_⟩
  · rw [← hW1, hrec]; exact run_enterLoop_inner hl₀ _ _ _ _ _
  · simp only [resolve, hg]
    simp [go_sem]
  · intro f' _; exact trivial
  · simp [invoke, go_sem, eg]
  · refine CallsIn.inRound l₀ ?_
    have book : ∀ {I : List α → World → Prop} {s : List α} {A : World} (o : Obj), (∀ s A A', I s A → Kept (fun k => k = w.heap.size) A A' → I s A') → I s A → I s (A.putObj w.heap.size o) := by
      intro I s A o hI h
      exact hI s A _ h (Kept.put (p := fun k => k = w.heap.size) (Kept.refl _ A) (.inl rfl) o)
    refine (hseq w.heap.size
      (fun pre W => I pre W ∧ w.heap.size + 1 ≤ W.heap.size ∧ W.heap[w.heap.size]? = some (.loop (rec .ready none)))
      (fun pre W => ∃ c, Ix c pre W ∧ w.heap.size + 1 ≤ W.heap.size ∧ W.heap[w.heap.size]? = some (.loop (rec .done (some c))))
      W1 hb1 ?_ ⟨hI1, by omega, hL1⟩).mono ?_
    · -- ONE ROUND
      rintro pre x W hpx ⟨hi, hsz, hl⟩
      have hlt : w.heap.size < W.heap.size := by omega
      have hy := run_yield (P := P) (args := encs x) hl (by rw [hrec]; exact hps x)
      rw [hrec] at hy
      refine ⟨fn, _, assign, body, hy, roundIn_of_wpIn hfn (hassign _ x W _ ⟨_, run_beginRound hl (by rw [hrec]), ?_⟩)⟩
      have hl2 : (W.putObj w.heap.size (.loop { rec .ready none with state := .busy })).heap[w.heap.size]? = some (.loop { rec .ready none with state := .busy }) := World.putObj_heap_same hlt
      have hkb : Kept (fun k => ¬ c k) W (W.putObj w.heap.size (.loop { rec .ready none with state := .busy })) :=
        (Kept.refl _ W).put (.inl fun h => (by have := hcw _ h; omega)) _
      have hsz2 : (W.putObj w.heap.size (.loop { rec .ready none with state := .busy })).heap.size = W.heap.size := World.putObj_size
      refine wpIn_mono (hbody w.heap.size pre x _ hpx (by rw [hsz2]; exact hsz) (book _ hI hi)) ?_
      generalize hWb : W.putObj w.heap.size (.loop { rec .ready none with state := .busy }) = Wb at hl2 hkb hsz2 ⊢
      have fin : ∀ (jump : Option Code) (W3 : World), Kept (fun k => ¬ c k ∧ k ≠ w.heap.size) Wb W3 →
          (Instr.endRound w.heap.size jump).run P W3 = .ok (.bool jump.isNone) (W3.putObj w.heap.size (.loop (rec (if jump.isNone then .ready else .done) jump))) ∧
          Kept (fun k => ¬ c k) W (W3.putObj w.heap.size (.loop (rec (if jump.isNone then .ready else .done) jump))) ∧
          w.heap.size + 1 ≤ (W3.putObj w.heap.size (.loop (rec (if jump.isNone then .ready else .done) jump))).heap.size ∧
          (W3.putObj w.heap.size (.loop (rec (if jump.isNone then .ready else .done) jump))).heap[w.heap.size]? = some (.loop (rec (if jump.isNone then .ready else .done) jump)) := fun jump W3 hk3 => by
        have hl3 := hk3.same hl2 (by rintro ⟨_, h⟩; exact h rfl)
        have hs3 := hk3.size
        have := run_endRound (P := P) jump hl3
        rw [hrec] at this ⊢
        exact ⟨this, (hkb.trans (hk3.mono fun k _ h => h.1)).put (.inl fun h => (by have := hcw _ h; omega)) _, by simp; omega,
          World.putObj_heap_same (Array.getElem?_eq_some_iff.1 hl3).1⟩
      rintro e a3 W3 hp
      cases e with
      | normal =>
        obtain ⟨hk3, hi3⟩ := hp
        obtain ⟨hr, h1, h4, h5⟩ := fin none W3 hk3
        exact ⟨_, _, hr, h1, .inl ⟨rfl, book _ hI hi3, h4, h5⟩⟩
      | ret =>
        obtain ⟨hk3, hi3⟩ := hp
        obtain ⟨hr, h1, h4, h5⟩ := fin (some .ret) W3 hk3
        exact ⟨_, _, hr, h1, .inr ⟨rfl, .ret, book _ (hIx _) hi3, h4, h5⟩⟩
      | exit id =>
        obtain ⟨hk3, hi3⟩ := hp
        obtain ⟨hr, h1, h4, h5⟩ := fin (some (.exit id)) W3 hk3
        exact ⟨_, _, hr, h1, .inr ⟨rfl, .exit id, book _ (hIx _) hi3, h4, h5⟩⟩
      | goto t =>
        obtain ⟨hk3, hi3⟩ := hp
        obtain ⟨hr, h1, h4, h5⟩ := fin (some (.goto t)) W3 hk3
        exact ⟨_, _, hr, h1, .inr ⟨rfl, .goto t, book _ (hIx _) hi3, h4, h5⟩⟩
      | panic ch => exact hp.elim
      | outgrown => exact hp.elim
    · -- BEHIND THE ITERATOR
      rintro e W2 ⟨⟨v, rfl⟩, (⟨hi, hsz, hl⟩ | ⟨pre, hSp, c, hi, hsz, hl⟩)⟩
      · exact ⟨none, _, by have := run_endLoop (P := P) hl (by rw [hrec]; simp); rw [hrec] at this; exact this, hdone _ (book _ hI hi) (by simpa using hsz)⟩
      · exact ⟨some c, _, by have := run_endLoop (P := P) hl (by rw [hrec]; simp); rw [hrec] at this; exact this, hstop c pre _ hSp (book _ (hIx c) hi) (by simpa using hsz)⟩
end Goes
end Go.Proofs.YtjoiogdckbaeaaaDoor
