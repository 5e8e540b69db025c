/- An iterator that keeps a state of its own in memory: what it and the loop's body promise each other, and the law of the loop over it. No program. -/
import Derived.RangeFuncNested
import Derived.RangeFuncBound
import Derived.RangeFuncLeaves
namespace Go.Proofs.YtjoiogdckbaeaaaDoor
open Go.RowKit
namespace Rights
/-- all blocks that were there are as they were, but those that may be written; no block has gone -/
structure Kept (p : Nat → Prop) (w w' : World) : Prop where
  os : w'.os = w.os
  tape : w'.tape = w.tape
  output : w'.output = w.output
  size : w.heap.size ≤ w'.heap.size
  block : ∀ k, k < w.heap.size → ¬ p k → w'.heap[k]? = w.heap[k]?
theorem Kept.refl (p : Nat → Prop) (w : World) : Kept p w w := ⟨rfl, rfl, rfl, Nat.le_refl _, fun _ _ _ => rfl⟩
theorem Kept.trans {p : Nat → Prop} {a b c : World} (h : Kept p a b) (k : Kept p b c) : Kept p a c :=
  ⟨k.os.trans h.os, k.tape.trans h.tape, k.output.trans h.output, Nat.le_trans h.size k.size, fun i hi hp => (k.block i (Nat.lt_of_lt_of_le hi h.size) hp).trans (h.block i hi hp)⟩
theorem Kept.mono {p q : Nat → Prop} {w w' : World} (h : Kept p w w') (hq : ∀ k, k < w.heap.size → p k → q k) : Kept q w w' := ⟨h.os, h.tape, h.output, h.size, fun k hk hp => h.block k hk (fun x => hp (hq k hk x))⟩
/-- one part behind the other, each with its own blocks -/
theorem Kept.trans' {p q : Nat → Prop} {a b c : World} (h : Kept p a b) (k : Kept q b c) (hq : ∀ i, i < a.heap.size → q i → p i) : Kept p a c :=
  ⟨k.os.trans h.os, k.tape.trans h.tape, k.output.trans h.output, Nat.le_trans h.size k.size, fun i hi hp => (k.block i (Nat.lt_of_lt_of_le hi h.size) (fun x => hp (hq i hi x))).trans (h.block i hi hp)⟩
theorem Kept.alloc {p : Nat → Prop} {a w : World} (h : Kept p a w) (o : Obj) : Kept p a (w.alloc o) :=
  h.trans ⟨rfl, rfl, rfl, by simp, fun k hk _ => Below.heap_alloc _ _ _ hk⟩
theorem Kept.setCell {p : Nat → Prop} {a w : World} (h : Kept p a w) {x : Addr} (hp : p x.block ∨ a.heap.size ≤ x.block) (u : Value) : Kept p a (w.setCell x u) :=
  ⟨h.os, h.tape, h.output, by have := h.size; simpa [World.setCell] using this, fun k hk hn => by
    rw [Below.heap_setCell _ _ _ _ (fun e => by rcases hp with hp | hp; exact hn (e ▸ hp); omega)]; exact h.block k hk hn⟩
theorem Kept.drew {p : Nat → Prop} {a w : World} (h : Kept p a w) : Kept p a w.drew := ⟨h.os, h.tape, h.output, h.size, h.block⟩
theorem Kept.put {p : Nat → Prop} {a w : World} (h : Kept p a w) {r : Nat} (hp : p r ∨ a.heap.size ≤ r) (o : Obj) : Kept p a (w.putObj r o) :=
  ⟨h.os, h.tape, h.output, by have := h.size; simpa using this, fun k hk hn => by
    rw [World.putObj_heap_other (fun e => by rcases hp with hp | hp; exact hn (e ▸ hp); omega)]; exact h.block k hk hn⟩
theorem Kept.of_below {p : Nat → Prop} {w w' : World} (h : Below w.heap.size w w') : Kept p w w' := ⟨h.os, h.tape, h.output, h.size, fun k hk _ => h.block k hk⟩
theorem Kept.toBelow {p : Nat → Prop} {w w' : World} (h : Kept p w w') {B : Nat} (hB : B ≤ w.heap.size) (hp : ∀ k, k < B → ¬ p k) : Below B w w' := ⟨h.os, h.tape, h.output, h.size, fun k hk => h.block k (by omega) (hp k hk)⟩
theorem Kept.below {B : Nat} {w w' : World} (h : Below B w w') : Kept (fun k => B ≤ k) w w' := ⟨h.os, h.tape, h.output, h.size, fun k _ hp => h.block k (by omega)⟩
theorem Kept.cell {p : Nat → Prop} {w w' : World} (h : Kept p w w') {a : Addr} {v : Value} (hc : w.cell? a = some v) (hp : ¬ p a.block) : w'.cell? a = some v :=
  (World.cell?_of_block (h.block _ (World.block_lt_of_cell? _ _ hc) hp)).trans hc
theorem Kept.same {p : Nat → Prop} {w w' : World} (h : Kept p w w') {k : Nat} {o : Obj} (hc : w.heap[k]? = some o) (hp : ¬ p k) : w'.heap[k]? = some o :=
  (h.block k (Array.getElem?_eq_some_iff.1 hc).1 hp).trans hc

/-- the steps of the one that owns q (it may take what is new), and of the book-keeping's blocks D, do it no harm -/
def Stable {β : Type} (D : Nat → Prop) (J : β → (Nat → Prop) → World → Prop) : Prop :=
  ∀ s q q' A B, J s q A → Kept (fun k => q k ∨ D k) A B → (∀ k, q' k → (q k ∨ A.heap.size ≤ k) ∧ k < B.heap.size) → J s q' B
def none' : Nat → Prop := fun _ => False
/-- what an iterator promises to whoever goes over it: L: what it yields; q: the blocks that it has made for itself; c: those that it reads besides -/
def SeqQ {α : Type} (P : Program) (g : Nat) (lb : Array Value) (encs : α → Array Value) (c : Nat → Prop) (L : List α) (w0 : World) : Prop :=
  ∀ (l : Nat) (J Jx : List α → (Nat → Prop) → World → Prop) (W : World), Kept (fun k => ¬ c k) w0 W → Stable none' J → Stable none' Jx →
    (∀ pre x q W1, pre ++ [x] <+: L → J pre q W1 → YieldAt Fence.wide 0 P l (encs x) W1 fun e W' => Kept (fun k => ¬ q k ∧ ¬ c k) W1 W' ∧
      ((e = .returned (.bool true) ∧ J (pre ++ [x]) q W') ∨ (e = .returned (.bool false) ∧ Jx (pre ++ [x]) q W'))) →
    J [] (fun _ => False) W →
    CallsIn Fence.wide 0 P g (#[.func (.yield l) #[] #[]] ++ lb) W fun e W' => (∃ v, e = .returned v) ∧ ((∃ q, J L q W') ∨ (∃ pre q, pre <+: L ∧ Jx pre q W'))
/-- how a round's body may be left -/
def postQ {α : Type} (B : Nat) (c : Nat → Prop) (I : List α → (Nat → Prop) → World → Prop) (Ix : Code → List α → (Nat → Prop) → World → Prop) (xs : List α) (q : Nat → Prop) (W : World) : Exit → Act → World → Prop
  | .normal, _, W' => Kept (fun k => ¬ q k ∧ ¬ c k ∧ k ≠ B ∧ k ≠ B + 1) W W' ∧ I xs q W'
  | .ret, _, W' => Kept (fun k => ¬ q k ∧ ¬ c k ∧ k ≠ B ∧ k ≠ B + 1) W W' ∧ Ix .ret xs q W'
  | .exit id, _, W' => Kept (fun k => ¬ q k ∧ ¬ c k ∧ k ≠ B ∧ k ≠ B + 1) W W' ∧ Ix (.exit id) xs q W'
  | .goto t, _, W' => Kept (fun k => ¬ q k ∧ ¬ c k ∧ k ≠ B ∧ k ≠ B + 1) W W' ∧ Ix (.goto t) xs q W'
  | .panic _, _, _ => False
  | .outgrown, _, _ => False
theorem yield_any {P : Program} {l : Nat} {args : Array Value} {W : World} {R : Ending → World → Prop} (h : YieldAt Fence.wide 0 P l args W R) (l2 m : Nat) : YieldAt (Fence.wide.inRound l2) m P l args W R := by
  obtain ⟨fn, tmps, assign, body, hy, h1, h2⟩ := h
  exact ⟨fn, tmps, assign, body, hy, h1, fun c cs _ => h2 c cs (room_wide _)⟩
theorem yield_wide {P : Program} {l : Nat} {args : Array Value} {W : World} {R : Ending → World → Prop} (h : YieldAt Fence.wide 0 P l args W R) (m : Nat) : YieldAt Fence.wide m P l args W R := by
  obtain ⟨fn, tmps, assign, body, hy, h1, h2⟩ := h
  exact ⟨fn, tmps, assign, body, hy, h1, fun c cs _ => h2 c cs (room_wide _)⟩
variable {P : Program}
/-- THE LAW of a loop over such an iterator, in a function's own frame -/
theorem wpIn_rangeFunc_q {α : Type} {g : Operand} {ps : Array Tmp} {assign body : Code} {Q : Exit → Act → World → Prop} {a : Act} {w : World}
    {gf : Nat} {lb : Array Value} (hg : a.eval g = .func (.func gf) #[] lb) (eg : ∀ args w, (callFunc gf args).run P w = .ok (.enter gf args) w)
    {encs : α → Array Value} {c : Nat → Prop} {L : List α} {w0 : World} (hseq : SeqQ P gf lb encs c L w0) (hb0 : Kept (fun k => ¬ c k) w0 w) (hcw : ∀ k, c k → k < w.heap.size) (hps : ∀ x, (encs x).size = ps.size)
    (I : List α → (Nat → Prop) → World → Prop) (Ix : Code → List α → (Nat → Prop) → World → Prop)
    (hI : Stable (fun k => k = w.heap.size ∨ k = w.heap.size + 1) I) (hIx : ∀ c, Stable (fun k => k = w.heap.size ∨ k = w.heap.size + 1) (Ix c)) (h0 : I [] (fun _ => False) w) (a₁ : α → Act)
    (hassign : ∀ (l : Nat) (x : α) (W : World) (K : Act → World → Prop), K (a₁ x) W →
      assign.wpIn (Fence.wide.inRound l) 0 P (Exit.then K (fun _ _ _ => False)) { tmps := (ps.zip (encs x)).foldl (fun t (p, v) => t.setIfInBounds p v) a.tmps, defers := [] } W)
    (hbody : ∀ (l : Nat) (pre : List α) (x : α) (q : Nat → Prop) (W : World), pre ++ [x] <+: L → (∀ k, q k → w.heap.size + 2 ≤ k ∧ k < W.heap.size) → w.heap.size + 2 ≤ W.heap.size → I pre q W →
      body.wpIn (Fence.wide.inRound l) 0 P (postQ w.heap.size c I Ix (pre ++ [x]) q W) (a₁ x) W)
    (hdone : ∀ (q : Nat → Prop) (W : World), I L q W → w.heap.size + 2 ≤ W.heap.size → (∀ k, q k → w.heap.size + 2 ≤ k ∧ k < W.heap.size) → W.heap[w.heap.size]? = some (.deferred (some [])) → Q .normal { a with defers := { target := .collected w.heap.size, args := #[] } :: a.defers } W)
    (hstop : ∀ (c : Code) (pre : List α) (q : Nat → Prop) (W : World), pre <+: L → Ix c pre q W → w.heap.size + 2 ≤ W.heap.size → (∀ k, q k → w.heap.size + 2 ≤ k ∧ k < W.heap.size) → W.heap[w.heap.size]? = some (.deferred (some [])) → c.wpIn Fence.wide 0 P Q { a with defers := { target := .collected w.heap.size, args := #[] } :: a.defers } W) :
    (Code.rangeFunc g ps assign body).wpIn Fence.wide 0 P Q a w := by
  refine wpIn_rangeFunc ?_
  intro fn hfn
  have hro : Fence.wide.round = none := rfl
  rw [hro]
  obtain ⟨rec, hrec⟩ : ∃ rec : LoopState → Option Code → Loop, rec = fun st pe => { state := st, pending := pe, fn, tmps := a.tmps, params := ps, assign, body, defers := w.heap.size } := ⟨_, rfl⟩
  obtain ⟨W1, hW1⟩ : ∃ W1, (w.alloc (.deferred (some []))).alloc (.loop (rec .ready none)) = W1 := ⟨_, rfl⟩
  have hsz1 : W1.heap.size = w.heap.size + 2 := by rw [← hW1]; simp
  have hL1 : W1.heap[w.heap.size + 1]? = some (.loop (rec .ready none)) := by
    rw [← hW1]; have := World.alloc_heap_new (w.alloc (.deferred (some []))) (.loop (rec .ready none)); rwa [World.size_alloc] at this
  have hK1 : W1.heap[w.heap.size]? = some (.deferred (some [])) := by
    rw [← hW1]; exact (Below.heap_alloc _ _ _ (by simp)).trans (World.alloc_heap_new w _)
  have hkw : Kept (fun _ => False) w W1 := by rw [← hW1]; exact ((Kept.refl _ w).alloc _).alloc _
  have hI1 : I [] (fun _ => False) W1 := hI [] (fun _ => False) (fun _ => False) w W1 h0 (hkw.mono (fun _ _ h => h.elim)) (fun _ h => h.elim)
  have hb1 : Kept (fun k => ¬ c k) w0 W1 := by
    rw [← hW1]; exact (hb0.alloc _).alloc _
  refine ⟨w.heap.size + 1, [{ target := .collected w.heap.size, args := #[] }], W1, { target := .fn (.func gf) lb, args := #[.func (.yield (w.heap.size + 1)) #[] #[]] }, W1, gf,
    #[.func (.yield (w.heap.size + 1)) #[] #[]] ++ lb, W1, ?_, ?_, ?_, ?_, fun h => (by simp [Fence.wide] at h), ?_⟩
  · rw [← hW1, hrec]; exact run_enterLoop_outer _ _ _ _ _
  · simp only [resolve, hg]
    simp [go_sem]
  · intro f' _; exact trivial
  · simp [invoke, go_sem, eg]
  · -- what the book-keeping needs, beside the caller's own
    have stab : ∀ {s : List α} {I : List α → (Nat → Prop) → World → Prop} {o : Obj}, Stable (fun k => k = w.heap.size ∨ k = w.heap.size + 1) I →
        ∀ q q' A B, (I s q A ∧ (∀ k, q k → w.heap.size + 2 ≤ k ∧ k < A.heap.size) ∧ w.heap.size + 2 ≤ A.heap.size ∧ A.heap[w.heap.size + 1]? = some o ∧ A.heap[w.heap.size]? = some (.deferred (some []))) →
        Kept (fun k => q k ∨ none' k) A B → (∀ k, q' k → (q k ∨ A.heap.size ≤ k) ∧ k < B.heap.size) →
        (I s q' B ∧ (∀ k, q' k → w.heap.size + 2 ≤ k ∧ k < B.heap.size) ∧ w.heap.size + 2 ≤ B.heap.size ∧ B.heap[w.heap.size + 1]? = some o ∧ B.heap[w.heap.size]? = some (.deferred (some []))) := by
      rintro s I o hI q q' A B ⟨h1, h2, h3, h4, h5⟩ hk hq
      have hns : ∀ k, k < w.heap.size + 2 → ¬ (q k ∨ none' k) := by
        rintro k hlt (h | h)
        · have := h2 k h; omega
        · exact h
      refine ⟨hI s q q' A B h1 (hk.mono fun k _ h => h.elim Or.inl (fun h => h.elim)) hq, fun k h => ?_, Nat.le_trans h3 hk.size, hk.same h4 (hns _ (by omega)), hk.same h5 (hns _ (by omega))⟩
      obtain ⟨g1, g2⟩ := hq k h
      rcases g1 with g1 | g1
      · exact ⟨(h2 k g1).1, g2⟩
      · exact ⟨by omega, g2⟩
    have book : ∀ {I : List α → (Nat → Prop) → World → Prop} {s : List α} {q : Nat → Prop} {A : World} (o : Obj), Stable (fun k => k = w.heap.size ∨ k = w.heap.size + 1) I → (∀ k, q k → w.heap.size + 2 ≤ k ∧ k < A.heap.size) → I s q A → I s q (A.putObj (w.heap.size + 1) o) := by
      intro I s q A o hI hq h
      exact hI s q q A _ h ((Kept.refl _ A).put (.inl (.inr (.inr rfl))) o) (fun k hk => ⟨.inl hk, by simpa using (hq k hk).2⟩)
    refine (hseq (w.heap.size + 1)
      (fun pre q W => I pre q W ∧ (∀ k, q k → w.heap.size + 2 ≤ k ∧ k < W.heap.size) ∧ w.heap.size + 2 ≤ W.heap.size ∧ W.heap[w.heap.size + 1]? = some (.loop (rec .ready none)) ∧ W.heap[w.heap.size]? = some (.deferred (some [])))
      (fun pre q W => ∃ c, Ix c pre q W ∧ (∀ k, q k → w.heap.size + 2 ≤ k ∧ k < W.heap.size) ∧ w.heap.size + 2 ≤ W.heap.size ∧ W.heap[w.heap.size + 1]? = some (.loop (rec .done (some c))) ∧ W.heap[w.heap.size]? = some (.deferred (some [])))
      W1 hb1
      (fun s q q' A B hs hk hq => stab hI q q' A B hs hk hq)
      (fun s q q' A B hs hk hq => by obtain ⟨c, hc⟩ := hs; exact ⟨c, stab (hIx c) q q' A B hc hk hq⟩)
      ?_ ⟨hI1, fun k h => h.elim, by omega, hL1, hK1⟩).mono ?_
    · -- ONE ROUND
      rintro pre x q W hpx ⟨hi, hq, hsz, hl, hk⟩
      have hlt : w.heap.size + 1 < W.heap.size := by omega
      have hy := run_yield (P := P) (args := encs x) hl (by rw [hrec]; exact hps x)
      rw [hrec] at hy
      refine ⟨fn, _, assign, body, hy, roundIn_of_wpIn hfn (hassign _ x W _ ⟨_, run_beginRound hl (by rw [hrec]), ?_⟩)⟩
      have hl2 : (W.putObj (w.heap.size + 1) (.loop { rec .ready none with state := .busy })).heap[w.heap.size + 1]? = some (.loop { rec .ready none with state := .busy }) := World.putObj_heap_same hlt
      have hk2 : (W.putObj (w.heap.size + 1) (.loop { rec .ready none with state := .busy })).heap[w.heap.size]? = some (.deferred (some [])) := (World.putObj_heap_other (by omega)).trans hk
      have hkb : Kept (fun k => ¬ q k ∧ ¬ c k) W (W.putObj (w.heap.size + 1) (.loop { rec .ready none with state := .busy })) :=
        (Kept.refl _ W).put (.inl ⟨fun h => (by have := (hq _ h).1; omega), fun h => (by have := hcw _ h; omega)⟩) _
      have hsz2 : (W.putObj (w.heap.size + 1) (.loop { rec .ready none with state := .busy })).heap.size = W.heap.size := World.putObj_size
      refine wpIn_mono (hbody (w.heap.size + 1) pre x q _ hpx (fun k h => (by rw [hsz2]; exact hq k h)) (by rw [hsz2]; exact hsz) (book _ hI hq hi)) ?_
      generalize hWb : W.putObj (w.heap.size + 1) (.loop { rec .ready none with state := .busy }) = Wb at hl2 hk2 hkb hsz2 ⊢
      have fin : ∀ (jump : Option Code) (W3 : World), Kept (fun k => ¬ q k ∧ ¬ c k ∧ k ≠ w.heap.size ∧ k ≠ w.heap.size + 1) Wb W3 →
          (Instr.endRound (w.heap.size + 1) jump).run P W3 = .ok (.bool jump.isNone) (W3.putObj (w.heap.size + 1) (.loop (rec (if jump.isNone then .ready else .done) jump))) ∧
          Kept (fun k => ¬ q k ∧ ¬ c k) W (W3.putObj (w.heap.size + 1) (.loop (rec (if jump.isNone then .ready else .done) jump))) ∧
          (∀ k, q k → w.heap.size + 2 ≤ k ∧ k < W3.heap.size) ∧
          (∀ k, q k → w.heap.size + 2 ≤ k ∧ k < (W3.putObj (w.heap.size + 1) (.loop (rec (if jump.isNone then .ready else .done) jump))).heap.size) ∧
          w.heap.size + 2 ≤ (W3.putObj (w.heap.size + 1) (.loop (rec (if jump.isNone then .ready else .done) jump))).heap.size ∧
          (W3.putObj (w.heap.size + 1) (.loop (rec (if jump.isNone then .ready else .done) jump))).heap[w.heap.size + 1]? = some (.loop (rec (if jump.isNone then .ready else .done) jump)) ∧
          (W3.putObj (w.heap.size + 1) (.loop (rec (if jump.isNone then .ready else .done) jump))).heap[w.heap.size]? = some (.deferred (some [])) := fun jump W3 hk3 => by
        have hl3 := hk3.same hl2 (by rintro ⟨_, _, _, h⟩; exact h rfl)
        have hk4 := hk3.same hk2 (by rintro ⟨_, _, h, _⟩; exact h rfl)
        have hs3 := hk3.size
        have := run_endRound (P := P) jump hl3
        rw [hrec] at this ⊢
        have hq3 : ∀ k, q k → w.heap.size + 2 ≤ k ∧ k < W3.heap.size := fun k h => ⟨(hq k h).1, by have := (hq k h).2; omega⟩
        exact ⟨this, (hkb.trans (hk3.mono fun k _ h => ⟨h.1, h.2.1⟩)).put (.inl ⟨fun h => (by have := (hq _ h).1; omega), fun h => (by have := hcw _ h; omega)⟩) _, hq3, fun k h => (by simpa using hq3 k h), by simp; omega,
          World.putObj_heap_same (Array.getElem?_eq_some_iff.1 hl3).1, (World.putObj_heap_other (by omega)).trans hk4⟩
      rintro e a3 W3 hp
      cases e with
      | normal =>
        obtain ⟨hk3, hi3⟩ := hp
        obtain ⟨hr, h1, h2, h3, h4, h5, h6⟩ := fin none W3 hk3
        exact ⟨_, _, hr, h1, .inl ⟨rfl, book _ hI h2 hi3, h3, h4, h5, h6⟩⟩
      | ret =>
        obtain ⟨hk3, hi3⟩ := hp
        obtain ⟨hr, h1, h2, h3, h4, h5, h6⟩ := fin (some .ret) W3 hk3
        exact ⟨_, _, hr, h1, .inr ⟨rfl, .ret, book _ (hIx _) h2 hi3, h3, h4, h5, h6⟩⟩
      | exit id =>
        obtain ⟨hk3, hi3⟩ := hp
        obtain ⟨hr, h1, h2, h3, h4, h5, h6⟩ := fin (some (.exit id)) W3 hk3
        exact ⟨_, _, hr, h1, .inr ⟨rfl, .exit id, book _ (hIx _) h2 hi3, h3, h4, h5, h6⟩⟩
      | goto t =>
        obtain ⟨hk3, hi3⟩ := hp
        obtain ⟨hr, h1, h2, h3, h4, h5, h6⟩ := fin (some (.goto t)) W3 hk3
        exact ⟨_, _, hr, h1, .inr ⟨rfl, .goto t, book _ (hIx _) h2 hi3, h3, h4, h5, h6⟩⟩
      | panic ch => exact hp.elim
      | outgrown => exact hp.elim
    · -- BEHIND THE ITERATOR
      rintro e W2 ⟨⟨v, rfl⟩, (⟨q, hi, hq, hsz, hl, hk⟩ | ⟨pre, q, hSp, c, hi, hq, hsz, hl, hk⟩)⟩
      · exact ⟨none, _, by have := run_endLoop (P := P) hl (by rw [hrec]; simp); rw [hrec] at this; exact this, hdone q _ (book _ hI hq hi) (by simpa using hsz) (fun k h => (by simpa using hq k h)) ((World.putObj_heap_other (by omega)).trans hk)⟩
      · exact ⟨some c, _, by have := run_endLoop (P := P) hl (by rw [hrec]; simp); rw [hrec] at this; exact this, hstop c pre q _ hSp (book _ (hIx c) hq hi) (by simpa using hsz) (fun k h => (by simpa using hq k h)) ((World.putObj_heap_other (by omega)).trans hk)⟩
end Rights
end Go.Proofs.YtjoiogdckbaeaaaDoor
