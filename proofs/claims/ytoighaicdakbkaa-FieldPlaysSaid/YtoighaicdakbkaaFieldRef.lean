/- The document's field in memory. -/
import Derived.Test.YtoighaicdakbkaaFieldFr
namespace Go.Proofs.Ytoighaicdakbkaa
open Go.ChangeShapes Go.WideShapes Go.ChangeAt Go.RowKit
namespace Fld
set_option linter.unusedVariables false
set_option linter.unusedSimpArgs false
/-- where it lies -/
structure Ra where
  r : Nat
  gi : Nat
  ci : Nat
  go : Nat
  co : Nat
  pv : Value
/-- what was put out, in order, as a row's cells -/
def putR (ps : List (Int × Int)) : List Value := ps.flatMap fun q => [.int .i64 q.1, .int .u32 q.2]
theorem putR_len : ∀ ps : List (Int × Int), (putR ps).length = ps.length * 2
  | [] => rfl
  | q :: ps => by have := putR_len ps; simp only [putR] at this; simp [putR, this]; omega
theorem putR_at : ∀ (ps : List (Int × Int)) (i : Nat), i < ps.length → (putR ps)[i * 2]? = some (.int .i64 (ps.getD i (0, 0)).1) ∧ (putR ps)[i * 2 + 1]? = some (.int .u32 (ps.getD i (0, 0)).2)
  | [], i, h => by simp at h
  | q :: ps, 0, _ => by simp [putR]
  | q :: ps, i + 1, h => by
    have := putR_at ps i (by simpa using h)
    have e : putR (q :: ps) = [.int .i64 q.1, .int .u32 q.2] ++ putR ps := by simp [putR]
    rw [e]
    rw [show (i + 1) * 2 = i * 2 + 2 from by omega, List.getElem?_append_right (by simp), List.getElem?_append_right (by simp)]
    simpa using this
theorem putR_add (ps : List (Int × Int)) (n x : Int) : putR ps ++ [.int .i64 n, .int .u32 x] = putR (ps ++ [(n, x)]) := by simp [putR]
/-- what was put out, put out -/
def play (o : List Int) (ps : List (Int × Int)) : List Int := ps.foldl (fun o q => o.set q.1.toNat q.2) o
theorem play_len (ps : List (Int × Int)) : ∀ o : List Int, (play o ps).length = o.length := by
  induction ps with
  | nil => intro o; rfl
  | cons q ps ih => intro o; show (play (o.set _ _) ps).length = _; rw [ih, List.length_set]
theorem play_add (o : List Int) (ps : List (Int × Int)) (n x : Int) : play o (ps ++ [(n, x)]) = (play o ps).set n.toNat x := by simp [play]
theorem play_next (o : List Int) (ps : List (Int × Int)) (k : Nat) (hk : k < ps.length) : play o (ps.take (k + 1)) = (play o (ps.take k)).set (ps.getD k (0, 0)).1.toNat (ps.getD k (0, 0)).2 := by
  rw [List.take_add_one, List.getElem?_eq_getElem hk, List.getD_eq_getElem?_getD, List.getElem?_eq_getElem hk]
  simp only [Option.toList_some, Option.getD_some]
  rw [← play_add]
abbrev rcells (d : Df) (b : Option Addr) (c : Nat) (A : Ra) (ni no : Nat) : Array Value :=
  #[.int .i64 d.ins, .slice b d.safe.length c, .int .u32 d.rd, .int .i64 d.wr, .slice (some ⟨A.gi, 0, none⟩) ni A.ci, .slice (some ⟨A.go, 0, none⟩) no A.co, A.pv]
/-- the document's field -/
structure Rf (S : Nat) (d : Df) (b : Option Addr) (c : Nat) (A : Ra) (ins outs : List Int) (ps : List (Int × Int)) (V : World) : Prop where
  obj : V.heap[A.r]? = some (.cells (rcells d b c A ins.length outs.length) 49 (0, 0))
  ri : ORow V A.gi A.ci ins
  ro : ORow V A.go A.co outs
  rp : V.ownsRow (S + 1) 63 2 A.pv ps.length (putR ps)
  far : S < A.r ∧ S < A.gi ∧ S < A.go
  wf : ∀ q ∈ ps, 0 ≤ q.1 ∧ q.1 < d.safe.length
  so : outs.length = d.safe.length
  si : (ins.length : Int) = d.ins
/-- its own blocks -/
def Ra.own (A : Ra) (k : Nat) : Prop := k = A.r ∨ k = A.gi ∨ k = A.go ∨ A.pv.ownBlock = some k
theorem ownsRow_block {w w' : World} {base : Nat} {e : TypeId} {size : Nat} {v : Value} {n : Nat} {xs : List Value} (h : w.ownsRow base e size v n xs) (hb : ∀ b, v.ownBlock = some b → b < w.heap.size → w'.heap[b]? = w.heap[b]?) : w'.ownsRow base e size v n xs := by
  refine ⟨h.1, ?_⟩
  rcases h.2 with hn | ⟨g, cap, cur, rfl, h1, h2, rest⟩
  · exact .inl hn
  · exact .inr ⟨g, cap, cur, rfl, h1, (hb g rfl (lt_of_block h2)).trans h2, rest⟩
theorem ownsRow_slice {w : World} {base : Nat} {e : TypeId} {size : Nat} {v : Value} {n : Nat} {xs : List Value} (h : w.ownsRow base e size v n xs) : (v = .slice none 0 0 ∧ n = 0) ∨ ∃ g cap, v = .slice (some ⟨g, 0, none⟩) n cap ∧ base ≤ g ∧ n ≤ cap ∧ cap ≤ 9223372036854775807 ∧ ∃ cur, w.heap[g]? = some (.cells cur e (0, 0)) := by
  rcases h.2 with hn | ⟨g, cap, cur, rfl, h1, h2, h3, h4, _⟩
  · exact .inl hn
  · exact .inr ⟨g, cap, rfl, h1, h3, by unfold maxLen at h4; omega, cur, h2⟩
section
variable {S : Nat} {d : Df} {b : Option Addr} {c : Nat} {A : Ra} {ins outs : List Int} {ps : List (Int × Int)} {V V' : World}
theorem Rf.kept (h : Rf S d b c A ins outs ps V) {p : Nat → Prop} (hk : Kept p V V') (hp : ∀ k, A.own k → ¬ p k) : Rf S d b c A ins outs ps V' :=
  ⟨hk.same h.obj (hp _ (.inl rfl)), h.ri.kept hk (hp _ (.inr (.inl rfl))), h.ro.kept hk (hp _ (.inr (.inr (.inl rfl)))), ownsRow_block h.rp fun g hg hlt => hk.block g hlt (hp g (.inr (.inr (.inr hg)))), h.far, h.wf, h.so, h.si⟩
theorem Rf.below (h : Rf S d b c A ins outs ps V) (hb : Below V.heap.size V V') : Rf S d b c A ins outs ps V' := h.kept (p := fun _ => False) (Kept.of_below hb) (fun _ _ => id)
theorem Rf.lt (h : Rf S d b c A ins outs ps V) : ∀ k, A.own k → k < V.heap.size := by
  rintro k (rfl | rfl | rfl | hk)
  · exact lt_of_block h.obj
  · exact h.ri.lt
  · exact h.ro.lt
  · exact (h.rp.lt k hk).2
theorem Rf.beyond (h : Rf S d b c A ins outs ps V) : ∀ k, A.own k → S < k := by
  have hf := h.far
  rintro k (rfl | rfl | rfl | hk)
  · exact hf.1
  · exact hf.2.1
  · exact hf.2.2
  · have := (h.rp.lt k hk).1; omega
theorem Rf.c0 (h : Rf S d b c A ins outs ps V) : V.cell? ⟨A.r, 0, none⟩ = some (.int .i64 d.ins) ∧ V.cell? ⟨A.r, 1, none⟩ = some (.slice b d.safe.length c) ∧ V.cell? ⟨A.r, 2, none⟩ = some (.int .u32 d.rd) ∧ V.cell? ⟨A.r, 3, none⟩ = some (.int .i64 d.wr) ∧
    V.cell? ⟨A.r, 4, none⟩ = some (.slice (some ⟨A.gi, 0, none⟩) ins.length A.ci) ∧ V.cell? ⟨A.r, 5, none⟩ = some (.slice (some ⟨A.go, 0, none⟩) outs.length A.co) ∧ V.cell? ⟨A.r, 6, none⟩ = some A.pv := by
  refine ⟨?_, ?_, ?_, ?_, ?_, ?_, ?_⟩ <;> (rw [cell_of_row _ _ _ _ _ _ h.obj]; rfl)
theorem Rf.free (h : Rf S d b c A ins outs ps V) (j : Nat) : V.frozen? ⟨A.r, j, none⟩ = false := row_free h.obj j
theorem Rf.ne (h : Rf S d b c A ins outs ps V) : A.r ≠ A.gi ∧ A.r ≠ A.go ∧ ∀ g, A.pv.ownBlock = some g → g ≠ A.r ∧ g ≠ A.gi ∧ g ≠ A.go := by
  refine ⟨fun e => h.ri.ne h.obj (by decide) e.symm, fun e => h.ro.ne h.obj (by decide) e.symm, fun g hg => ?_⟩
  rcases h.rp.2 with ⟨e, _⟩ | ⟨g', cap, cur, e, _, h2, _⟩
  · rw [e] at hg; simp [Value.ownBlock] at hg
  · rw [e] at hg
    simp [Value.ownBlock] at hg
    subst hg
    exact ⟨ne_type h2 h.obj (by decide), fun e => h.ri.ne h2 (by decide) e.symm, fun e => h.ro.ne h2 (by decide) e.symm⟩
/-- other input words, in a row of their own; nothing put out -/
theorem Rf.latched (h : Rf S d b c A ins outs ps V) {gi ci : Nat} {l : List Int} (hV : Below V.heap.size V V') (ho : ORow V' gi ci l) (hg : V.heap.size ≤ gi) (hl : l.length = ins.length) :
    Rf S d b c { A with gi := gi, ci := ci, pv := .slice none 0 0 } l outs [] ((V'.setCell ⟨A.r, 4, none⟩ (.slice (some ⟨gi, 0, none⟩) l.length ci)).setCell ⟨A.r, 6, none⟩ (.slice none 0 0)) := by
  have hr := h.lt A.r (.inl rfl)
  have hgo := h.lt A.go (.inr (.inr (.inl rfl)))
  have hb := h.below hV
  obtain ⟨q1, q2, q3⟩ := hb.ne
  have hk : Kept (fun k => k = A.r) V' ((V'.setCell ⟨A.r, 4, none⟩ (.slice (some ⟨gi, 0, none⟩) l.length ci)).setCell ⟨A.r, 6, none⟩ (.slice none 0 0)) := ((Kept.refl (fun k => k = A.r) V').setCell (.inl rfl) _).setCell (.inl rfl) _
  have hfar := h.far
  refine ⟨?_, ho.kept hk (by omega), hb.ro.kept hk (fun e => q2 e.symm), World.ownsRow_nil _ _ _ _, ⟨hfar.1, by simp only; omega, hfar.2.2⟩, by simp, h.so, by rw [hl]; exact h.si⟩
  rw [row_setCell (row_setCell hb.obj)]
  simp
/-- one more put out -/
theorem Rf.put (h : Rf S d b c A ins outs ps V) {pv : Value} {n x : Int} (hg : V.grownBy V' A.pv.ownBlock) (ho : V'.ownsRow (S + 1) 63 2 pv (ps.length + 1) (putR ps ++ [.int .i64 n, .int .u32 x])) (hn : 0 ≤ n ∧ n < d.safe.length) :
    Rf S d b c { A with pv := pv } ins outs (ps ++ [(n, x)]) (V'.setCell ⟨A.r, 6, none⟩ pv) := by
  obtain ⟨q1, q2, q3⟩ := h.ne
  have hb : ∀ k, k = A.r ∨ k = A.gi ∨ k = A.go → some k ≠ A.pv.ownBlock := by
    intro k hk e
    obtain ⟨e1, e2, e3⟩ := q3 k e.symm
    rcases hk with rfl | rfl | rfl
    · exact e1 rfl
    · exact e2 rfl
    · exact e3 rfl
  have hob := (hg.block A.r (lt_of_block h.obj) (hb _ (.inl rfl))).trans h.obj
  have hk : Kept (fun k => k = A.r) V' (V'.setCell ⟨A.r, 6, none⟩ pv) := (Kept.refl (fun k => k = A.r) V').setCell (.inl rfl) _
  refine ⟨?_, (h.ri.block (hg.block _ h.ri.lt (hb _ (.inr (.inl rfl))))).kept hk (fun e => q1 e.symm), (h.ro.block (hg.block _ h.ro.lt (hb _ (.inr (.inr rfl))))).kept hk (fun e => q2 e.symm), ?_, h.far, ?_, h.so, h.si⟩
  · rw [row_setCell hob]
    simp
  · rw [← putR_add, List.length_append, List.length_singleton]
    refine ownsRow_block ho fun g hgg hlt => hk.block g hlt ?_
    intro e
    subst e
    rcases ho.2 with ⟨e, _⟩ | ⟨g', cap, cur, e, _, h2, _⟩
    · rw [e] at hgg; simp [Value.ownBlock] at hgg
    · rw [e] at hgg
      simp [Value.ownBlock] at hgg
      subst hgg
      exact ne_type h2 hob (by decide) rfl
  · intro q hq
    rcases List.mem_append.1 hq with hq | hq
    · exact h.wf q hq
    · rw [List.mem_singleton.1 hq]; exact hn
/-- other output words, in a row of their own -/
theorem Rf.outed (h : Rf S d b c A ins outs ps V) {go co : Nat} {l : List Int} (hV : Below V.heap.size V V') (ho : ORow V' go co l) (hg : V.heap.size ≤ go) (hl : l.length = outs.length) :
    Rf S d b c { A with go := go, co := co } ins l ps (V'.setCell ⟨A.r, 5, none⟩ (.slice (some ⟨go, 0, none⟩) l.length co)) := by
  have hr := h.lt A.r (.inl rfl)
  have hgi := h.lt A.gi (.inr (.inl rfl))
  have hb := h.below hV
  obtain ⟨q1, q2, q3⟩ := hb.ne
  have hk : Kept (fun k => k = A.r) V' (V'.setCell ⟨A.r, 5, none⟩ (.slice (some ⟨go, 0, none⟩) l.length co)) := (Kept.refl (fun k => k = A.r) V').setCell (.inl rfl) _
  have hfar := h.far
  refine ⟨?_, hb.ri.kept hk (fun e => q1 e.symm), ho.kept hk (by omega), ownsRow_block hb.rp fun g hgg hlt => hk.block g hlt (q3 g hgg).1, ⟨hfar.1, hfar.2.1, by simp only; omega⟩, h.wf, by rw [hl]; exact h.so, h.si⟩
  rw [row_setCell hb.obj]
  simp
/-- an output word -/
theorem Rf.word (h : Rf S d b c A ins outs ps V) (hn1 : A.gi ≠ A.go) (i : Nat) (x : Int) (hi : i < outs.length) : Rf S d b c A ins (outs.set i x) ps (V.setCell ⟨A.go, i, none⟩ (.int .u32 x)) := by
  obtain ⟨q1, q2, q3⟩ := h.ne
  have hk : Kept (fun k => k = A.go) V (V.setCell ⟨A.go, i, none⟩ (.int .u32 x)) := (Kept.refl (fun k => k = A.go) V).setCell (.inl rfl) _
  refine ⟨?_, h.ri.kept hk hn1, h.ro.set i x hi, ownsRow_block h.rp fun g hgg hlt => hk.block g hlt (q3 g hgg).2.2, h.far, h.wf, by rw [List.length_set]; exact h.so, h.si⟩
  rw [List.length_set]
  exact hk.same h.obj q2
/-- nothing put out -/
theorem Rf.cleared (h : Rf S d b c A ins outs ps V) : Rf S d b c { A with pv := .slice none 0 0 } ins outs [] (V.setCell ⟨A.r, 6, none⟩ (.slice none 0 0)) := by
  obtain ⟨q1, q2, q3⟩ := h.ne
  have hk : Kept (fun k => k = A.r) V (V.setCell ⟨A.r, 6, none⟩ (.slice none 0 0)) := (Kept.refl (fun k => k = A.r) V).setCell (.inl rfl) _
  refine ⟨?_, h.ri.kept hk (fun e => q1 e.symm), h.ro.kept hk (fun e => q2 e.symm), World.ownsRow_nil _ _ _ _, h.far, by simp, h.so, h.si⟩
  rw [row_setCell h.obj]
  simp
theorem Rf.puts (h : Rf S d b c A ins outs ps V) {g cap : Nat} (hg : A.pv = .slice (some ⟨g, 0, none⟩) ps.length cap) (i : Nat) (hi : i < ps.length) :
    V.cell? ⟨g, i * 2, none⟩ = some (.int .i64 (ps.getD i (0, 0)).1) ∧ V.cell? ⟨g, i * 2 + 1, none⟩ = some (.int .u32 (ps.getD i (0, 0)).2) := by
  have hc := h.rp.cells (g := g) (by rw [hg]; rfl)
  have := putR_at ps i hi
  have e : ∀ j, (⟨g, 0, none⟩ : Addr).add j = ⟨g, j, none⟩ := fun j => by rw [Addr.add_mid]; simp
  have h1 := hc _ _ this.1
  have h2 := hc _ _ this.2
  rw [e] at h1 h2
  exact ⟨h1, h2⟩
end
end Fld
end Go.Proofs.Ytoighaicdakbkaa
