/- The document's ports in memory: one object, four rows, and a row of words for each message and each draft. Each block bears a mark: blocks with unlike marks are unlike blocks. -/
import Derived.Test.YtcapiaempfjmeaaPortSent
namespace Go.Proofs.Ytcapiaempfjmeaa
open Go.ChangeShapes Go.WideShapes Go.ChangeAt Go.RowKit
namespace Prt
set_option linter.unusedVariables false
set_option linter.unusedSimpArgs false
/-- this cell, and it may be written -/
def CF (V : World) (b j : Nat) (v : Value) : Prop := V.cell? ⟨b, j, none⟩ = some v ∧ V.frozen? ⟨b, j, none⟩ = false
theorem CF.block {V V' : World} {b j : Nat} {v : Value} (h : CF V b j v) (hb : V'.heap[b]? = V.heap[b]?) : CF V' b j v := ⟨(World.cell?_of_block hb).trans h.1, by have := h.2; simpa [World.frozen?, hb] using this⟩
theorem CF.kept {V V' : World} {b j : Nat} {v : Value} (h : CF V b j v) {p : Nat → Prop} (hk : Kept p V V') (hp : ¬ p b) : CF V' b j v := h.block (hk.block b (World.block_lt_of_cell? _ _ h.1) hp)
theorem frozen_set (V : World) (b j : Nat) (v : Value) (x : Addr) : (V.setCell ⟨b, j, none⟩ v).frozen? x = V.frozen? x := World.frozen?_setCells b [v] j V x
theorem CF.same {V : World} {b j : Nat} {u : Value} (h : CF V b j u) (v : Value) : CF (V.setCell ⟨b, j, none⟩ v) b j v := by
  refine ⟨?_, by rw [frozen_set]; exact h.2⟩
  have := World.cell?_setCells_in b [v] j V (fun i hi => by
    obtain rfl : i = 0 := by simp at hi; omega
    rw [Nat.add_zero, h.1]; rfl) 0 (by simp)
  rw [Nat.add_zero] at this
  exact this
theorem CF.other {V : World} {b j b' j' : Nat} {u : Value} (h : CF V b j u) (v : Value) (hn : b = b' → j ≠ j') : CF (V.setCell ⟨b', j', none⟩ v) b j u := by
  refine ⟨?_, by rw [frozen_set]; exact h.2⟩
  have := World.cell?_setCells_out b' [v] j' V ⟨b, j, none⟩ (fun hb _ => by
    have := hn hb
    simp only [List.length_cons, List.length_nil]
    show j < j' ∨ j' + 1 ≤ j
    omega)
  exact this.trans h.1
/-- where the document's ports lie -/
structure RA where
  r : Nat
  bw : Nat
  ba : Nat
  bd : Nat
  bs : Nat
  xw : Option Addr
  xa : Option Addr
  xd : Option Addr
  xs : Option Addr
  cw : Nat
  ca : Nat
  cd : Nat
  cs : Nat
  wb : Nat → Nat
  db : Nat → Nat
  wc : Nat → Nat
  dc : Nat → Nat
/-- as many words -/
def wd (b : Bx) : Nat := b.d.w.toNat
structure Rf (A : RA) (n : Nat) (a0 : Option Addr) (c0 : Nat) (l : List Bx) (T : Nat → Option Nat) (V : World) : Prop where
  len : l.length = n
  ok : ∀ b ∈ l, b.ok
  n16 : n ≤ 16
  obj : V.heap[A.r]? = some (.cells #[.slice a0 n c0, .slice A.xw n A.cw, .slice A.xa n A.ca, .slice A.xd n A.cd, .slice A.xs n A.cs] 67 (0, 0))
  hx : 0 < n → A.xw = some ⟨A.bw, 0, none⟩ ∧ A.xa = some ⟨A.ba, 0, none⟩ ∧ A.xd = some ⟨A.bd, 0, none⟩ ∧ A.xs = some ⟨A.bs, 0, none⟩
  tr : T A.r = some 0
  tags : 0 < n → T A.bw = some 1 ∧ T A.ba = some 2 ∧ T A.bd = some 3 ∧ T A.bs = some 4
  twb : ∀ i, i < n → T (A.wb i) = some 5
  tdb : ∀ i, i < n → T (A.db i) = some (6 + i)
  cW : ∀ i, i < n → CF V A.bw i (.slice (some ⟨A.wb i, 0, none⟩) (wd l[i]!) (A.wc i))
  cM : ∀ i, i < n → ∀ j, j < wd l[i]! → CF V (A.wb i) j (.int .u32 ((l[i]!).m.getD j 0))
  cA : ∀ i, i < n → CF V A.ba i (.int .u32 (l[i]!).age)
  cD : ∀ i, i < n → CF V A.bd i (.slice (some ⟨A.db i, 0, none⟩) (wd l[i]!) (A.dc i))
  cR : ∀ i, i < n → ∀ j, j < wd l[i]! → CF V (A.db i) j (.int .u32 ((l[i]!).dr.getD j 0))
  cS : ∀ i, i < n → CF V A.bs i (.bool (l[i]!).s)
  lt : ∀ k, T k ≠ none → k < V.heap.size
section
variable {A : RA} {n : Nat} {a0 : Option Addr} {c0 : Nat} {l : List Bx} {T : Nat → Option Nat} {V V' : World}
theorem Rf.at (h : Rf A n a0 c0 l T V) {i : Nat} (hi : i < n) : (l[i]!).ok := by
  rw [getElem!_pos l i (by rw [h.len]; exact hi)]; exact h.ok _ (List.getElem_mem _)
theorem Rf.kept (h : Rf A n a0 c0 l T V) {p : Nat → Prop} (hk : Kept p V V') (hp : ∀ k, T k ≠ none → ¬ p k) : Rf A n a0 c0 l T V' := by
  have hs : ∀ {k t}, T k = some t → ¬ p k := fun e => hp _ (by rw [e]; simp)
  exact ⟨h.len, h.ok, h.n16, hk.same h.obj (hs h.tr), h.hx, h.tr, h.tags, h.twb, h.tdb, fun i hi => (h.cW i hi).kept hk (hs (h.tags (by omega)).1), fun i hi j hj => (h.cM i hi j hj).kept hk (hs (h.twb i hi)),
    fun i hi => (h.cA i hi).kept hk (hs (h.tags (by omega)).2.1), fun i hi => (h.cD i hi).kept hk (hs (h.tags (by omega)).2.2.1), fun i hi j hj => (h.cR i hi j hj).kept hk (hs (h.tdb i hi)), fun i hi => (h.cS i hi).kept hk (hs (h.tags (by omega)).2.2.2),
    fun k hk' => Nat.lt_of_lt_of_le (h.lt k hk') hk.size⟩
theorem Rf.below (h : Rf A n a0 c0 l T V) (hb : Below V.heap.size V V') : Rf A n a0 c0 l T V' := h.kept (p := fun _ => False) (Kept.of_below hb) (fun _ _ => id)
theorem ne_tag {k k' : Nat} {s t : Nat} (h1 : T k = some s) (h2 : T k' = some t) (h : s ≠ t) : k ≠ k' := fun e => by rw [e, h2] at h1; cases h1; exact h rfl
theorem set_cases (l : List Bx) (i k : Nat) (b : Bx) (hi : i < l.length) (hk : k < l.length) : (l.set k b)[i]! = if i = k then b else l[i]! := by
  by_cases e : i = k
  · subst e; rw [set_at _ _ _ hk, if_pos rfl]
  · rw [set_other _ _ _ _ hi (fun x => e x.symm), if_neg e]
/-- one port is otherwise, in what is told -/
theorem Rf.set (h : Rf A n a0 c0 l T V) {k : Nat} (hk : k < n) (b : Bx) (hb : b.ok) (hd : b.d = (l[k]!).d) {b0 j0 t0 : Nat} {v0 : Value} (ht : T b0 = some t0)
    (nr : b0 ≠ A.r)
    (hW : CF (V.setCell ⟨b0, j0, none⟩ v0) A.bw k (.slice (some ⟨A.wb k, 0, none⟩) (wd b) (A.wc k)))
    (hM : ∀ j, j < wd b → CF (V.setCell ⟨b0, j0, none⟩ v0) (A.wb k) j (.int .u32 (b.m.getD j 0)))
    (hA : CF (V.setCell ⟨b0, j0, none⟩ v0) A.ba k (.int .u32 b.age))
    (hD : CF (V.setCell ⟨b0, j0, none⟩ v0) A.bd k (.slice (some ⟨A.db k, 0, none⟩) (wd b) (A.dc k)))
    (hR : ∀ j, j < wd b → CF (V.setCell ⟨b0, j0, none⟩ v0) (A.db k) j (.int .u32 (b.dr.getD j 0)))
    (hS : CF (V.setCell ⟨b0, j0, none⟩ v0) A.bs k (.bool b.s))
    (ho : t0 ≤ 4 ∧ j0 = k ∨ t0 = 6 + k) : Rf A n a0 c0 (l.set k b) T (V.setCell ⟨b0, j0, none⟩ v0) := by
  have hkl : k < l.length := by rw [h.len]; exact hk
  have hg := h.tags (by omega)
  have hc : ∀ i, i < n → (l.set k b)[i]! = if i = k then b else l[i]! := fun i hi => set_cases l i k b (by rw [h.len]; exact hi) hkl
  have hkp : Kept (fun x => x = b0) V (V.setCell ⟨b0, j0, none⟩ v0) := (Kept.refl (fun x => x = b0) V).setCell (.inl rfl) _
  refine ⟨by rw [List.length_set]; exact h.len, fun x hx => ?_, h.n16, hkp.same h.obj (fun e => nr e.symm), h.hx, h.tr, h.tags, h.twb, h.tdb, ?_, ?_, ?_, ?_, ?_, ?_, fun x hx => Nat.lt_of_lt_of_le (h.lt x hx) hkp.size⟩
  · rcases List.mem_or_eq_of_mem_set hx with hx | rfl
    · exact h.ok _ hx
    · exact hb
  · intro i hi
    rw [hc i hi]
    by_cases e : i = k
    · subst e; rw [if_pos rfl]; exact hW
    · rw [if_neg e]
      exact (h.cW i hi).other _ (fun e2 => by
        rcases ho with ⟨_, hj⟩ | h6
        · omega
        · exact absurd e2 (ne_tag hg.1 ht (by omega)))
  · intro i hi j hj
    rw [hc i hi] at hj ⊢
    by_cases e : i = k
    · subst e; rw [if_pos rfl] at hj ⊢; exact hM j hj
    · rw [if_neg e] at hj ⊢
      exact (h.cM i hi j hj).other _ (fun e2 => absurd e2 (ne_tag (h.twb i hi) ht (by rcases ho with ⟨h1, _⟩ | h1 <;> omega)))
  · intro i hi
    rw [hc i hi]
    by_cases e : i = k
    · subst e; rw [if_pos rfl]; exact hA
    · rw [if_neg e]
      exact (h.cA i hi).other _ (fun e2 => by
        rcases ho with ⟨_, hj⟩ | h6
        · omega
        · exact absurd e2 (ne_tag hg.2.1 ht (by omega)))
  · intro i hi
    rw [hc i hi]
    by_cases e : i = k
    · subst e; rw [if_pos rfl]; exact hD
    · rw [if_neg e]
      exact (h.cD i hi).other _ (fun e2 => by
        rcases ho with ⟨_, hj⟩ | h6
        · omega
        · exact absurd e2 (ne_tag hg.2.2.1 ht (by omega)))
  · intro i hi j hj
    rw [hc i hi] at hj ⊢
    by_cases e : i = k
    · subst e; rw [if_pos rfl] at hj ⊢; exact hR j hj
    · rw [if_neg e] at hj ⊢
      exact (h.cR i hi j hj).other _ (fun e2 => absurd e2 (ne_tag (h.tdb i hi) ht (by rcases ho with ⟨h1, _⟩ | h1 <;> omega)))
  · intro i hi
    rw [hc i hi]
    by_cases e : i = k
    · subst e; rw [if_pos rfl]; exact hS
    · rw [if_neg e]
      exact (h.cS i hi).other _ (fun e2 => by
        rcases ho with ⟨_, hj⟩ | h6
        · omega
        · exact absurd e2 (ne_tag hg.2.2.2 ht (by omega)))
theorem Rf.wS (h : Rf A n a0 c0 l T V) {k : Nat} (hk : k < n) (s : Bool) : Rf A n a0 c0 (l.set k { l[k]! with s := s }) T (V.setCell ⟨A.bs, k, none⟩ (.bool s)) := by
  have hg := h.tags (by omega)
  have h0 := h.at hk
  exact h.set hk { l[k]! with s := s } ⟨h0.w, h0.wr, h0.rd, h0.m, h0.dr, h0.mz, h0.dz, h0.age⟩ rfl hg.2.2.2 (ne_tag hg.2.2.2 h.tr (by omega))
    ((h.cW k hk).other _ (fun e => absurd e (ne_tag hg.1 hg.2.2.2 (by omega)))) (fun j hj => (h.cM k hk j hj).other _ (fun e => absurd e (ne_tag (h.twb k hk) hg.2.2.2 (by omega)))) ((h.cA k hk).other _ (fun e => absurd e (ne_tag hg.2.1 hg.2.2.2 (by omega))))
    ((h.cD k hk).other _ (fun e => absurd e (ne_tag hg.2.2.1 hg.2.2.2 (by omega)))) (fun j hj => (h.cR k hk j hj).other _ (fun e => absurd e (ne_tag (h.tdb k hk) hg.2.2.2 (by omega)))) ((h.cS k hk).same _) (.inl ⟨by omega, rfl⟩)
theorem Rf.wA (h : Rf A n a0 c0 l T V) {k : Nat} (hk : k < n) (z : Int) (hz : 0 ≤ z ∧ z ≤ 255) : Rf A n a0 c0 (l.set k { l[k]! with age := z }) T (V.setCell ⟨A.ba, k, none⟩ (.int .u32 z)) := by
  have hg := h.tags (by omega)
  have h0 := h.at hk
  exact h.set hk { l[k]! with age := z } ⟨h0.w, h0.wr, h0.rd, h0.m, h0.dr, h0.mz, h0.dz, hz⟩ rfl hg.2.1 (ne_tag hg.2.1 h.tr (by omega))
    ((h.cW k hk).other _ (fun e => absurd e (ne_tag hg.1 hg.2.1 (by omega)))) (fun j hj => (h.cM k hk j hj).other _ (fun e => absurd e (ne_tag (h.twb k hk) hg.2.1 (by omega)))) ((h.cA k hk).same _)
    ((h.cD k hk).other _ (fun e => absurd e (ne_tag hg.2.2.1 hg.2.1 (by omega)))) (fun j hj => (h.cR k hk j hj).other _ (fun e => absurd e (ne_tag (h.tdb k hk) hg.2.1 (by omega)))) ((h.cS k hk).other _ (fun e => absurd e (ne_tag hg.2.2.2 hg.2.1 (by omega)))) (.inl ⟨by omega, rfl⟩)
theorem Rf.wDr (h : Rf A n a0 c0 l T V) {k : Nat} (hk : k < n) (j0 : Nat) (hj0 : j0 < wd l[k]!) (x : Int) (hx : 0 ≤ x ∧ x ≤ 4294967295) : Rf A n a0 c0 (l.set k (putB j0 x l[k]!)) T (V.setCell ⟨A.db k, j0, none⟩ (.int .u32 x)) := by
  have hg := h.tags (by omega)
  have h0 := h.at hk
  have h16 : wd l[k]! ≤ 16 := by have := h0.w; unfold wd; omega
  have hdl := h0.dr
  have hdk := h.tdb k hk
  refine h.set hk _ (putB_ok h0 j0 x hx) rfl hdk (ne_tag hdk h.tr (by omega))
    ((h.cW k hk).other _ (fun e => absurd e (ne_tag hg.1 hdk (by omega)))) (fun j hj => (h.cM k hk j hj).other _ (fun e => absurd e (ne_tag (h.twb k hk) hdk (by omega)))) ((h.cA k hk).other _ (fun e => absurd e (ne_tag hg.2.1 hdk (by omega))))
    ((h.cD k hk).other _ (fun e => absurd e (ne_tag hg.2.2.1 hdk (by omega)))) (fun j hj => ?_) ((h.cS k hk).other _ (fun e => absurd e (ne_tag hg.2.2.2 hdk (by omega)))) (.inr rfl)
  by_cases e : j = j0
  · subst e
    have := (h.cR k hk j hj0).same (.int .u32 x)
    have he : (putB j x l[k]!).dr.getD j 0 = x := by simp only [putB, List.getD, List.getElem?_set_self (show j < (l[k]!).dr.length by omega), Option.getD_some]
    rw [he]; exact this
  · have := (h.cR k hk j hj).other (.int .u32 x) (b' := A.db k) (j' := j0) (fun _ => e)
    have he : (putB j0 x l[k]!).dr.getD j 0 = (l[k]!).dr.getD j 0 := by simp [putB, List.getD, List.getElem?_set, show j0 ≠ j from fun x => e x.symm]
    rw [he]; exact this
/-- the marks, and one more -/
def mark (T : Nat → Option Nat) (k t : Nat) : Nat → Option Nat := fun x => if x = k then some t else T x
theorem mark_old {T : Nat → Option Nat} {k t x : Nat} {s : Nat} (h : T x = some s) (hn : x ≠ k) : mark T k t x = some s := by unfold mark; rw [if_neg hn]; exact h
theorem mark_new (T : Nat → Option Nat) (k t : Nat) : mark T k t k = some t := by unfold mark; rw [if_pos rfl]
end
end Prt
end Go.Proofs.Ytcapiaempfjmeaa
