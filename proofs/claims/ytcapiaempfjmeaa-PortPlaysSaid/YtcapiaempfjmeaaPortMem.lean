/- Ports in memory: one object of 593 cells. -/
import Derived.Test.YtcapiaempfjmeaaRows
import Derived.Test.YtcapiaempfjmeaaPortMath
import Derived.Test.YtcapiaempfjmeaaPortSeq
import Derived.WalkKit
import Derived.ProofKit
import Derived.OpenShut
import Derived.Below
import Derived.OneCell
import Derived.LoopTactic
import Derived.Laws.Rows
import Derived.Laws.CopyRow
import Derived.Lib.Hide
import Derived.Deep.WholeRow
import Derived.Deep.QuietTactic
import Derived.Deep.RegionWith
import Derived.RegionTactic
import Derived.Handy
import Derived.Deep.MidRow
import Derived.BigQuiet
import Derived.IntWalk
import Derived.Outline
namespace Go.Proofs.Ytcapiaempfjmeaa
open Go.ChangeShapes Go.WideShapes Go.ChangeAt Go.RowKit
namespace Prt
set_option linter.unusedVariables false
set_option linter.unusedSimpArgs false
theorem Kept.setRow {p : Nat → Prop} {a w : World} (h : Kept p a w) {g : Nat} (hp : p g ∨ a.heap.size ≤ g) (cs : Array Value) : Kept p a (w.setRow g cs) :=
  ⟨h.os, h.tape, h.output, by have := h.size; simpa using this, fun k hk hn => by
    rw [setRow_other _ _ _ _ (fun e => by rcases hp with hp | hp; exact hn (e ▸ hp); omega)]; exact h.block k hk hn⟩
theorem Kept.behind {p : Nat → Prop} {w w1 w3 : World} (h : Kept p w w1) {B : Nat} (hb : Below B w1 w3) (hB : w.heap.size ≤ B) : Kept p w w3 := ⟨hb.os.trans h.os, hb.tape.trans h.tape, hb.output.trans h.output, Nat.le_trans h.size hb.size, fun k hk hp => (hb.block k (by omega)).trans (h.block k hk hp)⟩
theorem lt_of_block {w : World} {g : Nat} {o : Obj} (h : w.heap[g]? = some o) : g < w.heap.size := (Array.getElem?_eq_some_iff.1 h).1
theorem below_alloc (w : World) (o : Obj) : Below w.heap.size w (w.alloc o) := (Below.refl _ _).alloc (Nat.le_refl _) _
/-- numbers as a row's cells -/
def nums (l : List Int) : List Value := l.map (Value.int .u32)
theorem nums_len (l : List Int) : (nums l).length = l.length := by simp [nums]
theorem nums_at (l : List Int) (i : Nat) (h : i < l.length) : (nums l)[i]? = some (.int .u32 (l.getD i 0)) := by simp [nums, h]
theorem nums_one (l : List Int) : ∀ v ∈ nums l, v.oneCell' = true := by
  intro v hv
  obtain ⟨i, _, rfl⟩ := List.mem_map.1 hv
  rfl
/-! ### A port's cells -/
def encD (d : Df) : List Value := [.int .i64 d.w, .int .i64 d.wr, .int .u32 d.rd]
def encB (b : Bx) : List Value := encD b.d ++ (nums b.m ++ (.int .u32 b.age :: (nums b.dr ++ [.bool b.s])))
theorem encB_len {b : Bx} (h : b.ok) : (encB b).length = 37 := by simp [encB, encD, nums, h.m, h.dr]
theorem encB_one (b : Bx) : ∀ v ∈ encB b, v.oneCell' = true := by
  intro v hv
  simp only [encB, encD, List.mem_append, List.mem_cons, List.not_mem_nil, or_false] at hv
  rcases hv with (rfl | rfl | rfl) | hv | rfl | hv | rfl
  · rfl
  · rfl
  · rfl
  · exact nums_one _ _ hv
  · rfl
  · exact nums_one _ _ hv
  · rfl
/-- each of the cells -/
theorem encB_at {b : Bx} (h : b.ok) (i : Nat) (v : Value) : (encB b)[i]? = some v ↔
    (i = 0 ∧ v = .int .i64 b.d.w) ∨ (i = 1 ∧ v = .int .i64 b.d.wr) ∨ (i = 2 ∧ v = .int .u32 b.d.rd) ∨ (∃ j, j < 16 ∧ i = 3 + j ∧ v = .int .u32 (b.m.getD j 0)) ∨ (i = 19 ∧ v = .int .u32 b.age) ∨
      (∃ j, j < 16 ∧ i = 20 + j ∧ v = .int .u32 (b.dr.getD j 0)) ∨ (i = 36 ∧ v = .bool b.s) := by
  have e0 : (encB b)[0]? = some (.int .i64 b.d.w) := rfl
  have e1 : (encB b)[1]? = some (.int .i64 b.d.wr) := rfl
  have e2 : (encB b)[2]? = some (.int .u32 b.d.rd) := rfl
  have em : ∀ j, j < 16 → (encB b)[3 + j]? = some (.int .u32 (b.m.getD j 0)) := fun j hj => by
    unfold encB
    rw [List.getElem?_append_right (by simp [encD]), List.getElem?_append_left (by simp [encD, nums, h.m]; omega)]
    rw [show 3 + j - (encD b.d).length = j from by simp [encD]]
    exact nums_at _ _ (by rw [h.m]; exact hj)
  have ea : (encB b)[19]? = some (.int .u32 b.age) := by
    unfold encB
    rw [List.getElem?_append_right (by simp [encD]), List.getElem?_append_right (by simp [encD, nums, h.m])]
    simp [encD, nums, h.m]
  have ed : ∀ j, j < 16 → (encB b)[20 + j]? = some (.int .u32 (b.dr.getD j 0)) := fun j hj => by
    unfold encB
    rw [List.getElem?_append_right (by simp [encD]; omega), List.getElem?_append_right (by simp [encD, nums, h.m]; omega)]
    rw [show 20 + j - (encD b.d).length - (nums b.m).length = j + 1 from by simp [encD, nums, h.m]; omega]
    rw [List.getElem?_cons_succ, List.getElem?_append_left (by simp [nums, h.dr]; omega)]
    exact nums_at _ _ (by rw [h.dr]; exact hj)
  have es : (encB b)[36]? = some (.bool b.s) := by
    unfold encB
    rw [List.getElem?_append_right (by simp [encD]), List.getElem?_append_right (by simp [encD, nums, h.m])]
    rw [show 36 - (encD b.d).length - (nums b.m).length = 16 + 1 from by simp [encD, nums, h.m]]
    rw [List.getElem?_cons_succ, List.getElem?_append_right (by simp [nums, h.dr])]
    simp [nums, h.dr]
  constructor
  · intro hv
    have hi : i < 37 := by have := (List.getElem?_eq_some_iff.1 hv).1; rwa [encB_len h] at this
    have : i = 0 ∨ i = 1 ∨ i = 2 ∨ (∃ j, j < 16 ∧ i = 3 + j) ∨ i = 19 ∨ (∃ j, j < 16 ∧ i = 20 + j) ∨ i = 36 := by
      by_cases h1 : 3 ≤ i ∧ i < 19
      · exact .inr (.inr (.inr (.inl ⟨i - 3, by omega, by omega⟩)))
      by_cases h2 : 20 ≤ i ∧ i < 36
      · exact .inr (.inr (.inr (.inr (.inr (.inl ⟨i - 20, by omega, by omega⟩)))))
      omega
    rcases this with rfl | rfl | rfl | ⟨j, hj, rfl⟩ | rfl | ⟨j, hj, rfl⟩ | rfl
    · rw [e0] at hv; exact .inl ⟨rfl, (Option.some.inj hv).symm⟩
    · rw [e1] at hv; exact .inr (.inl ⟨rfl, (Option.some.inj hv).symm⟩)
    · rw [e2] at hv; exact .inr (.inr (.inl ⟨rfl, (Option.some.inj hv).symm⟩))
    · rw [em j hj] at hv; exact .inr (.inr (.inr (.inl ⟨j, hj, rfl, (Option.some.inj hv).symm⟩)))
    · rw [ea] at hv; exact .inr (.inr (.inr (.inr (.inl ⟨rfl, (Option.some.inj hv).symm⟩))))
    · rw [ed j hj] at hv; exact .inr (.inr (.inr (.inr (.inr (.inl ⟨j, hj, rfl, (Option.some.inj hv).symm⟩)))))
    · rw [es] at hv; exact .inr (.inr (.inr (.inr (.inr (.inr ⟨rfl, (Option.some.inj hv).symm⟩)))))
  · rintro (⟨rfl, rfl⟩ | ⟨rfl, rfl⟩ | ⟨rfl, rfl⟩ | ⟨j, hj, rfl, rfl⟩ | ⟨rfl, rfl⟩ | ⟨j, hj, rfl, rfl⟩ | ⟨rfl, rfl⟩)
    · exact e0
    · exact e1
    · exact e2
    · exact em j hj
    · exact ea
    · exact ed j hj
    · exact es
/-! ### Cells written -/
theorem row_setCell {w : World} {b j : Nat} {cs : Array Value} {t : TypeId} {fr : Nat × Nat} {u : Value} (h : w.heap[b]? = some (.cells cs t fr)) :
    (w.setCell ⟨b, j, none⟩ u).heap[b]? = some (.cells (cs.setIfInBounds j u) t fr) := by
  have hlt := lt_of_block h
  have h' : w.heap[b] = .cells cs t fr := by simpa [Array.getElem?_eq_getElem hlt] using h
  show (w.heap.modify b _)[b]? = _
  rw [Array.getElem?_eq_getElem (by simpa using hlt), Array.getElem_modify_self, h']
  rfl
theorem row_setCells {b : Nat} {t : TypeId} {fr : Nat × Nat} : ∀ (vs : List Value) (o : Nat) (w : World) (cs : Array Value), w.heap[b]? = some (.cells cs t fr) →
    ∃ cs', (w.setCells b o vs).heap[b]? = some (.cells cs' t fr) ∧ cs'.size = cs.size ∧ ∀ i, i < cs.size → cs'[i]? = if o ≤ i ∧ i < o + vs.length then vs[i - o]? else cs[i]?
  | [], o, w, cs, h => ⟨cs, h, rfl, fun i hi => by rw [if_neg (by simp only [List.length_nil]; omega)]⟩
  | v :: r, o, w, cs, h => by
    obtain ⟨cs', h1, h2, h3⟩ := row_setCells r (o + 1) (w.setCell ⟨b, o, none⟩ v) _ (row_setCell (j := o) (u := v) h)
    refine ⟨cs', h1, by simpa using h2, fun i hi => ?_⟩
    rw [h3 i (by simpa using hi)]
    simp only [List.length_cons]
    by_cases e : i = o
    · subst e
      rw [if_neg (by omega), if_pos (by omega)]
      simp [Array.getElem?_setIfInBounds, hi]
    · by_cases hh : o + 1 ≤ i ∧ i < o + 1 + r.length
      · rw [if_pos hh, if_pos (by omega), show i - o = (i - (o + 1)) + 1 from by omega, List.getElem?_cons_succ]
      · rw [if_neg hh, if_neg (by omega), Array.getElem?_setIfInBounds, if_neg (by omega)]
theorem Kept.setCells {p : Nat → Prop} {a : World} {g : Nat} (hp : p g ∨ a.heap.size ≤ g) : ∀ (vs : List Value) (o : Nat) (w : World), Kept p a w → Kept p a (w.setCells g o vs)
  | [], _, _, h => h
  | v :: r, o, w, h => Kept.setCells hp r (o + 1) _ (h.setCell (x := ⟨g, o, none⟩) hp v)
theorem setCells_one (w : World) (g o : Nat) (v : Value) : w.setCells g o [v] = w.setCell ⟨g, o, none⟩ v := rfl
/-! ### The ports -/
/-- an object, such ports: g is its block -/
structure Pt (w : World) (g : Nat) (l : List Bx) : Prop where
  ok : ∀ b ∈ l, b.ok
  len : l.length ≤ 16
  row : ∃ cs, w.heap[g]? = some (.cells cs 61 (0, 0)) ∧ cs.size = 593 ∧ (∀ v ∈ cs, v.oneCell' = true) ∧ cs[592]? = some (.int .i64 l.length) ∧
    ∀ k, k < l.length → ∀ i v, (encB l[k]!)[i]? = some v → cs[k * 37 + i]? = some v
theorem Pt.at {w : World} {g : Nat} {l : List Bx} (h : Pt w g l) {k : Nat} (hk : k < l.length) : (l[k]!).ok := by
  rw [getElem!_pos l k hk]; exact h.ok _ (List.getElem_mem hk)
theorem Pt.kept {w w' : World} {g : Nat} {l : List Bx} (h : Pt w g l) {p : Nat → Prop} (hk : Kept p w w') (hg : ¬ p g) : Pt w' g l := by
  obtain ⟨cs, h1, h2⟩ := h.row
  exact ⟨h.ok, h.len, cs, hk.same h1 hg, h2⟩
theorem Pt.below {w w' : World} {g : Nat} {l : List Bx} (h : Pt w g l) {B : Nat} (hb : Below B w w') (hB : w.heap.size ≤ B) : Pt w' g l :=
  h.kept (p := fun _ => False) (Kept.of_below (hb.mono hB)) id
theorem Pt.lt {w : World} {g : Nat} {l : List Bx} (h : Pt w g l) : g < w.heap.size := by
  obtain ⟨cs, h1, _⟩ := h.row
  exact lt_of_block h1
theorem Pt.drew {w : World} {g : Nat} {l : List Bx} (h : Pt w g l) : Pt w.drew g l := h.kept (Kept.refl (fun _ => False) w).drew id
theorem Pt.count {w : World} {g : Nat} {l : List Bx} (h : Pt w g l) : w.cell? ⟨g, 592, none⟩ = some (.int .i64 l.length) := by
  obtain ⟨cs, h1, h2, h3, h4, h5⟩ := h.row
  rw [cell_of_row _ _ _ _ _ _ h1]; exact h4
theorem Pt.range {w : World} {g : Nat} {l : List Bx} (h : Pt w g l) {k : Nat} (hk : k < l.length) : w.rangeAt g (k * 37) (encB l[k]!) := by
  obtain ⟨cs, h1, h2, h3, h4, h5⟩ := h.row
  intro j v hv
  rw [cell_of_row _ _ _ _ _ _ h1]; exact h5 k hk j v hv
theorem Pt.frozen {w : World} {g : Nat} {l : List Bx} (h : Pt w g l) (j : Nat) : w.frozen? ⟨g, j, none⟩ = false := by
  obtain ⟨cs, h1, _⟩ := h.row
  simp [World.frozen?, h1]
theorem Pt.there {w : World} {g : Nat} {l : List Bx} (h : Pt w g l) (o n : Nat) (hn : o + n ≤ 593) : w.there g o n := by
  obtain ⟨cs, h1, h2, _⟩ := h.row
  intro j hj
  refine ⟨?_, h.frozen _⟩
  rw [cell_of_row _ _ _ _ _ _ h1, Array.getElem?_eq_getElem (by omega)]
  rfl
section
variable {w : World} {g : Nat} {l : List Bx}
theorem Pt.cw (h : Pt w g l) {k : Nat} (hk : k < l.length) : w.cell? ⟨g, k * 37, none⟩ = some (.int .i64 (l[k]!).d.w) := h.range hk 0 _ ((encB_at (h.at hk) 0 _).2 (.inl ⟨rfl, rfl⟩))
theorem Pt.cwr (h : Pt w g l) {k : Nat} (hk : k < l.length) : w.cell? ⟨g, k * 37 + 1, none⟩ = some (.int .i64 (l[k]!).d.wr) := h.range hk 1 _ ((encB_at (h.at hk) 1 _).2 (.inr (.inl ⟨rfl, rfl⟩)))
theorem Pt.crd (h : Pt w g l) {k : Nat} (hk : k < l.length) : w.cell? ⟨g, k * 37 + 2, none⟩ = some (.int .u32 (l[k]!).d.rd) := h.range hk 2 _ ((encB_at (h.at hk) 2 _).2 (.inr (.inr (.inl ⟨rfl, rfl⟩))))
theorem Pt.cm (h : Pt w g l) {k : Nat} (hk : k < l.length) {j : Nat} (hj : j < 16) : w.cell? ⟨g, k * 37 + (3 + j), none⟩ = some (.int .u32 ((l[k]!).m.getD j 0)) :=
  h.range hk (3 + j) _ ((encB_at (h.at hk) _ _).2 (.inr (.inr (.inr (.inl ⟨j, hj, rfl, rfl⟩)))))
theorem Pt.cage (h : Pt w g l) {k : Nat} (hk : k < l.length) : w.cell? ⟨g, k * 37 + 19, none⟩ = some (.int .u32 (l[k]!).age) := h.range hk 19 _ ((encB_at (h.at hk) 19 _).2 (.inr (.inr (.inr (.inr (.inl ⟨rfl, rfl⟩))))))
theorem Pt.cdr (h : Pt w g l) {k : Nat} (hk : k < l.length) {j : Nat} (hj : j < 16) : w.cell? ⟨g, k * 37 + (20 + j), none⟩ = some (.int .u32 ((l[k]!).dr.getD j 0)) :=
  h.range hk (20 + j) _ ((encB_at (h.at hk) _ _).2 (.inr (.inr (.inr (.inr (.inr (.inl ⟨j, hj, rfl, rfl⟩)))))))
theorem Pt.cs (h : Pt w g l) {k : Nat} (hk : k < l.length) : w.cell? ⟨g, k * 37 + 36, none⟩ = some (.bool (l[k]!).s) := h.range hk 36 _ ((encB_at (h.at hk) 36 _).2 (.inr (.inr (.inr (.inr (.inr (.inr ⟨rfl, rfl⟩)))))))
theorem set_at (l : List Bx) (k : Nat) (b : Bx) (h : k < l.length) : (l.set k b)[k]! = b := by
  rw [getElem!_pos _ k (by simpa using h)]; simp
theorem set_other (l : List Bx) (k i : Nat) (b : Bx) (h : i < l.length) (e : k ≠ i) : (l.set k b)[i]! = l[i]! := by
  rw [getElem!_pos _ i (by simpa using h), getElem!_pos l i h, List.getElem_set_ne e]
theorem modify_set (l : List Bx) (k : Nat) (f : Bx → Bx) (h : k < l.length) : l.modify k f = l.set k (f l[k]!) := by
  apply List.ext_getElem
  · simp
  · intro i h1 h2
    rw [List.getElem_modify, List.getElem_set]
    split
    · rename_i e; subst e; rw [getElem!_pos l k h]
    · rfl
/-- cells of a port are written: it stands so -/
theorem Pt.write (h : Pt w g l) {k : Nat} (hk : k < l.length) (b : Bx) (hb : b.ok) (o : Nat) (vs : List Value) (ho : o + vs.length ≤ 37) (h1 : ∀ v ∈ vs, v.oneCell' = true)
    (he : ∀ i v, (encB b)[i]? = some v → (o ≤ i ∧ i < o + vs.length → vs[i - o]? = some v) ∧ (¬ (o ≤ i ∧ i < o + vs.length) → (encB l[k]!)[i]? = some v)) : Pt (w.setCells g (k * 37 + o) vs) g (l.set k b) := by
  have hl := h.len
  obtain ⟨cs, r1, r2, r3, r4, r5⟩ := h.row
  obtain ⟨cs', q1, q2, q3⟩ := row_setCells vs (k * 37 + o) w cs r1
  refine ⟨fun x hx => ?_, by simpa using hl, cs', q1, by omega, fun v hv => ?_, ?_, ?_⟩
  · rcases List.mem_or_eq_of_mem_set hx with hx | rfl
    · exact h.ok _ hx
    · exact hb
  · obtain ⟨i, hi, rfl⟩ := Array.mem_iff_getElem.1 hv
    have := q3 i (by omega)
    rw [Array.getElem?_eq_getElem hi] at this
    split at this
    · exact h1 _ (List.mem_of_getElem? this.symm)
    · exact r3 _ (Array.mem_of_getElem? this.symm)
  · rw [q3 592 (by omega), if_neg (by omega), List.length_set]; exact r4
  · intro n hn i v hv
    rw [List.length_set] at hn
    by_cases e : k = n
    · subst e
      rw [set_at _ _ _ hk] at hv
      have hi : i < 37 := by have := (List.getElem?_eq_some_iff.1 hv).1; rwa [encB_len hb] at this
      obtain ⟨e1, e2⟩ := he i v hv
      rw [q3 _ (by omega)]
      split
      · rename_i hh
        rw [show k * 37 + i - (k * 37 + o) = i - o from by omega]
        exact e1 (by omega)
      · rename_i hh
        exact r5 k hn i v (e2 (by omega))
    · rw [set_other _ _ _ _ hn e] at hv
      have hi : i < 37 := by have := (List.getElem?_eq_some_iff.1 hv).1; rwa [encB_len (h.at hn)] at this
      rw [q3 _ (by omega), if_neg (by omega)]
      exact r5 n hn i v hv
theorem Pt.keptW (g o : Nat) (vs : List Value) (w : World) : Kept (fun k => k = g) w (w.setCells g o vs) := Kept.setCells (p := fun k => k = g) (.inl rfl) vs o w (Kept.refl _ w)
/-- a word of the draft -/
theorem Pt.wDr (h : Pt w g l) {k : Nat} (hk : k < l.length) (j : Nat) (hj : j < 16) (x : Int) (hx : 0 ≤ x ∧ x ≤ 4294967295) : Pt (w.setCell ⟨g, k * 37 + (20 + j), none⟩ (.int .u32 x)) g (l.modify k (putB j x)) := by
  rw [modify_set _ _ _ hk, ← setCells_one]
  have hb := putB_ok (h.at hk) j x hx
  refine h.write hk _ hb (20 + j) _ (by simp; omega) (by simp [Value.oneCell']) fun i v hv => ?_
  have hv' := (encB_at hb i v).1 hv
  simp only [List.length_cons, List.length_nil]
  constructor
  · rintro ⟨h1, h2⟩
    have : i = 20 + j := by omega
    subst this
    rcases hv' with ⟨e, _⟩ | ⟨e, _⟩ | ⟨e, _⟩ | ⟨n, hn, e, _⟩ | ⟨e, _⟩ | ⟨n, hn, e, rfl⟩ | ⟨e, _⟩ <;> try omega
    have : n = j := by omega
    subst this
    have hd := (h.at hk).dr
    rw [show 20 + n - (20 + n) = 0 from by omega]
    show some _ = some (Value.int _ (((l[k]!).dr.set n x).getD n 0))
    simp only [List.getD, List.getElem?_set_self (show n < (l[k]!).dr.length by omega), Option.getD_some]
  · intro hne
    rw [encB_at (h.at hk)]
    rcases hv' with h | h | h | h | h | ⟨n, hn, e, rfl⟩ | h
    · exact .inl h
    · exact .inr (.inl h)
    · exact .inr (.inr (.inl h))
    · exact .inr (.inr (.inr (.inl h)))
    · exact .inr (.inr (.inr (.inr (.inl h))))
    · refine .inr (.inr (.inr (.inr (.inr (.inl ⟨n, hn, e, ?_⟩)))))
      simp [putB, List.getD, List.getElem?_set, show j ≠ n from by omega]
    · exact .inr (.inr (.inr (.inr (.inr (.inr h)))))
/-- whether it is sent -/
theorem Pt.wS (h : Pt w g l) {k : Nat} (hk : k < l.length) (s : Bool) : Pt (w.setCell ⟨g, k * 37 + 36, none⟩ (.bool s)) g (l.set k { l[k]! with s := s }) := by
  rw [← setCells_one]
  have h0 := h.at hk
  have hb : ({ l[k]! with s := s } : Bx).ok := ⟨h0.w, h0.wr, h0.rd, h0.m, h0.dr, h0.mz, h0.dz, h0.age⟩
  refine h.write hk _ hb 36 _ (by simp) (by simp [Value.oneCell']) fun i v hv => ?_
  have hv' := (encB_at hb i v).1 hv
  simp only [List.length_cons, List.length_nil]
  constructor
  · rintro ⟨h1, h2⟩
    have : i = 36 := by omega
    subst this
    rcases hv' with ⟨e, _⟩ | ⟨e, _⟩ | ⟨e, _⟩ | ⟨n, hn, e, _⟩ | ⟨e, _⟩ | ⟨n, hn, e, _⟩ | ⟨e, rfl⟩ <;> first | omega | rfl
  · intro hne
    rw [encB_at h0]
    rcases hv' with h | h | h | h | h | h | ⟨e, _⟩
    · exact .inl h
    · exact .inr (.inl h)
    · exact .inr (.inr (.inl h))
    · exact .inr (.inr (.inr (.inl h)))
    · exact .inr (.inr (.inr (.inr (.inl h))))
    · exact .inr (.inr (.inr (.inr (.inr (.inl h)))))
    · omega
/-- the age -/
theorem Pt.wAge (h : Pt w g l) {k : Nat} (hk : k < l.length) (z : Int) (hz : 0 ≤ z ∧ z ≤ 255) : Pt (w.setCell ⟨g, k * 37 + 19, none⟩ (.int .u32 z)) g (l.set k { l[k]! with age := z }) := by
  rw [← setCells_one]
  have h0 := h.at hk
  have hb : ({ l[k]! with age := z } : Bx).ok := ⟨h0.w, h0.wr, h0.rd, h0.m, h0.dr, h0.mz, h0.dz, hz⟩
  refine h.write hk _ hb 19 _ (by simp) (by simp [Value.oneCell']) fun i v hv => ?_
  have hv' := (encB_at hb i v).1 hv
  simp only [List.length_cons, List.length_nil]
  constructor
  · rintro ⟨h1, h2⟩
    have : i = 19 := by omega
    subst this
    rcases hv' with ⟨e, _⟩ | ⟨e, _⟩ | ⟨e, _⟩ | ⟨n, hn, e, _⟩ | ⟨e, rfl⟩ | ⟨n, hn, e, _⟩ | ⟨e, _⟩ <;> first | omega | rfl
  · intro hne
    rw [encB_at h0]
    rcases hv' with h | h | h | h | ⟨e, _⟩ | h | h
    · exact .inl h
    · exact .inr (.inl h)
    · exact .inr (.inr (.inl h))
    · exact .inr (.inr (.inr (.inl h)))
    · omega
    · exact .inr (.inr (.inr (.inr (.inr (.inl h)))))
    · exact .inr (.inr (.inr (.inr (.inr (.inr h)))))
/-- the whole message -/
theorem Pt.wM (h : Pt w g l) {k : Nat} (hk : k < l.length) (m : List Int) (hm : m.length = 16) (hz : ∀ z ∈ m, 0 ≤ z ∧ z ≤ 4294967295) : Pt (w.setCells g (k * 37 + 3) (nums m)) g (l.set k { l[k]! with m := m }) := by
  have h0 := h.at hk
  have hb : ({ l[k]! with m := m } : Bx).ok := ⟨h0.w, h0.wr, h0.rd, hm, h0.dr, hz, h0.dz, h0.age⟩
  refine h.write hk _ hb 3 _ (by rw [nums_len, hm]; omega) (nums_one _) fun i v hv => ?_
  have hv' := (encB_at hb i v).1 hv
  rw [nums_len, hm]
  constructor
  · rintro ⟨h1, h2⟩
    rcases hv' with ⟨e, _⟩ | ⟨e, _⟩ | ⟨e, _⟩ | ⟨n, hn, e, rfl⟩ | ⟨e, _⟩ | ⟨n, hn, e, _⟩ | ⟨e, _⟩ <;> try omega
    rw [show i - 3 = n from by omega]
    exact nums_at _ _ (by omega)
  · intro hne
    rw [encB_at h0]
    rcases hv' with h | h | h | ⟨n, hn, e, _⟩ | h | h | h
    · exact .inl h
    · exact .inr (.inl h)
    · exact .inr (.inr (.inl h))
    · omega
    · exact .inr (.inr (.inr (.inr (.inl h))))
    · exact .inr (.inr (.inr (.inr (.inr (.inl h)))))
    · exact .inr (.inr (.inr (.inr (.inr (.inr h)))))
/-- the whole draft -/
theorem Pt.wD (h : Pt w g l) {k : Nat} (hk : k < l.length) (m : List Int) (hm : m.length = 16) (hz : ∀ z ∈ m, 0 ≤ z ∧ z ≤ 4294967295) : Pt (w.setCells g (k * 37 + 20) (nums m)) g (l.set k { l[k]! with dr := m }) := by
  have h0 := h.at hk
  have hb : ({ l[k]! with dr := m } : Bx).ok := ⟨h0.w, h0.wr, h0.rd, h0.m, hm, h0.mz, hz, h0.age⟩
  refine h.write hk _ hb 20 _ (by rw [nums_len, hm]; omega) (nums_one _) fun i v hv => ?_
  have hv' := (encB_at hb i v).1 hv
  rw [nums_len, hm]
  constructor
  · rintro ⟨h1, h2⟩
    rcases hv' with ⟨e, _⟩ | ⟨e, _⟩ | ⟨e, _⟩ | ⟨n, hn, e, _⟩ | ⟨e, _⟩ | ⟨n, hn, e, rfl⟩ | ⟨e, _⟩ <;> try omega
    rw [show i - 20 = n from by omega]
    exact nums_at _ _ (by omega)
  · intro hne
    rw [encB_at h0]
    rcases hv' with h | h | h | h | h | ⟨n, hn, e, _⟩ | h
    · exact .inl h
    · exact .inr (.inl h)
    · exact .inr (.inr (.inl h))
    · exact .inr (.inr (.inr (.inl h)))
    · exact .inr (.inr (.inr (.inr (.inl h))))
    · omega
    · exact .inr (.inr (.inr (.inr (.inr (.inr h)))))
end
end Prt
end Go.Proofs.Ytcapiaempfjmeaa
