/- Rows of numbers in memory, and what a call leaves as it was. -/
import Derived.Test.YtodbfkifendniaaDoorShaW1
import Derived.LoopTactic
import Derived.Laws.Rows
import Derived.OneCell
import Derived.Lib.Hide
import Derived.Deep.WholeRow
namespace Go.Proofs.YtodbfkifendniaaDoor
open Go.ChangeShapes Go.WideShapes Go.ChangeAt Go.RowKit
namespace Sha
/-- numbers as a row's cells -/
def ints (k : IntKind) (l : List Int) : Array Value := (l.map (Value.int k)).toArray
theorem ints_size (k : IntKind) (l : List Int) : (ints k l).size = l.length := by simp [ints]
theorem ints_at (k : IntKind) (l : List Int) (i : Nat) (h : i < l.length) : (ints k l)[i]? = some (.int k (l.getD i 0)) := by simp [ints, h]
theorem ints_set (k : IntKind) (l : List Int) (i : Nat) (v : Int) : (ints k l).setIfInBounds i (.int k v) = ints k (l.set i v) := by
  apply Array.ext'
  simp [ints, List.map_set]
theorem ints_one (k : IntKind) (l : List Int) : ∀ v ∈ (ints k l).toList, v.oneCell' = true := by
  intro v hv
  simp [ints] at hv
  obtain ⟨i, _, rfl⟩ := hv
  rfl
theorem ints_all (k : IntKind) (l : List Int) : (ints k l).all Value.oneCell' = true := Array.all_eq_true_iff_forall_mem.2 fun v hv => ints_one k l v (by simpa using hv)

theorem below_setRow (w : World) (g : Nat) (c : Array Value) : Below g w (w.setRow g c) :=
  ⟨rfl, rfl, rfl, by simp [World.setRow], fun k hk => by simp only [World.setRow, Array.getElem?_modify]; rw [if_neg (by omega)]⟩
theorem row_setCell {w : World} {b j : Nat} {cs : Array Value} {t : TypeId} {fr : Nat × Nat} {u : Value} (h : w.heap[b]? = some (.cells cs t fr)) :
    (w.setCell ⟨b, j, none⟩ u).heap[b]? = some (.cells (cs.setIfInBounds j u) t fr) := by
  have hlt := lt_of_block h
  have h' : w.heap[b] = .cells cs t fr := by simpa [Array.getElem?_eq_getElem hlt] using h
  show (w.heap.modify b _)[b]? = _
  rw [Array.getElem?_eq_getElem (by simpa using hlt), Array.getElem_modify_self, h']
  rfl
theorem row_free {w : World} {b j : Nat} {cs : Array Value} {t : TypeId} (h : w.heap[b]? = some (.cells cs t (0, 0))) : w.frozen? ⟨b, j, none⟩ = false := by simp [World.frozen?, h]
theorem row_cell {w : World} {b : Nat} {k : IntKind} {l : List Int} {t : TypeId} {fr : Nat × Nat} (h : w.heap[b]? = some (.cells (ints k l) t fr)) (i : Nat) (hi : i < l.length) : w.cell? ⟨b, i, none⟩ = some (.int k (l.getD i 0)) := by
  rw [cell_of_row _ _ _ _ _ _ h]; exact ints_at k l i hi
/-- a row of numbers that may be written -/
def IntRow (w : World) (b : Nat) (k : IntKind) (l : List Int) (t : TypeId) : Prop := w.heap[b]? = some (.cells (ints k l) t (0, 0))
theorem IntRow.set {w : World} {b : Nat} {k : IntKind} {l : List Int} {t : TypeId} (h : IntRow w b k l t) (i : Nat) (v : Int) : IntRow (w.setCell ⟨b, i, none⟩ (.int k v)) b k (l.set i v) t := by
  unfold IntRow; rw [row_setCell h, ints_set]
theorem IntRow.cell {w : World} {b : Nat} {k : IntKind} {l : List Int} {t : TypeId} (h : IntRow w b k l t) (i : Nat) (hi : i < l.length) : w.cell? ⟨b, i, none⟩ = some (.int k (l.getD i 0)) := row_cell h i hi
theorem IntRow.free {w : World} {b : Nat} {k : IntKind} {l : List Int} {t : TypeId} (h : IntRow w b k l t) (i : Nat) : w.frozen? ⟨b, i, none⟩ = false := row_free h
theorem IntRow.other {w : World} {b : Nat} {k : IntKind} {l : List Int} {t : TypeId} (h : IntRow w b k l t) (a : Addr) (v : Value) (hb : b ≠ a.block) : IntRow (w.setCell a v) b k l t := by
  unfold IntRow; rw [Below.heap_setCell _ _ _ _ hb]; exact h
theorem IntRow.alloc {w : World} {b : Nat} {k : IntKind} {l : List Int} {t : TypeId} (h : IntRow w b k l t) (o : Obj) : IntRow (w.alloc o) b k l t := by
  unfold IntRow; rw [Below.heap_alloc _ _ _ (lt_of_block h)]; exact h
theorem IntRow.below {w w' : World} {b : Nat} {k : IntKind} {l : List Int} {t : TypeId} (h : IntRow w b k l t) {B : Nat} (hb : Below B w w') (hB : b < B) : IntRow w' b k l t := by
  unfold IntRow; rw [hb.block b hB]; exact h
theorem IntRow.lt {w : World} {b : Nat} {k : IntKind} {l : List Int} {t : TypeId} (h : IntRow w b k l t) : b < w.heap.size := lt_of_block h

/-- all blocks that were there are as they were, but those that may be written; no block has gone -/
structure Kept (p : Nat → Prop) (w w' : World) : Prop where
  os : w'.os = w.os
  tape : w'.tape = w.tape
  output : w'.output = w.output
  size : w.heap.size ≤ w'.heap.size
  block : ∀ k, k < w.heap.size → ¬ p k → w'.heap[k]? = w.heap[k]?
theorem Kept.refl (p : Nat → Prop) (w : World) : Kept p w w := ⟨rfl, rfl, rfl, Nat.le_refl _, fun _ _ _ => rfl⟩
theorem Kept.trans {p : Nat → Prop} {a b c : World} (h : Kept p a b) (k : Kept p b c) : Kept p a c :=
  ⟨k.os.trans h.os, k.tape.trans h.tape, k.output.trans h.output, Nat.le_trans h.size k.size, fun i hi hp => (k.block i (Nat.lt_of_lt_of_le hi h.size) hp).trans (h.block i hi hp)⟩
theorem Kept.mono {p q : Nat → Prop} {w w' : World} (h : Kept p w w') (hq : ∀ k, p k → q k) : Kept q w w' := ⟨h.os, h.tape, h.output, h.size, fun k hk hp => h.block k hk (fun x => hp (hq k x))⟩
theorem Kept.alloc {p : Nat → Prop} {a w : World} (h : Kept p a w) (o : Obj) : Kept p a (w.alloc o) :=
  h.trans ⟨rfl, rfl, rfl, by simp, fun k hk _ => Below.heap_alloc _ _ _ hk⟩
theorem Kept.setCell {p : Nat → Prop} {a w : World} (h : Kept p a w) {x : Addr} (hp : p x.block ∨ a.heap.size ≤ x.block) (u : Value) : Kept p a (w.setCell x u) :=
  ⟨h.os, h.tape, h.output, by have := h.size; simpa [World.setCell] using this, fun k hk hn => by
    rw [Below.heap_setCell _ _ _ _ (fun e => by rcases hp with hp | hp; exact hn (e ▸ hp); omega)]; exact h.block k hk hn⟩
theorem Kept.drew {p : Nat → Prop} {a w : World} (h : Kept p a w) : Kept p a w.drew := ⟨h.os, h.tape, h.output, h.size, h.block⟩
theorem Kept.of_below {p : Nat → Prop} {w w' : World} (h : Below w.heap.size w w') : Kept p w w' := ⟨h.os, h.tape, h.output, h.size, fun k hk _ => h.block k hk⟩
theorem Kept.toBelow {p : Nat → Prop} {w w' : World} (h : Kept p w w') {B : Nat} (hB : B ≤ w.heap.size) (hp : ∀ k, k < B → ¬ p k) : Below B w w' := ⟨h.os, h.tape, h.output, h.size, fun k hk => h.block k (by omega) (hp k hk)⟩
theorem IntRow.kept {w w' : World} {b : Nat} {k : IntKind} {l : List Int} {t : TypeId} (h : IntRow w b k l t) {p : Nat → Prop} (hk : Kept p w w') (hp : ¬ p b) : IntRow w' b k l t := by
  unfold IntRow; rw [hk.block b h.lt hp]; exact h

/-- an array is sliced from a number to a number -/
theorem slice_lh (w : World) (t : TypeId) (n : Nat) (hn : Tryd.prog.arrayLen t = n) (ht : Tryd.prog.underlying t = some (.array (Tryd.prog.arrayLen t) (Tryd.prog.elem t))) (hs : (sizeOf (Tryd.prog.elem t)).run Tryd.prog w = .ok 1 w)
    (B o : Nat) (l h : Nat) (a b : Int) (ha : a = l) (hb : b = h) (h1 : l ≤ h) (h2 : h ≤ n) (h3 : l < n) :
    (Instr.sliceAt t (.pointer (some ⟨B, o, none⟩)) (some (.int .i64 a)) (some (.int .i64 b)) none).run Tryd.prog w = .ok (.slice (some ⟨B, o + l, none⟩) (h - l) (n - l)) w := by
  subst ha; subst hb
  rw [run_sliceAt_array_lh w t _ ht .i64 .i64 l h (by omega) (by omega) (by rw [hn]; omega), hs, hn]
  simp [Result.andThen, slicedAt, Addr.add, show ¬ n = l from by omega]
theorem slice_l (w : World) (t : TypeId) (n : Nat) (hn : Tryd.prog.arrayLen t = n) (ht : Tryd.prog.underlying t = some (.array (Tryd.prog.arrayLen t) (Tryd.prog.elem t))) (hs : (sizeOf (Tryd.prog.elem t)).run Tryd.prog w = .ok 1 w)
    (B o : Nat) (l : Nat) (a : Int) (ha : a = l) (h3 : l < n) :
    (Instr.sliceAt t (.pointer (some ⟨B, o, none⟩)) (some (.int .i64 a)) none none).run Tryd.prog w = .ok (.slice (some ⟨B, o + l, none⟩) (n - l) (n - l)) w := by
  subst ha
  rw [run_sliceAt_array_l w t _ ht .i64 l (by omega) (by rw [hn]; omega), hs, hn]
  simp [Result.andThen, slicedAt, Addr.add, show ¬ n = l from by omega]
end Sha
end Go.Proofs.YtodbfkifendniaaDoor
