/- Rows of bytes and lists of regions in memory, and what a call leaves as it was. -/
import Derived.Test.YthpimoinognkhaaRows
import Derived.Test.YthpimoinognkhaaMemMath
import Derived.WalkKit
import Derived.ProofKit
import Derived.OpenShut
import Derived.Below
import Derived.OneCell
import Derived.LoopTactic
import Derived.Laws.Rows
import Derived.Laws.CopyRow
import Derived.Lib.Hide
import Derived.Deep.WholeRow
import Derived.Deep.QuietTactic
import Derived.Deep.RegionWith
import Derived.RegionTactic
import Derived.Handy
import Derived.Deep.MidRow
import Derived.BigQuiet
import Derived.IntWalk
import Derived.Outline
namespace Go.Proofs.Ythpimoinognkhaa
open Go.ChangeShapes Go.WideShapes Go.ChangeAt Go.RowKit
namespace Ram
set_option linter.unusedVariables false
set_option linter.unusedSimpArgs false
theorem ret_int {k : IntKind} {a b : Int} (h : a = b) : Ending.returned (.int k a) = .returned (.int k b) := by rw [h]
theorem ret_iff {a b : Bool} (h : a = true ↔ b = true) : Ending.returned (.bool a) = .returned (.bool b) := by rw [Bool.eq_iff_iff.2 h]
theorem ret_bool {a b : Bool} (h : a = b) : Ending.returned (.bool a) = .returned (.bool b) := by rw [h]
/-- all blocks that were there are as they were, but those that may be written; no block has gone -/
structure Kept (p : Nat → Prop) (w w' : World) : Prop where
  os : w'.os = w.os
  tape : w'.tape = w.tape
  output : w'.output = w.output
  size : w.heap.size ≤ w'.heap.size
  block : ∀ k, k < w.heap.size → ¬ p k → w'.heap[k]? = w.heap[k]?
theorem Kept.refl (p : Nat → Prop) (w : World) : Kept p w w := ⟨rfl, rfl, rfl, Nat.le_refl _, fun _ _ _ => rfl⟩
theorem Kept.trans {p : Nat → Prop} {a b c : World} (h : Kept p a b) (k : Kept p b c) : Kept p a c :=
  ⟨k.os.trans h.os, k.tape.trans h.tape, k.output.trans h.output, Nat.le_trans h.size k.size, fun i hi hp => (k.block i (Nat.lt_of_lt_of_le hi h.size) hp).trans (h.block i hi hp)⟩
theorem Kept.mono {p q : Nat → Prop} {w w' : World} (h : Kept p w w') (hq : ∀ k, k < w.heap.size → p k → q k) : Kept q w w' := ⟨h.os, h.tape, h.output, h.size, fun k hk hp => h.block k hk (fun x => hp (hq k hk x))⟩
/-- one part behind the other, each with its own blocks -/
theorem Kept.trans' {p q : Nat → Prop} {a b c : World} (h : Kept p a b) (k : Kept q b c) (hq : ∀ i, i < a.heap.size → q i → p i) : Kept p a c :=
  ⟨k.os.trans h.os, k.tape.trans h.tape, k.output.trans h.output, Nat.le_trans h.size k.size, fun i hi hp => (k.block i (Nat.lt_of_lt_of_le hi h.size) (fun x => hp (hq i hi x))).trans (h.block i hi hp)⟩
theorem Kept.alloc {p : Nat → Prop} {a w : World} (h : Kept p a w) (o : Obj) : Kept p a (w.alloc o) :=
  h.trans ⟨rfl, rfl, rfl, by simp, fun k hk _ => Below.heap_alloc _ _ _ hk⟩
theorem Kept.setCell {p : Nat → Prop} {a w : World} (h : Kept p a w) {x : Addr} (hp : p x.block ∨ a.heap.size ≤ x.block) (u : Value) : Kept p a (w.setCell x u) :=
  ⟨h.os, h.tape, h.output, by have := h.size; simpa [World.setCell] using this, fun k hk hn => by
    rw [Below.heap_setCell _ _ _ _ (fun e => by rcases hp with hp | hp; exact hn (e ▸ hp); omega)]; exact h.block k hk hn⟩
theorem Kept.setRow {p : Nat → Prop} {a w : World} (h : Kept p a w) {g : Nat} (hp : p g ∨ a.heap.size ≤ g) (cs : Array Value) : Kept p a (w.setRow g cs) :=
  ⟨h.os, h.tape, h.output, by have := h.size; simpa using this, fun k hk hn => by
    rw [setRow_other _ _ _ _ (fun e => by rcases hp with hp | hp; exact hn (e ▸ hp); omega)]; exact h.block k hk hn⟩
theorem Kept.drew {p : Nat → Prop} {a w : World} (h : Kept p a w) : Kept p a w.drew := ⟨h.os, h.tape, h.output, h.size, h.block⟩
theorem Kept.of_below {p : Nat → Prop} {w w' : World} (h : Below w.heap.size w w') : Kept p w w' := ⟨h.os, h.tape, h.output, h.size, fun k hk _ => h.block k hk⟩
theorem Kept.behind {p : Nat → Prop} {w w1 w3 : World} (h : Kept p w w1) {B : Nat} (hb : Below B w1 w3) (hB : w.heap.size ≤ B) : Kept p w w3 := ⟨hb.os.trans h.os, hb.tape.trans h.tape, hb.output.trans h.output, Nat.le_trans h.size hb.size, fun k hk hp => (hb.block k (by omega)).trans (h.block k hk hp)⟩
theorem Kept.below {B : Nat} {w w' : World} (h : Below B w w') : Kept (fun k => B ≤ k) w w' := ⟨h.os, h.tape, h.output, h.size, fun k _ hp => h.block k (by omega)⟩
theorem Kept.toBelow {p : Nat → Prop} {w w' : World} (h : Kept p w w') {B : Nat} (hB : B ≤ w.heap.size) (hp : ∀ k, k < B → ¬ p k) : Below B w w' := ⟨h.os, h.tape, h.output, h.size, fun k hk => h.block k (by omega) (hp k hk)⟩
theorem Kept.cell {p : Nat → Prop} {w w' : World} (h : Kept p w w') {a : Addr} {v : Value} (hc : w.cell? a = some v) (hp : ¬ p a.block) : w'.cell? a = some v :=
  (World.cell?_of_block (h.block _ (World.block_lt_of_cell? _ _ hc) hp)).trans hc
theorem Kept.same {p : Nat → Prop} {w w' : World} (h : Kept p w w') {k : Nat} {o : Obj} (hc : w.heap[k]? = some o) (hp : ¬ p k) : w'.heap[k]? = some o :=
  (h.block k (Array.getElem?_eq_some_iff.1 hc).1 hp).trans hc
/-! ### Rows of bytes -/
/-- a slice with this address and length has these bytes, in no block that may be written -/
def SRow (p : Nat → Prop) (w : World) (a : Option Addr) (n : Nat) (l : List Int) : Prop :=
  l.length = n ∧ (∀ z ∈ l, 0 ≤ z ∧ z ≤ 255) ∧ (n = 0 ∨ ∃ b off, a = some ⟨b, off, none⟩ ∧ ¬ p b ∧ ∀ i, i < n → w.cell? ⟨b, off + i, none⟩ = some (.int .u8 (l.getD i 0)))
theorem SRow.kept {p : Nat → Prop} {w w' : World} {a : Option Addr} {n : Nat} {l : List Int} (h : SRow p w a n l) (hk : Kept p w w') : SRow p w' a n l := by
  obtain ⟨h1, h2, h3⟩ := h
  refine ⟨h1, h2, ?_⟩
  rcases h3 with h3 | ⟨b, off, rfl, hp, hc⟩
  · exact Or.inl h3
  · exact Or.inr ⟨b, off, rfl, hp, fun i hi => hk.cell (hc i hi) hp⟩
theorem SRow.below {p : Nat → Prop} {w w' : World} {a : Option Addr} {n : Nat} {l : List Int} (h : SRow p w a n l) {B : Nat} (hb : Below B w w') (hB : w.heap.size ≤ B) : SRow p w' a n l := h.kept (Kept.of_below (hb.mono hB))
theorem SRow.imp {p q : Nat → Prop} {w : World} {a : Option Addr} {n : Nat} {l : List Int} (h : SRow p w a n l) (hq : ∀ k, k < w.heap.size → q k → p k) : SRow q w a n l := by
  obtain ⟨h1, h2, h3⟩ := h
  refine ⟨h1, h2, ?_⟩
  rcases h3 with h3 | ⟨b, off, rfl, hp, hc⟩
  · exact Or.inl h3
  · by_cases h0 : n = 0
    · exact Or.inl h0
    · exact Or.inr ⟨b, off, rfl, fun x => hp (hq b (World.block_lt_of_cell? _ _ (hc 0 (by omega))) x), hc⟩
/-- numbers as a row's cells -/
def ints (k : IntKind) (l : List Int) : Array Value := (l.map (Value.int k)).toArray
theorem ints_size (k : IntKind) (l : List Int) : (ints k l).size = l.length := by simp [ints]
theorem ints_at (k : IntKind) (l : List Int) (i : Nat) (h : i < l.length) : (ints k l)[i]? = some (.int k (l.getD i 0)) := by simp [ints, h]
theorem ints_set (k : IntKind) (l : List Int) (i : Nat) (v : Int) : (ints k l).setIfInBounds i (.int k v) = ints k (l.set i v) := by
  apply Array.ext'
  simp [ints, List.map_set]
theorem ints_one (k : IntKind) (l : List Int) : ∀ v ∈ l.map (Value.int k), v.oneCell' = true := by
  intro v hv
  obtain ⟨i, _, rfl⟩ := List.mem_map.1 hv
  rfl
theorem row_setCell {w : World} {b j : Nat} {cs : Array Value} {t : TypeId} {fr : Nat × Nat} {u : Value} (h : w.heap[b]? = some (.cells cs t fr)) :
    (w.setCell ⟨b, j, none⟩ u).heap[b]? = some (.cells (cs.setIfInBounds j u) t fr) := by
  have hlt := lt_of_block h
  have h' : w.heap[b] = .cells cs t fr := by simpa [Array.getElem?_eq_getElem hlt] using h
  show (w.heap.modify b _)[b]? = _
  rw [Array.getElem?_eq_getElem (by simpa using hlt), Array.getElem_modify_self, h']
  rfl
theorem row_free {w : World} {b : Nat} {cs : Array Value} {t : TypeId} (h : w.heap[b]? = some (.cells cs t (0, 0))) (j : Nat) : w.frozen? ⟨b, j, none⟩ = false := by simp [World.frozen?, h]
theorem row_cell {w : World} {b : Nat} {k : IntKind} {l : List Int} {t : TypeId} {fr : Nat × Nat} (h : w.heap[b]? = some (.cells (ints k l) t fr)) (i : Nat) (hi : i < l.length) : w.cell? ⟨b, i, none⟩ = some (.int k (l.getD i 0)) := by
  rw [cell_of_row _ _ _ _ _ _ h]; exact ints_at k l i hi
/-! ### Lists of regions -/
def enc (x : Rg) : List Value := [.int .u32 x.b, .int .u32 x.s, .int .u8 x.r]
theorem enc_len (x : Rg) : (enc x).length = 3 := rfl
/-- the regions of a list stand in memory from a cell on -/
def RIn (w : World) (b off : Nat) (l : List Rg) : Prop := ∀ j, j < l.length → ∀ i v, (enc l[j]!)[i]? = some v → w.cell? ⟨b, off + j * 3 + i, none⟩ = some v
/-- a slice with this address and length is this list of regions, in no block that may be written -/
def RRow (p : Nat → Prop) (w : World) (a : Option Addr) (n : Nat) (l : List Rg) : Prop := l.length = n ∧ (n = 0 ∨ ∃ b off, a = some ⟨b, off, none⟩ ∧ b < w.heap.size ∧ ¬ p b ∧ RIn w b off l)
theorem RIn.at {w : World} {b off : Nat} {l : List Rg} (h : RIn w b off l) (j : Nat) (hj : j < l.length) :
    w.cell? ⟨b, off + j * 3, none⟩ = some (.int .u32 l[j]!.b) ∧ w.cell? ⟨b, off + j * 3 + 1, none⟩ = some (.int .u32 l[j]!.s) ∧ w.cell? ⟨b, off + j * 3 + 2, none⟩ = some (.int .u8 l[j]!.r) :=
  ⟨h j hj 0 _ rfl, h j hj 1 _ rfl, h j hj 2 _ rfl⟩
theorem RIn.block {w w' : World} {b off : Nat} {l : List Rg} (h : RIn w b off l) (hb : w'.heap[b]? = w.heap[b]?) : RIn w' b off l := fun j hj i v hv => (World.cell?_of_block hb).trans (h j hj i v hv)
theorem RRow.kept {p : Nat → Prop} {w w' : World} {a : Option Addr} {n : Nat} {l : List Rg} (h : RRow p w a n l) (hk : Kept p w w') : RRow p w' a n l := by
  obtain ⟨h1, h2⟩ := h
  refine ⟨h1, ?_⟩
  by_cases h0 : n = 0
  · exact .inl h0
  · obtain ⟨b, off, e, hlt, hp, h2⟩ := h2.resolve_left h0
    exact .inr ⟨b, off, e, Nat.lt_of_lt_of_le hlt hk.size, hp, h2.block (hk.block b hlt hp)⟩
theorem RRow.below {p : Nat → Prop} {w w' : World} {a : Option Addr} {n : Nat} {l : List Rg} (h : RRow p w a n l) {B : Nat} (hb : Below B w w') (hB : w.heap.size ≤ B) : RRow p w' a n l := h.kept (Kept.of_below (hb.mono hB))
theorem RRow.imp {p q : Nat → Prop} {w : World} {a : Option Addr} {n : Nat} {l : List Rg} (h : RRow p w a n l) (hq : ∀ k, k < w.heap.size → q k → p k) : RRow q w a n l := by
  obtain ⟨h1, h2⟩ := h
  refine ⟨h1, h2.imp id ?_⟩
  rintro ⟨b, off, e, hlt, hp, h3⟩
  exact ⟨b, off, e, hlt, fun x => hp (hq b hlt x), h3⟩
/-! ### A memory -/
/-- an object of this type, a memory with these bytes: g is its block, d its bytes' -/
def Ram (T : TypeId) (w : World) (g d : Nat) (bs : List Int) : Prop :=
  (∀ z ∈ bs, 0 ≤ z ∧ z ≤ 255) ∧ bs.length ≤ 262144 ∧ g < w.heap.size ∧ d < w.heap.size ∧ ∃ a c, w.heap[g]? = some (.cells #[.slice a bs.length c] T (0, 0)) ∧ bs.length ≤ c ∧ c ≤ 1000000 ∧
    (bs = [] ∨ (d ≠ g ∧ a = some ⟨d, 0, none⟩ ∧ w.heap[d]? = some (.cells (ints .u8 bs) 5 (0, 0))))
theorem Ram.kept {T : TypeId} {w w' : World} {g d : Nat} {bs : List Int} (h : Ram T w g d bs) {p : Nat → Prop} (hk : Kept p w w') (hg : ¬ p g) (hd : ¬ p d) : Ram T w' g d bs := by
  obtain ⟨h1, h2, h3, h4, a, c, h5, h6, h7, h8⟩ := h
  refine ⟨h1, h2, Nat.lt_of_lt_of_le h3 hk.size, Nat.lt_of_lt_of_le h4 hk.size, a, c, hk.same h5 hg, h6, h7, h8.imp id ?_⟩
  rintro ⟨e1, e2, e3⟩
  exact ⟨e1, e2, hk.same e3 hd⟩
theorem Ram.below {T : TypeId} {w w' : World} {g d : Nat} {bs : List Int} (h : Ram T w g d bs) {B : Nat} (hb : Below B w w') (hB : w.heap.size ≤ B) : Ram T w' g d bs :=
  h.kept (p := fun _ => False) (Kept.of_below (hb.mono hB)) (fun x => x) (fun x => x)
/-- other bytes, as many -/
theorem Ram.put {T : TypeId} {w w' : World} {g d : Nat} {bs bs' : List Int} (h : Ram T w g d bs) (h0 : bs ≠ []) (hk : Kept (· = d) w w') (hl : bs'.length = bs.length) (hby : ∀ z ∈ bs', 0 ≤ z ∧ z ≤ 255)
    (hd : w'.heap[d]? = some (.cells (ints .u8 bs') 5 (0, 0))) : Ram T w' g d bs' := by
  obtain ⟨h1, h2, h3, h4, a, c, h5, h6, h7, h8⟩ := h
  obtain ⟨e1, e2, e3⟩ := h8.resolve_left h0
  refine ⟨hby, by omega, Nat.lt_of_lt_of_le h3 hk.size, Nat.lt_of_lt_of_le h4 hk.size, a, c, ?_, by omega, h7, .inr ⟨e1, e2, hd⟩⟩
  rw [hl]
  exact hk.same h5 (fun e => e1 e.symm)
end Ram
end Go.Proofs.Ythpimoinognkhaa
