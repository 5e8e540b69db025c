/- Rows of bytes and lists of values in memory, and what a call leaves as it was. -/
import Derived.Test.YtimhppgepiikbaaRows
import Derived.Test.YtimhppgepiikbaaWireMath
import Derived.WalkKit
import Derived.ProofKit
import Derived.OpenShut
import Derived.Below
import Derived.OneCell
import Derived.LoopTactic
import Derived.Laws.Rows
import Derived.Lib.Hide
import Derived.Deep.WholeRow
import Derived.Deep.QuietTactic
import Derived.BigQuiet
import Derived.IntWalk
import Derived.Outline
namespace Go.Proofs.Ytimhppgepiikbaa
open Go.ChangeShapes Go.WideShapes Go.ChangeAt Go.RowKit
namespace Wire
theorem ret_int {k : IntKind} {a b : Int} (h : a = b) : Ending.returned (.int k a) = .returned (.int k b) := by rw [h]
theorem ret_bool {a b : Bool} (h : a = b) : Ending.returned (.bool a) = .returned (.bool b) := by rw [h]
/-- all blocks that were there are as they were, but those that may be written; no block has gone -/
structure Kept (p : Nat → Prop) (w w' : World) : Prop where
  os : w'.os = w.os
  tape : w'.tape = w.tape
  output : w'.output = w.output
  size : w.heap.size ≤ w'.heap.size
  block : ∀ k, k < w.heap.size → ¬ p k → w'.heap[k]? = w.heap[k]?
theorem Kept.refl (p : Nat → Prop) (w : World) : Kept p w w := ⟨rfl, rfl, rfl, Nat.le_refl _, fun _ _ _ => rfl⟩
theorem Kept.trans {p : Nat → Prop} {a b c : World} (h : Kept p a b) (k : Kept p b c) : Kept p a c :=
  ⟨k.os.trans h.os, k.tape.trans h.tape, k.output.trans h.output, Nat.le_trans h.size k.size, fun i hi hp => (k.block i (Nat.lt_of_lt_of_le hi h.size) hp).trans (h.block i hi hp)⟩
theorem Kept.mono {p q : Nat → Prop} {w w' : World} (h : Kept p w w') (hq : ∀ k, p k → q k) : Kept q w w' := ⟨h.os, h.tape, h.output, h.size, fun k hk hp => h.block k hk (fun x => hp (hq k x))⟩
theorem Kept.alloc {p : Nat → Prop} {a w : World} (h : Kept p a w) (o : Obj) : Kept p a (w.alloc o) :=
  h.trans ⟨rfl, rfl, rfl, by simp, fun k hk _ => Below.heap_alloc _ _ _ hk⟩
theorem Kept.setCell {p : Nat → Prop} {a w : World} (h : Kept p a w) {x : Addr} (hp : p x.block ∨ a.heap.size ≤ x.block) (u : Value) : Kept p a (w.setCell x u) :=
  ⟨h.os, h.tape, h.output, by have := h.size; simpa [World.setCell] using this, fun k hk hn => by
    rw [Below.heap_setCell _ _ _ _ (fun e => by rcases hp with hp | hp; exact hn (e ▸ hp); omega)]; exact h.block k hk hn⟩
theorem Kept.drew {p : Nat → Prop} {a w : World} (h : Kept p a w) : Kept p a w.drew := ⟨h.os, h.tape, h.output, h.size, h.block⟩
theorem Kept.of_below {p : Nat → Prop} {w w' : World} (h : Below w.heap.size w w') : Kept p w w' := ⟨h.os, h.tape, h.output, h.size, fun k hk _ => h.block k hk⟩
theorem Kept.below {B : Nat} {w w' : World} (h : Below B w w') : Kept (fun k => B ≤ k) w w' := ⟨h.os, h.tape, h.output, h.size, fun k _ hp => h.block k (by omega)⟩
theorem Kept.toBelow {p : Nat → Prop} {w w' : World} (h : Kept p w w') {B : Nat} (hB : B ≤ w.heap.size) (hp : ∀ k, k < B → ¬ p k) : Below B w w' := ⟨h.os, h.tape, h.output, h.size, fun k hk => h.block k (by omega) (hp k hk)⟩
theorem Kept.cell {p : Nat → Prop} {w w' : World} (h : Kept p w w') {a : Addr} {v : Value} (hc : w.cell? a = some v) (hp : ¬ p a.block) : w'.cell? a = some v :=
  (World.cell?_of_block (h.block _ (World.block_lt_of_cell? _ _ hc) hp)).trans hc
/-- a slice with this address and length has these bytes, in no block that may be written -/
def SRow (p : Nat → Prop) (w : World) (a : Option Addr) (n : Nat) (l : List Int) : Prop :=
  l.length = n ∧ (∀ z ∈ l, 0 ≤ z ∧ z ≤ 255) ∧ (n = 0 ∨ ∃ b off, a = some ⟨b, off, none⟩ ∧ ¬ p b ∧ ∀ i, i < n → w.cell? ⟨b, off + i, none⟩ = some (.int .u8 (l.getD i 0)))
theorem SRow.kept {p : Nat → Prop} {w w' : World} {a : Option Addr} {n : Nat} {l : List Int} (h : SRow p w a n l) (hk : Kept p w w') : SRow p w' a n l := by
  obtain ⟨h1, h2, h3⟩ := h
  refine ⟨h1, h2, ?_⟩
  rcases h3 with h3 | ⟨b, off, rfl, hp, hc⟩
  · exact Or.inl h3
  · exact Or.inr ⟨b, off, rfl, hp, fun i hi => hk.cell (hc i hi) hp⟩
theorem SRow.imp {p q : Nat → Prop} {w : World} {a : Option Addr} {n : Nat} {l : List Int} (h : SRow p w a n l) (hq : ∀ k, k < w.heap.size → q k → p k) : SRow q w a n l := by
  obtain ⟨h1, h2, h3⟩ := h
  refine ⟨h1, h2, ?_⟩
  rcases h3 with h3 | ⟨b, off, rfl, hp, hc⟩
  · exact Or.inl h3
  · by_cases h0 : n = 0
    · exact Or.inl h0
    · exact Or.inr ⟨b, off, rfl, fun x => hp (hq b (World.block_lt_of_cell? _ _ (hc 0 (by omega))) x), hc⟩
/-- the values of a list stand in memory from a cell on, in no block that may be written -/
def FIn (p : Nat → Prop) (w : World) (blk : Nat) : Nat → F → Prop
  | _, .nil => True
  | o, .cons k n i b sub next =>
    ¬ p blk ∧ w.cell? ⟨blk, o, none⟩ = some (.int .i64 k) ∧ w.cell? ⟨blk, o + 1, none⟩ = some (.int .u64 n) ∧ w.cell? ⟨blk, o + 2, none⟩ = some (.int .i64 i) ∧
    (∃ ba bn bc, w.cell? ⟨blk, o + 3, none⟩ = some (.slice ba bn bc) ∧ bn ≤ bc ∧ bc ≤ 9223372036854775807 ∧ SRow p w ba bn b) ∧
    (∃ la ln lc, w.cell? ⟨blk, o + 4, none⟩ = some (.slice la ln lc) ∧ ln ≤ lc ∧ lc ≤ 9223372036854775807 ∧ sub.len = ln ∧ (ln = 0 ∨ ∃ b' o', la = some ⟨b', o', none⟩ ∧ FIn p w b' o' sub)) ∧
    ((-9223372036854775808 ≤ k ∧ k ≤ 9223372036854775807) ∧ (0 ≤ n ∧ n ≤ 18446744073709551615) ∧ (-9223372036854775808 ≤ i ∧ i ≤ 9223372036854775807)) ∧
    FIn p w blk (o + 5) next
/-- a slice with this address and length is this list of values -/
def FRow (p : Nat → Prop) (w : World) (a : Option Addr) (n : Nat) (f : F) : Prop :=
  f.len = n ∧ (n = 0 ∨ ∃ b o, a = some ⟨b, o, none⟩ ∧ FIn p w b o f)
theorem FIn.kept {p : Nat → Prop} {w w' : World} (hk : Kept p w w') (f : F) : ∀ {b o : Nat}, FIn p w b o f → FIn p w' b o f := by
  induction f with
  | nil => intro _ _ _; trivial
  | cons k n i bs sub next ihs ihn =>
    intro b o h
    obtain ⟨hp, h0, h1, h2, ⟨ba, bn, bc, h3, h4, h5, h6⟩, ⟨la, ln, lc, g1, g2, g3, g4, g5⟩, hb, hn⟩ := h
    refine ⟨hp, hk.cell h0 hp, hk.cell h1 hp, hk.cell h2 hp, ⟨ba, bn, bc, hk.cell h3 hp, h4, h5, h6.kept hk⟩, ⟨la, ln, lc, hk.cell g1 hp, g2, g3, g4, ?_⟩, hb, ihn hn⟩
    rcases g5 with g5 | ⟨b', o', e, g5⟩
    · exact Or.inl g5
    · exact Or.inr ⟨b', o', e, ihs g5⟩
theorem FRow.kept {p : Nat → Prop} {w w' : World} {a : Option Addr} {n : Nat} {f : F} (h : FRow p w a n f) (hk : Kept p w w') : FRow p w' a n f := by
  obtain ⟨h1, h2⟩ := h
  refine ⟨h1, ?_⟩
  rcases h2 with h2 | ⟨b, o, e, h2⟩
  · exact Or.inl h2
  · exact Or.inr ⟨b, o, e, FIn.kept hk f h2⟩
theorem FIn.imp {p q : Nat → Prop} {w : World} (hq : ∀ k, k < w.heap.size → q k → p k) (f : F) : ∀ {b o : Nat}, FIn p w b o f → FIn q w b o f := by
  induction f with
  | nil => intro _ _ _; trivial
  | cons k n i bs sub next ihs ihn =>
    intro b o h
    obtain ⟨hp, h0, h1, h2, ⟨ba, bn, bc, h3, h4, h5, h6⟩, ⟨la, ln, lc, g1, g2, g3, g4, g5⟩, hb, hn⟩ := h
    refine ⟨fun x => hp (hq b (World.block_lt_of_cell? _ _ h0) x), h0, h1, h2, ⟨ba, bn, bc, h3, h4, h5, h6.imp hq⟩, ⟨la, ln, lc, g1, g2, g3, g4, ?_⟩, hb, ihn hn⟩
    rcases g5 with g5 | ⟨b', o', e, g5⟩
    · exact Or.inl g5
    · exact Or.inr ⟨b', o', e, ihs g5⟩
theorem FRow.imp {p q : Nat → Prop} {w : World} {a : Option Addr} {n : Nat} {f : F} (h : FRow p w a n f) (hq : ∀ k, k < w.heap.size → q k → p k) : FRow q w a n f := by
  obtain ⟨h1, h2⟩ := h
  refine ⟨h1, ?_⟩
  rcases h2 with h2 | ⟨b, o, e, h2⟩
  · exact Or.inl h2
  · exact Or.inr ⟨b, o, e, FIn.imp hq f h2⟩
/-- from the value at a place on -/
theorem FIn.drop {p : Nat → Prop} {w : World} {b : Nat} (f : F) : ∀ {o : Nat} (j : Nat), FIn p w b o f → FIn p w b (o + j * 5) (f.drop j) := by
  induction f with
  | nil => intro o j _; cases j <;> trivial
  | cons k n i bs sub next _ ihn =>
    intro o j h
    cases j with
    | zero => simpa [F.drop] using h
    | succ j =>
      have := ihn (o := o + 5) j h.2.2.2.2.2.2.2
      rw [show o + (j + 1) * 5 = o + 5 + j * 5 from by omega]
      exact this
end Wire
end Go.Proofs.Ytimhppgepiikbaa
