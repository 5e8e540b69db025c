/- FieldFrame: what stands behind each call: the field, the definition's box, what came in. -/
import Derived.Test.YtoighaicdakbkaaFieldKnown
import Derived.Test.YtoighaicdakbkaaFieldHeavy
import Derived.Test.YtoighaicdakbkaaFieldApp
namespace Go.Proofs.Ytoighaicdakbkaa
open Go.ChangeShapes Go.WideShapes Go.ChangeAt Go.RowKit
namespace Fld
set_option linter.unusedVariables false
set_option linter.unusedSimpArgs false
/-- a definition as cells -/
abbrev defC (d : Df) (b : Option Addr) (c : Nat) : Array Value := #[.int .i64 d.ins, .slice b d.safe.length c, .int .u32 d.rd, .int .i64 d.wr]
/-- a definition's bounds -/
structure DefB (d : Df) (b : Option Addr) (c : Nat) : Prop where
  cap : d.safe.length ≤ c ∧ c ≤ 9223372036854775807
  nil : b = none → c = 0
  ins : -9223372036854775808 ≤ d.ins ∧ d.ins ≤ 9223372036854775807
  rd : 0 ≤ d.rd ∧ d.rd ≤ 4294967295
  wr : -9223372036854775808 ≤ d.wr ∧ d.wr ≤ 9223372036854775807
/-- the field, and the definition's box; p: what may be written -/
structure Fr (W : World) (S : Nat) (d : Df) (b : Option Addr) (c : Nat) (p : Nat → Prop) (a : Fa) (s : Fv) (V : World) : Prop where
  fd : Fd V a s
  sub : ∀ k, a.wr k → p k
  far : ∀ k, p k → S < k
  lt : ∀ k, p k → k < V.heap.size
  bel : Below S W V
  box : V.heap[S]? = some (.cells (defC d b c) 25 (0, 0))
  sf : s.safe = d.safe
  rd : s.rd = d.rd
  wq : s.wr = d.wr
  si : (s.ins.length : Int) = d.ins
/-- what a call leaves of a field as it was -/
structure Alike (s s' : Fv) : Prop where
  sf : s'.safe = s.safe
  rd : s'.rd = s.rd
  wq : s'.wr = s.wr
  si : s'.ins.length = s.ins.length
theorem latch_alike (s : Fv) (l : List Int) : Alike s (latchF s l) := by
  unfold latchF
  split
  · rename_i e; exact ⟨rfl, rfl, rfl, e⟩
  · exact ⟨rfl, rfl, rfl, rfl⟩
theorem out_alike (s : Fv) (part n x : Int) : Alike s (outF s part n x) := by
  unfold outF
  split
  · exact ⟨rfl, rfl, rfl, rfl⟩
  · exact ⟨rfl, rfl, rfl, rfl⟩
theorem com_alike (s : Fv) (ok : Bool) : Alike s (comF s ok) := ⟨rfl, rfl, rfl, rfl⟩
section
variable {W : World} {S : Nat} {d : Df} {b : Option Addr} {c : Nat} {p q : Nat → Prop} {a : Fa} {s s' : Fv} {V V' : World} {vb : Nat} {cs : Array Value}
theorem Fr.below (h : Fr W S d b c p a s V) (hb : Below V.heap.size V V') : Fr W S d b c p a s V' :=
  ⟨h.fd.below hb, h.sub, h.far, fun k hk => Nat.lt_of_lt_of_le (h.lt k hk) hb.size, h.bel.trans (hb.mono (Nat.le_of_lt (lt_of_block h.box))), (hb.block _ (lt_of_block h.box)).trans h.box, h.sf, h.rd, h.wq, h.si⟩
theorem Fr.write (h : Fr W S d b c p a s V) (hp : Fd V' a s') (hk : Kept a.wr V V') (hs : Alike s s') : Fr W S d b c p a s' V' :=
  ⟨hp, h.sub, h.far, fun k hk' => Nat.lt_of_lt_of_le (h.lt k hk') hk.size, h.bel.trans (hk.toBelow (Nat.le_of_lt (lt_of_block h.box)) (fun k hk' e => by have := h.far k (h.sub k e); omega)), hk.same h.box (fun e => by have := h.far _ (h.sub _ e); omega),
    hs.sf.trans h.sf, hs.rd.trans h.rd, hs.wq.trans h.wq, by rw [hs.si]; exact h.si⟩
/-- another block is written -/
theorem Fr.other (h : Fr W S d b c p a s V) {g : Nat} (hg : p g) (hn : ¬ a.own g) (j : Nat) (u : Value) : Fr W S d b c p a s (V.setCell ⟨g, j, none⟩ u) := by
  have hk : Kept (fun k => k = g) V (V.setCell ⟨g, j, none⟩ u) := (Kept.refl (fun k => k = g) V).setCell (.inl rfl) _
  have hf := h.far g hg
  exact ⟨h.fd.kept hk (fun k hk' e => hn (by rw [← e]; exact hk')), h.sub, h.far, fun k hk' => Nat.lt_of_lt_of_le (h.lt k hk') hk.size, h.bel.trans (hk.toBelow (Nat.le_of_lt (lt_of_block h.box)) (fun k hk' e => by omega)), hk.same h.box (fun e => by omega), h.sf, h.rd, h.wq, h.si⟩
theorem Fr.cells (h : Fr W S d b c p a s V) : V.cell? ⟨S, 0, none⟩ = some (.int .i64 d.ins) ∧ V.cell? ⟨S, 1, none⟩ = some (.slice b d.safe.length c) ∧ V.cell? ⟨S, 2, none⟩ = some (.int .u32 d.rd) ∧ V.cell? ⟨S, 3, none⟩ = some (.int .i64 d.wr) := box_cells h.box
theorem Fr.kept (h : Fr W S d b c p a s V) : Kept (fun k => S ≤ k) W V := Kept.below h.bel
/-- one more block may be written: a new one -/
theorem Fr.more (h : Fr W S d b c p a s V) {g : Nat} (h1 : S < g) (h2 : g < V.heap.size) : Fr W S d b c (fun k => p k ∨ k = g) a s V :=
  ⟨h.fd, fun k hk => .inl (h.sub k hk), fun k hk => hk.elim (h.far k) (fun e => by omega), fun k hk => hk.elim (h.lt k) (fun e => by omega), h.bel, h.box, h.sf, h.rd, h.wq, h.si⟩
/-- with a call's own block -/
structure FV (W : World) (S : Nat) (d : Df) (b : Option Addr) (c : Nat) (p : Nat → Prop) (a : Fa) (vb : Nat) (cs : Array Value) (s : Fv) (V : World) : Prop where
  fr : Fr W S d b c p a s V
  v : V.heap[vb]? = some (.cells cs 38 (0, 0))
  nv : ¬ p vb
theorem Fr.v (h : Fr W S d b c p a s V) (cs : Array Value) : FV W S d b c p a V.heap.size cs s (V.alloc (.cells cs 38)) :=
  ⟨h.below (below_alloc _ _), heap_alloc_new _ _, fun e => by have := h.lt _ e; omega⟩
theorem FV.below (h : FV W S d b c p a vb cs s V) (hb : Below V.heap.size V V') : FV W S d b c p a vb cs s V' := ⟨h.fr.below hb, (hb.block _ (lt_of_block h.v)).trans h.v, h.nv⟩
theorem FV.write (h : FV W S d b c p a vb cs s V) (hp : Fd V' a s') (hk : Kept a.wr V V') (hs : Alike s s') : FV W S d b c p a vb cs s' V' := ⟨h.fr.write hp hk hs, hk.same h.v (fun e => h.nv (h.fr.sub _ e)), h.nv⟩
theorem FV.other (h : FV W S d b c p a vb cs s V) {g : Nat} (hg : p g) (hn : ¬ a.own g) (j : Nat) (u : Value) : FV W S d b c p a vb cs s (V.setCell ⟨g, j, none⟩ u) := by
  have hk : Kept (fun k => k = g) V (V.setCell ⟨g, j, none⟩ u) := (Kept.refl (fun k => k = g) V).setCell (.inl rfl) _
  exact ⟨h.fr.other hg hn j u, hk.same h.v (fun e => h.nv (by rw [e]; exact hg)), h.nv⟩
theorem five {k part n x : Int} {l : Value} (h : V.heap[vb]? = some (.cells #[.int .i64 k, .int .i64 part, .int .i64 n, .int .u32 x, l] 38 (0, 0))) :
    V.cell? ⟨vb, 0, none⟩ = some (.int .i64 k) ∧ V.cell? ⟨vb, 1, none⟩ = some (.int .i64 part) ∧ V.cell? ⟨vb, 2, none⟩ = some (.int .i64 n) ∧ V.cell? ⟨vb, 3, none⟩ = some (.int .u32 x) ∧ V.cell? ⟨vb, 4, none⟩ = some l := by
  refine ⟨?_, ?_, ?_, ?_, ?_⟩ <;> (rw [cell_of_row _ _ _ _ _ _ h]; rfl)
/-! ### The calls -/
theorem outV (h : FV W S d b c p a vb cs s V) (part n x : Int) :
    Calls Try.prog 15 #[.pointer (some ⟨a.g, 0, none⟩), .int .i64 part, .int .i64 n, .int .u32 x] V fun e V' => e = .returned (.int .i64 (outE s part n)) ∧ FV W S d b c p a vb cs (outF s part n x) V' ∧ Kept a.wr V V' :=
  (out_any h.fr.fd part n x).mono fun e V' ⟨h1, h2, h3⟩ => ⟨h1, h.write h2 h3 (out_alike _ _ _ _), h3⟩
theorem commitV (h : FV W S d b c p a vb cs s V) (ok : Bool) :
    Calls Try.prog 17 #[.pointer (some ⟨a.g, 0, none⟩), .bool ok] V fun e V' => e = .returned (.tuple #[]) ∧ FV W S d b c p a vb cs (comF s ok) V' ∧ Kept a.wr V V' :=
  (commit_any h.fr.fd ok).mono fun e V' ⟨h1, h2, h3⟩ => ⟨h1, h.write h2 h3 (com_alike _ _), h3⟩
theorem commitR (h : Fr W S d b c p a s V) (ok : Bool) :
    Calls Try.prog 17 #[.pointer (some ⟨a.g, 0, none⟩), .bool ok] V fun e V' => e = .returned (.tuple #[]) ∧ Fr W S d b c p a (comF s ok) V' ∧ Kept a.wr V V' :=
  (commit_any h.fd ok).mono fun e V' ⟨h1, h2, h3⟩ => ⟨h1, h.write h2 h3 (com_alike _ _), h3⟩
/-- a new row with these words -/
def GotP (l : List Int) (n : Nat) (w : World) (e : Ending) (w' : World) : Prop := ∃ g, e = .returned (.slice (some ⟨g, 0, none⟩) n n) ∧ w.heap.size ≤ g ∧ g < w'.heap.size ∧ NRow (fun k => k < w.heap.size) w' (some ⟨g, 0, none⟩) n l ∧ Below w.heap.size w w'
theorem RowP.got {l : List Int} {n : Nat} {w w' : World} {e : Ending} (h : RowP l w e w') (hn : l.length = n) : GotP l n w e w' := by
  subst hn
  obtain ⟨h1, rfl⟩ := h
  exact ⟨_, h1, Nat.le_refl _, by simp, num_row (heap_alloc_new _ _) (by omega), below_alloc _ _⟩
theorem outsG (h : Fd V a s) {n : Nat} {l : List Int} (hl : s.outs = l) (hn : l.length = n) : Calls Try.prog 22 #[.pointer (some ⟨a.g, 0, none⟩)] V (GotP l n V) :=
  (outs_any h).mono fun e V' q => by rw [← hl]; exact q.got (by rw [hl]; exact hn)
theorem insG (h : Fd V a s) {n : Nat} {l : List Int} (hl : s.ins = l) (hn : l.length = n) : Calls Try.prog 21 #[.pointer (some ⟨a.g, 0, none⟩)] V (GotP l n V) :=
  (ins_any h).mono fun e V' q => by rw [← hl]; exact q.got (by rw [hl]; exact hn)
end
end Fld
end Go.Proofs.Ytoighaicdakbkaa
