/- Rows of the call's own that grow, and that are written in place, beside others of another kind. -/
import Derived.Test.YtjoiogdckbaeaaaDoorCodeBase
namespace Go.Proofs.YtjoiogdckbaeaaaDoor
open Go.ChangeShapes Go.WideShapes Go.ChangeAt Go.RowKit
namespace Isa
set_option linter.unusedVariables false
set_option linter.unusedSimpArgs false
theorem own_block {w : World} {S : Nat} {e : TypeId} {sz : Nat} {v : Value} {n : Nat} {xs : List Value} (h : w.ownsRow S e sz v n xs) {g : Nat} (hg : v.ownBlock = some g) : ∃ cur, w.heap[g]? = some (.cells cur e (0, 0)) := by
  rcases h.2 with ⟨rfl, _⟩ | ⟨g', cap, cur, rfl, _, hh, _⟩
  · cases hg
  · have : g' = g := by simpa [Value.ownBlock] using hg
    subst this
    exact ⟨cur, hh⟩
/-- rows of unlike kinds are not one -/
theorem own_apart {w : World} {S S' : Nat} {e e' : TypeId} {sz sz' : Nat} {v v' : Value} {n n' : Nat} {xs ys : List Value} (h : w.ownsRow S e sz v n xs) (h' : w.ownsRow S' e' sz' v' n' ys) (hne : e ≠ e') : v.ownBlock = none ∨ v.ownBlock ≠ v'.ownBlock := by
  cases hv : v.ownBlock with
  | none => exact .inl rfl
  | some g =>
    right
    intro q
    obtain ⟨c1, h1⟩ := own_block h hv
    obtain ⟨c2, h2⟩ := own_block h' q.symm
    rw [h1] at h2
    simp at h2
    exact hne h2.2
/-- one more behind a row: rows of another kind stay -/
theorem app_keep {ts e : TypeId} {z : Value} {sz bs : Nat} (hu : Tryd.prog.underlying ts = some (.slice e)) (hi : (Tryd.prog.info? e).map (fun i => (i.zero, i.size, i.bytes)) = some (some z, sz, bs)) (hzs : z.cells.size = sz) (hsz : 0 < sz) (hbs : bs ≤ 64)
    {w : World} {S : Nat} {v : Value} {n : Nat} {xs : List Value} (h : w.ownsRow S e sz v n xs) (hS : S ≤ w.heap.size) (hn : n ≤ 1000000000) (cs : List Value) (hc : cs.length = sz) (h1 : ∀ u ∈ cs, u.oneCell' = true) (ty : TypeId) :
    ∃ g cap w', (Builtin.append_ #[ts, ts] ty #[v, .slice (some ⟨w.heap.size, 0, none⟩) 1 1]).run Tryd.prog (w.alloc (.cells cs.toArray e)) = .ok (.slice (some ⟨g, 0, none⟩) (n + 1 : Nat) cap) w' ∧
      w'.ownsRow S e sz (.slice (some ⟨g, 0, none⟩) (n + 1 : Nat) cap) (n + 1) (xs ++ cs) ∧ Below S w w' ∧
      (∀ S' e' sz' v' n' ys, w.ownsRow S' e' sz' v' n' ys → e' ≠ e → w'.ownsRow S' e' sz' v' n' ys) := by
  obtain ⟨i0, hi, hz0, hz1, hz2⟩ := info_parts hi
  have hb : (n + 1) * bs ≤ (1000000001) * 64 := Nat.mul_le_mul (by omega) hbs
  have hlies := run_append_lies (P := Tryd.prog) (w.alloc (.cells cs.toArray e)) ts ty S e i0 z sz bs hu hi hz0 hz1 hz2 hzs hsz v n xs (h.alloc _) ⟨w.heap.size, 0, none⟩ 1 1 cs (by rw [hc]; omega)
    (World.news_of_block (heap_alloc_new w _)) h1 (by omega) (by unfold maxLen; omega) (by omega) (by simp; omega) _ rfl
  obtain ⟨g, cap, w', h1, h2, h3, h4, h5⟩ := hlies
  exact ⟨g, cap, w', h1, h2, Below.grown ((Below.refl S w).alloc hS _) h3 (by simp; omega) (fun j hj => (World.ownsRow.lt h j hj).1),
    fun S' e' sz' v' n' ys h' hne => (h'.alloc _).kept h3 (own_apart h' h hne)⟩
/-- a cell of a row written: rows of another kind stay -/
theorem own_set_other {w : World} {S S' : Nat} {e e' : TypeId} {sz sz' : Nat} {v : Value} {g cap n n' : Nat} {xs ys : List Value} (h : w.ownsRow S e sz (.slice (some ⟨g, 0, none⟩) n cap) n xs) (h' : w.ownsRow S' e' sz' v n' ys) (hne : e' ≠ e) (j : Nat) (u : Value) :
    (w.setCell ⟨g, j, none⟩ u).ownsRow S' e' sz' v n' ys := h'.kept (h.stored j u).2 (own_apart h' h hne)
theorem own_some {w : World} {S : Nat} {e : TypeId} {sz : Nat} {v : Value} {n : Nat} {xs : List Value} (h : w.ownsRow S e sz v n xs) (hn : 0 < n) : ∃ g cap, v = .slice (some ⟨g, 0, none⟩) n cap ∧ S ≤ g ∧ g < w.heap.size := by
  rcases h.2 with ⟨_, e0⟩ | ⟨g, cap, cur, rfl, hg, hh, _⟩
  · omega
  · exact ⟨g, cap, rfl, hg, (Array.getElem?_eq_some_iff.1 hh).1⟩
theorem setCell_size (w : World) (o k : Nat) (u : Value) : (w.setCell ⟨o, k, none⟩ u).heap.size = w.heap.size := by simp [World.setCell]
theorem below_drewN {B : Nat} {w w' : World} (h : RowKit.Below B w w') (q : Nat) : RowKit.Below B w (w'.drewN q) := ⟨h.os, h.tape, h.output, h.size, h.block⟩
/-- whole numbers -/
def ints (l : List Int) : List Value := l.map (Value.int .i64)
theorem ints_at {l : List Int} {k : Nat} (hk : k < l.length) : (ints l)[k]? = some (.int .i64 (l.getD k 0)) := by
  unfold ints
  rw [List.getElem?_map, List.getD_eq_getElem?_getD, List.getElem?_eq_getElem hk]
  rfl
theorem ints_set (l : List Int) (k : Nat) (v : Int) : (ints l).set k (.int .i64 v) = ints (l.set k v) := by unfold ints; rw [List.map_set]
theorem bls_set (l : List Bool) (k : Nat) (v : Bool) : (bls l).set k (.bool v) = bls (l.set k v) := by unfold bls; rw [List.map_set]
/-- a row of numbers, of bools, in block g -/
def NumO (S g cap n : Nat) (l : List Int) (w : World) : Prop := w.ownsRow S 3 1 (.slice (some ⟨g, 0, none⟩) n cap) n (ints l)
def BoolO (S g cap n : Nat) (l : List Bool) (w : World) : Prop := w.ownsRow S 4 1 (.slice (some ⟨g, 0, none⟩) n cap) n (bls l)
theorem NumO.at {S g cap n : Nat} {l : List Int} {w : World} (h : NumO S g cap n l w) {k : Nat} (hk : k < n) : w.cell? ⟨g, k, none⟩ = some (.int .i64 (l.getD k 0)) := by
  have hl : l.length = n := by have := h.1; unfold ints at this; simpa using this
  rw [World.ownsRow.cellAt h k (by omega)]
  exact ints_at (by omega)
theorem BoolO.at {S g cap n : Nat} {l : List Bool} {w : World} (h : BoolO S g cap n l w) {k : Nat} (hk : k < n) : w.cell? ⟨g, k, none⟩ = some (.bool (l.getD k false)) := by
  have hl : l.length = n := by have := h.1; unfold bls at this; simpa using this
  rw [World.ownsRow.cellAt h k (by omega)]
  exact bls_at (by omega)
theorem NumO.free {S g cap n : Nat} {l : List Int} {w : World} (h : NumO S g cap n l w) (k : Nat) : w.frozen? ⟨g, k, none⟩ = false := World.ownsRow.frozenAt h k
theorem BoolO.free {S g cap n : Nat} {l : List Bool} {w : World} (h : BoolO S g cap n l w) (k : Nat) : w.frozen? ⟨g, k, none⟩ = false := World.ownsRow.frozenAt h k
theorem NumO.set {S g cap n : Nat} {l : List Int} {w : World} (h : NumO S g cap n l w) (k : Nat) (v : Int) : NumO S g cap n (l.set k v) (w.setCell ⟨g, k, none⟩ (.int .i64 v)) := by
  have := (World.ownsRow.stored h k (.int .i64 v)).1
  rwa [ints_set] at this
theorem BoolO.set {S g cap n : Nat} {l : List Bool} {w : World} (h : BoolO S g cap n l w) (k : Nat) (v : Bool) : BoolO S g cap n (l.set k v) (w.setCell ⟨g, k, none⟩ (.bool v)) := by
  have := (World.ownsRow.stored h k (.bool v)).1
  rwa [bls_set] at this
theorem BoolO.other {S S' g g' cap cap' n n' : Nat} {l : List Bool} {m : List Int} {w : World} (h : BoolO S g cap n l w) (h' : NumO S' g' cap' n' m w) (k : Nat) (u : Value) : BoolO S g cap n l (w.setCell ⟨g', k, none⟩ u) := own_set_other h' h (by decide) k u
theorem NumO.other {S S' g g' cap cap' n n' : Nat} {l : List Int} {m : List Bool} {w : World} (h : NumO S g cap n l w) (h' : BoolO S' g' cap' n' m w) (k : Nat) (u : Value) : NumO S g cap n l (w.setCell ⟨g', k, none⟩ u) := own_set_other h' h (by decide) k u
theorem NumO.below {S g cap n : Nat} {l : List Int} {w w' : World} (h : NumO S g cap n l w) {B : Nat} (hb : Below B w w') (hB : w.heap.size ≤ B) : NumO S g cap n l w' := own_below h hb hB
theorem BoolO.below {S g cap n : Nat} {l : List Bool} {w w' : World} (h : BoolO S g cap n l w) {B : Nat} (hb : Below B w w') (hB : w.heap.size ≤ B) : BoolO S g cap n l w' := own_below h hb hB
theorem NumO.ge {S g cap n : Nat} {l : List Int} {w : World} (h : NumO S g cap n l w) : S ≤ g ∧ g < w.heap.size := World.ownsRow.lt h g rfl
theorem BoolO.ge {S g cap n : Nat} {l : List Bool} {w : World} (h : BoolO S g cap n l w) : S ≤ g ∧ g < w.heap.size := World.ownsRow.lt h g rfl
theorem NumO.len {S g cap n : Nat} {l : List Int} {w : World} (h : NumO S g cap n l w) : l.length = n := by have := h.1; unfold ints at this; simpa using this
theorem BoolO.len {S g cap n : Nat} {l : List Bool} {w : World} (h : BoolO S g cap n l w) : l.length = n := by have := h.1; unfold bls at this; simpa using this
end Isa
end Go.Proofs.YtjoiogdckbaeaaaDoor
namespace Go.Proofs.YtjoiogdckbaeaaaDoor
open Go.ChangeShapes Go.WideShapes Go.ChangeAt Go.RowKit
namespace Flw
open Isa
set_option linter.unusedVariables false
set_option linter.unusedSimpArgs false
theorem tup_eq {a b : Nat} {c d : Int} (h : c = d ∧ a = b) : Ending.returned (.tuple #[.int .i64 (b : Nat), .int .i64 d]) = .returned (.tuple #[.int .i64 (a : Nat), .int .i64 c]) := by
  obtain ⟨rfl, rfl⟩ := h; rfl
/-- a new row of these numbers, told -/
def numsP (S : Nat) (l : List Nat) (w' : World) (v : Value) : Prop := w'.ownsRow S 3 1 v l.length (nums l)
theorem infoBo : (Tryd.prog.info? 4).map (fun i => (i.zero, i.size, i.bytes)) = some (some (.bool false), 1, 1) := by kernel_rfl
theorem made_bools (n k : Nat) (h : k = 1) : Go.madeCells (Value.bool false).cells (n * k) = (bls (List.replicate n false)).toArray := by
  subst h
  apply Array.ext'
  simp [Go.madeCells, Value.cells, bls]
  apply List.ext_getElem
  · simp
  · intro i h1 h2
    simp [show i % 1 = 0 from Nat.mod_one i]
theorem run_make_bools (w : World) (n : Nat) (hn : n ≤ 1000000) :
    (Instr.makeSlice 63 (.int .i64 (n : Int)) (.int .i64 (n : Int))).run Tryd.prog w = .ok (.slice (some ⟨w.heap.size, 0, none⟩) n n) (w.alloc (.cells (bls (List.replicate n false)).toArray 4)) := by
  obtain ⟨i, hi, hz, hs, hb⟩ := info_parts infoBo
  have := run_make (P := Tryd.prog) w 63 4 i (.bool false) Tryd.underlying63 hi hz .i64 .i64 (n : Int) (n : Int) (by omega) (by omega) (by rw [hb]; omega) (by omega)
  rw [this, Int.toNat_natCast, made_bools n i.size hs]
theorem brow_new (w : World) (l : List Bool) : BRow (w.alloc (.cells (bls l).toArray 4)) w.heap.size l := heap_alloc_new w _
end Flw
end Go.Proofs.YtjoiogdckbaeaaaDoor
namespace Go.Proofs.YtjoiogdckbaeaaaDoor
open Go.ChangeShapes Go.WideShapes Go.ChangeAt Go.RowKit
namespace Hgt
open Isa
set_option linter.unusedVariables false
set_option linter.unusedSimpArgs false
theorem tup3 {a b : Nat} {c d : Int} {v : Value} (h : a = b ∧ c = d) : Ending.returned (.tuple #[v, .int .i64 (a : Nat), .int .i64 c]) = .returned (.tuple #[v, .int .i64 (b : Nat), .int .i64 d]) := by
  obtain ⟨rfl, rfl⟩ := h; rfl
end Hgt
end Go.Proofs.YtjoiogdckbaeaaaDoor
