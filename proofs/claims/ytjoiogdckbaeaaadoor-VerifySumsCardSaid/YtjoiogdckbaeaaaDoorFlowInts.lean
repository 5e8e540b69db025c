/- Whole numbers, in a block known whole; bools that came in. -/
import Derived.Test.YtjoiogdckbaeaaaDoorCodeOwn
namespace Go.Proofs.YtjoiogdckbaeaaaDoor
open Go.ChangeShapes Go.WideShapes Go.ChangeAt Go.RowKit
namespace Flw
open Isa
set_option linter.unusedVariables false
set_option linter.unusedSimpArgs false
/-! ### Whole numbers, in a block known whole -/
def PRow (w : World) (o : Nat) (l : List Int) : Prop := w.heap[o]? = some (.cells (ints l).toArray 3 (0, 0))
theorem PRow.at {w : World} {o : Nat} {l : List Int} (h : PRow w o l) {k : Nat} (hk : k < l.length) : w.cell? ⟨o, k, none⟩ = some (.int .i64 (l.getD k 0)) := by
  rw [cell_of_row _ _ _ _ _ _ h, List.getElem?_toArray]
  exact Isa.ints_at hk
theorem PRow.free {w : World} {o : Nat} {l : List Int} (h : PRow w o l) (k : Nat) : w.frozen? ⟨o, k, none⟩ = false := by
  have h' : w.heap[o]? = some (.cells (ints l).toArray 3 (0, 0)) := h
  simp [World.frozen?, h']
theorem PRow.lt {w : World} {o : Nat} {l : List Int} (h : PRow w o l) : o < w.heap.size := (Array.getElem?_eq_some_iff.1 h).1
theorem PRow.set {w : World} {o : Nat} {l : List Int} (h : PRow w o l) (k : Nat) (u : Int) : PRow (w.setCell ⟨o, k, none⟩ (.int .i64 u)) o (l.set k u) := by
  have hlt := h.lt
  have h' : w.heap[o] = .cells (ints l).toArray 3 (0, 0) := by
    have h2 : w.heap[o]? = some (.cells (ints l).toArray 3 (0, 0)) := h
    simpa [Array.getElem?_eq_getElem hlt] using h2
  show (w.heap.modify o _)[o]? = _
  rw [Array.getElem?_eq_getElem (by simpa using hlt), Array.getElem_modify_self, h']
  have e : (ints l).toArray.setIfInBounds k (.int .i64 u) = (ints (l.set k u)).toArray := by
    rw [List.setIfInBounds_toArray]
    unfold ints
    rw [List.map_set]
  show some (Obj.cells ((ints l).toArray.setIfInBounds k (.int .i64 u)) 3 (0, 0)) = _
  rw [e]
theorem PRow.below {w w' : World} {o : Nat} {l : List Int} (h : PRow w o l) {B : Nat} (hb : Below B w w') (hB : w.heap.size ≤ B) : PRow w' o l := (hb.block o (Nat.lt_of_lt_of_le h.lt hB)).trans h
theorem infoI8 : (Tryd.prog.info? 3).map (fun i => (i.zero, i.size, i.bytes)) = some (some (.int .i64 0), 1, 8) := by kernel_rfl
theorem made_ints (n k : Nat) (h : k = 1) : Go.madeCells (Value.int .i64 0).cells (n * k) = (ints (List.replicate n 0)).toArray := by
  subst h
  apply Array.ext'
  simp [Go.madeCells, Value.cells, ints]
  apply List.ext_getElem
  · simp
  · intro i h1 h2
    simp [show i % 1 = 0 from Nat.mod_one i]
theorem run_make_ints (w : World) (n : Nat) (hn : n ≤ 1000000) :
    (Instr.makeSlice 58 (.int .i64 (n : Int)) (.int .i64 (n : Int))).run Tryd.prog w = .ok (.slice (some ⟨w.heap.size, 0, none⟩) n n) (w.alloc (.cells (ints (List.replicate n 0)).toArray 3)) := by
  obtain ⟨i, hi, hz, hs, hb⟩ := info_parts infoI8
  have := run_make (P := Tryd.prog) w 58 3 i (.int .i64 0) Tryd.underlying58 hi hz .i64 .i64 (n : Int) (n : Int) (by omega) (by omega) (by rw [hb]; omega) (by omega)
  rw [this, Int.toNat_natCast, made_ints n i.size hs]
/-- bools that came in -/
def CRow (w : World) (a : Option Addr) (m : Nat) (ch : List Bool) : Prop := ch.length = m ∧ (m = 0 ∨ ∃ b off, a = some ⟨b, off, none⟩ ∧ ∀ j, j < m → w.cell? ⟨b, off + j, none⟩ = some (.bool (ch.getD j false)))
theorem CRow.below {w w' : World} {a : Option Addr} {n : Nat} {l : List Bool} (h : CRow w a n l) {B : Nat} (hb : Below B w w') (hB : w.heap.size ≤ B) : CRow w' a n l := by
  obtain ⟨h1, h2⟩ := h
  refine ⟨h1, ?_⟩
  rcases h2 with h2 | ⟨b, off, rfl, hc⟩
  · exact .inl h2
  · exact .inr ⟨b, off, rfl, fun j hj => (World.cell?_of_block (hb.block b (Nat.lt_of_lt_of_le (World.block_lt_of_cell? _ _ (hc j hj)) hB))).trans (hc j hj)⟩
theorem CRow.at {w : World} {a : Option Addr} {n : Nat} {l : List Bool} (h : CRow w a n l) (k : Nat) (hk : k < n) : ∃ b off, a = some ⟨b, off, none⟩ ∧ w.cell? ⟨b, off + k, none⟩ = some (.bool (l.getD k false)) := by
  obtain ⟨b, off, rfl, hc⟩ := h.2.resolve_left (by omega)
  exact ⟨b, off, rfl, hc k hk⟩
end Flw
end Go.Proofs.YtjoiogdckbaeaaaDoor
