/- New rows of zeros. -/
import Derived.Test.YtgiocecpkhmhhaaGreatDoorIsaW5
import Derived.Laws.MakeOwn
namespace Go.Proofs.YtgiocecpkhmhhaaGreatDoor
open Go.ChangeShapes Go.WideShapes Go.ChangeAt Go.RowKit
namespace Isa
set_option linter.unusedVariables false
set_option linter.unusedSimpArgs false
def bts (l : List Int) : Array Value := (l.map (Value.int .u8)).toArray
theorem bts_at (l : List Int) (i : Nat) (h : i < l.length) : (bts l)[i]? = some (.int .u8 (l.getD i 0)) := by simp [bts, h]
theorem info_parts {P : Program} {t : TypeId} {z : Value} {s b : Nat} (h : (P.info? t).map (fun i => (i.zero, i.size, i.bytes)) = some (some z, s, b)) : ∃ i, P.info? t = some i ∧ i.zero = some z ∧ i.size = s ∧ i.bytes = b := by
  cases e : P.info? t with
  | none => rw [e] at h; simp at h
  | some i => rw [e] at h; simp at h; exact ⟨i, rfl, h.1, h.2.1, h.2.2⟩
theorem made_zeros (n k : Nat) (h : k = 1) : Go.madeCells (Value.int .u8 0).cells (n * k) = bts (List.replicate n 0) := by
  subst h
  apply Array.ext'
  simp [Go.madeCells, Value.cells, bts]
  apply List.ext_getElem
  · simp
  · intro i h1 h2
    simp [show i % 1 = 0 from Nat.mod_one i]
theorem infoByte : (Tryz.prog.info? 5).map (fun i => (i.zero, i.size, i.bytes)) = some (some (.int .u8 0), 1, 1) := by kernel_rfl
theorem run_make_zeros (w : World) (k : IntKind) (n : Nat) (hn : n ≤ 1000000) :
    (Instr.makeSlice 38 (.int k (n : Int)) (.int k (n : Int))).run Tryz.prog w = .ok (.slice (some ⟨w.heap.size, 0, none⟩) n n) (w.alloc (.cells (bts (List.replicate n 0)) 5)) := by
  obtain ⟨i, hi, hz, hs, hb⟩ := info_parts infoByte
  have := run_make (P := Tryz.prog) w 38 5 i (.int .u8 0) Tryz.underlying38 hi hz k k (n : Int) (n : Int) (by omega) (by omega) (by rw [hb]; omega) (by omega)
  rw [this, Int.toNat_natCast, made_zeros n i.size hs]
theorem mk8 (w : World) : (Instr.makeSlice 38 (.int .i64 8) (.int .i64 8)).run Tryz.prog w = .ok (.slice (some ⟨w.heap.size, 0, none⟩) 8 8) (w.alloc (.cells (bts [0, 0, 0, 0, 0, 0, 0, 0]) 5)) := run_make_zeros w .i64 8 (by omega)
theorem mk7 (w : World) : (Instr.makeSlice 38 (.int .i64 7) (.int .i64 7)).run Tryz.prog w = .ok (.slice (some ⟨w.heap.size, 0, none⟩) 7 7) (w.alloc (.cells (bts [0, 0, 0, 0, 0, 0, 0]) 5)) := run_make_zeros w .i64 7 (by omega)
end Isa
end Go.Proofs.YtgiocecpkhmhhaaGreatDoor
