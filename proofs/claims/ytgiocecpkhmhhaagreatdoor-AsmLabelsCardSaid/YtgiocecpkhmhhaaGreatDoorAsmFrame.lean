/- What the statements' lists give, and a world for the witness. -/
import Derived.Test.YtgiocecpkhmhhaaGreatDoorAsmP2
import Derived.Test.YtgiocecpkhmhhaaGreatDoorAsmOpen
import Derived.Test.YtgiocecpkhmhhaaGreatDoorCards
import Derived.Test.YtgiocecpkhmhhaaGreatDoorTie
import Derived.Deep.DeepHandedRow
import Derived.Stop.LaidErr
import Derived.Shelf.Vars
import Derived.Lay
import Derived.ShutString
import Derived.ProofKit
import Derived.LaidMore
import Derived.SevenTiedAt
import Derived.SizedLaws
namespace Go.Proofs.YtgiocecpkhmhhaaGreatDoor
open Go.ChangeShapes Go.WideShapes Go.ChangeAt Go.RowKit
namespace Asm
open Isa
set_option linter.unusedVariables false
set_option linter.unusedSimpArgs false
theorem own : ownKnob Tryz.prog.godebug = none := by kernel_rfl
theorem laidOut : laidOutB Tryz.prog = true := by kernel_rfl
theorem gSyn : Tryz.prog.globalNamed "strconv.ErrSyntax" = some 5 := by kernel_rfl
theorem gRng : Tryz.prog.globalNamed "strconv.ErrRange" = some 6 := by kernel_rfl
theorem gSynT : (Tryz.prog.globals[5]?).map (·.type) = some 65 := by kernel_rfl
theorem gRngT : (Tryz.prog.globals[6]?).map (·.type) = some 65 := by kernel_rfl
theorem cE1 : Tryz.prog.cellsOf 162 = 1 := by kernel_rfl
theorem cE9 : Tryz.prog.cellsOf 9 = 1 := by kernel_rfl
theorem starE : "*" ++ "errors.errorString" = "*errors.errorString" := by decide
theorem rowE (u : TypeId) (h : Tryz.prog.typeName? 3 u = some "*errors.errorString") : u = 160 :=
  typeName_ptr_named (nm := "errors.errorString") (by rw [starE]; kernel_rfl) (by kernel_rfl) (by decide) u (by rw [starE]; exact h)
theorem most_of {W : World} (h : W.ShapedOpen Tryz.prog) : ∃ m, W.cell? ⟨1, 0, none⟩ = some (.int .i64 m) :=
  cell_of_shapedOpen_int (t := 3) (zero := #[.int .i64 0]) h (of_decide_eq_true (by kernel_rfl)) (by kernel_rfl) rfl (by kernel_rfl) (by kernel_rfl) Tryz.underlying3
theorem tt {W : World} (h : laidMetH Tryz.prog Rows.asmParsesRow.laid W) (hs : W.ShapedOpen Tryz.prog) : TT W := by
  have h' : laidMet Tryz.prog Rows.asmParsesRow.laid W := h
  refine ⟨⟨kinds_of h'.tail.tail.tail.tail.tail.tail, Lib.tabIs_of_head gPow (by kernel_rfl) Tryz.underlying144 Tryz.underlying123 (by kernel_rfl) (by kernel_rfl) h'.tail.tail⟩, most_of hs, ?_, ?_⟩
  · obtain ⟨a, s, hv, _, _, _⟩ := laid_sentinel h'.tail.tail.tail.tail.tail gSyn gSynT Tryz.underlying65 rowE Tryz.underlying160 Tryz.underlying162 rfl rfl Tryz.underlying9 cE1 cE9
    exact ⟨_, by rw [World.var?_cell gSyn hv 0]; rfl, .inr ⟨_, _, rfl⟩⟩
  · obtain ⟨a, s, hv, _, _, _⟩ := laid_sentinel h'.tail.tail.tail.tail gRng gRngT Tryz.underlying65 rowE Tryz.underlying160 Tryz.underlying162 rfl rfl Tryz.underlying9 cE1 cE9
    exact ⟨_, by rw [World.var?_cell gRng hv 0]; rfl, .inr ⟨_, _, rfl⟩⟩
noncomputable def laidWorld (os : Os) : World := World.laidAll Tryz.prog os Rows.asmParsesRow.laid
theorem laid_met (os : Os) (args : Array Value) : laidMetH Tryz.prog Rows.asmParsesRow.laid ((laidWorld os).forCall (fun _ _ => 0) ⟨#[], args, []⟩).memory :=
  show laidMet Tryz.prog Rows.asmParsesRow.laid _ from laidMet_laidAll _ (by kernel_rfl) (by kernel_rfl)
section
variable {H : Type} {enc : TypeId × Value → H}
/-- 'there is an input that fits', at a world in which all that is listed lies -/
theorem witness_zip {os : Os} {f : FuncId} {fn : Func} {s : OpenSpec} {conds : List PathCond} {apart : Bool} {laid : List (String × DataW Unit)} (w0 : World) (args : Array Value) (hos : w0.os = os)
    (hsh : (w0.forCall (fun _ _ => 0) ⟨#[], args, []⟩).Shaped Tryz.checked.prog)
    (hok : Input.okWideB Tryz.checked.prog (w0.forCall (fun _ _ => 0) ⟨#[], args, []⟩) f ⟨#[], args, []⟩ = true)
    (hrow : s.preRow enc Tryz.checked.prog fn conds apart laid (w0.forCall (fun _ _ => 0) ⟨#[], args, []⟩).memory args) :
    ∃ (w : World) (tape : Tape) (i : Input), w.os = os ∧ (w.forCall tape i).Shaped Tryz.checked.prog ∧ i.vars = [] ∧ Input.okWide Tryz.checked.prog (w.forCall tape i) .any w.heap.size f i ∧
      s.preRow enc Tryz.checked.prog fn conds apart laid (w.forCall tape i).memory i.args ∧ ({} : Assume).holds Tryz.checked.prog (lone (Frame.enter Tryz.checked.prog f i.args .normal) [] (w.forCall tape i)) :=
  ⟨w0, fun _ _ => 0, ⟨#[], args, []⟩, hos, hsh, (Input.okWide_of_okWideB (base := 0) hok).1, (Input.okWide_of_okWideB hok).2, hrow, by
    simp only [Assume.holds]
    exact ⟨by simp, by simp, fun _ => Modest.zero, by simp, by simp⟩⟩
end
end Asm
end Go.Proofs.YtgiocecpkhmhhaaGreatDoor
