/- Comparisons of tags, guarded, and what a statement's end wants. -/
import Derived.Test.YtodbfkifendniaaDoorHmacW7
import Derived.Test.YtodbfkifendniaaDoorShaArgs
namespace Go.Proofs.YtodbfkifendniaaDoor
open Go.ChangeShapes Go.WideShapes Go.ChangeAt Go.RowKit
namespace Sha
theorem wpList_eql_g {ops : Array Oper} {rest : List Oper} {o : Oper} {a : Act} {w : World} {Q : Exit → Act → World → Prop} (hw : Region.wanted o (yielded ops a.tmps) = true) (x y : Operand) (ho : o.op = .binOp .eql 25 x y 25)
    (D : List Int) (hD : D.length = 32) (hx : a.eval x = .agg (ints .u8 D)) (hy : a.eval y = .agg (ints .u8 D)) (h : wpList Tryd.prog ops Q rest (a.put o.dst (.bool true)) w) : wpList Tryd.prog ops Q (o :: rest) a w := by
  refine wpList_step fun K hK => ?_
  rw [if_pos hw]
  have hrun := eql_run D w hD
  have hg : (eqGuard .eql 25 x y (.agg (ints .u8 D)) (.agg (ints .u8 D))).run Tryd.prog w = .ok () w := run_eqGuard_agg w .eql 25 x y _ _ (by kernel_rfl)
  unfold Oper.wp
  simp [execOp, ho, hx, hy, hrun, hg, Result.andThen]
  exact hK _ _ h
theorem tag_nil : tag [] [] = tag [0] [] := by
  have h : kb [0] = kb [] := kb_noughts [] 1 (by decide)
  unfold tag; rw [h]
end Sha
end Go.Proofs.YtodbfkifendniaaDoor
