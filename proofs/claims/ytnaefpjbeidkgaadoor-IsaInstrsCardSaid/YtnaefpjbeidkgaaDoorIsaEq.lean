/- Instructions held against each other. -/
import Derived.Test.YtnaefpjbeidkgaaDoorIsaW2
import Derived.Laws.StructEq
import Derived.Laws.EntriesVeiled
namespace Go.Proofs.YtnaefpjbeidkgaaDoor
open Go.ChangeShapes Go.WideShapes Go.ChangeAt Go.RowKit
namespace Isa
set_option linter.unusedVariables false
set_option linter.unusedSimpArgs false
theorem eqI (x y : Iv) (w : World) : (binOp .eql 25 (iv x) (iv y)).run Tryd.prog w = .ok (.bool (decide (x = y))) w := by
  have u1 := Tryd.underlying5
  have a1 := Tryd.isAgg5
  have z1 := Tryd.sizeOf5
  have u2 := Tryd.underlying22
  have a2 := Tryd.isAgg22
  have z2 := Tryd.sizeOf22
  have u3 := Tryd.underlying23
  have a3 := Tryd.isAgg23
  have z3 := Tryd.sizeOf23
  have hS : Tryd.prog.underlying 25 = some (.struct (Tryd.prog.fieldsOf 25)) := by kernel_rfl
  have hp : Tryd.prog.stoodInHeld 25 = false := by kernel_rfl
  have hxy : decide (x = y) = (x.op == y.op && (x.a == y.a && (x.b == y.b && x.c == y.c))) := by
    rw [Bool.eq_iff_iff]
    simp only [decide_eq_true_eq, Bool.and_eq_true, beq_iff_eq]
    exact ⟨fun h => by subst h; simp, fun h => Iv.eq_of h.1 h.2.1 h.2.2.1 h.2.2.2⟩
  rw [hxy]
  unfold iv
  rw [run_eql_struct, show (10000 : Nat) = 9999 + 1 from rfl, run_equalIn_agg w 9999 25 _ _ hS hp]
  simp only [Program.fieldsOf, Tryd.underlying25]
  go_simp
  by_cases h1 : x.op = y.op <;> by_cases h2 : x.a = y.a <;> by_cases h3 : x.b = y.b <;> by_cases h4 : x.c = y.c <;> simp [h1, h2, h3, h4]
theorem neqI (x y : Iv) (w : World) : (binOp .neq 25 (iv x) (iv y)).run Tryd.prog w = .ok (.bool (!decide (x = y))) w := by
  have h := eqI x y w
  unfold iv at h ⊢
  rw [run_eql_struct] at h
  rw [run_neq_struct]
  cases e : (Op.equalIn 10000 25 (.agg #[.int .u8 x.op, .int .u8 x.a, .int .u16 x.b, .int .u32 x.c]) (.agg #[.int .u8 y.op, .int .u8 y.a, .int .u16 y.b, .int .u32 y.c])).run Tryd.prog w with
  | ok b w' =>
    rw [e] at h
    simp only [Result.andThen] at h ⊢
    injection h with h1 h2
    injection h1 with h1
    rw [h1, h2]
  | _ => rw [e] at h; simp [Result.andThen] at h
/-- the walk's own form -/
theorem eqIn (x y : Iv) (w : World) : (Op.equalIn 10000 25 (.agg #[.int .u8 x.op, .int .u8 x.a, .int .u16 x.b, .int .u32 x.c]) (.agg #[.int .u8 y.op, .int .u8 y.a, .int .u16 y.b, .int .u32 y.c])).run Tryd.prog w = .ok (decide (x = y)) w := by
  have h := eqI x y w
  unfold iv at h
  rw [run_eql_struct] at h
  cases e : (Op.equalIn 10000 25 (.agg #[.int .u8 x.op, .int .u8 x.a, .int .u16 x.b, .int .u32 x.c]) (.agg #[.int .u8 y.op, .int .u8 y.a, .int .u16 y.b, .int .u32 y.c])).run Tryd.prog w with
  | ok b w' =>
    rw [e] at h
    simp only [Result.andThen] at h
    injection h with h1 h2
    injection h1 with h1
    rw [h1, h2]
  | _ => rw [e] at h; simp [Result.andThen] at h
end Isa
end Go.Proofs.YtnaefpjbeidkgaaDoor
