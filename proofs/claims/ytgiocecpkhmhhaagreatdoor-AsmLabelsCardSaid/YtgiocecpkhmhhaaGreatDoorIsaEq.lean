/- Instructions held against each other. -/
import Derived.Test.YtgiocecpkhmhhaaGreatDoorIsaW2
import Derived.Laws.StructEq
import Derived.Laws.EntriesVeiled
namespace Go.Proofs.YtgiocecpkhmhhaaGreatDoor
open Go.ChangeShapes Go.WideShapes Go.ChangeAt Go.RowKit
namespace Isa
set_option linter.unusedVariables false
set_option linter.unusedSimpArgs false
theorem eqI (x y : Iv) (w : World) : (binOp .eql 32 (iv x) (iv y)).run Tryz.prog w = .ok (.bool (decide (x = y))) w := by
  have u1 := Tryz.underlying5
  have a1 := Tryz.isAgg5
  have z1 := Tryz.sizeOf5
  have u2 := Tryz.underlying29
  have a2 := Tryz.isAgg29
  have z2 := Tryz.sizeOf29
  have u3 := Tryz.underlying30
  have a3 := Tryz.isAgg30
  have z3 := Tryz.sizeOf30
  have hS : Tryz.prog.underlying 32 = some (.struct (Tryz.prog.fieldsOf 32)) := by kernel_rfl
  have hp : Tryz.prog.stoodInHeld 32 = false := by kernel_rfl
  have hxy : decide (x = y) = (x.op == y.op && (x.a == y.a && (x.b == y.b && x.c == y.c))) := by
    rw [Bool.eq_iff_iff]
    simp only [decide_eq_true_eq, Bool.and_eq_true, beq_iff_eq]
    exact ⟨fun h => by subst h; simp, fun h => Iv.eq_of h.1 h.2.1 h.2.2.1 h.2.2.2⟩
  rw [hxy]
  unfold iv
  rw [run_eql_struct, show (10000 : Nat) = 9999 + 1 from rfl, run_equalIn_agg w 9999 32 _ _ hS hp]
  simp only [Program.fieldsOf, Tryz.underlying32]
  go_simp
  by_cases h1 : x.op = y.op <;> by_cases h2 : x.a = y.a <;> by_cases h3 : x.b = y.b <;> by_cases h4 : x.c = y.c <;> simp [h1, h2, h3, h4]
set_option maxRecDepth 20000 in
theorem neqI (x y : Iv) (w : World) : (binOp .neq 32 (iv x) (iv y)).run Tryz.prog w = .ok (.bool (!decide (x = y))) w := by
  have h := eqI x y w
  unfold iv at h ⊢
  rw [run_eql_struct] at h
  rw [run_neq_struct]
  cases e : (Op.equalIn 10000 32 (.agg #[.int .u8 x.op, .int .u8 x.a, .int .u16 x.b, .int .u32 x.c]) (.agg #[.int .u8 y.op, .int .u8 y.a, .int .u16 y.b, .int .u32 y.c])).run Tryz.prog w with
  | ok b w' =>
    rw [e] at h
    simp only [Result.andThen] at h ⊢
    injection h with h1 h2
    injection h1 with h1
    rw [h1, h2]
  | _ => rw [e] at h; simp [Result.andThen] at h
set_option maxRecDepth 20000 in
/-- the walk's own form -/
theorem eqIn (x y : Iv) (w : World) : (Op.equalIn 10000 32 (.agg #[.int .u8 x.op, .int .u8 x.a, .int .u16 x.b, .int .u32 x.c]) (.agg #[.int .u8 y.op, .int .u8 y.a, .int .u16 y.b, .int .u32 y.c])).run Tryz.prog w = .ok (decide (x = y)) w := by
  have h := eqI x y w
  unfold iv at h
  rw [run_eql_struct] at h
  cases e : (Op.equalIn 10000 32 (.agg #[.int .u8 x.op, .int .u8 x.a, .int .u16 x.b, .int .u32 x.c]) (.agg #[.int .u8 y.op, .int .u8 y.a, .int .u16 y.b, .int .u32 y.c])).run Tryz.prog w with
  | ok b w' =>
    rw [e] at h
    simp only [Result.andThen] at h
    injection h with h1 h2
    injection h1 with h1
    rw [h1, h2]
  | _ => rw [e] at h; simp [Result.andThen] at h
end Isa
end Go.Proofs.YtgiocecpkhmhhaaGreatDoor
