/- Two tags by '==': whether all bytes are the same. -/
import Derived.Test.YtodbfkifendniaaDoorHmacBytes
namespace Go.Proofs.YtodbfkifendniaaDoor
open Go.ChangeShapes Go.WideShapes Go.ChangeAt Go.RowKit
namespace Sha
theorem list_same (d f : List Int) (hd : d.length = 32) (hf : f.length = 32) : (∀ i ∈ List.range' 0 32, d.getD i 0 = f.getD i 0) ↔ d = f := by
  constructor
  · intro h
    apply List.ext_getElem (by omega)
    intro i h1 h2
    have := h i (by simp [List.mem_range']; omega)
    simpa [List.getD, h1, h2] using this
  · intro h; subst h; intros; rfl
theorem equal_any' (n : Nat) (d f : List Int) (hd : d.length = 32) (hf : f.length = 32) (w : World) : (Op.equalIn (n + 2) 25 (.agg (ints .u8 d)) (.agg (ints .u8 f))).run Tryd.prog w = .ok (decide (d = f)) w := by
  have ht : Tryd.prog.underlying 25 = some (.array 32 5) := by kernel_rfl
  have hs : ∀ W : World, (sizeOf 5).run Tryd.prog W = .ok 1 W := fun _ => by kernel_rfl
  have ha : ∀ W : World, (isAgg 5).run Tryd.prog W = .ok false W := fun _ => by kernel_rfl
  have hpart : ∀ (d : List Int) (i : Nat) (W : World), d.length = 32 → i < 32 → (Go.part 5 (ints .u8 d) (i * 1)).run Tryd.prog W = .ok (.int .u8 (d.getD i 0)) W := fun d i W hd hi => by
    have h2 := ints_at .u8 d i (by omega)
    simp [Go.part, ha, h2]
  have heq : ∀ (a b : Int) (W : World), (Op.equalIn (n + 1) 5 (.int .u8 a) (.int .u8 b)).run Tryd.prog W = .ok (a == b) W := fun a b W => by
    rw [run_equalIn_int W n 5 .u8 .u8 a b (by kernel_rfl)]
  have hdec : decide (d = f) = decide (∀ i ∈ List.range' 0 32, d.getD i 0 = f.getD i 0) := by
    rw [Bool.eq_iff_iff]
    simp only [decide_eq_true_eq]
    exact (list_same d f hd hf).symm
  rw [hdec, show n + 2 = (n + 1) + 1 from rfl]
  rw [Op.equalIn]
  simp only [Sem.run_bind, run_underlying ht, Result.andThen_ok, hs]
  rw [Std.Legacy.Range.forIn_eq_forIn_range']
  have e : List.range' ([:32] : Std.Legacy.Range).start ([:32] : Std.Legacy.Range).size ([:32] : Std.Legacy.Range).step = List.range' 0 32 := rfl
  rw [e]
  have hm : ∀ i ∈ List.range' 0 32, i < 32 := by
    intro i hi
    simp [List.mem_range'] at hi
    exact hi
  generalize List.range' 0 32 = L at *
  clear e hdec
  induction L with
  | nil => simp
  | cons i L ih =>
    have h1 := hpart d i w hd (hm i (by simp))
    have h2 := hpart f i w hf (hm i (by simp))
    simp only [List.forIn_cons, Sem.run_bind, h1, h2, Result.andThen_ok, heq]
    by_cases hx : d.getD i 0 = f.getD i 0
    · have hb : (d.getD i 0 == f.getD i 0) = true := beq_iff_eq.2 hx
      rw [hb]
      simp only [Bool.not_true, Bool.false_eq_true, if_false, Sem.run_pure, Result.andThen_ok]
      have := ih (fun j hj => hm j (by simp [hj]))
      rw [this]
      congr 1
      rw [Bool.eq_iff_iff]
      simp only [decide_eq_true_eq, List.mem_cons, forall_eq_or_imp]
      exact ⟨fun h => ⟨hx, h⟩, fun h => h.2⟩
    · have hb : (d.getD i 0 == f.getD i 0) = false := beq_eq_false_iff_ne.2 hx
      rw [hb]
      simp only [Bool.not_false, if_true, Sem.run_pure, Result.andThen_ok]
      have hn : decide (∀ j ∈ i :: L, d.getD j 0 = f.getD j 0) = false := by
        rw [decide_eq_false_iff_not]
        intro h
        exact hx (h i (by simp))
      rw [hn]
theorem run_eql_any {o : Oper} {ev : Operand → Value} (X : World) (x y : Operand) (ho : o.op = .binOp .eql 25 x y 25) (d f : List Int) (hd : d.length = 32) (hf : f.length = 32) (hx : ev x = .agg (ints .u8 d)) (hy : ev y = .agg (ints .u8 f)) : (execOp ev o).run Tryd.prog X = .ok (.value (.bool (decide (d = f)))) X := by
  have hrun : (binOp .eql 25 (.agg (ints .u8 d)) (.agg (ints .u8 f))).run Tryd.prog X = .ok (.bool (decide (d = f))) X := by
    rw [run_eql_struct, show (10000 : Nat) = 9998 + 2 from rfl, equal_any' 9998 d f hd hf X]; rfl
  have hg : (eqGuard .eql 25 x y (.agg (ints .u8 d)) (.agg (ints .u8 f))).run Tryd.prog X = .ok () X := run_eqGuard_agg X .eql 25 x y _ _ (by kernel_rfl)
  simp only [execOp, ho, hx, hy, Sem.run_bind, hrun, hg, Result.andThen_ok, Sem.run_pure]
end Sha
end Go.Proofs.YtodbfkifendniaaDoor
