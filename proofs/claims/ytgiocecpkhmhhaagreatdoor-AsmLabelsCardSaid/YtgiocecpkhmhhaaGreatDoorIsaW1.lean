/- The small calls of isa: an Op's kind, and what is asked of it. -/
import Derived.Test.YtgiocecpkhmhhaaGreatDoorIsaFmt
import Derived.OneCell
import Derived.LoopTactic
import Derived.Laws.Rows
import Derived.Lib.Hide
import Derived.Deep.QuietTactic
import Derived.Deep.RegionWith
import Derived.BigQuiet
import Derived.IntWalk
import Derived.RegionTactic
import Derived.Handy
namespace Go.Proofs.YtgiocecpkhmhhaaGreatDoor
open Go.ChangeShapes Go.WideShapes Go.ChangeAt Go.RowKit
namespace Isa
set_option linter.unusedVariables false
set_option linter.unusedSimpArgs false
theorem ret_int {k : IntKind} {a b : Int} (h : a = b) : Ending.returned (.int k a) = .returned (.int k b) := by rw [h]
theorem ret_bool {a b : Bool} (h : a = b) : Ending.returned (.bool a) = .returned (.bool b) := by rw [h]
/-- an instruction as a value -/
def iv (i : Iv) : Value := .agg #[.int .u8 i.op, .int .u8 i.a, .int .u16 i.b, .int .u32 i.c]
/-- a kind's parts -/
def kindA (op : Int) : Array Value := #[.string (sB (nm op)), .int .i64 (takesI op), .int .i64 (givesI op), .bool (isM op), .int .i64 (bAI op), .int .i64 (bBI op), .bool (nCI op), .bool (jumpsI op)]
def kindV (op : Int) : Value := .agg (kindA op)
theorem getD_far {α : Type} (l : List α) (d : α) (k : Nat) (h : l.length ≤ k) : l.getD k d = d := by
  rw [List.getD_eq_getElem?_getD, List.getElem?_eq_none h]; rfl
theorem beyond {op : Int} (h : 28 ≤ op) : kindV op = .agg #[.string ⟨#[]⟩, .int .i64 0, .int .i64 0, .bool false, .int .i64 0, .int .i64 0, .bool false, .bool false] := by
  have e1 : nm op = [] := getD_far _ _ _ (by simp [names]; omega)
  have e2 : takesI op = 0 := getD_far _ _ _ (by simp [takesL]; omega)
  have e3 : givesI op = 0 := getD_far _ _ _ (by simp [givesL]; omega)
  have m : isM op = false := by unfold isM; simp; omega
  have a : isA op = false := by unfold isA; simp; omega
  have ab : isAB op = false := by unfold isAB; simp; omega
  have c : isC op = false := by unfold isC; simp; omega
  have j : jumpsI op = false := by unfold jumpsI; simp; omega
  unfold kindV kindA bAI bBI nCI
  rw [e1, e2, e3, m, a, ab, c, j]
  rfl
set_option maxHeartbeats 3200000 in
theorem kind_any (op : Int) (h0 : 0 ≤ op) (h1 : op ≤ 255) (w : World) (hT : Tabs w) : Calls Tryz.prog 57 #[.int .u8 op] w fun e w' => e = .returned (kindV op) ∧ Below w.heap.size w w' := by
  obtain ⟨n, rfl⟩ := Int.eq_ofNat_of_zero_le h0
  by_cases hn : n < 28
  · have hs := World.block_lt_of_cell? _ _ (hT.kinds n hn).k0
    have hge : decide ((28 : Int) ≤ (n : Int)) = false := decide_eq_false (by omega)
    have HT : ∀ o, KAt (w.alloc o) n := fun o => (hT.below ((Below.refl w.heap.size w).alloc (Nat.le_refl _) o) (Nat.le_refl _)).kinds n hn
    clear hT
    unfold kindV kindA
    have k0 := fun o => (HT o).k0
    have k1 := fun o => (HT o).k1
    have k2 := fun o => (HT o).k2
    have k3 := fun o => (HT o).k3
    have k4 := fun o => (HT o).k4
    have k5 := fun o => (HT o).k5
    have k6 := fun o => (HT o).k6
    have k7 := fun o => (HT o).k7
    clear HT
    generalize sB (nm ↑n) = x0 at k0 ⊢
    generalize takesI ↑n = x1 at k1 ⊢
    generalize givesI ↑n = x2 at k2 ⊢
    generalize isM ↑n = x3 at k3 ⊢
    generalize bAI ↑n = x4 at k4 ⊢
    generalize bBI ↑n = x5 at k5 ⊢
    generalize nCI ↑n = x6 at k6 ⊢
    generalize jumpsI ↑n = x7 at k7 ⊢
    go_enter Tryz.func57, Tryz.ntmps57
    go_wp2_with (first | simp only [k0] | simp only [k1] | simp only [k2] | simp only [k3] | simp only [k4] | simp only [k5] | simp only [k6] | simp only [k7])
    refine bodyPost_ret (v := .agg #[.string x0, .int .i64 x1, .int .i64 x2, .bool x3, .int .i64 x4, .int .i64 x5, .bool x6, .bool x7]) (by simp [results, Tryz.f57, go_sem]) rfl ⟨rfl, ?_⟩
    go_grown
  · rw [beyond (by omega)]
    have hge : decide ((28 : Int) ≤ (n : Int)) = true := decide_eq_true (by omega)
    clear hT
    go_enter Tryz.func57, Tryz.ntmps57
    go_wp2_with fail
    refine bodyPost_ret (v := .agg #[.string ⟨#[]⟩, .int .i64 0, .int .i64 0, .bool false, .int .i64 0, .int .i64 0, .bool false, .bool false]) (by simp [results, Tryz.f57, go_sem]) rfl ⟨rfl, ?_⟩
    go_grown
/-- is there such an Op -/
def isS (s : ByteArray) : Bool := !s.toList.isEmpty
theorem is_any (s : ByteArray) (x1 x2 x4 x5 : Int) (x3 x6 x7 : Bool) (w : World) : Calls Tryz.prog 58 #[.agg #[.string s, .int .i64 x1, .int .i64 x2, .bool x3, .int .i64 x4, .int .i64 x5, .bool x6, .bool x7]] w fun e w' => e = .returned (.bool (isS s)) ∧ Below w.heap.size w w' := by
  unfold isS
  go_enter Tryz.func58, Tryz.ntmps58
  go_wp2_with fail
  go_ret
  refine ⟨rfl, ?_⟩
  go_grown
def letsB (b x : Int) : Bool := x == 0 || decide (x < b)
theorem lets_any (b x : Int) (w : World) : Calls Tryz.prog 60 #[.int .i64 b, .int .i64 x] w fun e w' => e = .returned (.bool (letsB b x)) ∧ Below w.heap.size w w' := by
  unfold letsB
  by_cases h : x = 0
  · have h1 : ((x : Int) == 0) = true := by simp [h]
    go_enter Tryz.func60, Tryz.ntmps60
    go_wp2_with fail
    go_ret
    exact ⟨ret_bool (by simp [h]), Below.refl _ _⟩
  · have h1 : ((x : Int) == 0) = false := by simp [h]
    go_enter Tryz.func60, Tryz.ntmps60
    go_wp2_with fail
    go_ret
    exact ⟨ret_bool (by simp [h]), Below.refl _ _⟩
def letsAB (m : Bool) (b a : Int) : Bool := if m then a == 1 || a == 2 || a == 4 else letsB b a
theorem letsA_any (s : ByteArray) (x1 x2 x4 x5 : Int) (x3 x6 x7 : Bool) (a : Int) (h0 : 0 ≤ a) (h1 : a ≤ 255) (w : World) :
    Calls Tryz.prog 59 #[.agg #[.string s, .int .i64 x1, .int .i64 x2, .bool x3, .int .i64 x4, .int .i64 x5, .bool x6, .bool x7], .int .u8 a] w fun e w' => e = .returned (.bool (letsAB x3 x4 a)) ∧ Below w.heap.size w w' := by
  cases x3
  · go_enter Tryz.func59, Tryz.ntmps59
    go_wp2_with fail
    refine (lets_any x4 a _).mono ?_
    rintro e w' ⟨rfl, hb⟩
    go_wp2_with fail
    go_ret
    refine ⟨rfl, Below.trans ?_ (hb.mono ?_)⟩ <;> go_grown
  · have t1 : (a == 1) = true ∨ (a == 1) = false := by cases (a == 1) <;> simp
    have t2 : (a == 2) = true ∨ (a == 2) = false := by cases (a == 2) <;> simp
    rcases t1 with t1 | t1 <;> rcases t2 with t2 | t2
    all_goals
      go_enter Tryz.func59, Tryz.ntmps59
      go_wp2_with fail
      go_ret
      refine ⟨ret_bool (by simp [letsAB, t1, t2]), ?_⟩
      go_grown
theorem fd1 (x0 : ByteArray) (x1 x2 x4 x5 : Int) (x3 x6 x7 : Bool) (w : World) : (Instr.field 82 (.agg #[.string x0, .int .i64 x1, .int .i64 x2, .bool x3, .int .i64 x4, .int .i64 x5, .bool x6, .bool x7]) 1).run Tryz.prog w = .ok (.int .i64 x1) w := by kernel_rfl
theorem fd2 (x0 : ByteArray) (x1 x2 x4 x5 : Int) (x3 x6 x7 : Bool) (w : World) : (Instr.field 82 (.agg #[.string x0, .int .i64 x1, .int .i64 x2, .bool x3, .int .i64 x4, .int .i64 x5, .bool x6, .bool x7]) 2).run Tryz.prog w = .ok (.int .i64 x2) w := by kernel_rfl
theorem fd7 (x0 : ByteArray) (x1 x2 x4 x5 : Int) (x3 x6 x7 : Bool) (w : World) : (Instr.field 82 (.agg #[.string x0, .int .i64 x1, .int .i64 x2, .bool x3, .int .i64 x4, .int .i64 x5, .bool x6, .bool x7]) 7).run Tryz.prog w = .ok (.bool x7) w := by kernel_rfl
end Isa
end Go.Proofs.YtgiocecpkhmhhaaGreatDoor
