/- The small calls on one region, or on two. -/
import Derived.Test.YtekicfaakjbmhaaRows
import Derived.Test.YtekicfaakjbmhaaRightsMath
import Derived.Test.YtekicfaakjbmhaaRightsSeq
import Derived.WalkKit
import Derived.ProofKit
import Derived.OpenShut
import Derived.Below
import Derived.OneCell
import Derived.LoopTactic
import Derived.Laws.Rows
import Derived.Lib.Hide
import Derived.Deep.WholeRow
import Derived.Deep.QuietTactic
import Derived.Deep.RegionWith
import Derived.BigQuiet
import Derived.IntWalk
import Derived.Outline
import Derived.RegionTactic
import Derived.Handy
namespace Go.Proofs.Ytekicfaakjbmhaa
open Go.ChangeShapes Go.WideShapes Go.ChangeAt Go.RowKit
namespace Rights
set_option linter.unusedVariables false
set_option linter.unusedSimpArgs false
theorem ret_int {k : IntKind} {a b : Int} (h : a = b) : Ending.returned (.int k a) = .returned (.int k b) := by rw [h]
theorem ret_iff {a b : Bool} (h : a = true ↔ b = true) : Ending.returned (.bool a) = .returned (.bool b) := by rw [Bool.eq_iff_iff.2 h]
theorem ret_bool {a b : Bool} (h : a = b) : Ending.returned (.bool a) = .returned (.bool b) := by rw [h]
theorem end_any (x : Rg) (w : World) : Calls Try.prog 21 #[.agg #[.int .u32 x.b, .int .u32 x.s, .int .u8 x.r]] w fun e w' => e = .returned (.int .u64 (x.b + x.s)) ∧ w' = w.alloc (.cells #[.int .u32 x.b, .int .u32 x.s, .int .u8 x.r] 24) := by
  obtain ⟨⟨h0, h1⟩, ⟨h2, h3⟩, ⟨h4, h5⟩⟩ := x.h
  generalize x.b = b at *
  generalize x.s = s at *
  generalize x.r = r at *
  have c1 : IntKind.u64.wrap b = b := by simp [IntKind.wrap, IntKind.bits, IntKind.signed]; omega
  have c2 : IntKind.u64.wrap s = s := by simp [IntKind.wrap, IntKind.bits, IntKind.signed]; omega
  have c3 : IntKind.u64.wrap (b + s) = b + s := by simp [IntKind.wrap, IntKind.bits, IntKind.signed]; omega
  go_enter Try.func21, Try.ntmps21
  go_wp2_with fail
  go_ret
  exact ⟨rfl, rfl⟩
theorem isNaN_any (x : Int) (w : World) : Calls Try.prog 34 #[.int .u32 x] w fun e w' => e = .returned (.bool false) ∧ w' = w := by
  go_enter Try.func34, Try.ntmps34
  go_wp2_with fail
  go_ret
  exact ⟨rfl, rfl⟩
/-- which goes ahead -/
def cf (x y : Int) : Int := if x < y then -1 else if y < x then 1 else 0
theorem compare_any (x y : Int) (w : World) : Calls Try.prog 26 #[.int .u32 x, .int .u32 y] w fun e w' => e = .returned (.int .i64 (cf x y)) ∧ w' = w := by
  have h1 := isNaN_any x w
  have h2 := isNaN_any y w
  unfold cf
  by_cases hx : x < y
  · go_enter Try.func26, Try.ntmps26
    go_wp2_with (go_at_call 34; with_reducible first | (refine h1.mono ?_; rintro e w1 ⟨rfl, rfl⟩) | (refine h2.mono ?_; rintro e w1 ⟨rfl, rfl⟩))
    go_ret
    exact ⟨rfl, rfl⟩
  · by_cases hy : y < x
    · go_enter Try.func26, Try.ntmps26
      go_wp2_with (go_at_call 34; with_reducible first | (refine h1.mono ?_; rintro e w1 ⟨rfl, rfl⟩) | (refine h2.mono ?_; rintro e w1 ⟨rfl, rfl⟩))
      go_ret
      exact ⟨by simp [hy], rfl⟩
    · go_enter Try.func26, Try.ntmps26
      go_wp2_with (go_at_call 34; with_reducible first | (refine h1.mono ?_; rintro e w1 ⟨rfl, rfl⟩) | (refine h2.mono ?_; rintro e w1 ⟨rfl, rfl⟩))
      go_ret
      exact ⟨by simp, rfl⟩
theorem of_any (b s r : Int) (w : World) : Calls Try.prog 20 #[.int .u32 b, .int .u32 s, .int .u8 r] w fun e w' => e = .returned (.agg #[.int .u32 b, .int .u32 s, .int .u8 r]) ∧ Below w.heap.size w w' := by
  go_enter Try.func20, Try.ntmps20
  go_wp2_with fail
  refine bodyPost_ret (v := .agg #[.int .u32 b, .int .u32 s, .int .u8 r]) (by simp [results, Try.f20, go_sem]) rfl ⟨rfl, by go_grown⟩
theorem within_any (k m : Int) (h0 : 0 ≤ k) (h1 : k ≤ 8589934590) (hm : 0 ≤ m ∧ m ≤ 4294967295) (a : Nat) (w : World) (hc : w.cell? ⟨a, 0, none⟩ = some (.int .u32 m)) :
    Calls Try.prog 35 #[.int .u64 k, .pointer (some ⟨a, 0, none⟩)] w fun e w' => e = .returned (.int .u32 (min k m)) ∧ w' = w := by
  obtain ⟨hm0, hm1⟩ := hm
  have c1 : IntKind.u64.wrap m = m := by simp [IntKind.wrap, IntKind.bits, IntKind.signed]; omega
  have c2 : IntKind.u32.wrap (min k m) = min k m := by simp [IntKind.wrap, IntKind.bits, IntKind.signed]; omega
  go_enter Try.func35, Try.ntmps35
  go_wp2_with fail
  all_goals (go_ret; exact ⟨ret_int (by omega), rfl⟩)
theorem less_any (x y : Rg) (w : World) : Calls Try.prog 25 #[.agg #[.int .u32 x.b, .int .u32 x.s, .int .u8 x.r], .agg #[.int .u32 y.b, .int .u32 y.s, .int .u8 y.r]] w fun e w' => e = .returned (.int .i64 (cf x.b y.b)) ∧ w' = (w.alloc (.cells #[.int .u32 x.b, .int .u32 x.s, .int .u8 x.r] 24)).alloc (.cells #[.int .u32 y.b, .int .u32 y.s, .int .u8 y.r] 24) := by
  have hcon := fun w => compare_any x.b y.b w
  generalize x.b = b at *
  generalize x.s = s at *
  generalize x.r = r at *
  generalize y.b = b' at *
  generalize y.s = s' at *
  generalize y.r = r' at *
  generalize cf b b' = z at *
  go_enter Try.func25, Try.ntmps25
  go_wp2_with (go_at_call 26; refine (hcon _).mono ?_; rintro e w1 ⟨rfl, rfl⟩)
  go_ret
  exact ⟨rfl, rfl⟩
theorem has_any (x : Rg) (k : Int) (w : World) : Calls Try.prog 22 #[.agg #[.int .u32 x.b, .int .u32 x.s, .int .u8 x.r], .int .u64 k] w fun e w' => e = .returned (.bool (hasB x k)) ∧ w' = w.alloc (.cells #[.int .u32 x.b, .int .u32 x.s, .int .u8 x.r] 24) := by
  obtain ⟨⟨h0, h1⟩, ⟨h2, h3⟩, ⟨h4, h5⟩⟩ := x.h
  unfold hasB Rg.e
  generalize x.b = b at *
  generalize x.s = s at *
  generalize x.r = r at *
  have c1 : IntKind.u64.wrap b = b := by simp [IntKind.wrap, IntKind.bits, IntKind.signed]; omega
  have c2 : IntKind.u64.wrap s = s := by simp [IntKind.wrap, IntKind.bits, IntKind.signed]; omega
  have c3 : IntKind.u64.wrap (b + s) = b + s := by simp [IntKind.wrap, IntKind.bits, IntKind.signed]; omega
  go_enter Try.func22, Try.ntmps22
  go_wp2_with fail
  all_goals (go_ret; refine ⟨ret_iff ?_, rfl⟩; simp only [bne_iff_ne, beq_iff_eq, Bool.and_eq_true, Bool.or_eq_true, decide_eq_true_eq, ne_eq, Bool.false_eq_true, true_iff, false_iff, Bool.not_eq_eq_eq_not, Bool.not_true, Bool.not_false, decide_eq_false_iff_not]; omega)
theorem fits_any (x : Rg) (m : Int) (hm : 0 ≤ m ∧ m ≤ 4294967295) (w : World) : Calls Try.prog 9 #[.agg #[.int .u32 x.b, .int .u32 x.s, .int .u8 x.r], .int .u32 m] w fun e w' => e = .returned (.bool (fits x m)) ∧ Below w.heap.size w w' := by
  obtain ⟨⟨h0, h1⟩, ⟨h2, h3⟩, ⟨h4, h5⟩⟩ := x.h
  have hend := fun w => end_any x w
  unfold fits Rg.e
  generalize x.b = b at *
  generalize x.s = s at *
  generalize x.r = r at *
  have c1 : IntKind.u64.wrap m = m := by simp [IntKind.wrap, IntKind.bits, IntKind.signed]; omega
  go_enter Try.func9, Try.ntmps9
  go_wp2_with (go_at_call 21; refine (hend _).mono ?_; rintro e w1 ⟨rfl, rfl⟩)
  all_goals (go_ret; refine ⟨ret_iff ?_, by go_grown⟩; simp only [bne_iff_ne, beq_iff_eq, Bool.and_eq_true, Bool.or_eq_true, decide_eq_true_eq, ne_eq, Bool.false_eq_true, true_iff, false_iff, Bool.not_eq_eq_eq_not, Bool.not_true, Bool.not_false, decide_eq_false_iff_not]; omega)
theorem rfits_any (x : Rg) (m : Int) (hm : 0 ≤ m ∧ m ≤ 4294967295) (w : World) : Calls Try.prog 10 #[.agg #[.int .u32 x.b, .int .u32 x.s, .int .u8 x.r], .int .u32 m] w fun e w' => e = .returned (.bool (fits x m)) ∧ Below w.heap.size w w' := by
  obtain ⟨⟨h0, h1⟩, ⟨h2, h3⟩, ⟨h4, h5⟩⟩ := x.h
  unfold fits Rg.e
  generalize x.b = b at *
  generalize x.s = s at *
  generalize x.r = r at *
  have c1 : IntKind.u64.wrap m = m := by simp [IntKind.wrap, IntKind.bits, IntKind.signed]; omega
  have c2 : IntKind.u64.wrap b = b := by simp [IntKind.wrap, IntKind.bits, IntKind.signed]; omega
  have c3 : IntKind.u64.wrap s = s := by simp [IntKind.wrap, IntKind.bits, IntKind.signed]; omega
  have c4 : IntKind.u64.wrap (b + s) = b + s := by simp [IntKind.wrap, IntKind.bits, IntKind.signed]; omega
  by_cases h : s = 0
  · subst h
    go_enter Try.func10, Try.ntmps10
    go_wp2_with fail
    all_goals (go_ret; exact ⟨ret_iff (by simp), by go_grown⟩)
  · have c5 : IntKind.u64.wrap (b + s - 1) = b + s - 1 := by simp [IntKind.wrap, IntKind.bits, IntKind.signed]; omega
    go_enter Try.func10, Try.ntmps10
    go_wp2_with fail
    all_goals (go_ret; refine ⟨ret_iff ?_, by go_grown⟩; simp only [bne_iff_ne, beq_iff_eq, Bool.and_eq_true, Bool.or_eq_true, decide_eq_true_eq, ne_eq, Bool.false_eq_true, true_iff, false_iff, Bool.not_eq_eq_eq_not, Bool.not_true, Bool.not_false, decide_eq_false_iff_not]; omega)
theorem roverlap_any (x y : Rg) (w : World) : Calls Try.prog 12 #[.agg #[.int .u32 x.b, .int .u32 x.s, .int .u8 x.r], .agg #[.int .u32 y.b, .int .u32 y.s, .int .u8 y.r]] w fun e w' => e = .returned (.bool (overlap x y)) ∧ Below w.heap.size w w' := by
  obtain ⟨⟨h0, h1⟩, ⟨h2, h3⟩, ⟨h4, h5⟩⟩ := x.h
  obtain ⟨⟨g0, g1⟩, ⟨g2, g3⟩, ⟨g4, g5⟩⟩ := y.h
  have hx := fun w => has_any x y.b w
  have hy := fun w => has_any y x.b w
  have ex : hasB x y.b = decide (x.b ≤ y.b ∧ y.b < x.b + x.s) := rfl
  have ey : hasB y x.b = decide (y.b ≤ x.b ∧ x.b < y.b + y.s) := rfl
  unfold overlap Rg.e
  generalize hasB x y.b = p at *
  generalize hasB y x.b = q at *
  generalize x.b = b at *
  generalize x.s = s at *
  generalize x.r = r at *
  generalize y.b = b' at *
  generalize y.s = s' at *
  generalize y.r = r' at *
  have c1 : IntKind.u64.wrap b = b := by simp [IntKind.wrap, IntKind.bits, IntKind.signed]; omega
  have c2 : IntKind.u64.wrap b' = b' := by simp [IntKind.wrap, IntKind.bits, IntKind.signed]; omega
  cases p <;> cases q
  all_goals
    have EX := Lib.hid ex
    have EY := Lib.hid ey
    clear ex ey
    go_enter Try.func12, Try.ntmps12
    go_wp2_with (go_at_call 22; with_reducible first | (refine (hx _).mono ?_; rintro e w1 ⟨rfl, rfl⟩) | (refine (hy _).mono ?_; rintro e w1 ⟨rfl, rfl⟩))
    all_goals
      have ex := EX.out
      have ey := EY.out
      go_ret
      refine ⟨ret_iff ?_, by go_grown⟩
      clear hx hy
      first | (have ex := of_decide_eq_true ex.symm) | (have ex := of_decide_eq_false ex.symm)
      first | (have ey := of_decide_eq_true ey.symm) | (have ey := of_decide_eq_false ey.symm)
      simp only [bne_iff_ne, beq_iff_eq, Bool.and_eq_true, Bool.or_eq_true, decide_eq_true_eq, ne_eq, Bool.false_eq_true, true_iff, false_iff, Bool.not_eq_eq_eq_not, Bool.not_true, Bool.not_false, decide_eq_false_iff_not]
      omega
end Rights
end Go.Proofs.Ytekicfaakjbmhaa
