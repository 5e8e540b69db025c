/- height.behind, height.check: how many words stand behind an instruction; whether it can take and give its words. -/
import Derived.Test.YtjoiogdckbaeaaaDoorCodeTG
import Derived.Test.YtjoiogdckbaeaaaDoorHeightM
import Derived.Test.YtjoiogdckbaeaaaDoorFlowS
import Derived.Laws.StructEq
namespace Go.Proofs.YtjoiogdckbaeaaaDoor
open Go.ChangeShapes Go.WideShapes Go.ChangeAt Go.RowKit
namespace Hgt
open Isa Flw Goes
set_option linter.unusedVariables false
set_option linter.unusedSimpArgs false
theorem hbehind_any (op h : Int) (h0 : 0 ≤ op) (h1 : op ≤ 255) (hh : -100000 ≤ h ∧ h ≤ 100000) (w : World) (hT : Tabs w) : Calls Tryd.prog 25 #[.int .u8 op, .int .i64 h] w fun e w' => e = .returned (.int .i64 (h - takesI op + givesI op)) ∧ Below w.heap.size w w' := by
  have ht := takesI_in op
  have hg := givesI_in op
  have HTk := Lib.hid (takes_any op h0 h1 w hT)
  have HGv := Lib.hid (fun W (hb : Below w.heap.size w W) => gives_any op h0 h1 W (hT.below hb (Nat.le_refl _)))
  have w1 : IntKind.i64.wrap (h - takesI op) = h - takesI op := by simp [IntKind.wrap, IntKind.bits, IntKind.signed]; omega
  have w2 : IntKind.i64.wrap (h - takesI op + givesI op) = h - takesI op + givesI op := by simp [IntKind.wrap, IntKind.bits, IntKind.signed]; omega
  clear hT h0 h1 ht hg
  generalize takesI op = tk at *
  generalize givesI op = gv at *
  go_enter Tryd.func25, Tryd.ntmps25
  go_wp2_with fail
  refine HTk.out.mono ?_
  rintro e w3 ⟨rfl, hb1⟩
  have HB1 := Lib.hid hb1
  have HG1 := Lib.hid (HGv.out w3 hb1)
  clear hb1 HTk HGv
  go_wp2_with fail
  refine HG1.out.mono ?_
  rintro e w4 ⟨rfl, hb2⟩
  have HB2 := Lib.hid (HB1.out.trans (hb2.mono HB1.out.size))
  clear hb2 HG1 HB1
  go_wp2_with fail
  go_ret
  exact ⟨rfl, HB2.out⟩
/-- what is amiss with an instruction where that many words stand -/
def ckE (op h most : Int) : Int := if h - takesI op < 0 then 121 else if most < h - takesI op + givesI op then 122 else 0
theorem eq2 (a b c d : Int) (w : World) : (Op.equalIn 10000 124 (.agg #[.int .i64 a, .int .i64 b]) (.agg #[.int .i64 c, .int .i64 d])).run Tryd.prog w = .ok (a == c && b == d) w := by
  have hs : ∀ W : World, (sizeOf 3).run Tryd.prog W = .ok 1 W := fun _ => by kernel_rfl
  have ha : ∀ W : World, (isAgg 3).run Tryd.prog W = .ok false W := fun _ => by kernel_rfl
  have heq : ∀ (a b : Int) (W : World), (Op.equalIn 9999 3 (.int .i64 a) (.int .i64 b)).run Tryd.prog W = .ok (a == b) W := fun a b W => by
    rw [show (9999 : Nat) = 9998 + 1 from rfl, run_equalIn_int W 9998 3 .i64 .i64 a b (by kernel_rfl)]
  have p0 : ∀ (x y : Int) (W : World), (Go.part 3 #[.int .i64 x, .int .i64 y] 0).run Tryd.prog W = .ok (.int .i64 x) W := fun x y W => by simp [Go.part, ha]
  have p1 : ∀ (x y : Int) (W : World), (Go.part 3 #[.int .i64 x, .int .i64 y] 1).run Tryd.prog W = .ok (.int .i64 y) W := fun x y W => by simp [Go.part, ha]
  have ht : Tryd.prog.underlying 124 = some (.array 2 3) := by kernel_rfl
  rw [show (10000 : Nat) = 9999 + 1 from rfl, Op.equalIn]
  simp only [Sem.run_bind, run_underlying ht, Result.andThen_ok, hs]
  simp only [Std.Legacy.Range.forIn_eq_forIn_range', Std.Legacy.Range.size, Nat.sub_zero, Nat.add_sub_cancel, Nat.div_one, List.range'_succ, List.range'_zero, List.forIn_cons, List.forIn_nil]
  by_cases h1 : a = c <;> by_cases h2 : b = d <;> simp [h1, h2, p0, p1, heq]
set_option maxHeartbeats 800000 in
theorem hcheck_any (op h most : Int) (h0 : 0 ≤ op) (h1 : op ≤ 255) (hh : 0 ≤ h ∧ h ≤ 64) (hm : 0 ≤ most ∧ most ≤ 64) (w : World) (hT : Tabs w) : Calls Tryd.prog 56 #[.int .u8 op, .int .i64 h, .int .i64 most] w fun e w' => e = .returned (.int .i64 (ckE op h most)) ∧ Below w.heap.size w w' := by
  have ht := takesI_in op
  have hg := givesI_in op
  have HTk := Lib.hid (takes_any op h0 h1 w hT)
  have HGv := Lib.hid (fun W (hb : Below w.heap.size w W) => gives_any op h0 h1 W (hT.below hb (Nat.le_refl _)))
  unfold ckE
  clear hT h0 h1
  generalize takesI op = tk at *
  generalize givesI op = gv at *
  have w1 : IntKind.i64.wrap (most - h) = most - h := by simp [IntKind.wrap, IntKind.bits, IntKind.signed]; omega
  have w2 : IntKind.i64.wrap (most - h + tk) = most - h + tk := by simp [IntKind.wrap, IntKind.bits, IntKind.signed]; omega
  have he := eq2
  obtain ⟨E, hE⟩ : ∃ E : Int, (if h - tk < 0 then 121 else if most < h - tk + gv then 122 else 0) = E := ⟨_, rfl⟩
  rw [hE]
  have HE := Lib.hid hE
  clear hE
  go_enter Tryd.func56, Tryd.ntmps56
  go_wp2_with fail
  refine HTk.out.mono ?_
  rintro e w3 ⟨rfl, hb1⟩
  have HB1 := Lib.hid hb1
  have HG1 := Lib.hid (HGv.out w3 hb1)
  clear hb1 HTk HGv
  go_wp2_with fail
  refine HG1.out.mono ?_
  rintro e w4 ⟨rfl, hb2⟩
  have HB2 := Lib.hid (HB1.out.trans (hb2.mono HB1.out.size))
  have HB3 : Hid (∀ o o', Below w.heap.size w ((w4.alloc o).alloc o')) := fun o o' => (HB2.out.alloc HB2.out.size o).alloc (by have := HB2.out.size; simp; omega) o'
  clear hb2 HG1 HB1
  by_cases q1 : tk ≤ h
  · have n1 : ¬ h - tk < 0 := by omega
    by_cases q2 : gv ≤ most - h + tk
    · have n2 : ¬ most < h - tk + gv := by omega
      have g2 : (gv == gv) = true := by simp
      have g1 : (tk == tk) = true := by simp
      have hE : E = 0 := by have := HE.out; rw [if_neg n1, if_neg n2] at this; exact this.symm
      subst hE
      clear n1 n2
      go_wp2_with fail
      all_goals (try omega)
      go_ret
      exact ⟨rfl, HB3.out _ _⟩
    · have n2 : most < h - tk + gv := by omega
      have g2 : (most - h + tk == gv) = false := by simp; omega
      have g1 : (tk == tk) = true := by simp
      have g3 : decide (tk < tk) = false := decide_eq_false (by omega)
      have hE : E = 122 := by have := HE.out; rw [if_neg n1, if_pos n2] at this; exact this.symm
      subst hE
      clear n1 n2
      go_wp2_with fail
      all_goals (try omega)
      go_ret
      exact ⟨rfl, HB3.out _ _⟩
  · have n1 : h - tk < 0 := by omega
    have g1 : (h == tk) = false := by simp; omega
    have g3 : decide (h < tk) = true := decide_eq_true (by omega)
    have hE : E = 121 := by have := HE.out; rw [if_pos n1] at this; exact this.symm
    subst hE
    clear n1
    by_cases q2 : gv ≤ most - h + tk
    · go_wp2_with fail
      all_goals (try omega)
      go_ret
      exact ⟨rfl, HB3.out _ _⟩
    · go_wp2_with fail
      all_goals (try omega)
      go_ret
      exact ⟨rfl, HB3.out _ _⟩
end Hgt
end Go.Proofs.YtjoiogdckbaeaaaDoor
