/- The document's own answers: what is an instruction, and its bytes. -/
import Derived.Test.YtjoiogdckbaeaaaDoorCodeBase
namespace Go.Proofs.YtjoiogdckbaeaaaDoor
open Go.ChangeShapes Go.WideShapes Go.ChangeAt Go.RowKit
namespace Isa
set_option linter.unusedVariables false
set_option linter.unusedSimpArgs false
set_option maxHeartbeats 12800000 in
theorem rmay_any (i : Iv) (h : i.wf) (w : World) : Calls Tryd.prog 59 #[iv i] w fun e w' => e = .returned (.bool (mayI i)) ∧ Below w.heap.size w w' := by
  obtain ⟨op, a, b, c⟩ := i
  obtain ⟨⟨h1, h2⟩, ⟨h3, h4⟩, ⟨h5, h6⟩, ⟨h7, h8⟩⟩ := h
  simp only at *
  unfold iv
  simp only
  have a0 : (a == 0) = true ∨ (a == 0) = false := by cases (a == 0) <;> simp
  have a1 : (a == 1) = true ∨ (a == 1) = false := by cases (a == 1) <;> simp
  have a2 : (a == 2) = true ∨ (a == 2) = false := by cases (a == 2) <;> simp
  have a4 : (a == 4) = true ∨ (a == 4) = false := by cases (a == 4) <;> simp
  have b0 : (b == 0) = true ∨ (b == 0) = false := by cases (b == 0) <;> simp
  have a16 : decide (a < 16) = true ∨ decide (a < 16) = false := by cases decide (a < 16) <;> simp
  have b16 : decide (b < 16) = true ∨ decide (b < 16) = false := by cases decide (b < 16) <;> simp
  by_cases o1 : op = 1
  · subst o1
    clear a1 a2 a4 b0 a16 b16
    rcases a0 with a0 | a0
    · go_enter Tryd.func59, Tryd.ntmps59
      go_wp2_with fail
      go_ret
      refine ⟨ret_bool (by simp [mayI, isC, isM, isAB, isA, a0]), ?_⟩
      go_grown
    · go_enter Tryd.func59, Tryd.ntmps59
      go_wp2_with fail
      go_ret
      refine ⟨ret_bool (by simp [mayI, isC, isM, isAB, isA, a0]), ?_⟩
      go_grown
  by_cases o19 : op = 19
  · subst o19
    clear a1 a2 a4 b0 a16 b16
    rcases a0 with a0 | a0
    · go_enter Tryd.func59, Tryd.ntmps59
      go_wp2_with fail
      go_ret
      refine ⟨ret_bool (by simp [mayI, isC, isM, isAB, isA, a0]), ?_⟩
      go_grown
    · go_enter Tryd.func59, Tryd.ntmps59
      go_wp2_with fail
      go_ret
      refine ⟨ret_bool (by simp [mayI, isC, isM, isAB, isA, a0]), ?_⟩
      go_grown
  by_cases o20 : op = 20
  · subst o20
    clear a1 a2 a4 b0 a16 b16
    rcases a0 with a0 | a0
    · go_enter Tryd.func59, Tryd.ntmps59
      go_wp2_with fail
      go_ret
      refine ⟨ret_bool (by simp [mayI, isC, isM, isAB, isA, a0]), ?_⟩
      go_grown
    · go_enter Tryd.func59, Tryd.ntmps59
      go_wp2_with fail
      go_ret
      refine ⟨ret_bool (by simp [mayI, isC, isM, isAB, isA, a0]), ?_⟩
      go_grown
  by_cases o17 : op = 17
  · subst o17
    clear a0 b0 a16 b16
    rcases a1 with a1 | a1
    · go_enter Tryd.func59, Tryd.ntmps59
      go_wp2_with fail
      go_ret
      refine ⟨ret_bool (by simp [mayI, isC, isM, isAB, isA, a1]), ?_⟩
      go_grown
    · rcases a2 with a2 | a2
      · go_enter Tryd.func59, Tryd.ntmps59
        go_wp2_with fail
        go_ret
        refine ⟨ret_bool (by simp [mayI, isC, isM, isAB, isA, a1, a2]), ?_⟩
        go_grown
      · rcases a4 with a4 | a4
        · go_enter Tryd.func59, Tryd.ntmps59
          go_wp2_with fail
          go_ret
          refine ⟨ret_bool (by simp [mayI, isC, isM, isAB, isA, a1, a2, a4]), ?_⟩
          go_grown
        · go_enter Tryd.func59, Tryd.ntmps59
          go_wp2_with fail
          go_ret
          refine ⟨ret_bool (by simp [mayI, isC, isM, isAB, isA, a1, a2, a4]), ?_⟩
          go_grown
  by_cases o18 : op = 18
  · subst o18
    clear a0 b0 a16 b16
    rcases a1 with a1 | a1
    · go_enter Tryd.func59, Tryd.ntmps59
      go_wp2_with fail
      go_ret
      refine ⟨ret_bool (by simp [mayI, isC, isM, isAB, isA, a1]), ?_⟩
      go_grown
    · rcases a2 with a2 | a2
      · go_enter Tryd.func59, Tryd.ntmps59
        go_wp2_with fail
        go_ret
        refine ⟨ret_bool (by simp [mayI, isC, isM, isAB, isA, a1, a2]), ?_⟩
        go_grown
      · rcases a4 with a4 | a4
        · go_enter Tryd.func59, Tryd.ntmps59
          go_wp2_with fail
          go_ret
          refine ⟨ret_bool (by simp [mayI, isC, isM, isAB, isA, a1, a2, a4]), ?_⟩
          go_grown
        · go_enter Tryd.func59, Tryd.ntmps59
          go_wp2_with fail
          go_ret
          refine ⟨ret_bool (by simp [mayI, isC, isM, isAB, isA, a1, a2, a4]), ?_⟩
          go_grown
  by_cases o23 : op = 23
  · subst o23
    clear a0 a1 a2 a4 b0
    rcases a16 with a16 | a16
    · rcases b16 with b16 | b16
      · go_enter Tryd.func59, Tryd.ntmps59
        go_wp2_with fail
        go_ret
        refine ⟨ret_bool (by simp [mayI, isC, isM, isAB, isA, a16, b16]), ?_⟩
        go_grown
      · go_enter Tryd.func59, Tryd.ntmps59
        go_wp2_with fail
        go_ret
        refine ⟨ret_bool (by simp [mayI, isC, isM, isAB, isA, a16, b16]), ?_⟩
        go_grown
    · go_enter Tryd.func59, Tryd.ntmps59
      go_wp2_with fail
      go_ret
      refine ⟨ret_bool (by simp [mayI, isC, isM, isAB, isA, a16]), ?_⟩
      go_grown
  by_cases o25 : op = 25
  · subst o25
    clear a0 a1 a2 a4 b0
    rcases a16 with a16 | a16
    · rcases b16 with b16 | b16
      · go_enter Tryd.func59, Tryd.ntmps59
        go_wp2_with fail
        go_ret
        refine ⟨ret_bool (by simp [mayI, isC, isM, isAB, isA, a16, b16]), ?_⟩
        go_grown
      · go_enter Tryd.func59, Tryd.ntmps59
        go_wp2_with fail
        go_ret
        refine ⟨ret_bool (by simp [mayI, isC, isM, isAB, isA, a16, b16]), ?_⟩
        go_grown
    · go_enter Tryd.func59, Tryd.ntmps59
      go_wp2_with fail
      go_ret
      refine ⟨ret_bool (by simp [mayI, isC, isM, isAB, isA, a16]), ?_⟩
      go_grown
  by_cases o21 : op = 21
  · subst o21
    clear a0 a1 a2 a4 b16
    rcases a16 with a16 | a16
    · rcases b0 with b0 | b0
      · go_enter Tryd.func59, Tryd.ntmps59
        go_wp2_with fail
        go_ret
        refine ⟨ret_bool (by simp [mayI, isC, isM, isAB, isA, a16, b0]), ?_⟩
        go_grown
      · go_enter Tryd.func59, Tryd.ntmps59
        go_wp2_with fail
        go_ret
        refine ⟨ret_bool (by simp [mayI, isC, isM, isAB, isA, a16, b0]), ?_⟩
        go_grown
    · go_enter Tryd.func59, Tryd.ntmps59
      go_wp2_with fail
      go_ret
      refine ⟨ret_bool (by simp [mayI, isC, isM, isAB, isA, a16]), ?_⟩
      go_grown
  by_cases o22 : op = 22
  · subst o22
    clear a0 a1 a2 a4 b16
    rcases a16 with a16 | a16
    · rcases b0 with b0 | b0
      · go_enter Tryd.func59, Tryd.ntmps59
        go_wp2_with fail
        go_ret
        refine ⟨ret_bool (by simp [mayI, isC, isM, isAB, isA, a16, b0]), ?_⟩
        go_grown
      · go_enter Tryd.func59, Tryd.ntmps59
        go_wp2_with fail
        go_ret
        refine ⟨ret_bool (by simp [mayI, isC, isM, isAB, isA, a16, b0]), ?_⟩
        go_grown
    · go_enter Tryd.func59, Tryd.ntmps59
      go_wp2_with fail
      go_ret
      refine ⟨ret_bool (by simp [mayI, isC, isM, isAB, isA, a16]), ?_⟩
      go_grown
  by_cases o24 : op = 24
  · subst o24
    clear a0 a1 a2 a4 b16
    rcases a16 with a16 | a16
    · rcases b0 with b0 | b0
      · go_enter Tryd.func59, Tryd.ntmps59
        go_wp2_with fail
        go_ret
        refine ⟨ret_bool (by simp [mayI, isC, isM, isAB, isA, a16, b0]), ?_⟩
        go_grown
      · go_enter Tryd.func59, Tryd.ntmps59
        go_wp2_with fail
        go_ret
        refine ⟨ret_bool (by simp [mayI, isC, isM, isAB, isA, a16, b0]), ?_⟩
        go_grown
    · go_enter Tryd.func59, Tryd.ntmps59
      go_wp2_with fail
      go_ret
      refine ⟨ret_bool (by simp [mayI, isC, isM, isAB, isA, a16]), ?_⟩
      go_grown
  by_cases o26 : op = 26
  · subst o26
    clear a0 a1 a2 a4 b16
    rcases a16 with a16 | a16
    · rcases b0 with b0 | b0
      · go_enter Tryd.func59, Tryd.ntmps59
        go_wp2_with fail
        go_ret
        refine ⟨ret_bool (by simp [mayI, isC, isM, isAB, isA, a16, b0]), ?_⟩
        go_grown
      · go_enter Tryd.func59, Tryd.ntmps59
        go_wp2_with fail
        go_ret
        refine ⟨ret_bool (by simp [mayI, isC, isM, isAB, isA, a16, b0]), ?_⟩
        go_grown
    · go_enter Tryd.func59, Tryd.ntmps59
      go_wp2_with fail
      go_ret
      refine ⟨ret_bool (by simp [mayI, isC, isM, isAB, isA, a16]), ?_⟩
      go_grown
  clear a1 a2 a4 a16 b16
  have p1 : (op == 1) = false := by simpa using o1
  have p19 : (op == 19) = false := by simpa using o19
  have p20 : (op == 20) = false := by simpa using o20
  have p17 : (op == 17) = false := by simpa using o17
  have p18 : (op == 18) = false := by simpa using o18
  have p23 : (op == 23) = false := by simpa using o23
  have p25 : (op == 25) = false := by simpa using o25
  have p21 : (op == 21) = false := by simpa using o21
  have p22 : (op == 22) = false := by simpa using o22
  have p24 : (op == 24) = false := by simpa using o24
  have p26 : (op == 26) = false := by simpa using o26
  have l1 : decide ((1 : Int) ≤ op) = true ∨ decide ((1 : Int) ≤ op) = false := by cases decide ((1 : Int) ≤ op) <;> simp
  have l2 : decide (op ≤ 27) = true ∨ decide (op ≤ 27) = false := by cases decide (op ≤ 27) <;> simp
  rcases l1 with l1 | l1
  · rcases l2 with l2 | l2
    · rcases a0 with a0 | a0
      · rcases b0 with b0 | b0
        · go_enter Tryd.func59, Tryd.ntmps59
          go_wp2_with fail
          go_ret
          refine ⟨ret_bool (by simp only [mayI, isC, isM, isAB, isA, p1, p19, p20, p17, p18, p23, p25, p21, p22, p24, p26, l1, l2, a0, b0]; simp), ?_⟩
          go_grown
        · go_enter Tryd.func59, Tryd.ntmps59
          go_wp2_with fail
          go_ret
          refine ⟨ret_bool (by simp only [mayI, isC, isM, isAB, isA, p1, p19, p20, p17, p18, p23, p25, p21, p22, p24, p26, l1, l2, a0, b0]; simp), ?_⟩
          go_grown
      · go_enter Tryd.func59, Tryd.ntmps59
        go_wp2_with fail
        go_ret
        refine ⟨ret_bool (by simp only [mayI, isC, isM, isAB, isA, p1, p19, p20, p17, p18, p23, p25, p21, p22, p24, p26, l1, l2, a0]; simp), ?_⟩
        go_grown
    · go_enter Tryd.func59, Tryd.ntmps59
      go_wp2_with fail
      go_ret
      refine ⟨ret_bool (by simp only [mayI, isC, isM, isAB, isA, p1, p19, p20, p17, p18, p23, p25, p21, p22, p24, p26, l1, l2]; simp), ?_⟩
      go_grown
  · go_enter Tryd.func59, Tryd.ntmps59
    go_wp2_with fail
    go_ret
    refine ⟨ret_bool (by simp only [mayI, isC, isM, isAB, isA, p1, p19, p20, p17, p18, p23, p25, p21, p22, p24, p26, l1]; simp), ?_⟩
    go_grown
end Isa
end Go.Proofs.YtjoiogdckbaeaaaDoor
