/- The program's answers: which lines may be. (Made by tools/gen_asmw3.py.) -/
import Derived.Test.YtgiocecpkhmhhaaGreatDoorAsmW2
import Derived.Test.YtgiocecpkhmhhaaGreatDoorIsaW5
import Derived.Test.YtgiocecpkhmhhaaGreatDoorIsaW1j
namespace Go.Proofs.YtgiocecpkhmhhaaGreatDoor
open Go.ChangeShapes Go.WideShapes Go.ChangeAt Go.RowKit
namespace Asm
open Isa
set_option linter.unusedVariables false
set_option linter.unusedSimpArgs false
theorem islbl_any (s : List UInt8) (hm : s.length ≤ 9223372036854775807) (w : World) : Calls Tryz.prog 32 #[.string (sB s)] w fun e w' => e = .returned (.bool (isLbl s)) ∧ Below w.heap.size w w' := by
  refine (islabel_any s hm w).mono ?_
  rintro e w' ⟨rfl, rfl⟩
  exact ⟨rfl, Below.refl _ _⟩
set_option maxHeartbeats 3200000 in
theorem mayA_any (x : Av) (h : x.wf) (w : World) (hT : Tabs w) : Calls Tryz.prog 12 #[avV x] w fun e w' => e = .returned (.bool (mayA x)) ∧ Below w.heap.size w w' := by
  have HL := Lib.hid (fun W (hb : Below w.heap.size w W) => islbl_any x.lb h.lb W)
  have HT := Lib.hid (fun W (hb : Below w.heap.size w W) => islbl_any x.tg h.tg W)
  have HM := Lib.hid (fun W (hb : Below w.heap.size w W) => may_any x.i h.i W (hT.below hb (Nat.le_refl _)))
  have HJ := Lib.hid (fun W (hb : Below w.heap.size w W) => jumps_any x.i.op h.i.op.1 h.i.op.2 W (hT.below hb (Nat.le_refl _)))
  have HR : Hid (mayA x = ((decide (x.lb = []) || isLbl x.lb) && mayI x.i && (decide (x.tg = []) || isLbl x.tg && jumpsI x.i.op && x.i.c == 0))) := rfl
  have e1 := empty_is x.lb
  have e2 := empty_is x.tg
  clear h hT
  generalize mayA x = R at *
  obtain ⟨lb, ⟨op, a, b, c⟩, tg⟩ := x
  unfold iv at HM
  unfold avV
  simp only at *
  generalize decide (lb = []) = b1 at *
  generalize decide (tg = []) = b2 at *
  generalize isLbl lb = b3 at *
  generalize isLbl tg = b4 at *
  generalize jumpsI op = b5 at *
  generalize mayI ⟨op, a, b, c⟩ = b6 at *
  generalize sB lb = LB at *
  generalize sB tg = TO at *
  go_enter Tryz.func12, Tryz.ntmps12
  have hx0 := alloc_new w (.cells #[.string LB, .int .u8 op, .int .u8 a, .int .u16 b, .int .u32 c, .string TO] 34)
  have HB0 : Below w.heap.size w (w.alloc (.cells #[.string LB, .int .u8 op, .int .u8 a, .int .u16 b, .int .u32 c, .string TO] 34)) := by go_grown
  obtain ⟨x0, x1, x2, x3, x4, x5⟩ := cells6 hx0
  cases b1
  · cases b3
    · go_wp2_with fail
      refine (HL.out _ HB0).mono ?_
      rintro e w1 ⟨rfl, hb1⟩
      have HB1 : Below w.heap.size w w1 := HB0.trans (hb1.mono HB0.size)
      have hx1 := (hb1.block _ (lt_of_block hx0)).trans hx0
      clear x0 x1 x2 x3 x4 x5
      obtain ⟨x0, x1, x2, x3, x4, x5⟩ := cells6 hx1
      go_wp2_with fail
      go_ret
      exact ⟨ret_bool (by rw [HR.out]; simp), HB1⟩
    · cases b6
      · go_wp2_with fail
        refine (HL.out _ HB0).mono ?_
        rintro e w1 ⟨rfl, hb1⟩
        have HB1 : Below w.heap.size w w1 := HB0.trans (hb1.mono HB0.size)
        have hx1 := (hb1.block _ (lt_of_block hx0)).trans hx0
        clear x0 x1 x2 x3 x4 x5
        obtain ⟨x0, x1, x2, x3, x4, x5⟩ := cells6 hx1
        go_wp2_with fail
        refine (HM.out _ HB1).mono ?_
        rintro e w2 ⟨rfl, hb2⟩
        have HB2 : Below w.heap.size w w2 := HB1.trans (hb2.mono HB1.size)
        have hx2 := (hb2.block _ (lt_of_block hx1)).trans hx1
        clear x0 x1 x2 x3 x4 x5
        obtain ⟨x0, x1, x2, x3, x4, x5⟩ := cells6 hx2
        go_wp2_with fail
        go_ret
        exact ⟨ret_bool (by rw [HR.out]; simp), HB2⟩
      · cases b2
        · cases b4
          · go_wp2_with fail
            refine (HL.out _ HB0).mono ?_
            rintro e w1 ⟨rfl, hb1⟩
            have HB1 : Below w.heap.size w w1 := HB0.trans (hb1.mono HB0.size)
            have hx1 := (hb1.block _ (lt_of_block hx0)).trans hx0
            clear x0 x1 x2 x3 x4 x5
            obtain ⟨x0, x1, x2, x3, x4, x5⟩ := cells6 hx1
            go_wp2_with fail
            refine (HM.out _ HB1).mono ?_
            rintro e w2 ⟨rfl, hb2⟩
            have HB2 : Below w.heap.size w w2 := HB1.trans (hb2.mono HB1.size)
            have hx2 := (hb2.block _ (lt_of_block hx1)).trans hx1
            clear x0 x1 x2 x3 x4 x5
            obtain ⟨x0, x1, x2, x3, x4, x5⟩ := cells6 hx2
            go_wp2_with fail
            refine (HT.out _ HB2).mono ?_
            rintro e w3 ⟨rfl, hb3⟩
            have HB3 : Below w.heap.size w w3 := HB2.trans (hb3.mono HB2.size)
            have hx3 := (hb3.block _ (lt_of_block hx2)).trans hx2
            clear x0 x1 x2 x3 x4 x5
            obtain ⟨x0, x1, x2, x3, x4, x5⟩ := cells6 hx3
            go_wp2_with fail
            go_ret
            exact ⟨ret_bool (by rw [HR.out]; simp), HB3⟩
          · cases b5
            · go_wp2_with fail
              refine (HL.out _ HB0).mono ?_
              rintro e w1 ⟨rfl, hb1⟩
              have HB1 : Below w.heap.size w w1 := HB0.trans (hb1.mono HB0.size)
              have hx1 := (hb1.block _ (lt_of_block hx0)).trans hx0
              clear x0 x1 x2 x3 x4 x5
              obtain ⟨x0, x1, x2, x3, x4, x5⟩ := cells6 hx1
              go_wp2_with fail
              refine (HM.out _ HB1).mono ?_
              rintro e w2 ⟨rfl, hb2⟩
              have HB2 : Below w.heap.size w w2 := HB1.trans (hb2.mono HB1.size)
              have hx2 := (hb2.block _ (lt_of_block hx1)).trans hx1
              clear x0 x1 x2 x3 x4 x5
              obtain ⟨x0, x1, x2, x3, x4, x5⟩ := cells6 hx2
              go_wp2_with fail
              refine (HT.out _ HB2).mono ?_
              rintro e w3 ⟨rfl, hb3⟩
              have HB3 : Below w.heap.size w w3 := HB2.trans (hb3.mono HB2.size)
              have hx3 := (hb3.block _ (lt_of_block hx2)).trans hx2
              clear x0 x1 x2 x3 x4 x5
              obtain ⟨x0, x1, x2, x3, x4, x5⟩ := cells6 hx3
              go_wp2_with fail
              refine (HJ.out _ HB3).mono ?_
              rintro e w4 ⟨rfl, hb4⟩
              have HB4 : Below w.heap.size w w4 := HB3.trans (hb4.mono HB3.size)
              have hx4 := (hb4.block _ (lt_of_block hx3)).trans hx3
              clear x0 x1 x2 x3 x4 x5
              obtain ⟨x0, x1, x2, x3, x4, x5⟩ := cells6 hx4
              go_wp2_with fail
              go_ret
              exact ⟨ret_bool (by rw [HR.out]; simp), HB4⟩
            · by_cases hc : c = 0
              · subst hc
                go_wp2_with fail
                refine (HL.out _ HB0).mono ?_
                rintro e w1 ⟨rfl, hb1⟩
                have HB1 : Below w.heap.size w w1 := HB0.trans (hb1.mono HB0.size)
                have hx1 := (hb1.block _ (lt_of_block hx0)).trans hx0
                clear x0 x1 x2 x3 x4 x5
                obtain ⟨x0, x1, x2, x3, x4, x5⟩ := cells6 hx1
                go_wp2_with fail
                refine (HM.out _ HB1).mono ?_
                rintro e w2 ⟨rfl, hb2⟩
                have HB2 : Below w.heap.size w w2 := HB1.trans (hb2.mono HB1.size)
                have hx2 := (hb2.block _ (lt_of_block hx1)).trans hx1
                clear x0 x1 x2 x3 x4 x5
                obtain ⟨x0, x1, x2, x3, x4, x5⟩ := cells6 hx2
                go_wp2_with fail
                refine (HT.out _ HB2).mono ?_
                rintro e w3 ⟨rfl, hb3⟩
                have HB3 : Below w.heap.size w w3 := HB2.trans (hb3.mono HB2.size)
                have hx3 := (hb3.block _ (lt_of_block hx2)).trans hx2
                clear x0 x1 x2 x3 x4 x5
                obtain ⟨x0, x1, x2, x3, x4, x5⟩ := cells6 hx3
                go_wp2_with fail
                refine (HJ.out _ HB3).mono ?_
                rintro e w4 ⟨rfl, hb4⟩
                have HB4 : Below w.heap.size w w4 := HB3.trans (hb4.mono HB3.size)
                have hx4 := (hb4.block _ (lt_of_block hx3)).trans hx3
                clear x0 x1 x2 x3 x4 x5
                obtain ⟨x0, x1, x2, x3, x4, x5⟩ := cells6 hx4
                go_wp2_with fail
                go_ret
                exact ⟨ret_bool (by rw [HR.out]; simp), HB4⟩
              · have gc : (c == 0) = false := by simpa using hc
                go_wp2_with fail
                refine (HL.out _ HB0).mono ?_
                rintro e w1 ⟨rfl, hb1⟩
                have HB1 : Below w.heap.size w w1 := HB0.trans (hb1.mono HB0.size)
                have hx1 := (hb1.block _ (lt_of_block hx0)).trans hx0
                clear x0 x1 x2 x3 x4 x5
                obtain ⟨x0, x1, x2, x3, x4, x5⟩ := cells6 hx1
                go_wp2_with fail
                refine (HM.out _ HB1).mono ?_
                rintro e w2 ⟨rfl, hb2⟩
                have HB2 : Below w.heap.size w w2 := HB1.trans (hb2.mono HB1.size)
                have hx2 := (hb2.block _ (lt_of_block hx1)).trans hx1
                clear x0 x1 x2 x3 x4 x5
                obtain ⟨x0, x1, x2, x3, x4, x5⟩ := cells6 hx2
                go_wp2_with fail
                refine (HT.out _ HB2).mono ?_
                rintro e w3 ⟨rfl, hb3⟩
                have HB3 : Below w.heap.size w w3 := HB2.trans (hb3.mono HB2.size)
                have hx3 := (hb3.block _ (lt_of_block hx2)).trans hx2
                clear x0 x1 x2 x3 x4 x5
                obtain ⟨x0, x1, x2, x3, x4, x5⟩ := cells6 hx3
                go_wp2_with fail
                refine (HJ.out _ HB3).mono ?_
                rintro e w4 ⟨rfl, hb4⟩
                have HB4 : Below w.heap.size w w4 := HB3.trans (hb4.mono HB3.size)
                have hx4 := (hb4.block _ (lt_of_block hx3)).trans hx3
                clear x0 x1 x2 x3 x4 x5
                obtain ⟨x0, x1, x2, x3, x4, x5⟩ := cells6 hx4
                go_wp2_with fail
                go_ret
                exact ⟨ret_bool (by rw [HR.out, gc]; simp), HB4⟩
        · go_wp2_with fail
          refine (HL.out _ HB0).mono ?_
          rintro e w1 ⟨rfl, hb1⟩
          have HB1 : Below w.heap.size w w1 := HB0.trans (hb1.mono HB0.size)
          have hx1 := (hb1.block _ (lt_of_block hx0)).trans hx0
          clear x0 x1 x2 x3 x4 x5
          obtain ⟨x0, x1, x2, x3, x4, x5⟩ := cells6 hx1
          go_wp2_with fail
          refine (HM.out _ HB1).mono ?_
          rintro e w2 ⟨rfl, hb2⟩
          have HB2 : Below w.heap.size w w2 := HB1.trans (hb2.mono HB1.size)
          have hx2 := (hb2.block _ (lt_of_block hx1)).trans hx1
          clear x0 x1 x2 x3 x4 x5
          obtain ⟨x0, x1, x2, x3, x4, x5⟩ := cells6 hx2
          go_wp2_with fail
          go_ret
          exact ⟨ret_bool (by rw [HR.out]; simp), HB2⟩
  · cases b6
    · go_wp2_with fail
      refine (HM.out _ HB0).mono ?_
      rintro e w1 ⟨rfl, hb1⟩
      have HB1 : Below w.heap.size w w1 := HB0.trans (hb1.mono HB0.size)
      have hx1 := (hb1.block _ (lt_of_block hx0)).trans hx0
      clear x0 x1 x2 x3 x4 x5
      obtain ⟨x0, x1, x2, x3, x4, x5⟩ := cells6 hx1
      go_wp2_with fail
      go_ret
      exact ⟨ret_bool (by rw [HR.out]; simp), HB1⟩
    · cases b2
      · cases b4
        · go_wp2_with fail
          refine (HM.out _ HB0).mono ?_
          rintro e w1 ⟨rfl, hb1⟩
          have HB1 : Below w.heap.size w w1 := HB0.trans (hb1.mono HB0.size)
          have hx1 := (hb1.block _ (lt_of_block hx0)).trans hx0
          clear x0 x1 x2 x3 x4 x5
          obtain ⟨x0, x1, x2, x3, x4, x5⟩ := cells6 hx1
          go_wp2_with fail
          refine (HT.out _ HB1).mono ?_
          rintro e w2 ⟨rfl, hb2⟩
          have HB2 : Below w.heap.size w w2 := HB1.trans (hb2.mono HB1.size)
          have hx2 := (hb2.block _ (lt_of_block hx1)).trans hx1
          clear x0 x1 x2 x3 x4 x5
          obtain ⟨x0, x1, x2, x3, x4, x5⟩ := cells6 hx2
          go_wp2_with fail
          go_ret
          exact ⟨ret_bool (by rw [HR.out]; simp), HB2⟩
        · cases b5
          · go_wp2_with fail
            refine (HM.out _ HB0).mono ?_
            rintro e w1 ⟨rfl, hb1⟩
            have HB1 : Below w.heap.size w w1 := HB0.trans (hb1.mono HB0.size)
            have hx1 := (hb1.block _ (lt_of_block hx0)).trans hx0
            clear x0 x1 x2 x3 x4 x5
            obtain ⟨x0, x1, x2, x3, x4, x5⟩ := cells6 hx1
            go_wp2_with fail
            refine (HT.out _ HB1).mono ?_
            rintro e w2 ⟨rfl, hb2⟩
            have HB2 : Below w.heap.size w w2 := HB1.trans (hb2.mono HB1.size)
            have hx2 := (hb2.block _ (lt_of_block hx1)).trans hx1
            clear x0 x1 x2 x3 x4 x5
            obtain ⟨x0, x1, x2, x3, x4, x5⟩ := cells6 hx2
            go_wp2_with fail
            refine (HJ.out _ HB2).mono ?_
            rintro e w3 ⟨rfl, hb3⟩
            have HB3 : Below w.heap.size w w3 := HB2.trans (hb3.mono HB2.size)
            have hx3 := (hb3.block _ (lt_of_block hx2)).trans hx2
            clear x0 x1 x2 x3 x4 x5
            obtain ⟨x0, x1, x2, x3, x4, x5⟩ := cells6 hx3
            go_wp2_with fail
            go_ret
            exact ⟨ret_bool (by rw [HR.out]; simp), HB3⟩
          · by_cases hc : c = 0
            · subst hc
              go_wp2_with fail
              refine (HM.out _ HB0).mono ?_
              rintro e w1 ⟨rfl, hb1⟩
              have HB1 : Below w.heap.size w w1 := HB0.trans (hb1.mono HB0.size)
              have hx1 := (hb1.block _ (lt_of_block hx0)).trans hx0
              clear x0 x1 x2 x3 x4 x5
              obtain ⟨x0, x1, x2, x3, x4, x5⟩ := cells6 hx1
              go_wp2_with fail
              refine (HT.out _ HB1).mono ?_
              rintro e w2 ⟨rfl, hb2⟩
              have HB2 : Below w.heap.size w w2 := HB1.trans (hb2.mono HB1.size)
              have hx2 := (hb2.block _ (lt_of_block hx1)).trans hx1
              clear x0 x1 x2 x3 x4 x5
              obtain ⟨x0, x1, x2, x3, x4, x5⟩ := cells6 hx2
              go_wp2_with fail
              refine (HJ.out _ HB2).mono ?_
              rintro e w3 ⟨rfl, hb3⟩
              have HB3 : Below w.heap.size w w3 := HB2.trans (hb3.mono HB2.size)
              have hx3 := (hb3.block _ (lt_of_block hx2)).trans hx2
              clear x0 x1 x2 x3 x4 x5
              obtain ⟨x0, x1, x2, x3, x4, x5⟩ := cells6 hx3
              go_wp2_with fail
              go_ret
              exact ⟨ret_bool (by rw [HR.out]; simp), HB3⟩
            · have gc : (c == 0) = false := by simpa using hc
              go_wp2_with fail
              refine (HM.out _ HB0).mono ?_
              rintro e w1 ⟨rfl, hb1⟩
              have HB1 : Below w.heap.size w w1 := HB0.trans (hb1.mono HB0.size)
              have hx1 := (hb1.block _ (lt_of_block hx0)).trans hx0
              clear x0 x1 x2 x3 x4 x5
              obtain ⟨x0, x1, x2, x3, x4, x5⟩ := cells6 hx1
              go_wp2_with fail
              refine (HT.out _ HB1).mono ?_
              rintro e w2 ⟨rfl, hb2⟩
              have HB2 : Below w.heap.size w w2 := HB1.trans (hb2.mono HB1.size)
              have hx2 := (hb2.block _ (lt_of_block hx1)).trans hx1
              clear x0 x1 x2 x3 x4 x5
              obtain ⟨x0, x1, x2, x3, x4, x5⟩ := cells6 hx2
              go_wp2_with fail
              refine (HJ.out _ HB2).mono ?_
              rintro e w3 ⟨rfl, hb3⟩
              have HB3 : Below w.heap.size w w3 := HB2.trans (hb3.mono HB2.size)
              have hx3 := (hb3.block _ (lt_of_block hx2)).trans hx2
              clear x0 x1 x2 x3 x4 x5
              obtain ⟨x0, x1, x2, x3, x4, x5⟩ := cells6 hx3
              go_wp2_with fail
              go_ret
              exact ⟨ret_bool (by rw [HR.out, gc]; simp), HB3⟩
      · go_wp2_with fail
        refine (HM.out _ HB0).mono ?_
        rintro e w1 ⟨rfl, hb1⟩
        have HB1 : Below w.heap.size w w1 := HB0.trans (hb1.mono HB0.size)
        have hx1 := (hb1.block _ (lt_of_block hx0)).trans hx0
        clear x0 x1 x2 x3 x4 x5
        obtain ⟨x0, x1, x2, x3, x4, x5⟩ := cells6 hx1
        go_wp2_with fail
        go_ret
        exact ⟨ret_bool (by rw [HR.out]; simp), HB1⟩
end Asm
end Go.Proofs.YtgiocecpkhmhhaaGreatDoor
