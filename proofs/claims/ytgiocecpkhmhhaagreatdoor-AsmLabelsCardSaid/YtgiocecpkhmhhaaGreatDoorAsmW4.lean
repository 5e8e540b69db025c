/- The program's answers: the text of a line. -/
import Derived.Test.YtgiocecpkhmhhaaGreatDoorAsmW3
import Derived.Test.YtgiocecpkhmhhaaGreatDoorAsmR8
import Derived.Deep.QuietTactic
import Derived.BigQuiet
namespace Go.Proofs.YtgiocecpkhmhhaaGreatDoor
open Go.ChangeShapes Go.WideShapes Go.ChangeAt Go.RowKit
namespace Asm
open Isa
set_option linter.unusedVariables false
set_option linter.unusedSimpArgs false
def lineT (x : Av) : List UInt8 := (if x.lb = [] then [] else x.lb ++ [58, 32]) ++ (if x.tg = [] then txt x.i else nm x.i.op ++ 32 :: x.tg)
theorem lineA_is (x : Av) : lineA x = lineT x ++ [10] := rfl
/-- the text of a jump with a label's place still open -/
theorem txt_jump {i : Iv} (h : mayI i = true) (hj : jumpsI i.op = true) (hc : i.c = 0) : txt i = nm i.op ++ [32] ++ [48] := by
  rw [txt_may h]
  unfold jumpsI at hj
  simp at hj
  unfold rest isC isM
  have hd : dd 0 = [48] := by decide +kernel
  rcases hj with e | e <;> (rw [e, hc, hd]; simp)
theorem txt_len31 {i : Iv} (h : mayI i = true) (hw : i.wf) : (txt i).length ≤ 31 := by
  have ha := dd_len hw.a.1 (by have := hw.a.2; omega)
  have hb := dd_len hw.b.1 (by have := hw.b.2; omega)
  have hc := dd_len hw.c.1 (by have := hw.c.2; omega)
  have hnl := nm_len (mayI_op h)
  rw [txt_may h]
  unfold rest
  simp only [List.length_append]
  split
  · simp; omega
  · split
    · simp; omega
    · split
      · simp; omega
      · split
        · simp; omega
        · simp; omega
set_option maxHeartbeats 3200000 in
theorem text_of (x : Av) (h : mayA x = true) (hw : x.i.wf) (w : World) (hT : Tabs w) : Calls Tryz.prog 39 #[avV x] w fun e w' => e = .returned (.string (sB (lineT x))) ∧ Below w.heap.size w w' := by
  have hm := h
  unfold mayA at hm
  simp only [Bool.and_eq_true, Bool.or_eq_true, decide_eq_true_eq] at hm
  have hnl := nm_len (mayI_op hm.1.2)
  have e1 := empty_is x.lb
  have e2 := empty_is x.tg
  have l1 : x.lb.length ≤ 16 := by
    rcases hm.1.1 with e | e
    · rw [e]; simp
    · exact isLbl_len e
  have l2 : x.tg.length ≤ 16 := by
    rcases hm.2 with e | e
    · rw [e]; simp
    · exact isLbl_len e.1.1
  have HTx := Lib.hid (fun W (hb : Below w.heap.size w W) => text_any x.i hw W (hT.below hb (Nat.le_refl _)))
  have ltx := txt_len31 hm.1.2 hw
  have HJ : Hid (x.tg ≠ [] → txt x.i = nm x.i.op ++ [32] ++ [48]) := fun q => by
    rcases hm.2 with e | e
    · exact absurd e q
    · exact txt_jump hm.1.2 e.1.2 (by simpa using e.2)
  obtain ⟨mid, hmid⟩ : ∃ mid, mid = (if x.tg = [] then txt x.i else nm x.i.op ++ 32 :: x.tg) := ⟨_, rfl⟩
  have lmid : mid.length ≤ 50 := by
    rw [hmid]
    split
    · omega
    · simp; omega
  have HL : Hid (lineT x = (if x.lb = [] then [] else x.lb ++ [58, 32]) ++ mid) := by show _ = _; rw [hmid]; rfl
  have HMid := Lib.hid hmid
  clear h hm hT hmid
  generalize lineT x = L at *
  obtain ⟨lb, ⟨op, ia, ib, ic⟩, tg⟩ := x
  unfold iv at HTx
  unfold avV
  simp only at *
  have q0 := fun X => cat_run (s := lb) (t := [58, 32]) (by simp; omega) rfl (show (⟨#[58, 32]⟩ : ByteArray) = sB [58, 32] from rfl) X
  have q1 := fun X => cat_run (s := lb ++ [58, 32]) (t := mid) (by simp; omega) rfl rfl X
  have q2 := fun X => cat_run (s := nm op ++ [32]) (t := tg) (by simp; omega) rfl rfl X
  have HM1 : Hid (tg = [] → sB mid = sB (txt ⟨op, ia, ib, ic⟩)) := fun q => by rw [HMid.out, if_pos q]
  have HM2 : Hid (tg ≠ [] → sB (nm op ++ [32] ++ tg) = sB mid) := fun q => by rw [HMid.out, if_neg q]; congr 1; simp
  have HQ1 : Hid (lb = [] → sB mid = sB L) := fun q => by rw [HL.out, if_pos q]; rfl
  have HQ2 : Hid (lb ≠ [] → sB (lb ++ [58, 32] ++ mid) = sB L) := fun q => by rw [HL.out, if_neg q]
  have HTr : Hid (tg ≠ [] → ∀ W, Calls Tryz.prog 63 #[.string (sB (txt ⟨op, ia, ib, ic⟩)), .string ⟨#[48]⟩] W fun e w' => e = .returned (.string (sB (nm op ++ [32]))) ∧ w' = W) := fun q W => by
    have := trimsuffix_lib (sB (txt ⟨op, ia, ib, ic⟩)) (sB [48]) W (by rw [sB_size]; omega)
    rw [sB_list, sB_list, HJ.out q, trim_yes (by simp), List.dropLast_concat] at this
    rw [HJ.out q]
    exact this
  clear HL HMid lmid l1 l2 hnl ltx HJ
  generalize sB (lb ++ [58, 32] ++ mid) = A2 at *
  generalize sB (lb ++ [58, 32]) = A1 at *
  generalize sB (nm op ++ [32] ++ tg) = B2 at *
  generalize sB (nm op ++ [32]) = B1 at *
  generalize sB (txt ⟨op, ia, ib, ic⟩) = TX at *
  generalize sB mid = MI at *
  generalize hlb : sB lb = LB at *
  generalize htg : sB tg = TO at *
  generalize sB L = SL at *
  go_enter Tryz.func39, Tryz.ntmps39
  have hx0 := alloc_new w (.cells #[.string LB, .int .u8 op, .int .u8 ia, .int .u16 ib, .int .u32 ic, .string TO] 34)
  have HB0 : Below w.heap.size w (w.alloc (.cells #[.string LB, .int .u8 op, .int .u8 ia, .int .u16 ib, .int .u32 ic, .string TO] 34)) := by go_grown
  obtain ⟨x0, x1, x2, x3, x4, x5⟩ := cells6 hx0
  go_wp2_with fail
  refine (HTx.out _ HB0).mono ?_
  rintro e w1 ⟨rfl, hb1⟩
  have HB1 : Below w.heap.size w w1 := HB0.trans (hb1.mono HB0.size)
  have hx1 := (hb1.block _ (lt_of_block hx0)).trans hx0
  clear x0 x1 x2 x3 x4 x5 hx0 hb1 HB0
  obtain ⟨x0, x1, x2, x3, x4, x5⟩ := cells6 hx1
  by_cases htn : tg = []
  · rw [decide_eq_true htn] at e2
    obtain rfl := HM1.out htn
    clear htn HTr HM1 HM2 q2
    by_cases hln : lb = []
    · rw [decide_eq_true hln] at e1
      obtain rfl := HQ1.out hln
      clear hln HQ1 HQ2 q0 q1
      go_wp2_with fail
      go_ret
      exact ⟨rfl, HB1⟩
    · rw [decide_eq_false hln] at e1
      obtain rfl := HQ2.out hln
      clear hln HQ1 HQ2
      go_wp2_with fail
      go_ret
      exact ⟨rfl, HB1⟩
  · rw [decide_eq_false htn] at e2
    have HTr2 := Lib.hid (HTr.out htn)
    obtain rfl := HM2.out htn
    clear htn HTr HM1 HM2
    by_cases hln : lb = []
    · rw [decide_eq_true hln] at e1
      obtain rfl := HQ1.out hln
      clear hln HQ1 HQ2 q0 q1
      go_wp2_with fail
      go_quiet ((go_at_call 63; exact Calls.quiet_of_same (HTr2.out _)))
      go_wp2_with fail
      go_ret
      exact ⟨rfl, below_drewN HB1 _⟩
    · rw [decide_eq_false hln] at e1
      obtain rfl := HQ2.out hln
      clear hln HQ1 HQ2
      go_wp2_with fail
      go_quiet ((go_at_call 63; exact Calls.quiet_of_same (HTr2.out _)))
      go_wp2_with fail
      go_ret
      exact ⟨rfl, below_drewN HB1 _⟩
end Asm
end Go.Proofs.YtgiocecpkhmhhaaGreatDoor
