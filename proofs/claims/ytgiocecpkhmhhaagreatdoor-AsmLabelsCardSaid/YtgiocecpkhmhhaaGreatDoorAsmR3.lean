/- The document's own answers: an instruction's Op and size by its name. (Made by tools/gen_asmr3.py.) -/
import Derived.Test.YtgiocecpkhmhhaaGreatDoorAsmR2
namespace Go.Proofs.YtgiocecpkhmhhaaGreatDoor
open Go.ChangeShapes Go.WideShapes Go.ChangeAt Go.RowKit
namespace Asm
open Isa
set_option linter.unusedVariables false
set_option linter.unusedSimpArgs false
theorem sB_is (s m : List UInt8) : ((sB s).toList == m) = decide (s = m) := by
  have := sB_eq s m
  rw [Lib.toList_data (sB m), sB_list] at this
  exact this
theorem ret_op {a b : Int × Int} (h : a = b) : Ending.returned (.tuple #[.int .u8 a.1, .int .u8 a.2]) = .returned (.tuple #[.int .u8 b.1, .int .u8 b.2]) := by rw [h]
theorem rop2_any (s : List UInt8) (w : World) : Calls Tryz.prog 73 #[.string (sB s)] w fun e w' => e = .returned (.tuple #[.int .u8 (opW s).1, .int .u8 (opW s).2]) ∧ Below w.heap.size w w' := by
  have HO := Lib.hid (rop_any s w)
  have e0 := sB_is s [108, 111, 97, 100, 49]
  have e1 := sB_is s [108, 111, 97, 100, 50]
  have e2 := sB_is s [108, 111, 97, 100, 52]
  have e3 := sB_is s [115, 116, 111, 114, 101, 49]
  have e4 := sB_is s [115, 116, 111, 114, 101, 50]
  have e5 := sB_is s [115, 116, 111, 114, 101, 52]
  have e6 := sB_is s [108, 111, 97, 100]
  have e7 := sB_is s [115, 116, 111, 114, 101]
  have HW : Hid (opW s = if s = nLoad ++ [49] then (17, 1) else if s = nLoad ++ [50] then (17, 2) else if s = nLoad ++ [52] then (17, 4) else if s = nStore ++ [49] then (18, 1) else if s = nStore ++ [50] then (18, 2) else if s = nStore ++ [52] then (18, 4) else if s = nLoad ∨ s = nStore then (0, 0) else (opI s, 0)) := rfl
  unfold nLoad nStore at HW
  simp only [List.cons_append, List.nil_append] at HW
  generalize hV : opW s = V at *
  clear hV
  by_cases h0 : s = [108, 111, 97, 100, 49]
  · have HR : Hid (V = (17, 1)) := by show _ = _; rw [HW.out, if_pos h0]
    rw [decide_eq_true h0] at e0
    clear HW HO h0 e1 e2 e3 e4 e5 e6 e7
    generalize sB s = S at *
    go_enter Tryz.func73, Tryz.ntmps73
    go_wp2_with fail
    refine bodyPost_ret (v := .tuple #[.int .u8 17, .int .u8 1]) (by simp [results, Tryz.f73, go_sem]) rfl ⟨by rw [HR.out], by go_grown⟩
  rw [decide_eq_false h0] at e0
  by_cases h1 : s = [108, 111, 97, 100, 50]
  · have HR : Hid (V = (17, 2)) := by show _ = _; rw [HW.out, if_neg h0, if_pos h1]
    rw [decide_eq_true h1] at e1
    clear HW HO h1 e2 e3 e4 e5 e6 e7
    generalize sB s = S at *
    go_enter Tryz.func73, Tryz.ntmps73
    go_wp2_with fail
    refine bodyPost_ret (v := .tuple #[.int .u8 17, .int .u8 2]) (by simp [results, Tryz.f73, go_sem]) rfl ⟨by rw [HR.out], by go_grown⟩
  rw [decide_eq_false h1] at e1
  by_cases h2 : s = [108, 111, 97, 100, 52]
  · have HR : Hid (V = (17, 4)) := by show _ = _; rw [HW.out, if_neg h0, if_neg h1, if_pos h2]
    rw [decide_eq_true h2] at e2
    clear HW HO h2 e3 e4 e5 e6 e7
    generalize sB s = S at *
    go_enter Tryz.func73, Tryz.ntmps73
    go_wp2_with fail
    refine bodyPost_ret (v := .tuple #[.int .u8 17, .int .u8 4]) (by simp [results, Tryz.f73, go_sem]) rfl ⟨by rw [HR.out], by go_grown⟩
  rw [decide_eq_false h2] at e2
  by_cases h3 : s = [115, 116, 111, 114, 101, 49]
  · have HR : Hid (V = (18, 1)) := by show _ = _; rw [HW.out, if_neg h0, if_neg h1, if_neg h2, if_pos h3]
    rw [decide_eq_true h3] at e3
    clear HW HO h3 e4 e5 e6 e7
    generalize sB s = S at *
    go_enter Tryz.func73, Tryz.ntmps73
    go_wp2_with fail
    refine bodyPost_ret (v := .tuple #[.int .u8 18, .int .u8 1]) (by simp [results, Tryz.f73, go_sem]) rfl ⟨by rw [HR.out], by go_grown⟩
  rw [decide_eq_false h3] at e3
  by_cases h4 : s = [115, 116, 111, 114, 101, 50]
  · have HR : Hid (V = (18, 2)) := by show _ = _; rw [HW.out, if_neg h0, if_neg h1, if_neg h2, if_neg h3, if_pos h4]
    rw [decide_eq_true h4] at e4
    clear HW HO h4 e5 e6 e7
    generalize sB s = S at *
    go_enter Tryz.func73, Tryz.ntmps73
    go_wp2_with fail
    refine bodyPost_ret (v := .tuple #[.int .u8 18, .int .u8 2]) (by simp [results, Tryz.f73, go_sem]) rfl ⟨by rw [HR.out], by go_grown⟩
  rw [decide_eq_false h4] at e4
  by_cases h5 : s = [115, 116, 111, 114, 101, 52]
  · have HR : Hid (V = (18, 4)) := by show _ = _; rw [HW.out, if_neg h0, if_neg h1, if_neg h2, if_neg h3, if_neg h4, if_pos h5]
    rw [decide_eq_true h5] at e5
    clear HW HO h5 e6 e7
    generalize sB s = S at *
    go_enter Tryz.func73, Tryz.ntmps73
    go_wp2_with fail
    refine bodyPost_ret (v := .tuple #[.int .u8 18, .int .u8 4]) (by simp [results, Tryz.f73, go_sem]) rfl ⟨by rw [HR.out], by go_grown⟩
  rw [decide_eq_false h5] at e5
  by_cases h6 : s = [108, 111, 97, 100]
  · have HR : Hid (V = (0, 0)) := by show _ = _; rw [HW.out, if_neg h0, if_neg h1, if_neg h2, if_neg h3, if_neg h4, if_neg h5, if_pos (.inl h6)]
    rw [decide_eq_true h6] at e6
    clear HW HO h6 e7
    generalize sB s = S at *
    go_enter Tryz.func73, Tryz.ntmps73
    go_wp2_with fail
    refine bodyPost_ret (v := .tuple #[.int .u8 0, .int .u8 0]) (by simp [results, Tryz.f73, go_sem]) rfl ⟨by rw [HR.out], by go_grown⟩
  rw [decide_eq_false h6] at e6
  by_cases h7 : s = [115, 116, 111, 114, 101]
  · have HR : Hid (V = (0, 0)) := by show _ = _; rw [HW.out, if_neg h0, if_neg h1, if_neg h2, if_neg h3, if_neg h4, if_neg h5, if_pos (.inr h7)]
    rw [decide_eq_true h7] at e7
    clear HW HO h7 
    generalize sB s = S at *
    go_enter Tryz.func73, Tryz.ntmps73
    go_wp2_with fail
    refine bodyPost_ret (v := .tuple #[.int .u8 0, .int .u8 0]) (by simp [results, Tryz.f73, go_sem]) rfl ⟨by rw [HR.out], by go_grown⟩
  rw [decide_eq_false h7] at e7
  have HR : Hid (V = (opI s, 0)) := by show _ = _; rw [HW.out, if_neg h0, if_neg h1, if_neg h2, if_neg h3, if_neg h4, if_neg h5, if_neg (fun h => h.elim h6 h7)]
  clear HW h0 h1 h2 h3 h4 h5 h6 h7
  generalize sB s = S at *
  generalize opI s = o at *
  go_enter Tryz.func73, Tryz.ntmps73
  go_wp2_with fail
  refine HO.out.mono ?_
  rintro e w1 ⟨rfl, hb⟩
  go_wp2_with fail
  refine bodyPost_ret (v := .tuple #[.int .u8 o, .int .u8 0]) (by simp [results, Tryz.f73, go_sem]) rfl ⟨by rw [HR.out], hb⟩
end Asm
end Go.Proofs.YtgiocecpkhmhhaaGreatDoor
