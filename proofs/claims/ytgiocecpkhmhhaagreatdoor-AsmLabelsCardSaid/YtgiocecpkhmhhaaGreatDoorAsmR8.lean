/- The document's own answers: the text of a line. (Made by tools/gen_asmr8.py.) -/
import Derived.Test.YtgiocecpkhmhhaaGreatDoorAsmR5
import Derived.Test.YtgiocecpkhmhhaaGreatDoorRightsTmps
namespace Go.Proofs.YtgiocecpkhmhhaaGreatDoor
open Go.ChangeShapes Go.WideShapes Go.ChangeAt Go.RowKit
namespace Asm
open Isa
set_option linter.unusedVariables false
set_option linter.unusedSimpArgs false
theorem cat_run {s t : List UInt8} (h : s.length + t.length ≤ 1000000000) {A B : ByteArray} (ha : A = sB s) (hb : B = sB t) (X : World) : (Op.stringOp .add A B).run Tryz.prog X = .ok (.string (sB (s ++ t))) X := by
  subst ha hb
  exact (run_string_add_sum X _ _ (by rw [sB_size, sB_size]; omega)).trans (by rw [sB_add])
set_option maxHeartbeats 6400000 in
theorem line_any (x : Av) (h : mayA x = true) (hw : x.i.wf) (w : World) : Calls Tryz.prog 42 #[avV x] w fun e w' => e = .returned (.string (sB (lineA x))) ∧ Below w.heap.size w w' := by
  have hm := h
  unfold mayA at hm
  simp only [Bool.and_eq_true, Bool.or_eq_true, decide_eq_true_eq] at hm
  have hop := mayI_op hm.1.2
  have hnl := nm_len hop
  have e1 := empty_is x.lb
  have e2 := empty_is x.tg
  have l1 : x.lb.length ≤ 16 := by
    rcases hm.1.1 with e | e
    · rw [e]; simp
    · exact isLbl_len e
  have l2 : x.tg.length ≤ 16 := by
    rcases hm.2 with e | e
    · rw [e]; simp
    · exact isLbl_len e.1.1
  have HTx := Lib.hid (fun W => rtext_any x.i hw W)
  have ltx : (txt x.i).length ≤ 31 := by
    have ha := dd_len hw.a.1 (by have := hw.a.2; omega)
    have hb := dd_len hw.b.1 (by have := hw.b.2; omega)
    have hc := dd_len hw.c.1 (by have := hw.c.2; omega)
    rw [txt_may hm.1.2]
    unfold rest
    simp only [List.length_append]
    split
    · simp; omega
    · split
      · simp; omega
      · split
        · simp; omega
        · split
          · simp; omega
          · simp; omega
  obtain ⟨s0, hs0⟩ : ∃ s0, s0 = (if x.lb = [] then [] else x.lb ++ [58, 32]) := ⟨_, rfl⟩
  have ls0 : s0.length ≤ 18 := by
    rw [hs0]
    split
    · simp
    · simp; omega
  have HL : Hid (lineA x = s0 ++ (if x.tg = [] then txt x.i else nm x.i.op ++ 32 :: x.tg) ++ [10]) := by show _ = _; rw [hs0]; rfl
  have HS0 := Lib.hid hs0
  clear h hm hs0
  generalize lineA x = L at *
  obtain ⟨lb, ⟨op, ia, ib, ic⟩, tg⟩ := x
  unfold iv at HTx
  unfold avV
  simp only at *
  have q0 := fun X => cat_run (s := lb) (t := [58, 32]) (by simp; omega) rfl (show (⟨#[58, 32]⟩ : ByteArray) = sB [58, 32] from rfl) X
  have q1 := fun X => cat_run (s := s0) (t := nm op) (by omega) rfl rfl X
  have q2 := fun X => cat_run (s := s0 ++ nm op) (t := [32]) (by simp; omega) rfl (show (⟨#[32]⟩ : ByteArray) = sB [32] from rfl) X
  have q3 := fun X => cat_run (s := s0 ++ nm op ++ [32]) (t := tg) (by simp; omega) rfl rfl X
  have q4 := fun X => cat_run (s := s0 ++ nm op ++ [32] ++ tg) (t := [10]) (by simp; omega) rfl (show (⟨#[10]⟩ : ByteArray) = sB [10] from rfl) X
  have r1 := fun X => cat_run (s := s0) (t := txt ⟨op, ia, ib, ic⟩) (by omega) rfl rfl X
  have r2 := fun X => cat_run (s := s0 ++ txt ⟨op, ia, ib, ic⟩) (t := [10]) (by simp; omega) rfl (show (⟨#[10]⟩ : ByteArray) = sB [10] from rfl) X
  have HR4 : Hid (tg ≠ [] → sB (s0 ++ nm op ++ [32] ++ tg ++ [10]) = sB L) := fun q => by rw [HL.out, if_neg q]; congr 1; simp
  have HR2 : Hid (tg = [] → sB (s0 ++ txt ⟨op, ia, ib, ic⟩ ++ [10]) = sB L) := fun q => by rw [HL.out, if_pos q]
  have HZ : Hid (lb = [] → sB s0 = ⟨#[]⟩) := fun q => by rw [HS0.out, if_pos q]; rfl
  have HZ2 : Hid (lb ≠ [] → sB (lb ++ [58, 32]) = sB s0) := fun q => by rw [HS0.out, if_neg q]
  have hopn : ((op.toNat : Nat) : Int) = op := by omega
  have hop0 : (0 : Int) ≤ op := by omega
  have hop1 : op < 28 := by omega
  clear HL HS0 ls0 l1 l2 hnl ltx
  generalize hx0 : sB (nm op) = x0 at *
  generalize sB (s0 ++ nm op ++ [32] ++ tg ++ [10]) = A4 at *
  generalize sB (s0 ++ nm op ++ [32] ++ tg) = A3 at *
  generalize sB (s0 ++ nm op ++ [32]) = A2 at *
  generalize sB (s0 ++ nm op) = A1 at *
  generalize sB (s0 ++ txt ⟨op, ia, ib, ic⟩ ++ [10]) = B2 at *
  generalize sB (s0 ++ txt ⟨op, ia, ib, ic⟩) = B1 at *
  generalize sB (txt ⟨op, ia, ib, ic⟩) = TX at *
  generalize sB (lb ++ [58, 32]) = S1 at *
  generalize sB s0 = S0 at *
  generalize sB L = LL at *
  by_cases c1 : lb = []
  · have hz := HZ.out c1
    rw [decide_eq_true c1] at e1
    subst hz
    clear HZ HZ2 c1
    by_cases c2 : tg = []
    · have HR := Lib.hid (HR2.out c2)
      rw [decide_eq_true c2] at e2
      clear HR2 HR4 q1 q2 q3 q4 c2
      generalize sB lb = LB at *
      generalize sB tg = TO at *
      go_enter Tryz.func42, Tryz.ntmps42
      have HB0 := Lib.hid (show Below w.heap.size w (w.alloc (.cells #[.string LB, .int .u8 op, .int .u8 ia, .int .u16 ib, .int .u32 ic, .string TO] 34)) from by go_grown)
      obtain ⟨y0, y1, y2, y3, y4, y5⟩ := cells6 (alloc_new w (.cells #[.string LB, .int .u8 op, .int .u8 ia, .int .u16 ib, .int .u32 ic, .string TO] 34))
      go_wp2_with (first | simp only [q0, Result.andThen_ok] | simp only [r1, Result.andThen_ok] | simp only [r2, Result.andThen_ok])
      refine (HTx.out _).mono ?_
      rintro e w1 ⟨rfl, hb1⟩
      have hb2 := HB0.out.trans (hb1.mono HB0.out.size)
      go_wp2_with (first | simp only [r1, Result.andThen_ok] | simp only [r2, Result.andThen_ok])
      go_ret
      exact ⟨ret_str HR.out, hb2⟩
    · have HR4 := Lib.hid (HR4.out c2)
      rw [decide_eq_false c2] at e2
      clear HR2 r1 r2 c2 HTx
      generalize sB lb = LB at *
      generalize sB tg = TO at *
      go_enter Tryz.func42, Tryz.ntmps42
      have HB0 := Lib.hid (show Below w.heap.size w (w.alloc (.cells #[.string LB, .int .u8 op, .int .u8 ia, .int .u16 ib, .int .u32 ic, .string TO] 34)) from by go_grown)
      have hx := alloc_new w (.cells #[.string LB, .int .u8 op, .int .u8 ia, .int .u16 ib, .int .u32 ic, .string TO] 34)
      obtain ⟨y0, y1, y2, y3, y4, y5⟩ := cells6 hx
      go_wp2_with (simp only [q0, Result.andThen_ok])
      clear y0 y1 y2 y3 y4 y5 q0
      generalize w.alloc (.cells #[.string LB, .int .u8 op, .int .u8 ia, .int .u16 ib, .int .u32 ic, .string TO] 34) = W1 at *
      obtain ⟨V, hV⟩ : ∃ V, w.heap.size = V := ⟨_, rfl⟩
      have HV := Lib.hid hV
      rw [hV] at hx HB0 ⊢
      clear hV
      have hE := Posts.ext_rel
      have hs1 := namesP_stable
      have hs2 := nameAt_stable op.toNat
      refine (wpIn_wide (n := 0)).1 (Posts.wpIn_region_tail hE 13 2 (Posts.At [Posts.is (.string ⟨#[]⟩), namesP, Posts.is (.pointer (some ⟨V, 1, none⟩)), Posts.is (.pointer (some ⟨V, 1, none⟩)), Posts.is (.int .u8 op), nameAt op.toNat, Posts.is (.string x0), Posts.is (.string A1), Posts.is (.string A2), Posts.is (.pointer (some ⟨V, 5, none⟩)), Posts.is (.string TO), Posts.is (.string A3), Posts.is (.string A4)]) (fun _ _ => True) (by kernel_rfl) (by decide) (by kernel_rfl) (by kernel_rfl) (by kernel_rfl)
        (Posts.stable_at _ (by repeat' (first | exact trivial | (refine And.intro ?_ ?_) | exact Posts.is_stable _ | exact Posts.on_stable _ _ | assumption))) trivial ?_ ?_)
      · refine ⟨?_, ?_, ?_, ?_, ?_, ?_, ?_, ?_, ?_, ?_, ?_, ?_, ?_, trivial⟩
        · intro a X hX hS hD hJ hU
          obtain ⟨y0, y1, y2, y3, y4, y5⟩ := cells6 ((Posts.Ext.blk hX _ (lt_of_block hx)).trans hx)
          have d3 := Posts.slot (show a.eval (.tmp 3) = .string ⟨#[]⟩ from hS.other 3 rfl)
          exact Posts.op_value (fun _ => trivial) rfl rfl (by intro c h; cases h) rfl (by rw [hS.size]; simp) (v := .string ⟨#[]⟩) (by simp [execOp, d3,  go_sem, y0, y1, y2, y3, y4, y5, q1, q2, q3, q4]) rfl (hE.refl _) trivial
        · intro a X hX hS hD hJ hU
          obtain ⟨y0, y1, y2, y3, y4, y5⟩ := cells6 ((Posts.Ext.blk hX _ (lt_of_block hx)).trans hx)
          refine Posts.op_call (fun _ => trivial) rfl rfl rfl (by intro c h; cases h) rfl (by rw [hS.size]; simp) 64 #[] (by simp [go_sem]) ?_
          refine callsIn_wide.2 ((names_any X).mono ?_)
          rintro e Y ⟨rfl, rfl⟩
          exact ⟨_, rfl, ⟨X.heap.size, rfl, alloc_new _ _⟩, (Below.refl _ _).alloc (Nat.le_refl _) _, trivial⟩
        · intro a X hX hS hD hJ hU
          obtain ⟨y0, y1, y2, y3, y4, y5⟩ := cells6 ((Posts.Ext.blk hX _ (lt_of_block hx)).trans hx)
          have d1 := Posts.slot (show a.eval (.tmp 1) = .pointer (some ⟨V, 0, none⟩) from hS.other 1 rfl)
          exact Posts.op_value (fun _ => trivial) rfl rfl (by intro c h; cases h) rfl (by rw [hS.size]; simp) (v := .pointer (some ⟨V, 1, none⟩)) (by simp [execOp, d1,  go_sem, y0, y1, y2, y3, y4, y5, q1, q2, q3, q4]) rfl (hE.refl _) trivial
        · intro a X hX hS hD hJ hU
          obtain ⟨y0, y1, y2, y3, y4, y5⟩ := cells6 ((Posts.Ext.blk hX _ (lt_of_block hx)).trans hx)
          have d15 := Posts.slot (show a.eval (.tmp 15) = .pointer (some ⟨V, 1, none⟩) from hD.1)
          exact Posts.op_value (fun _ => trivial) rfl rfl (by intro c h; cases h) rfl (by rw [hS.size]; simp) (v := .pointer (some ⟨V, 1, none⟩)) (by simp [execOp, d15,  go_sem, y0, y1, y2, y3, y4, y5, q1, q2, q3, q4]) rfl (hE.refl _) trivial
        · intro a X hX hS hD hJ hU
          obtain ⟨y0, y1, y2, y3, y4, y5⟩ := cells6 ((Posts.Ext.blk hX _ (lt_of_block hx)).trans hx)
          have d16 := Posts.slot (show a.eval (.tmp 16) = .pointer (some ⟨V, 1, none⟩) from hD.1)
          exact Posts.op_value (fun _ => trivial) rfl rfl (by intro c h; cases h) rfl (by rw [hS.size]; simp) (v := .int .u8 op) (by simp [execOp, d16,  go_sem, y0, y1, y2, y3, y4, y5, q1, q2, q3, q4]) rfl (hE.refl _) trivial
        · intro a X hX hS hD hJ hU
          obtain ⟨y0, y1, y2, y3, y4, y5⟩ := cells6 ((Posts.Ext.blk hX _ (lt_of_block hx)).trans hx)
          obtain ⟨Vn, ev, hn⟩ : namesP (a.eval (.tmp 14)) X := hD.1
          have d14 := Posts.slot ev
          have d17 := Posts.slot (show a.eval (.tmp 17) = .int .u8 op from hD.2.1)
          exact Posts.op_value (fun _ => trivial) rfl rfl (by intro c h; cases h) rfl (by rw [hS.size]; simp) (v := .pointer (some ⟨Vn, op.toNat, none⟩)) (by simp [execOp, d14, d17, hop0, hop1, go_sem]) ⟨Vn, rfl, hn⟩ (hE.refl _) trivial
        · intro a X hX hS hD hJ hU
          obtain ⟨y0, y1, y2, y3, y4, y5⟩ := cells6 ((Posts.Ext.blk hX _ (lt_of_block hx)).trans hx)
          obtain ⟨Vn, ev, hn⟩ : nameAt op.toNat (a.eval (.tmp 18)) X := hD.1
          have d18 := Posts.slot ev
          have hcn := (cells_at hn op.toNat).trans (namesC_at op.toNat (by omega))
          rw [hopn] at hcn
          rw [hx0] at hcn
          exact Posts.op_value (fun _ => trivial) rfl rfl (by intro c h; cases h) rfl (by rw [hS.size]; simp) (v := .string x0) (by simp [execOp, d18, hcn, go_sem]) rfl (hE.refl _) trivial
        · intro a X hX hS hD hJ hU
          obtain ⟨y0, y1, y2, y3, y4, y5⟩ := cells6 ((Posts.Ext.blk hX _ (lt_of_block hx)).trans hx)
          have d13 := Posts.slot (show a.eval (.tmp 13) = .string ⟨#[]⟩ from hD.1)
          have d19 := Posts.slot (show a.eval (.tmp 19) = .string x0 from hD.2.1)
          exact Posts.op_value (fun _ => trivial) rfl rfl (by intro c h; cases h) rfl (by rw [hS.size]; simp) (v := .string A1) (by simp [execOp, d13, d19,  go_sem, y0, y1, y2, y3, y4, y5, q1, q2, q3, q4]) rfl (hE.refl _) trivial
        · intro a X hX hS hD hJ hU
          obtain ⟨y0, y1, y2, y3, y4, y5⟩ := cells6 ((Posts.Ext.blk hX _ (lt_of_block hx)).trans hx)
          have d20 := Posts.slot (show a.eval (.tmp 20) = .string A1 from hD.1)
          exact Posts.op_value (fun _ => trivial) rfl rfl (by intro c h; cases h) rfl (by rw [hS.size]; simp) (v := .string A2) (by simp [execOp, d20,  go_sem, y0, y1, y2, y3, y4, y5, q1, q2, q3, q4]) rfl (hE.refl _) trivial
        · intro a X hX hS hD hJ hU
          obtain ⟨y0, y1, y2, y3, y4, y5⟩ := cells6 ((Posts.Ext.blk hX _ (lt_of_block hx)).trans hx)
          have d1 := Posts.slot (show a.eval (.tmp 1) = .pointer (some ⟨V, 0, none⟩) from hS.other 1 rfl)
          exact Posts.op_value (fun _ => trivial) rfl rfl (by intro c h; cases h) rfl (by rw [hS.size]; simp) (v := .pointer (some ⟨V, 5, none⟩)) (by simp [execOp, d1,  go_sem, y0, y1, y2, y3, y4, y5, q1, q2, q3, q4]) rfl (hE.refl _) trivial
        · intro a X hX hS hD hJ hU
          obtain ⟨y0, y1, y2, y3, y4, y5⟩ := cells6 ((Posts.Ext.blk hX _ (lt_of_block hx)).trans hx)
          have d22 := Posts.slot (show a.eval (.tmp 22) = .pointer (some ⟨V, 5, none⟩) from hD.1)
          exact Posts.op_value (fun _ => trivial) rfl rfl (by intro c h; cases h) rfl (by rw [hS.size]; simp) (v := .string TO) (by simp [execOp, d22,  go_sem, y0, y1, y2, y3, y4, y5, q1, q2, q3, q4]) rfl (hE.refl _) trivial
        · intro a X hX hS hD hJ hU
          obtain ⟨y0, y1, y2, y3, y4, y5⟩ := cells6 ((Posts.Ext.blk hX _ (lt_of_block hx)).trans hx)
          have d21 := Posts.slot (show a.eval (.tmp 21) = .string A2 from hD.1)
          have d23 := Posts.slot (show a.eval (.tmp 23) = .string TO from hD.2.1)
          exact Posts.op_value (fun _ => trivial) rfl rfl (by intro c h; cases h) rfl (by rw [hS.size]; simp) (v := .string A3) (by simp [execOp, d21, d23,  go_sem, y0, y1, y2, y3, y4, y5, q1, q2, q3, q4]) rfl (hE.refl _) trivial
        · intro a X hX hS hD hJ hU
          obtain ⟨y0, y1, y2, y3, y4, y5⟩ := cells6 ((Posts.Ext.blk hX _ (lt_of_block hx)).trans hx)
          have d24 := Posts.slot (show a.eval (.tmp 24) = .string A3 from hD.1)
          exact Posts.op_value (fun _ => trivial) rfl rfl (by intro c h; cases h) rfl (by rw [hS.size]; simp) (v := .string A4) (by simp [execOp, d24,  go_sem, y0, y1, y2, y3, y4, y5, q1, q2, q3, q4]) rfl (hE.refl _) trivial
      · intro a0 Y hY hS hJt hL
        have p13 := Posts.slot (show a0.eval (.tmp 13) = .string ⟨#[]⟩ from hL.1)
        have p14 := (show _ from hL.2.1)
        have p15 := Posts.slot (show a0.eval (.tmp 15) = .pointer (some ⟨V, 1, none⟩) from hL.2.2.1)
        have p16 := Posts.slot (show a0.eval (.tmp 16) = .pointer (some ⟨V, 1, none⟩) from hL.2.2.2.1)
        have p17 := Posts.slot (show a0.eval (.tmp 17) = .int .u8 op from hL.2.2.2.2.1)
        have p18 := (show _ from hL.2.2.2.2.2.1)
        have p19 := Posts.slot (show a0.eval (.tmp 19) = .string x0 from hL.2.2.2.2.2.2.1)
        have p20 := Posts.slot (show a0.eval (.tmp 20) = .string A1 from hL.2.2.2.2.2.2.2.1)
        have p21 := Posts.slot (show a0.eval (.tmp 21) = .string A2 from hL.2.2.2.2.2.2.2.2.1)
        have p22 := Posts.slot (show a0.eval (.tmp 22) = .pointer (some ⟨V, 5, none⟩) from hL.2.2.2.2.2.2.2.2.2.1)
        have p23 := Posts.slot (show a0.eval (.tmp 23) = .string TO from hL.2.2.2.2.2.2.2.2.2.2.1)
        have p24 := Posts.slot (show a0.eval (.tmp 24) = .string A3 from hL.2.2.2.2.2.2.2.2.2.2.2.1)
        have p25 := Posts.slot (show a0.eval (.tmp 25) = .string A4 from hL.2.2.2.2.2.2.2.2.2.2.2.2.1)
        have hfr := hS.frame [13, 14, 15, 16, 17, 18, 19, 20, 21, 22, 23, 24, 25, 2] (fun t ht => by simp [Posts.isDst] at ht; first | (rcases ht with h | h | h | h | h | h | h | h | h | h | h | h | h | h <;> subst h <;> simp) | (subst ht; simp))
        simp only [List.foldl_cons, List.foldl_nil] at hfr
        have hdf := hS.defers
        simp only [Array.getD_eq_getD_getElem?] at hfr
        clear hL hS
        generalize a0.tmps[13]?.getD undef = v13 at *
        generalize a0.tmps[14]?.getD undef = v14 at *
        generalize a0.tmps[15]?.getD undef = v15 at *
        generalize a0.tmps[16]?.getD undef = v16 at *
        generalize a0.tmps[17]?.getD undef = v17 at *
        generalize a0.tmps[18]?.getD undef = v18 at *
        generalize a0.tmps[19]?.getD undef = v19 at *
        generalize a0.tmps[20]?.getD undef = v20 at *
        generalize a0.tmps[21]?.getD undef = v21 at *
        generalize a0.tmps[22]?.getD undef = v22 at *
        generalize a0.tmps[23]?.getD undef = v23 at *
        generalize a0.tmps[24]?.getD undef = v24 at *
        generalize a0.tmps[25]?.getD undef = v25 at *
        generalize a0.tmps[2]?.getD undef = v2 at *
        obtain rfl := p13
        obtain rfl := p15
        obtain rfl := p16
        obtain rfl := p17
        obtain rfl := p19
        obtain rfl := p20
        obtain rfl := p21
        obtain rfl := p22
        obtain rfl := p23
        obtain rfl := p24
        obtain rfl := p25
        obtain ⟨tm, df⟩ := a0
        simp only [List.setIfInBounds_toArray, List.set_cons_succ, List.set_cons_zero] at hfr hdf
        subst hfr
        subst hdf
        refine Posts.tail_op 13 (by kernel_rfl) (Posts.op_val (fun _ => trivial) rfl rfl (by intro c h; cases h) (v := .string A4) (Y := Y) (by simp [execOp, Act.eval, go_sem]) ?_)
        refine ⟨by kernel_rfl, ?_⟩
        simp only [Exit.inBlock, Exit.then]
        rename_i hK
        refine hK _ _ ?_
        have hYB := HB0.out.trans (hY.mono (by have := lt_of_block hx; omega))
        go_wp2_with fail
        go_ret
        exact ⟨ret_str HR4.out, by rw [HV.out]; exact hYB⟩
  · have hz := HZ2.out c1
    rw [decide_eq_false c1] at e1
    subst hz
    clear HZ HZ2 c1
    by_cases c2 : tg = []
    · have HR := Lib.hid (HR2.out c2)
      rw [decide_eq_true c2] at e2
      clear HR2 HR4 q1 q2 q3 q4 c2
      generalize sB lb = LB at *
      generalize sB tg = TO at *
      go_enter Tryz.func42, Tryz.ntmps42
      have HB0 := Lib.hid (show Below w.heap.size w (w.alloc (.cells #[.string LB, .int .u8 op, .int .u8 ia, .int .u16 ib, .int .u32 ic, .string TO] 34)) from by go_grown)
      obtain ⟨y0, y1, y2, y3, y4, y5⟩ := cells6 (alloc_new w (.cells #[.string LB, .int .u8 op, .int .u8 ia, .int .u16 ib, .int .u32 ic, .string TO] 34))
      go_wp2_with (first | simp only [q0, Result.andThen_ok] | simp only [r1, Result.andThen_ok] | simp only [r2, Result.andThen_ok])
      refine (HTx.out _).mono ?_
      rintro e w1 ⟨rfl, hb1⟩
      have hb2 := HB0.out.trans (hb1.mono HB0.out.size)
      go_wp2_with (first | simp only [r1, Result.andThen_ok] | simp only [r2, Result.andThen_ok])
      go_ret
      exact ⟨ret_str HR.out, hb2⟩
    · have HR4 := Lib.hid (HR4.out c2)
      rw [decide_eq_false c2] at e2
      clear HR2 r1 r2 c2 HTx
      generalize sB lb = LB at *
      generalize sB tg = TO at *
      go_enter Tryz.func42, Tryz.ntmps42
      have HB0 := Lib.hid (show Below w.heap.size w (w.alloc (.cells #[.string LB, .int .u8 op, .int .u8 ia, .int .u16 ib, .int .u32 ic, .string TO] 34)) from by go_grown)
      have hx := alloc_new w (.cells #[.string LB, .int .u8 op, .int .u8 ia, .int .u16 ib, .int .u32 ic, .string TO] 34)
      obtain ⟨y0, y1, y2, y3, y4, y5⟩ := cells6 hx
      go_wp2_with (simp only [q0, Result.andThen_ok])
      clear y0 y1 y2 y3 y4 y5 q0
      generalize w.alloc (.cells #[.string LB, .int .u8 op, .int .u8 ia, .int .u16 ib, .int .u32 ic, .string TO] 34) = W1 at *
      obtain ⟨V, hV⟩ : ∃ V, w.heap.size = V := ⟨_, rfl⟩
      have HV := Lib.hid hV
      rw [hV] at hx HB0 ⊢
      clear hV
      have hE := Posts.ext_rel
      have hs1 := namesP_stable
      have hs2 := nameAt_stable op.toNat
      refine (wpIn_wide (n := 0)).1 (Posts.wpIn_region_tail hE 13 2 (Posts.At [Posts.is (.string S1), namesP, Posts.is (.pointer (some ⟨V, 1, none⟩)), Posts.is (.pointer (some ⟨V, 1, none⟩)), Posts.is (.int .u8 op), nameAt op.toNat, Posts.is (.string x0), Posts.is (.string A1), Posts.is (.string A2), Posts.is (.pointer (some ⟨V, 5, none⟩)), Posts.is (.string TO), Posts.is (.string A3), Posts.is (.string A4)]) (fun _ _ => True) (by kernel_rfl) (by decide) (by kernel_rfl) (by kernel_rfl) (by kernel_rfl)
        (Posts.stable_at _ (by repeat' (first | exact trivial | (refine And.intro ?_ ?_) | exact Posts.is_stable _ | exact Posts.on_stable _ _ | assumption))) trivial ?_ ?_)
      · refine ⟨?_, ?_, ?_, ?_, ?_, ?_, ?_, ?_, ?_, ?_, ?_, ?_, ?_, trivial⟩
        · intro a X hX hS hD hJ hU
          obtain ⟨y0, y1, y2, y3, y4, y5⟩ := cells6 ((Posts.Ext.blk hX _ (lt_of_block hx)).trans hx)
          have d3 := Posts.slot (show a.eval (.tmp 3) = .string S1 from hS.other 3 rfl)
          exact Posts.op_value (fun _ => trivial) rfl rfl (by intro c h; cases h) rfl (by rw [hS.size]; simp) (v := .string S1) (by simp [execOp, d3,  go_sem, y0, y1, y2, y3, y4, y5, q1, q2, q3, q4]) rfl (hE.refl _) trivial
        · intro a X hX hS hD hJ hU
          obtain ⟨y0, y1, y2, y3, y4, y5⟩ := cells6 ((Posts.Ext.blk hX _ (lt_of_block hx)).trans hx)
          refine Posts.op_call (fun _ => trivial) rfl rfl rfl (by intro c h; cases h) rfl (by rw [hS.size]; simp) 64 #[] (by simp [go_sem]) ?_
          refine callsIn_wide.2 ((names_any X).mono ?_)
          rintro e Y ⟨rfl, rfl⟩
          exact ⟨_, rfl, ⟨X.heap.size, rfl, alloc_new _ _⟩, (Below.refl _ _).alloc (Nat.le_refl _) _, trivial⟩
        · intro a X hX hS hD hJ hU
          obtain ⟨y0, y1, y2, y3, y4, y5⟩ := cells6 ((Posts.Ext.blk hX _ (lt_of_block hx)).trans hx)
          have d1 := Posts.slot (show a.eval (.tmp 1) = .pointer (some ⟨V, 0, none⟩) from hS.other 1 rfl)
          exact Posts.op_value (fun _ => trivial) rfl rfl (by intro c h; cases h) rfl (by rw [hS.size]; simp) (v := .pointer (some ⟨V, 1, none⟩)) (by simp [execOp, d1,  go_sem, y0, y1, y2, y3, y4, y5, q1, q2, q3, q4]) rfl (hE.refl _) trivial
        · intro a X hX hS hD hJ hU
          obtain ⟨y0, y1, y2, y3, y4, y5⟩ := cells6 ((Posts.Ext.blk hX _ (lt_of_block hx)).trans hx)
          have d15 := Posts.slot (show a.eval (.tmp 15) = .pointer (some ⟨V, 1, none⟩) from hD.1)
          exact Posts.op_value (fun _ => trivial) rfl rfl (by intro c h; cases h) rfl (by rw [hS.size]; simp) (v := .pointer (some ⟨V, 1, none⟩)) (by simp [execOp, d15,  go_sem, y0, y1, y2, y3, y4, y5, q1, q2, q3, q4]) rfl (hE.refl _) trivial
        · intro a X hX hS hD hJ hU
          obtain ⟨y0, y1, y2, y3, y4, y5⟩ := cells6 ((Posts.Ext.blk hX _ (lt_of_block hx)).trans hx)
          have d16 := Posts.slot (show a.eval (.tmp 16) = .pointer (some ⟨V, 1, none⟩) from hD.1)
          exact Posts.op_value (fun _ => trivial) rfl rfl (by intro c h; cases h) rfl (by rw [hS.size]; simp) (v := .int .u8 op) (by simp [execOp, d16,  go_sem, y0, y1, y2, y3, y4, y5, q1, q2, q3, q4]) rfl (hE.refl _) trivial
        · intro a X hX hS hD hJ hU
          obtain ⟨y0, y1, y2, y3, y4, y5⟩ := cells6 ((Posts.Ext.blk hX _ (lt_of_block hx)).trans hx)
          obtain ⟨Vn, ev, hn⟩ : namesP (a.eval (.tmp 14)) X := hD.1
          have d14 := Posts.slot ev
          have d17 := Posts.slot (show a.eval (.tmp 17) = .int .u8 op from hD.2.1)
          exact Posts.op_value (fun _ => trivial) rfl rfl (by intro c h; cases h) rfl (by rw [hS.size]; simp) (v := .pointer (some ⟨Vn, op.toNat, none⟩)) (by simp [execOp, d14, d17, hop0, hop1, go_sem]) ⟨Vn, rfl, hn⟩ (hE.refl _) trivial
        · intro a X hX hS hD hJ hU
          obtain ⟨y0, y1, y2, y3, y4, y5⟩ := cells6 ((Posts.Ext.blk hX _ (lt_of_block hx)).trans hx)
          obtain ⟨Vn, ev, hn⟩ : nameAt op.toNat (a.eval (.tmp 18)) X := hD.1
          have d18 := Posts.slot ev
          have hcn := (cells_at hn op.toNat).trans (namesC_at op.toNat (by omega))
          rw [hopn] at hcn
          rw [hx0] at hcn
          exact Posts.op_value (fun _ => trivial) rfl rfl (by intro c h; cases h) rfl (by rw [hS.size]; simp) (v := .string x0) (by simp [execOp, d18, hcn, go_sem]) rfl (hE.refl _) trivial
        · intro a X hX hS hD hJ hU
          obtain ⟨y0, y1, y2, y3, y4, y5⟩ := cells6 ((Posts.Ext.blk hX _ (lt_of_block hx)).trans hx)
          have d13 := Posts.slot (show a.eval (.tmp 13) = .string S1 from hD.1)
          have d19 := Posts.slot (show a.eval (.tmp 19) = .string x0 from hD.2.1)
          exact Posts.op_value (fun _ => trivial) rfl rfl (by intro c h; cases h) rfl (by rw [hS.size]; simp) (v := .string A1) (by simp [execOp, d13, d19,  go_sem, y0, y1, y2, y3, y4, y5, q1, q2, q3, q4]) rfl (hE.refl _) trivial
        · intro a X hX hS hD hJ hU
          obtain ⟨y0, y1, y2, y3, y4, y5⟩ := cells6 ((Posts.Ext.blk hX _ (lt_of_block hx)).trans hx)
          have d20 := Posts.slot (show a.eval (.tmp 20) = .string A1 from hD.1)
          exact Posts.op_value (fun _ => trivial) rfl rfl (by intro c h; cases h) rfl (by rw [hS.size]; simp) (v := .string A2) (by simp [execOp, d20,  go_sem, y0, y1, y2, y3, y4, y5, q1, q2, q3, q4]) rfl (hE.refl _) trivial
        · intro a X hX hS hD hJ hU
          obtain ⟨y0, y1, y2, y3, y4, y5⟩ := cells6 ((Posts.Ext.blk hX _ (lt_of_block hx)).trans hx)
          have d1 := Posts.slot (show a.eval (.tmp 1) = .pointer (some ⟨V, 0, none⟩) from hS.other 1 rfl)
          exact Posts.op_value (fun _ => trivial) rfl rfl (by intro c h; cases h) rfl (by rw [hS.size]; simp) (v := .pointer (some ⟨V, 5, none⟩)) (by simp [execOp, d1,  go_sem, y0, y1, y2, y3, y4, y5, q1, q2, q3, q4]) rfl (hE.refl _) trivial
        · intro a X hX hS hD hJ hU
          obtain ⟨y0, y1, y2, y3, y4, y5⟩ := cells6 ((Posts.Ext.blk hX _ (lt_of_block hx)).trans hx)
          have d22 := Posts.slot (show a.eval (.tmp 22) = .pointer (some ⟨V, 5, none⟩) from hD.1)
          exact Posts.op_value (fun _ => trivial) rfl rfl (by intro c h; cases h) rfl (by rw [hS.size]; simp) (v := .string TO) (by simp [execOp, d22,  go_sem, y0, y1, y2, y3, y4, y5, q1, q2, q3, q4]) rfl (hE.refl _) trivial
        · intro a X hX hS hD hJ hU
          obtain ⟨y0, y1, y2, y3, y4, y5⟩ := cells6 ((Posts.Ext.blk hX _ (lt_of_block hx)).trans hx)
          have d21 := Posts.slot (show a.eval (.tmp 21) = .string A2 from hD.1)
          have d23 := Posts.slot (show a.eval (.tmp 23) = .string TO from hD.2.1)
          exact Posts.op_value (fun _ => trivial) rfl rfl (by intro c h; cases h) rfl (by rw [hS.size]; simp) (v := .string A3) (by simp [execOp, d21, d23,  go_sem, y0, y1, y2, y3, y4, y5, q1, q2, q3, q4]) rfl (hE.refl _) trivial
        · intro a X hX hS hD hJ hU
          obtain ⟨y0, y1, y2, y3, y4, y5⟩ := cells6 ((Posts.Ext.blk hX _ (lt_of_block hx)).trans hx)
          have d24 := Posts.slot (show a.eval (.tmp 24) = .string A3 from hD.1)
          exact Posts.op_value (fun _ => trivial) rfl rfl (by intro c h; cases h) rfl (by rw [hS.size]; simp) (v := .string A4) (by simp [execOp, d24,  go_sem, y0, y1, y2, y3, y4, y5, q1, q2, q3, q4]) rfl (hE.refl _) trivial
      · intro a0 Y hY hS hJt hL
        have p13 := Posts.slot (show a0.eval (.tmp 13) = .string S1 from hL.1)
        have p14 := (show _ from hL.2.1)
        have p15 := Posts.slot (show a0.eval (.tmp 15) = .pointer (some ⟨V, 1, none⟩) from hL.2.2.1)
        have p16 := Posts.slot (show a0.eval (.tmp 16) = .pointer (some ⟨V, 1, none⟩) from hL.2.2.2.1)
        have p17 := Posts.slot (show a0.eval (.tmp 17) = .int .u8 op from hL.2.2.2.2.1)
        have p18 := (show _ from hL.2.2.2.2.2.1)
        have p19 := Posts.slot (show a0.eval (.tmp 19) = .string x0 from hL.2.2.2.2.2.2.1)
        have p20 := Posts.slot (show a0.eval (.tmp 20) = .string A1 from hL.2.2.2.2.2.2.2.1)
        have p21 := Posts.slot (show a0.eval (.tmp 21) = .string A2 from hL.2.2.2.2.2.2.2.2.1)
        have p22 := Posts.slot (show a0.eval (.tmp 22) = .pointer (some ⟨V, 5, none⟩) from hL.2.2.2.2.2.2.2.2.2.1)
        have p23 := Posts.slot (show a0.eval (.tmp 23) = .string TO from hL.2.2.2.2.2.2.2.2.2.2.1)
        have p24 := Posts.slot (show a0.eval (.tmp 24) = .string A3 from hL.2.2.2.2.2.2.2.2.2.2.2.1)
        have p25 := Posts.slot (show a0.eval (.tmp 25) = .string A4 from hL.2.2.2.2.2.2.2.2.2.2.2.2.1)
        have hfr := hS.frame [13, 14, 15, 16, 17, 18, 19, 20, 21, 22, 23, 24, 25, 2] (fun t ht => by simp [Posts.isDst] at ht; first | (rcases ht with h | h | h | h | h | h | h | h | h | h | h | h | h | h <;> subst h <;> simp) | (subst ht; simp))
        simp only [List.foldl_cons, List.foldl_nil] at hfr
        have hdf := hS.defers
        simp only [Array.getD_eq_getD_getElem?] at hfr
        clear hL hS
        generalize a0.tmps[13]?.getD undef = v13 at *
        generalize a0.tmps[14]?.getD undef = v14 at *
        generalize a0.tmps[15]?.getD undef = v15 at *
        generalize a0.tmps[16]?.getD undef = v16 at *
        generalize a0.tmps[17]?.getD undef = v17 at *
        generalize a0.tmps[18]?.getD undef = v18 at *
        generalize a0.tmps[19]?.getD undef = v19 at *
        generalize a0.tmps[20]?.getD undef = v20 at *
        generalize a0.tmps[21]?.getD undef = v21 at *
        generalize a0.tmps[22]?.getD undef = v22 at *
        generalize a0.tmps[23]?.getD undef = v23 at *
        generalize a0.tmps[24]?.getD undef = v24 at *
        generalize a0.tmps[25]?.getD undef = v25 at *
        generalize a0.tmps[2]?.getD undef = v2 at *
        obtain rfl := p13
        obtain rfl := p15
        obtain rfl := p16
        obtain rfl := p17
        obtain rfl := p19
        obtain rfl := p20
        obtain rfl := p21
        obtain rfl := p22
        obtain rfl := p23
        obtain rfl := p24
        obtain rfl := p25
        obtain ⟨tm, df⟩ := a0
        simp only [List.setIfInBounds_toArray, List.set_cons_succ, List.set_cons_zero] at hfr hdf
        subst hfr
        subst hdf
        refine Posts.tail_op 13 (by kernel_rfl) (Posts.op_val (fun _ => trivial) rfl rfl (by intro c h; cases h) (v := .string A4) (Y := Y) (by simp [execOp, Act.eval, go_sem]) ?_)
        refine ⟨by kernel_rfl, ?_⟩
        simp only [Exit.inBlock, Exit.then]
        rename_i hK
        refine hK _ _ ?_
        have hYB := HB0.out.trans (hY.mono (by have := lt_of_block hx; omega))
        go_wp2_with fail
        go_ret
        exact ⟨ret_str HR4.out, by rw [HV.out]; exact hYB⟩
end Asm
end Go.Proofs.YtgiocecpkhmhhaaGreatDoor
