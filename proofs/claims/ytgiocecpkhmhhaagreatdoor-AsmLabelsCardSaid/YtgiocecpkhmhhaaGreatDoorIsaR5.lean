/- The document's own answers: the text of an instruction. (Made by tools/gen_isar5.py.) -/
import Derived.Test.YtgiocecpkhmhhaaGreatDoorIsaR2
import Derived.Test.YtgiocecpkhmhhaaGreatDoorRightsTmps
namespace Go.Proofs.YtgiocecpkhmhhaaGreatDoor
open Go.ChangeShapes Go.WideShapes Go.ChangeAt Go.RowKit
namespace Isa
set_option linter.unusedVariables false
set_option linter.unusedSimpArgs false
/-- a row of all the names -/
def namesP : Value → World → Prop := fun v X => ∃ Vn, v = .slice (some ⟨Vn, 0, none⟩) 28 28 ∧ X.heap[Vn]? = some (.cells namesC 9 (0, 0))
def nameAt (k : Nat) : Value → World → Prop := fun v X => ∃ Vn, v = .pointer (some ⟨Vn, k, none⟩) ∧ X.heap[Vn]? = some (.cells namesC 9 (0, 0))
theorem namesP_stable : Posts.Stable Posts.Ext namesP := by
  rintro v X Y ⟨V, hv, hz⟩ hE
  exact ⟨V, hv, (hE.blk V (lt_of_block hz)).trans hz⟩
theorem nameAt_stable (k : Nat) : Posts.Stable Posts.Ext (nameAt k) := by
  rintro v X Y ⟨V, hv, hz⟩ hE
  exact ⟨V, hv, (hE.blk V (lt_of_block hz)).trans hz⟩
set_option maxHeartbeats 6400000 in
theorem rtext_any (i : Iv) (h : i.wf) (w : World) : Calls Tryz.prog 65 #[iv i] w fun e w' => e = .returned (.string (sB (txt i))) ∧ Below w.heap.size w w' := by
  have hM := Lib.hid (fun W => rmay_any i h W)
  have hDA := Lib.hid (fun W => rdigits_any i.a h.a.1 (by have := h.a.2; omega) W)
  have hDB := Lib.hid (fun W => rdigits_any i.b h.b.1 (by have := h.b.2; omega) W)
  have hDC := Lib.hid (fun W => rdigits_any i.c h.c.1 h.c.2 W)
  obtain ⟨⟨h1, h2⟩, ⟨h3, h4⟩, ⟨h5, h6⟩, ⟨h7, h8⟩⟩ := h
  by_cases hm : mayI i = true
  · rw [hm] at hM
    have hop := mayI_op hm
    have HTC : Hid (isC i.op = true → sB (txt i) = sB (nm i.op) ++ ⟨#[32]⟩ ++ sB (dd i.c)) := fun q => by
      rw [txt_may hm]; unfold rest; rw [if_pos q, sB_blank, sB_add, sB_add]; simp
    have HTM : Hid (isM i.op = true → sB (txt i) = sB (nm i.op) ++ sB (dd i.a) ++ ⟨#[32]⟩ ++ sB (dd i.c)) := fun q => by
      have q0 : ¬ isC i.op = true := by unfold isM isC at *; simp at *; omega
      rw [txt_may hm]; unfold rest; rw [if_neg q0, if_pos q, sB_blank, sB_add, sB_add, sB_add]; simp
    have HTA : Hid (isA i.op = true → sB (txt i) = sB (nm i.op) ++ ⟨#[32]⟩ ++ sB (dd i.a)) := fun q => by
      have q0 : ¬ isC i.op = true := by unfold isA isC at *; simp at *; omega
      have q1 : ¬ isM i.op = true := by unfold isA isM at *; simp at *; omega
      rw [txt_may hm]; unfold rest; rw [if_neg q0, if_neg q1, if_pos q, sB_blank, sB_add, sB_add]; simp
    have HTB : Hid (isAB i.op = true → sB (txt i) = sB (nm i.op) ++ ⟨#[32]⟩ ++ sB (dd i.a) ++ ⟨#[32]⟩ ++ sB (dd i.b)) := fun q => by
      have q0 : ¬ isC i.op = true := by unfold isAB isC at *; simp at *; omega
      have q1 : ¬ isM i.op = true := by unfold isAB isM at *; simp at *; omega
      have q2 : ¬ isA i.op = true := by unfold isAB isA at *; simp at *; omega
      rw [txt_may hm]; unfold rest; rw [if_neg q0, if_neg q1, if_neg q2, if_pos q, sB_blank, sB_add, sB_add, sB_add, sB_add]; simp
    have HTN : Hid (isC i.op = false ∧ isM i.op = false ∧ isA i.op = false ∧ isAB i.op = false → sB (txt i) = sB (nm i.op)) := fun ⟨q0, q1, q2, q3⟩ => by
      rw [txt_may hm]; unfold rest; rw [q0, q1, q2, q3]; simp
    have sx := nm_size h1
    have sa := dd_size (x := i.a) (by omega)
    have sb := dd_size (x := i.b) (by omega)
    have sc := dd_size (x := i.c) (by omega)
    clear hm
    obtain ⟨op, a, b, c⟩ := i
    unfold iv at hM ⊢
    simp only at *
    generalize sB (txt ⟨op, a, b, c⟩) = T at *
    generalize hx0 : sB (nm op) = x0 at *
    generalize sB (dd a) = da at *
    generalize sB (dd b) = db at *
    generalize sB (dd c) = dc at *
    have hopn : ((op.toNat : Nat) : Int) = op := by omega
    have hop0 : (0 : Int) ≤ op := by omega
    have hop1 : op < 28 := by omega
    go_enter Tryz.func65, Tryz.ntmps65
    go_wp2_with fail
    have HB0 : Below w.heap.size w (w.alloc (.cells #[.int .u8 op, .int .u8 a, .int .u16 b, .int .u32 c] 32)) := by go_grown
    refine (hM.out _).mono ?_
    rintro e w2 ⟨rfl, hb2⟩
    have HB2 : Below w.heap.size w w2 := HB0.trans (hb2.mono HB0.size)
    have hx := (hb2.block _ (lt_of_block (alloc_new w (.cells #[.int .u8 op, .int .u8 a, .int .u16 b, .int .u32 c] 32)))).trans (alloc_new w (.cells #[.int .u8 op, .int .u8 a, .int .u16 b, .int .u32 c] 32))
    obtain ⟨V, hV⟩ : ∃ V, w.heap.size = V := ⟨_, rfl⟩
    have HV := Lib.hid hV
    rw [hV] at hx HB2 ⊢
    clear hV hb2 HB0 hM
    have hE := Posts.ext_rel
    have hs1 := namesP_stable
    have hs2 := nameAt_stable op.toNat
    go_wp2_with fail
    refine (wpIn_wide (n := 0)).1 (Posts.wpIn_region_tail hE 5 1 (Posts.At [namesP, Posts.is (.pointer (some ⟨V, 0, none⟩)), Posts.is (.int .u8 op), nameAt op.toNat, Posts.is (.string x0)]) (fun _ _ => True) (by kernel_rfl) (by decide) (by kernel_rfl) (by kernel_rfl) (by kernel_rfl)
      (Posts.stable_at _ (by repeat' (first | exact trivial | (refine And.intro ?_ ?_) | exact Posts.is_stable _ | exact Posts.on_stable _ _ | assumption))) trivial ?_ ?_)
    · refine ⟨?_, ?_, ?_, ?_, ?_, trivial⟩
      · intro a X hX hS hD hJ hU
        obtain ⟨y0, y1, y2, y3⟩ := cells4 ((Posts.Ext.blk hX _ (lt_of_block hx)).trans hx)
        refine Posts.op_call (fun _ => trivial) rfl rfl rfl (by intro c h; cases h) rfl (by rw [hS.size]; simp) 64 #[] (by simp [go_sem]) ?_
        refine callsIn_wide.2 ((names_any X).mono ?_)
        rintro e Y ⟨rfl, rfl⟩
        exact ⟨_, rfl, ⟨X.heap.size, rfl, alloc_new _ _⟩, (Below.refl _ _).alloc (Nat.le_refl _) _, trivial⟩
      · intro a X hX hS hD hJ hU
        obtain ⟨y0, y1, y2, y3⟩ := cells4 ((Posts.Ext.blk hX _ (lt_of_block hx)).trans hx)
        have d1 := Posts.slot (show a.eval (.tmp 1) = .pointer (some ⟨V, 0, none⟩) from hS.other 1 rfl)
        exact Posts.op_value (fun _ => trivial) rfl rfl (by intro c h; cases h) rfl (by rw [hS.size]; simp) (v := .pointer (some ⟨V, 0, none⟩)) (by simp [execOp, d1,  go_sem, y0, y1, y2, y3]) rfl (hE.refl _) trivial
      · intro a X hX hS hD hJ hU
        obtain ⟨y0, y1, y2, y3⟩ := cells4 ((Posts.Ext.blk hX _ (lt_of_block hx)).trans hx)
        have d9 := Posts.slot (show a.eval (.tmp 9) = .pointer (some ⟨V, 0, none⟩) from hD.1)
        exact Posts.op_value (fun _ => trivial) rfl rfl (by intro c h; cases h) rfl (by rw [hS.size]; simp) (v := .int .u8 op) (by simp [execOp, d9,  go_sem, y0, y1, y2, y3]) rfl (hE.refl _) trivial
      · intro a X hX hS hD hJ hU
        obtain ⟨y0, y1, y2, y3⟩ := cells4 ((Posts.Ext.blk hX _ (lt_of_block hx)).trans hx)
        obtain ⟨Vn, ev, hn⟩ : namesP (a.eval (.tmp 8)) X := hD.1
        have d8 := Posts.slot ev
        have d10 := Posts.slot (show a.eval (.tmp 10) = .int .u8 op from hD.2.1)
        exact Posts.op_value (fun _ => trivial) rfl rfl (by intro c h; cases h) rfl (by rw [hS.size]; simp) (v := .pointer (some ⟨Vn, op.toNat, none⟩)) (by simp [execOp, d8, d10, hop0, hop1, go_sem]) ⟨Vn, rfl, hn⟩ (hE.refl _) trivial
      · intro a X hX hS hD hJ hU
        obtain ⟨y0, y1, y2, y3⟩ := cells4 ((Posts.Ext.blk hX _ (lt_of_block hx)).trans hx)
        obtain ⟨Vn, ev, hn⟩ : nameAt op.toNat (a.eval (.tmp 11)) X := hD.1
        have d11 := Posts.slot ev
        have hcn := (cells_at hn op.toNat).trans (namesC_at op.toNat (by omega))
        rw [hopn] at hcn
        rw [hx0] at hcn
        exact Posts.op_value (fun _ => trivial) rfl rfl (by intro c h; cases h) rfl (by rw [hS.size]; simp) (v := .string x0) (by simp [execOp, d11, hcn, go_sem]) rfl (hE.refl _) trivial
    · intro a0 Y hY hS hJt hL
      have p8 := (show _ from hL.1)
      have p9 := Posts.slot (show a0.eval (.tmp 9) = .pointer (some ⟨V, 0, none⟩) from hL.2.1)
      have p10 := Posts.slot (show a0.eval (.tmp 10) = .int .u8 op from hL.2.2.1)
      have p11 := (show _ from hL.2.2.2.1)
      have p12 := Posts.slot (show a0.eval (.tmp 12) = .string x0 from hL.2.2.2.2.1)
      have hfr := hS.frame [8, 9, 10, 11, 12, 3] (fun t ht => by simp [Posts.isDst] at ht; first | (rcases ht with h | h | h | h | h | h <;> subst h <;> simp) | (subst ht; simp))
      simp only [List.foldl_cons, List.foldl_nil] at hfr
      have hdf := hS.defers
      simp only [Array.getD_eq_getD_getElem?] at hfr
      clear hL hS
      generalize a0.tmps[8]?.getD undef = v8 at *
      generalize a0.tmps[9]?.getD undef = v9 at *
      generalize a0.tmps[10]?.getD undef = v10 at *
      generalize a0.tmps[11]?.getD undef = v11 at *
      generalize a0.tmps[12]?.getD undef = v12 at *
      generalize a0.tmps[3]?.getD undef = v3 at *
      obtain rfl := p9
      obtain rfl := p10
      obtain rfl := p12
      obtain ⟨tm, df⟩ := a0
      simp only [List.setIfInBounds_toArray, List.set_cons_succ, List.set_cons_zero] at hfr hdf
      subst hfr
      subst hdf
      refine Posts.tail_op 5 (by kernel_rfl) (Posts.op_val (fun _ => trivial) rfl rfl (by intro c h; cases h) (v := .string x0) (Y := Y) (by simp [execOp, Act.eval, go_sem]) ?_)
      refine ⟨by kernel_rfl, ?_⟩
      simp only [Exit.inBlock, Exit.then]
      rename_i hK
      refine hK _ _ ?_
      have hx5 := (hY.block _ (lt_of_block hx)).trans hx
      have HB5 : Below V w Y := HB2.trans (hY.mono (by have := lt_of_block hx; omega))
      clear hx HB2 hY hop0 hop1 hopn hx0
      obtain ⟨x0', x1', x2', x3'⟩ := cells4 hx5
      go_wp2_with fail
      refine (hDA.out _).mono ?_
      rintro e w5 ⟨rfl, hb5⟩
      have hx6 := (hb5.block _ (lt_of_block hx5)).trans hx5
      have HB6 : Below V w w5 := HB5.trans (hb5.mono (by have := lt_of_block hx5; omega))
      clear x0' x1' x2' x3' hx5 HB5 hb5
      obtain ⟨y0, y1, y2, y3⟩ := cells4 hx6
      by_cases o1 : op = 1
      · subst o1
        go_wp2_with fail
        refine (hDC.out _).mono ?_
        rintro e w6 ⟨rfl, hb6⟩
        have HB7 : Below V w w6 := HB6.trans (hb6.mono (by have := lt_of_block hx6; omega))
        go_wp2_with fail
        go_ret
        exact ⟨ret_str (HTC.out (by decide)).symm, by rw [HV.out]; exact HB7⟩
      by_cases o19 : op = 19
      · subst o19
        go_wp2_with fail
        refine (hDC.out _).mono ?_
        rintro e w6 ⟨rfl, hb6⟩
        have HB7 : Below V w w6 := HB6.trans (hb6.mono (by have := lt_of_block hx6; omega))
        go_wp2_with fail
        go_ret
        exact ⟨ret_str (HTC.out (by decide)).symm, by rw [HV.out]; exact HB7⟩
      by_cases o20 : op = 20
      · subst o20
        go_wp2_with fail
        refine (hDC.out _).mono ?_
        rintro e w6 ⟨rfl, hb6⟩
        have HB7 : Below V w w6 := HB6.trans (hb6.mono (by have := lt_of_block hx6; omega))
        go_wp2_with fail
        go_ret
        exact ⟨ret_str (HTC.out (by decide)).symm, by rw [HV.out]; exact HB7⟩
      by_cases o17 : op = 17
      · subst o17
        go_wp2_with fail
        refine (hDC.out _).mono ?_
        rintro e w6 ⟨rfl, hb6⟩
        have HB7 : Below V w w6 := HB6.trans (hb6.mono (by have := lt_of_block hx6; omega))
        go_wp2_with fail
        go_ret
        exact ⟨ret_str (HTM.out (by decide)).symm, by rw [HV.out]; exact HB7⟩
      by_cases o18 : op = 18
      · subst o18
        go_wp2_with fail
        refine (hDC.out _).mono ?_
        rintro e w6 ⟨rfl, hb6⟩
        have HB7 : Below V w w6 := HB6.trans (hb6.mono (by have := lt_of_block hx6; omega))
        go_wp2_with fail
        go_ret
        exact ⟨ret_str (HTM.out (by decide)).symm, by rw [HV.out]; exact HB7⟩
      by_cases o21 : op = 21
      · subst o21
        go_wp2_with fail
        go_ret
        exact ⟨ret_str (HTA.out (by decide)).symm, by rw [HV.out]; exact HB6⟩
      by_cases o22 : op = 22
      · subst o22
        go_wp2_with fail
        go_ret
        exact ⟨ret_str (HTA.out (by decide)).symm, by rw [HV.out]; exact HB6⟩
      by_cases o24 : op = 24
      · subst o24
        go_wp2_with fail
        go_ret
        exact ⟨ret_str (HTA.out (by decide)).symm, by rw [HV.out]; exact HB6⟩
      by_cases o26 : op = 26
      · subst o26
        go_wp2_with fail
        go_ret
        exact ⟨ret_str (HTA.out (by decide)).symm, by rw [HV.out]; exact HB6⟩
      by_cases o23 : op = 23
      · subst o23
        go_wp2_with fail
        refine (hDB.out _).mono ?_
        rintro e w6 ⟨rfl, hb6⟩
        have HB7 : Below V w w6 := HB6.trans (hb6.mono (by have := lt_of_block hx6; omega))
        go_wp2_with fail
        go_ret
        exact ⟨ret_str (HTB.out (by decide)).symm, by rw [HV.out]; exact HB7⟩
      by_cases o25 : op = 25
      · subst o25
        go_wp2_with fail
        refine (hDB.out _).mono ?_
        rintro e w6 ⟨rfl, hb6⟩
        have HB7 : Below V w w6 := HB6.trans (hb6.mono (by have := lt_of_block hx6; omega))
        go_wp2_with fail
        go_ret
        exact ⟨ret_str (HTB.out (by decide)).symm, by rw [HV.out]; exact HB7⟩
      have p1 : (op == 1) = false := by simpa using o1
      have p19 : (op == 19) = false := by simpa using o19
      have p20 : (op == 20) = false := by simpa using o20
      have p17 : (op == 17) = false := by simpa using o17
      have p18 : (op == 18) = false := by simpa using o18
      have p21 : (op == 21) = false := by simpa using o21
      have p22 : (op == 22) = false := by simpa using o22
      have p24 : (op == 24) = false := by simpa using o24
      have p26 : (op == 26) = false := by simpa using o26
      have p23 : (op == 23) = false := by simpa using o23
      have p25 : (op == 25) = false := by simpa using o25
      go_wp2_with fail
      go_ret
      exact ⟨ret_str (HTN.out (by simp only [isC, isM, isA, isAB, p1, p19, p20, p17, p18, p21, p22, p24, p26, p23, p25]; simp)).symm, by rw [HV.out]; exact HB6⟩
  · simp only [Bool.not_eq_true] at hm
    rw [hm] at hM
    have HT : Hid (sB (txt i) = ⟨#[]⟩) := by show _ = _; rw [txt_none hm]; rfl
    generalize sB (txt i) = T at *
    obtain ⟨op, a, b, c⟩ := i
    unfold iv at hM ⊢
    simp only at *
    clear hm hDA hDB hDC
    go_enter Tryz.func65, Tryz.ntmps65
    go_wp2_with fail
    refine (hM.out _).mono ?_
    rintro e w0 ⟨rfl, hb0⟩
    have HB0 : Below w.heap.size w w0 := Below.trans (Below.alloc (Below.refl _ _) (Nat.le_refl _) _) (hb0.mono (by simp))
    go_wp2_with fail
    go_ret
    exact ⟨ret_str HT.out.symm, HB0⟩
end Isa
end Go.Proofs.YtgiocecpkhmhhaaGreatDoor
