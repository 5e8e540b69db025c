/- The statement IsaInstrs holds: whether anything is an instruction, its bytes, its text, what its Op takes and gives, and whether it jumps, are what the document answers; the chapter's small test is answered. Under the statement's own reading alone: the tables of the kinds and of the powers of ten are as the program's text lays them. -/
import Derived.Test.YtnaefpjbeidkgaaDoorIsaFrame
import Derived.Test.YtnaefpjbeidkgaaDoorIsaR3
import Derived.Test.YtnaefpjbeidkgaaDoorIsaR5
namespace Go.Proofs.YtnaefpjbeidkgaaDoor.isaInstrs
open Go.ChangeShapes Go.WideShapes Go.ChangeAt Go.RowKit Isa
open Go.ChangeMaps (open_string shut_string)
set_option linter.unusedVariables false
set_option linter.unusedSimpArgs false
theorem bytes_eq (i : Iv) : bytesV i = .agg (bts (bytesI i)) := rfl
set_option maxHeartbeats 6400000 in
theorem walk (w : World) (hT : Tabs w) (i : Iv) (hi : i.wf) :
    Calls Tryd.prog 3 #[.agg #[.int .u8 i.op, .int .u8 i.a, .int .u16 i.b, .int .u32 i.c]] w fun e w' => e = .returned (.bool true) ∧ Below w.heap.size w w' := by
  have HK := Lib.hid (fun W (hb : Below w.heap.size w W) => known_any W (hT.below hb (Nat.le_refl _)))
  have HM := Lib.hid (fun W (hb : Below w.heap.size w W) => may_any i hi W (hT.below hb (Nat.le_refl _)))
  have HT := Lib.hid (fun W (hb : Below w.heap.size w W) => text_any i hi W (hT.below hb (Nat.le_refl _)))
  have HTk := Lib.hid (fun W (hb : Below w.heap.size w W) => takes_any i.op hi.op.1 hi.op.2 W (hT.below hb (Nat.le_refl _)))
  have HGv := Lib.hid (fun W (hb : Below w.heap.size w W) => gives_any i.op hi.op.1 hi.op.2 W (hT.below hb (Nat.le_refl _)))
  have HJ := Lib.hid (fun W (hb : Below w.heap.size w W) => jumps_any i.op hi.op.1 hi.op.2 W (hT.below hb (Nat.le_refl _)))
  have HBy := Lib.hid (fun W => bytes_any i hi W)
  have HRBy := Lib.hid (fun W => rbytes_any i hi W)
  have HRM := Lib.hid (fun W => rmay_any i hi W)
  have HRT := Lib.hid (fun W => rtext_any i hi W)
  have HRTk := Lib.hid (fun W => rtakes_any i.op hi.op.1 hi.op.2 W)
  have HRGv := Lib.hid (fun W => rgives_any i.op hi.op.1 hi.op.2 W)
  clear hT hi
  rw [bytes_eq] at HBy
  generalize mayI i = m at *
  generalize sB (txt i) = S at *
  generalize takesI i.op = tk at *
  generalize givesI i.op = gv at *
  have hcells : bts (bytesI i) = #[.int .u8 i.op, .int .u8 i.a, .int .u8 (i.b % 256), .int .u8 (i.b / 256), .int .u8 (i.c % 256), .int .u8 (i.c / 256 % 256), .int .u8 (i.c / 65536 % 256), .int .u8 (i.c / 16777216)] := rfl
  have hl8 := bytesI_len i
  generalize bytesI i = BL at *
  obtain ⟨op, ia, ib, ic⟩ := i
  unfold iv at HM HT HBy HRBy HRM HRT
  simp only at *
  rw [hcells] at HBy
  generalize ib % 256 = y2 at *
  generalize ib / 256 = y3 at *
  generalize ic % 256 = y4 at *
  generalize ic / 256 % 256 = y5 at *
  generalize ic / 65536 % 256 = y6 at *
  generalize ic / 16777216 = y7 at *
  have HC := Lib.hid hcells
  have HL := Lib.hid hl8
  clear hcells hl8
  go_enter Tryd.func3, Tryd.ntmps3
  go_wp2_with fail
  have HB0 : Below w.heap.size w (w.alloc (.cells #[.int .u8 op, .int .u8 ia, .int .u16 ib, .int .u32 ic] 25)) := by go_grown
  refine (HK.out _ HB0).mono ?_
  rintro e w1 ⟨rfl, hb1⟩
  have HB1 : Below w.heap.size w w1 := HB0.trans (hb1.mono HB0.size)
  have hx1 := (hb1.block _ (lt_of_block (alloc_new w (.cells #[.int .u8 op, .int .u8 ia, .int .u16 ib, .int .u32 ic] 25)))).trans (alloc_new w (.cells #[.int .u8 op, .int .u8 ia, .int .u16 ib, .int .u32 ic] 25))
  clear HB0 hb1 HK
  obtain ⟨V, hV⟩ : ∃ V, w.heap.size = V := ⟨_, rfl⟩
  have HV := Lib.hid hV
  rw [hV] at hx1 HB1 HM HT HTk HGv HJ ⊢
  clear hV
  obtain ⟨x0, x1, x2, x3⟩ := cells4 hx1
  go_wp2_with fail
  refine (HBy.out _).mono ?_
  rintro e w2 ⟨rfl, hb2⟩
  have HB2 : Below V w w2 := HB1.trans (hb2.mono (by have := lt_of_block hx1; omega))
  have hx2 := (hb2.block _ (lt_of_block hx1)).trans hx1
  have hl2 := lt_of_block hx2
  have HB3 : Below V w (w2.alloc (.cells #[.int .u8 op, .int .u8 ia, .int .u8 y2, .int .u8 y3, .int .u8 y4, .int .u8 y5, .int .u8 y6, .int .u8 y7] 27)) := HB2.alloc (by omega) _
  have hx3 := (Below.heap_alloc w2 (.cells #[.int .u8 op, .int .u8 ia, .int .u8 y2, .int .u8 y3, .int .u8 y4, .int .u8 y5, .int .u8 y6, .int .u8 y7] 27) V hl2).trans hx2
  have hz3 := alloc_new w2 (.cells #[.int .u8 op, .int .u8 ia, .int .u8 y2, .int .u8 y3, .int .u8 y4, .int .u8 y5, .int .u8 y6, .int .u8 y7] 27)
  clear x0 x1 x2 x3 hx1 HB1 hb2 hx2 HB2 HBy
  obtain ⟨x0, x1, x2, x3⟩ := cells4 hx3
  go_wp2_with fail
  generalize w2.alloc (.cells #[.int .u8 op, .int .u8 ia, .int .u8 y2, .int .u8 y3, .int .u8 y4, .int .u8 y5, .int .u8 y6, .int .u8 y7] 27) = w3 at *
  generalize w2.heap.size = V3 at *
  refine (HRBy.out _).mono ?_
  rintro e w4 ⟨V4, rfl, hr4, hb4⟩
  have hx := (hb4.block _ (lt_of_block hx3)).trans hx3
  have hz := (hb4.block _ (lt_of_block hz3)).trans hz3
  have HB : Below V w w4 := HB3.trans (hb4.mono (by have := lt_of_block hx3; omega))
  clear x0 x1 x2 x3 hx3 hz3 HB3 hb4 HRBy
  rw [← HC.out] at hz
  have HR := Lib.hid hr4
  have HZ := Lib.hid hz
  have HX := Lib.hid hx
  clear hr4 hz hx
  go_wp2_with fail
  go_loopw [15] (fun i wr => ∃ k : Nat, k ≤ 8 ∧ i = .int .i64 k ∧ wr = w4) (fun i _ => 8 - (intOf i).toNat)
  case atStart => exact ⟨0, by omega, rfl, rfl⟩
  case round =>
    obtain ⟨k, hk, rfl, rfl⟩ := hrel
    by_cases hlt : k < 8
    · have hd : decide ((k : Int) < 8) = true := decide_eq_true (by omega)
      have k0 : (0 : Int) ≤ k := by omega
      have k1 : (k : Int) < 8 := by omega
      have hc1 := (cells_at HZ.out k).trans (bts_at BL k (by rw [HL.out]; exact hlt))
      have hc2 := (cells_at HR.out k).trans (bts_at BL k (by rw [HL.out]; exact hlt))
      generalize BL.getD k 0 = z at *
      go_wp2_with fail
      refine ⟨⟨k + 1, by omega, by simp, trivial⟩, by simp [intOf]; omega⟩
    · obtain rfl : k = 8 := by omega
      have hx := HX.out
      have hE := Posts.ext_rel
      have hsV : V ≤ wr.heap.size := by have := lt_of_block hx; omega
      clear HR HZ HC HL
      go_wp2_with fail
      rename_i hK
      by_cases h19 : op = 19
      · subst h19
        have hj : jumpsI 19 = true := by decide
        rw [hj] at HJ
        refine (wpIn_wide (n := 0)).1 (Posts.wpIn_region_tail hE 44 0 (Posts.At [Posts.is (.agg #[.int .u8 19, .int .u8 ia, .int .u16 ib, .int .u32 ic]), Posts.is (.bool (m)), Posts.is (.agg #[.int .u8 19, .int .u8 ia, .int .u16 ib, .int .u32 ic]), Posts.is (.bool (m)), Posts.is (.bool (true)), Posts.is (.bool (true)), Posts.is (.agg #[.int .u8 19, .int .u8 ia, .int .u16 ib, .int .u32 ic]), Posts.is (.string S), Posts.is (.agg #[.int .u8 19, .int .u8 ia, .int .u16 ib, .int .u32 ic]), Posts.is (.string S), Posts.is (.bool (true)), Posts.is (.bool (true)), Posts.is (.bool (true)), Posts.is (.pointer (some ⟨V, 0, none⟩)), Posts.is (.int .u8 19), Posts.is (.int .i64 tk), Posts.is (.pointer (some ⟨V, 0, none⟩)), Posts.is (.int .u8 19), Posts.is (.int .i64 tk), Posts.is (.bool (true)), Posts.is (.bool (true)), Posts.is (.bool (true)), Posts.is (.pointer (some ⟨V, 0, none⟩)), Posts.is (.int .u8 19), Posts.is (.int .i64 gv), Posts.is (.pointer (some ⟨V, 0, none⟩)), Posts.is (.int .u8 19), Posts.is (.int .i64 gv), Posts.is (.bool (true)), Posts.is (.bool (true)), Posts.is (.bool (true)), Posts.is (.pointer (some ⟨V, 0, none⟩)), Posts.is (.int .u8 19), Posts.is (.bool (true)), Posts.is (.pointer (some ⟨V, 0, none⟩)), Posts.is (.int .u8 19), Posts.is (.bool (true)), Posts.is (.bool (true)), Posts.is (undef), Posts.is (undef), Posts.is (undef), Posts.is (.bool (true)), Posts.is (.bool (true)), Posts.is (.bool (true))]) (fun _ _ => True) (by kernel_rfl) (by decide) (by kernel_rfl) (by kernel_rfl) (by kernel_rfl)
          (Posts.stable_at _ (by repeat' (first | exact trivial | (refine And.intro ?_ ?_) | exact Posts.is_stable _ | exact Posts.on_stable _ _ | assumption))) trivial ?_ ?_)
        · refine ⟨?_, ?_, ?_, ?_, ?_, ?_, ?_, ?_, ?_, ?_, ?_, ?_, ?_, ?_, ?_, ?_, ?_, ?_, ?_, ?_, ?_, ?_, ?_, ?_, ?_, ?_, ?_, ?_, ?_, ?_, ?_, ?_, ?_, ?_, ?_, ?_, ?_, ?_, ?_, ?_, ?_, ?_, ?_, ?_, trivial⟩
          · intro a X hX hS hD hJ hU
            obtain ⟨x0, x1, x2, x3⟩ := cells4 ((Posts.Ext.blk hX _ (lt_of_block hx)).trans hx)
            have d1 := Posts.slot (show a.eval (.tmp 1) = .pointer (some ⟨V, 0, none⟩) from hS.other 1 rfl)
            exact Posts.op_value (fun _ => trivial) rfl rfl (by intro c h; cases h) rfl (by rw [hS.size]; simp) (v := .agg #[.int .u8 19, .int .u8 ia, .int .u16 ib, .int .u32 ic]) (by simp [execOp, d1,  go_sem, x0, x1, x2, x3]) rfl (hE.refl _) trivial
          · intro a X hX hS hD hJ hU
            obtain ⟨x0, x1, x2, x3⟩ := cells4 ((Posts.Ext.blk hX _ (lt_of_block hx)).trans hx)
            have d26 := Posts.slot (show a.eval (.tmp 26) = .agg #[.int .u8 19, .int .u8 ia, .int .u16 ib, .int .u32 ic] from hD.1)
            refine Posts.op_call (fun _ => trivial) rfl rfl rfl (by intro c h; cases h) rfl (by rw [hS.size]; simp) 11 #[.agg #[.int .u8 19, .int .u8 ia, .int .u16 ib, .int .u32 ic]] (by simp [d26, go_sem]) ?_
            refine callsIn_wide.2 ((HM.out X (HB.trans (hX.mono hsV))).mono ?_)
            rintro e Y ⟨rfl, hbY⟩
            exact ⟨_, rfl, rfl, hbY, trivial⟩
          · intro a X hX hS hD hJ hU
            obtain ⟨x0, x1, x2, x3⟩ := cells4 ((Posts.Ext.blk hX _ (lt_of_block hx)).trans hx)
            have d1 := Posts.slot (show a.eval (.tmp 1) = .pointer (some ⟨V, 0, none⟩) from hS.other 1 rfl)
            exact Posts.op_value (fun _ => trivial) rfl rfl (by intro c h; cases h) rfl (by rw [hS.size]; simp) (v := .agg #[.int .u8 19, .int .u8 ia, .int .u16 ib, .int .u32 ic]) (by simp [execOp, d1,  go_sem, x0, x1, x2, x3]) rfl (hE.refl _) trivial
          · intro a X hX hS hD hJ hU
            obtain ⟨x0, x1, x2, x3⟩ := cells4 ((Posts.Ext.blk hX _ (lt_of_block hx)).trans hx)
            have d28 := Posts.slot (show a.eval (.tmp 28) = .agg #[.int .u8 19, .int .u8 ia, .int .u16 ib, .int .u32 ic] from hD.1)
            refine Posts.op_call (fun _ => trivial) rfl rfl rfl (by intro c h; cases h) rfl (by rw [hS.size]; simp) 12 #[.agg #[.int .u8 19, .int .u8 ia, .int .u16 ib, .int .u32 ic]] (by simp [d28, go_sem]) ?_
            refine callsIn_wide.2 ((HRM.out X).mono ?_)
            rintro e Y ⟨rfl, hbY⟩
            exact ⟨_, rfl, rfl, hbY, trivial⟩
          · intro a X hX hS hD hJ hU
            obtain ⟨x0, x1, x2, x3⟩ := cells4 ((Posts.Ext.blk hX _ (lt_of_block hx)).trans hx)
            have d27 := Posts.slot (show a.eval (.tmp 27) = .bool (m) from hD.1)
            have d29 := Posts.slot (show a.eval (.tmp 29) = .bool (m) from hD.2.1)
            exact Posts.op_value (fun _ => trivial) rfl rfl (by intro c h; cases h) rfl (by rw [hS.size]; simp) (v := .bool (true)) (by simp [execOp, d27, d29,  go_sem, x0, x1, x2, x3]) rfl (hE.refl _) trivial
          · intro a X hX hS hD hJ hU
            obtain ⟨x0, x1, x2, x3⟩ := cells4 ((Posts.Ext.blk hX _ (lt_of_block hx)).trans hx)
            have d30 := Posts.slot (show a.eval (.tmp 30) = .bool (true) from hD.1)
            exact Posts.op_value (fun _ => trivial) rfl rfl (by intro c h; cases h) rfl (by rw [hS.size]; simp) (v := .bool (true)) (by simp [execOp, d30,  go_sem, x0, x1, x2, x3]) rfl (hE.refl _) trivial
          · intro a X hX hS hD hJ hU
            obtain ⟨x0, x1, x2, x3⟩ := cells4 ((Posts.Ext.blk hX _ (lt_of_block hx)).trans hx)
            have d1 := Posts.slot (show a.eval (.tmp 1) = .pointer (some ⟨V, 0, none⟩) from hS.other 1 rfl)
            exact Posts.op_value (fun _ => trivial) rfl (Posts.wanted_yes rfl rfl rfl (show a.eval (.tmp 31) = .bool true from hD.1)) (by intro c h; cases h) rfl (by rw [hS.size]; simp) (v := .agg #[.int .u8 19, .int .u8 ia, .int .u16 ib, .int .u32 ic]) (by simp [execOp, d1,  go_sem, x0, x1, x2, x3]) rfl (hE.refl _) trivial
          · intro a X hX hS hD hJ hU
            obtain ⟨x0, x1, x2, x3⟩ := cells4 ((Posts.Ext.blk hX _ (lt_of_block hx)).trans hx)
            have d32 := Posts.slot (show a.eval (.tmp 32) = .agg #[.int .u8 19, .int .u8 ia, .int .u16 ib, .int .u32 ic] from hD.1)
            refine Posts.op_call (fun _ => trivial) rfl rfl (Posts.wanted_yes rfl rfl rfl (show a.eval (.tmp 31) = .bool true from hD.2.1)) (by intro c h; cases h) rfl (by rw [hS.size]; simp) 13 #[.agg #[.int .u8 19, .int .u8 ia, .int .u16 ib, .int .u32 ic]] (by simp [d32, go_sem]) ?_
            refine callsIn_wide.2 ((HT.out X (HB.trans (hX.mono hsV))).mono ?_)
            rintro e Y ⟨rfl, hbY⟩
            exact ⟨_, rfl, rfl, hbY, trivial⟩
          · intro a X hX hS hD hJ hU
            obtain ⟨x0, x1, x2, x3⟩ := cells4 ((Posts.Ext.blk hX _ (lt_of_block hx)).trans hx)
            have d1 := Posts.slot (show a.eval (.tmp 1) = .pointer (some ⟨V, 0, none⟩) from hS.other 1 rfl)
            exact Posts.op_value (fun _ => trivial) rfl (Posts.wanted_yes rfl rfl rfl (show a.eval (.tmp 31) = .bool true from hD.1)) (by intro c h; cases h) rfl (by rw [hS.size]; simp) (v := .agg #[.int .u8 19, .int .u8 ia, .int .u16 ib, .int .u32 ic]) (by simp [execOp, d1,  go_sem, x0, x1, x2, x3]) rfl (hE.refl _) trivial
          · intro a X hX hS hD hJ hU
            obtain ⟨x0, x1, x2, x3⟩ := cells4 ((Posts.Ext.blk hX _ (lt_of_block hx)).trans hx)
            have d34 := Posts.slot (show a.eval (.tmp 34) = .agg #[.int .u8 19, .int .u8 ia, .int .u16 ib, .int .u32 ic] from hD.1)
            refine Posts.op_call (fun _ => trivial) rfl rfl (Posts.wanted_yes rfl rfl rfl (show a.eval (.tmp 31) = .bool true from hD.2.2.1)) (by intro c h; cases h) rfl (by rw [hS.size]; simp) 14 #[.agg #[.int .u8 19, .int .u8 ia, .int .u16 ib, .int .u32 ic]] (by simp [d34, go_sem]) ?_
            refine callsIn_wide.2 ((HRT.out X).mono ?_)
            rintro e Y ⟨rfl, hbY⟩
            exact ⟨_, rfl, rfl, hbY, trivial⟩
          · intro a X hX hS hD hJ hU
            obtain ⟨x0, x1, x2, x3⟩ := cells4 ((Posts.Ext.blk hX _ (lt_of_block hx)).trans hx)
            have d33 := Posts.slot (show a.eval (.tmp 33) = .string S from hD.1)
            have d35 := Posts.slot (show a.eval (.tmp 35) = .string S from hD.2.1)
            exact Posts.op_value (fun _ => trivial) rfl (Posts.wanted_yes rfl rfl rfl (show a.eval (.tmp 31) = .bool true from hD.2.2.1)) (by intro c h; cases h) rfl (by rw [hS.size]; simp) (v := .bool (true)) (by simp [execOp, d33, d35,  go_sem, x0, x1, x2, x3]) rfl (hE.refl _) trivial
          · intro a X hX hS hD hJ hU
            obtain ⟨x0, x1, x2, x3⟩ := cells4 ((Posts.Ext.blk hX _ (lt_of_block hx)).trans hx)
            have dc := Posts.slot (show a.eval (.tmp 31) = .bool (true) from hD.1)
            rcases Bool.eq_false_or_eq_true (true) with hg | hg
            · have dx := Posts.slot (show a.eval (.tmp 36) = .bool (true) from hD.2.1)
              exact Posts.op_value (fun _ => trivial) rfl rfl (by intro c h; cases h) rfl (by rw [hS.size]; simp) (v := .bool (true)) (by simp [execOp, dc, hg, dx,  go_sem, x0, x1, x2, x3]) rfl (hE.refl _) trivial
            · cases hg
          · intro a X hX hS hD hJ hU
            obtain ⟨x0, x1, x2, x3⟩ := cells4 ((Posts.Ext.blk hX _ (lt_of_block hx)).trans hx)
            have d37 := Posts.slot (show a.eval (.tmp 37) = .bool (true) from hD.1)
            exact Posts.op_value (fun _ => trivial) rfl rfl (by intro c h; cases h) rfl (by rw [hS.size]; simp) (v := .bool (true)) (by simp [execOp, d37,  go_sem, x0, x1, x2, x3]) rfl (hE.refl _) trivial
          · intro a X hX hS hD hJ hU
            obtain ⟨x0, x1, x2, x3⟩ := cells4 ((Posts.Ext.blk hX _ (lt_of_block hx)).trans hx)
            have d1 := Posts.slot (show a.eval (.tmp 1) = .pointer (some ⟨V, 0, none⟩) from hS.other 1 rfl)
            exact Posts.op_value (fun _ => trivial) rfl (Posts.wanted_yes rfl rfl rfl (show a.eval (.tmp 38) = .bool true from hD.1)) (by intro c h; cases h) rfl (by rw [hS.size]; simp) (v := .pointer (some ⟨V, 0, none⟩)) (by simp [execOp, d1,  go_sem, x0, x1, x2, x3]) rfl (hE.refl _) trivial
          · intro a X hX hS hD hJ hU
            obtain ⟨x0, x1, x2, x3⟩ := cells4 ((Posts.Ext.blk hX _ (lt_of_block hx)).trans hx)
            have d39 := Posts.slot (show a.eval (.tmp 39) = .pointer (some ⟨V, 0, none⟩) from hD.1)
            exact Posts.op_value (fun _ => trivial) rfl (Posts.wanted_yes rfl rfl rfl (show a.eval (.tmp 38) = .bool true from hD.2.1)) (by intro c h; cases h) rfl (by rw [hS.size]; simp) (v := .int .u8 19) (by simp [execOp, d39,  go_sem, x0, x1, x2, x3]) rfl (hE.refl _) trivial
          · intro a X hX hS hD hJ hU
            obtain ⟨x0, x1, x2, x3⟩ := cells4 ((Posts.Ext.blk hX _ (lt_of_block hx)).trans hx)
            have d40 := Posts.slot (show a.eval (.tmp 40) = .int .u8 19 from hD.1)
            refine Posts.op_call (fun _ => trivial) rfl rfl (Posts.wanted_yes rfl rfl rfl (show a.eval (.tmp 38) = .bool true from hD.2.1)) (by intro c h; cases h) rfl (by rw [hS.size]; simp) 15 #[.int .u8 19] (by simp [d40, go_sem]) ?_
            refine callsIn_wide.2 ((HTk.out X (HB.trans (hX.mono hsV))).mono ?_)
            rintro e Y ⟨rfl, hbY⟩
            exact ⟨_, rfl, rfl, hbY, trivial⟩
          · intro a X hX hS hD hJ hU
            obtain ⟨x0, x1, x2, x3⟩ := cells4 ((Posts.Ext.blk hX _ (lt_of_block hx)).trans hx)
            have d1 := Posts.slot (show a.eval (.tmp 1) = .pointer (some ⟨V, 0, none⟩) from hS.other 1 rfl)
            exact Posts.op_value (fun _ => trivial) rfl (Posts.wanted_yes rfl rfl rfl (show a.eval (.tmp 38) = .bool true from hD.1)) (by intro c h; cases h) rfl (by rw [hS.size]; simp) (v := .pointer (some ⟨V, 0, none⟩)) (by simp [execOp, d1,  go_sem, x0, x1, x2, x3]) rfl (hE.refl _) trivial
          · intro a X hX hS hD hJ hU
            obtain ⟨x0, x1, x2, x3⟩ := cells4 ((Posts.Ext.blk hX _ (lt_of_block hx)).trans hx)
            have d42 := Posts.slot (show a.eval (.tmp 42) = .pointer (some ⟨V, 0, none⟩) from hD.1)
            exact Posts.op_value (fun _ => trivial) rfl (Posts.wanted_yes rfl rfl rfl (show a.eval (.tmp 38) = .bool true from hD.2.1)) (by intro c h; cases h) rfl (by rw [hS.size]; simp) (v := .int .u8 19) (by simp [execOp, d42,  go_sem, x0, x1, x2, x3]) rfl (hE.refl _) trivial
          · intro a X hX hS hD hJ hU
            obtain ⟨x0, x1, x2, x3⟩ := cells4 ((Posts.Ext.blk hX _ (lt_of_block hx)).trans hx)
            have d43 := Posts.slot (show a.eval (.tmp 43) = .int .u8 19 from hD.1)
            refine Posts.op_call (fun _ => trivial) rfl rfl (Posts.wanted_yes rfl rfl rfl (show a.eval (.tmp 38) = .bool true from hD.2.2.1)) (by intro c h; cases h) rfl (by rw [hS.size]; simp) 16 #[.int .u8 19] (by simp [d43, go_sem]) ?_
            refine callsIn_wide.2 ((HRTk.out X).mono ?_)
            rintro e Y ⟨rfl, hbY⟩
            exact ⟨_, rfl, rfl, hbY, trivial⟩
          · intro a X hX hS hD hJ hU
            obtain ⟨x0, x1, x2, x3⟩ := cells4 ((Posts.Ext.blk hX _ (lt_of_block hx)).trans hx)
            have d41 := Posts.slot (show a.eval (.tmp 41) = .int .i64 tk from hD.1)
            have d44 := Posts.slot (show a.eval (.tmp 44) = .int .i64 tk from hD.2.1)
            exact Posts.op_value (fun _ => trivial) rfl (Posts.wanted_yes rfl rfl rfl (show a.eval (.tmp 38) = .bool true from hD.2.2.1)) (by intro c h; cases h) rfl (by rw [hS.size]; simp) (v := .bool (true)) (by simp [execOp, d41, d44,  go_sem, x0, x1, x2, x3]) rfl (hE.refl _) trivial
          · intro a X hX hS hD hJ hU
            obtain ⟨x0, x1, x2, x3⟩ := cells4 ((Posts.Ext.blk hX _ (lt_of_block hx)).trans hx)
            have dc := Posts.slot (show a.eval (.tmp 38) = .bool (true) from hD.1)
            rcases Bool.eq_false_or_eq_true (true) with hg | hg
            · have dx := Posts.slot (show a.eval (.tmp 45) = .bool (true) from hD.2.1)
              exact Posts.op_value (fun _ => trivial) rfl rfl (by intro c h; cases h) rfl (by rw [hS.size]; simp) (v := .bool (true)) (by simp [execOp, dc, hg, dx,  go_sem, x0, x1, x2, x3]) rfl (hE.refl _) trivial
            · cases hg
          · intro a X hX hS hD hJ hU
            obtain ⟨x0, x1, x2, x3⟩ := cells4 ((Posts.Ext.blk hX _ (lt_of_block hx)).trans hx)
            have d46 := Posts.slot (show a.eval (.tmp 46) = .bool (true) from hD.1)
            exact Posts.op_value (fun _ => trivial) rfl rfl (by intro c h; cases h) rfl (by rw [hS.size]; simp) (v := .bool (true)) (by simp [execOp, d46,  go_sem, x0, x1, x2, x3]) rfl (hE.refl _) trivial
          · intro a X hX hS hD hJ hU
            obtain ⟨x0, x1, x2, x3⟩ := cells4 ((Posts.Ext.blk hX _ (lt_of_block hx)).trans hx)
            have d1 := Posts.slot (show a.eval (.tmp 1) = .pointer (some ⟨V, 0, none⟩) from hS.other 1 rfl)
            exact Posts.op_value (fun _ => trivial) rfl (Posts.wanted_yes rfl rfl rfl (show a.eval (.tmp 47) = .bool true from hD.1)) (by intro c h; cases h) rfl (by rw [hS.size]; simp) (v := .pointer (some ⟨V, 0, none⟩)) (by simp [execOp, d1,  go_sem, x0, x1, x2, x3]) rfl (hE.refl _) trivial
          · intro a X hX hS hD hJ hU
            obtain ⟨x0, x1, x2, x3⟩ := cells4 ((Posts.Ext.blk hX _ (lt_of_block hx)).trans hx)
            have d48 := Posts.slot (show a.eval (.tmp 48) = .pointer (some ⟨V, 0, none⟩) from hD.1)
            exact Posts.op_value (fun _ => trivial) rfl (Posts.wanted_yes rfl rfl rfl (show a.eval (.tmp 47) = .bool true from hD.2.1)) (by intro c h; cases h) rfl (by rw [hS.size]; simp) (v := .int .u8 19) (by simp [execOp, d48,  go_sem, x0, x1, x2, x3]) rfl (hE.refl _) trivial
          · intro a X hX hS hD hJ hU
            obtain ⟨x0, x1, x2, x3⟩ := cells4 ((Posts.Ext.blk hX _ (lt_of_block hx)).trans hx)
            have d49 := Posts.slot (show a.eval (.tmp 49) = .int .u8 19 from hD.1)
            refine Posts.op_call (fun _ => trivial) rfl rfl (Posts.wanted_yes rfl rfl rfl (show a.eval (.tmp 47) = .bool true from hD.2.1)) (by intro c h; cases h) rfl (by rw [hS.size]; simp) 17 #[.int .u8 19] (by simp [d49, go_sem]) ?_
            refine callsIn_wide.2 ((HGv.out X (HB.trans (hX.mono hsV))).mono ?_)
            rintro e Y ⟨rfl, hbY⟩
            exact ⟨_, rfl, rfl, hbY, trivial⟩
          · intro a X hX hS hD hJ hU
            obtain ⟨x0, x1, x2, x3⟩ := cells4 ((Posts.Ext.blk hX _ (lt_of_block hx)).trans hx)
            have d1 := Posts.slot (show a.eval (.tmp 1) = .pointer (some ⟨V, 0, none⟩) from hS.other 1 rfl)
            exact Posts.op_value (fun _ => trivial) rfl (Posts.wanted_yes rfl rfl rfl (show a.eval (.tmp 47) = .bool true from hD.1)) (by intro c h; cases h) rfl (by rw [hS.size]; simp) (v := .pointer (some ⟨V, 0, none⟩)) (by simp [execOp, d1,  go_sem, x0, x1, x2, x3]) rfl (hE.refl _) trivial
          · intro a X hX hS hD hJ hU
            obtain ⟨x0, x1, x2, x3⟩ := cells4 ((Posts.Ext.blk hX _ (lt_of_block hx)).trans hx)
            have d51 := Posts.slot (show a.eval (.tmp 51) = .pointer (some ⟨V, 0, none⟩) from hD.1)
            exact Posts.op_value (fun _ => trivial) rfl (Posts.wanted_yes rfl rfl rfl (show a.eval (.tmp 47) = .bool true from hD.2.1)) (by intro c h; cases h) rfl (by rw [hS.size]; simp) (v := .int .u8 19) (by simp [execOp, d51,  go_sem, x0, x1, x2, x3]) rfl (hE.refl _) trivial
          · intro a X hX hS hD hJ hU
            obtain ⟨x0, x1, x2, x3⟩ := cells4 ((Posts.Ext.blk hX _ (lt_of_block hx)).trans hx)
            have d52 := Posts.slot (show a.eval (.tmp 52) = .int .u8 19 from hD.1)
            refine Posts.op_call (fun _ => trivial) rfl rfl (Posts.wanted_yes rfl rfl rfl (show a.eval (.tmp 47) = .bool true from hD.2.2.1)) (by intro c h; cases h) rfl (by rw [hS.size]; simp) 18 #[.int .u8 19] (by simp [d52, go_sem]) ?_
            refine callsIn_wide.2 ((HRGv.out X).mono ?_)
            rintro e Y ⟨rfl, hbY⟩
            exact ⟨_, rfl, rfl, hbY, trivial⟩
          · intro a X hX hS hD hJ hU
            obtain ⟨x0, x1, x2, x3⟩ := cells4 ((Posts.Ext.blk hX _ (lt_of_block hx)).trans hx)
            have d50 := Posts.slot (show a.eval (.tmp 50) = .int .i64 gv from hD.1)
            have d53 := Posts.slot (show a.eval (.tmp 53) = .int .i64 gv from hD.2.1)
            exact Posts.op_value (fun _ => trivial) rfl (Posts.wanted_yes rfl rfl rfl (show a.eval (.tmp 47) = .bool true from hD.2.2.1)) (by intro c h; cases h) rfl (by rw [hS.size]; simp) (v := .bool (true)) (by simp [execOp, d50, d53,  go_sem, x0, x1, x2, x3]) rfl (hE.refl _) trivial
          · intro a X hX hS hD hJ hU
            obtain ⟨x0, x1, x2, x3⟩ := cells4 ((Posts.Ext.blk hX _ (lt_of_block hx)).trans hx)
            have dc := Posts.slot (show a.eval (.tmp 47) = .bool (true) from hD.1)
            rcases Bool.eq_false_or_eq_true (true) with hg | hg
            · have dx := Posts.slot (show a.eval (.tmp 54) = .bool (true) from hD.2.1)
              exact Posts.op_value (fun _ => trivial) rfl rfl (by intro c h; cases h) rfl (by rw [hS.size]; simp) (v := .bool (true)) (by simp [execOp, dc, hg, dx,  go_sem, x0, x1, x2, x3]) rfl (hE.refl _) trivial
            · cases hg
          · intro a X hX hS hD hJ hU
            obtain ⟨x0, x1, x2, x3⟩ := cells4 ((Posts.Ext.blk hX _ (lt_of_block hx)).trans hx)
            have d55 := Posts.slot (show a.eval (.tmp 55) = .bool (true) from hD.1)
            exact Posts.op_value (fun _ => trivial) rfl rfl (by intro c h; cases h) rfl (by rw [hS.size]; simp) (v := .bool (true)) (by simp [execOp, d55,  go_sem, x0, x1, x2, x3]) rfl (hE.refl _) trivial
          · intro a X hX hS hD hJ hU
            obtain ⟨x0, x1, x2, x3⟩ := cells4 ((Posts.Ext.blk hX _ (lt_of_block hx)).trans hx)
            have d1 := Posts.slot (show a.eval (.tmp 1) = .pointer (some ⟨V, 0, none⟩) from hS.other 1 rfl)
            exact Posts.op_value (fun _ => trivial) rfl (Posts.wanted_yes rfl rfl rfl (show a.eval (.tmp 56) = .bool true from hD.1)) (by intro c h; cases h) rfl (by rw [hS.size]; simp) (v := .pointer (some ⟨V, 0, none⟩)) (by simp [execOp, d1,  go_sem, x0, x1, x2, x3]) rfl (hE.refl _) trivial
          · intro a X hX hS hD hJ hU
            obtain ⟨x0, x1, x2, x3⟩ := cells4 ((Posts.Ext.blk hX _ (lt_of_block hx)).trans hx)
            have d57 := Posts.slot (show a.eval (.tmp 57) = .pointer (some ⟨V, 0, none⟩) from hD.1)
            exact Posts.op_value (fun _ => trivial) rfl (Posts.wanted_yes rfl rfl rfl (show a.eval (.tmp 56) = .bool true from hD.2.1)) (by intro c h; cases h) rfl (by rw [hS.size]; simp) (v := .int .u8 19) (by simp [execOp, d57,  go_sem, x0, x1, x2, x3]) rfl (hE.refl _) trivial
          · intro a X hX hS hD hJ hU
            obtain ⟨x0, x1, x2, x3⟩ := cells4 ((Posts.Ext.blk hX _ (lt_of_block hx)).trans hx)
            have d58 := Posts.slot (show a.eval (.tmp 58) = .int .u8 19 from hD.1)
            refine Posts.op_call (fun _ => trivial) rfl rfl (Posts.wanted_yes rfl rfl rfl (show a.eval (.tmp 56) = .bool true from hD.2.1)) (by intro c h; cases h) rfl (by rw [hS.size]; simp) 19 #[.int .u8 19] (by simp [d58, go_sem]) ?_
            refine callsIn_wide.2 ((HJ.out X (HB.trans (hX.mono hsV))).mono ?_)
            rintro e Y ⟨rfl, hbY⟩
            exact ⟨_, rfl, rfl, hbY, trivial⟩
          · intro a X hX hS hD hJ hU
            obtain ⟨x0, x1, x2, x3⟩ := cells4 ((Posts.Ext.blk hX _ (lt_of_block hx)).trans hx)
            have d1 := Posts.slot (show a.eval (.tmp 1) = .pointer (some ⟨V, 0, none⟩) from hS.other 1 rfl)
            exact Posts.op_value (fun _ => trivial) rfl (Posts.wanted_yes rfl rfl rfl (show a.eval (.tmp 56) = .bool true from hD.1)) (by intro c h; cases h) rfl (by rw [hS.size]; simp) (v := .pointer (some ⟨V, 0, none⟩)) (by simp [execOp, d1,  go_sem, x0, x1, x2, x3]) rfl (hE.refl _) trivial
          · intro a X hX hS hD hJ hU
            obtain ⟨x0, x1, x2, x3⟩ := cells4 ((Posts.Ext.blk hX _ (lt_of_block hx)).trans hx)
            have d60 := Posts.slot (show a.eval (.tmp 60) = .pointer (some ⟨V, 0, none⟩) from hD.1)
            exact Posts.op_value (fun _ => trivial) rfl (Posts.wanted_yes rfl rfl rfl (show a.eval (.tmp 56) = .bool true from hD.2.1)) (by intro c h; cases h) rfl (by rw [hS.size]; simp) (v := .int .u8 19) (by simp [execOp, d60,  go_sem, x0, x1, x2, x3]) rfl (hE.refl _) trivial
          · intro a X hX hS hD hJ hU
            obtain ⟨x0, x1, x2, x3⟩ := cells4 ((Posts.Ext.blk hX _ (lt_of_block hx)).trans hx)
            have d61 := Posts.slot (show a.eval (.tmp 61) = .int .u8 19 from hD.1)
            exact Posts.op_value (fun _ => trivial) rfl (Posts.wanted_yes rfl rfl rfl (show a.eval (.tmp 56) = .bool true from hD.2.1)) (by intro c h; cases h) rfl (by rw [hS.size]; simp) (v := .bool (true)) (by simp [execOp, d61,  go_sem, x0, x1, x2, x3]) rfl (hE.refl _) trivial
          · intro a X hX hS hD hJ hU
            obtain ⟨x0, x1, x2, x3⟩ := cells4 ((Posts.Ext.blk hX _ (lt_of_block hx)).trans hx)
            have d62 := Posts.slot (show a.eval (.tmp 62) = .bool (true) from hD.1)
            exact Posts.op_value (fun _ => trivial) rfl (Posts.wanted_yes rfl rfl rfl (show a.eval (.tmp 56) = .bool true from hD.2.2.1)) (by intro c h; cases h) rfl (by rw [hS.size]; simp) (v := .bool (true)) (by simp [execOp, d62,  go_sem, x0, x1, x2, x3]) rfl (hE.refl _) trivial
          · intro a X hX hS hD hJ hU
            exact Posts.op_skip hE (fun _ => trivial) rfl (Posts.wanted_no rfl rfl rfl (show a.eval (.tmp 63) = .bool !false from hD.1)) rfl (by rw [hS.size]; simp) rfl trivial
          · intro a X hX hS hD hJ hU
            exact Posts.op_skip hE (fun _ => trivial) rfl (Posts.wanted_no rfl rfl rfl (show a.eval (.tmp 63) = .bool !false from hD.2.1)) rfl (by rw [hS.size]; simp) rfl trivial
          · intro a X hX hS hD hJ hU
            exact Posts.op_skip hE (fun _ => trivial) rfl (Posts.wanted_no rfl rfl rfl (show a.eval (.tmp 63) = .bool !false from hD.2.1)) rfl (by rw [hS.size]; simp) rfl trivial
          · intro a X hX hS hD hJ hU
            obtain ⟨x0, x1, x2, x3⟩ := cells4 ((Posts.Ext.blk hX _ (lt_of_block hx)).trans hx)
            have d63 := Posts.slot (show a.eval (.tmp 63) = .bool (true) from hD.1)
            exact Posts.op_value (fun _ => trivial) rfl (Posts.wanted_yes rfl rfl rfl (show a.eval (.tmp 56) = .bool true from hD.2.2.1)) (by intro c h; cases h) rfl (by rw [hS.size]; simp) (v := .bool (true)) (by simp [execOp, d63, go_sem]) rfl (hE.refl _) trivial
          · intro a X hX hS hD hJ hU
            obtain ⟨x0, x1, x2, x3⟩ := cells4 ((Posts.Ext.blk hX _ (lt_of_block hx)).trans hx)
            have d59 := Posts.slot (show a.eval (.tmp 59) = .bool (true) from hD.1)
            have d67 := Posts.slot (show a.eval (.tmp 67) = .bool (true) from hD.2.1)
            exact Posts.op_value (fun _ => trivial) rfl (Posts.wanted_yes rfl rfl rfl (show a.eval (.tmp 56) = .bool true from hD.2.2.1)) (by intro c h; cases h) rfl (by rw [hS.size]; simp) (v := .bool (true)) (by simp [execOp, d59, d67,  go_sem, x0, x1, x2, x3]) rfl (hE.refl _) trivial
          · intro a X hX hS hD hJ hU
            obtain ⟨x0, x1, x2, x3⟩ := cells4 ((Posts.Ext.blk hX _ (lt_of_block hx)).trans hx)
            have dc := Posts.slot (show a.eval (.tmp 56) = .bool (true) from hD.1)
            rcases Bool.eq_false_or_eq_true (true) with hg | hg
            · have dx := Posts.slot (show a.eval (.tmp 68) = .bool (true) from hD.2.1)
              exact Posts.op_value (fun _ => trivial) rfl rfl (by intro c h; cases h) rfl (by rw [hS.size]; simp) (v := .bool (true)) (by simp [execOp, dc, hg, dx,  go_sem, x0, x1, x2, x3]) rfl (hE.refl _) trivial
            · cases hg
        · intro a0 Y hY hS hJt hL
          have p26 := Posts.slot (show a0.eval (.tmp 26) = .agg #[.int .u8 19, .int .u8 ia, .int .u16 ib, .int .u32 ic] from hL.1)
          have p27 := Posts.slot (show a0.eval (.tmp 27) = .bool (m) from hL.2.1)
          have p28 := Posts.slot (show a0.eval (.tmp 28) = .agg #[.int .u8 19, .int .u8 ia, .int .u16 ib, .int .u32 ic] from hL.2.2.1)
          have p29 := Posts.slot (show a0.eval (.tmp 29) = .bool (m) from hL.2.2.2.1)
          have p30 := Posts.slot (show a0.eval (.tmp 30) = .bool (true) from hL.2.2.2.2.1)
          have p31 := Posts.slot (show a0.eval (.tmp 31) = .bool (true) from hL.2.2.2.2.2.1)
          have p32 := Posts.slot (show a0.eval (.tmp 32) = .agg #[.int .u8 19, .int .u8 ia, .int .u16 ib, .int .u32 ic] from hL.2.2.2.2.2.2.1)
          have p33 := Posts.slot (show a0.eval (.tmp 33) = .string S from hL.2.2.2.2.2.2.2.1)
          have p34 := Posts.slot (show a0.eval (.tmp 34) = .agg #[.int .u8 19, .int .u8 ia, .int .u16 ib, .int .u32 ic] from hL.2.2.2.2.2.2.2.2.1)
          have p35 := Posts.slot (show a0.eval (.tmp 35) = .string S from hL.2.2.2.2.2.2.2.2.2.1)
          have p36 := Posts.slot (show a0.eval (.tmp 36) = .bool (true) from hL.2.2.2.2.2.2.2.2.2.2.1)
          have p37 := Posts.slot (show a0.eval (.tmp 37) = .bool (true) from hL.2.2.2.2.2.2.2.2.2.2.2.1)
          have p38 := Posts.slot (show a0.eval (.tmp 38) = .bool (true) from hL.2.2.2.2.2.2.2.2.2.2.2.2.1)
          have p39 := Posts.slot (show a0.eval (.tmp 39) = .pointer (some ⟨V, 0, none⟩) from hL.2.2.2.2.2.2.2.2.2.2.2.2.2.1)
          have p40 := Posts.slot (show a0.eval (.tmp 40) = .int .u8 19 from hL.2.2.2.2.2.2.2.2.2.2.2.2.2.2.1)
          have p41 := Posts.slot (show a0.eval (.tmp 41) = .int .i64 tk from hL.2.2.2.2.2.2.2.2.2.2.2.2.2.2.2.1)
          have p42 := Posts.slot (show a0.eval (.tmp 42) = .pointer (some ⟨V, 0, none⟩) from hL.2.2.2.2.2.2.2.2.2.2.2.2.2.2.2.2.1)
          have p43 := Posts.slot (show a0.eval (.tmp 43) = .int .u8 19 from hL.2.2.2.2.2.2.2.2.2.2.2.2.2.2.2.2.2.1)
          have p44 := Posts.slot (show a0.eval (.tmp 44) = .int .i64 tk from hL.2.2.2.2.2.2.2.2.2.2.2.2.2.2.2.2.2.2.1)
          have p45 := Posts.slot (show a0.eval (.tmp 45) = .bool (true) from hL.2.2.2.2.2.2.2.2.2.2.2.2.2.2.2.2.2.2.2.1)
          have p46 := Posts.slot (show a0.eval (.tmp 46) = .bool (true) from hL.2.2.2.2.2.2.2.2.2.2.2.2.2.2.2.2.2.2.2.2.1)
          have p47 := Posts.slot (show a0.eval (.tmp 47) = .bool (true) from hL.2.2.2.2.2.2.2.2.2.2.2.2.2.2.2.2.2.2.2.2.2.1)
          have p48 := Posts.slot (show a0.eval (.tmp 48) = .pointer (some ⟨V, 0, none⟩) from hL.2.2.2.2.2.2.2.2.2.2.2.2.2.2.2.2.2.2.2.2.2.2.1)
          have p49 := Posts.slot (show a0.eval (.tmp 49) = .int .u8 19 from hL.2.2.2.2.2.2.2.2.2.2.2.2.2.2.2.2.2.2.2.2.2.2.2.1)
          have p50 := Posts.slot (show a0.eval (.tmp 50) = .int .i64 gv from hL.2.2.2.2.2.2.2.2.2.2.2.2.2.2.2.2.2.2.2.2.2.2.2.2.1)
          have p51 := Posts.slot (show a0.eval (.tmp 51) = .pointer (some ⟨V, 0, none⟩) from hL.2.2.2.2.2.2.2.2.2.2.2.2.2.2.2.2.2.2.2.2.2.2.2.2.2.1)
          have p52 := Posts.slot (show a0.eval (.tmp 52) = .int .u8 19 from hL.2.2.2.2.2.2.2.2.2.2.2.2.2.2.2.2.2.2.2.2.2.2.2.2.2.2.1)
          have p53 := Posts.slot (show a0.eval (.tmp 53) = .int .i64 gv from hL.2.2.2.2.2.2.2.2.2.2.2.2.2.2.2.2.2.2.2.2.2.2.2.2.2.2.2.1)
          have p54 := Posts.slot (show a0.eval (.tmp 54) = .bool (true) from hL.2.2.2.2.2.2.2.2.2.2.2.2.2.2.2.2.2.2.2.2.2.2.2.2.2.2.2.2.1)
          have p55 := Posts.slot (show a0.eval (.tmp 55) = .bool (true) from hL.2.2.2.2.2.2.2.2.2.2.2.2.2.2.2.2.2.2.2.2.2.2.2.2.2.2.2.2.2.1)
          have p56 := Posts.slot (show a0.eval (.tmp 56) = .bool (true) from hL.2.2.2.2.2.2.2.2.2.2.2.2.2.2.2.2.2.2.2.2.2.2.2.2.2.2.2.2.2.2.1)
          have p57 := Posts.slot (show a0.eval (.tmp 57) = .pointer (some ⟨V, 0, none⟩) from hL.2.2.2.2.2.2.2.2.2.2.2.2.2.2.2.2.2.2.2.2.2.2.2.2.2.2.2.2.2.2.2.1)
          have p58 := Posts.slot (show a0.eval (.tmp 58) = .int .u8 19 from hL.2.2.2.2.2.2.2.2.2.2.2.2.2.2.2.2.2.2.2.2.2.2.2.2.2.2.2.2.2.2.2.2.1)
          have p59 := Posts.slot (show a0.eval (.tmp 59) = .bool (true) from hL.2.2.2.2.2.2.2.2.2.2.2.2.2.2.2.2.2.2.2.2.2.2.2.2.2.2.2.2.2.2.2.2.2.1)
          have p60 := Posts.slot (show a0.eval (.tmp 60) = .pointer (some ⟨V, 0, none⟩) from hL.2.2.2.2.2.2.2.2.2.2.2.2.2.2.2.2.2.2.2.2.2.2.2.2.2.2.2.2.2.2.2.2.2.2.1)
          have p61 := Posts.slot (show a0.eval (.tmp 61) = .int .u8 19 from hL.2.2.2.2.2.2.2.2.2.2.2.2.2.2.2.2.2.2.2.2.2.2.2.2.2.2.2.2.2.2.2.2.2.2.2.1)
          have p62 := Posts.slot (show a0.eval (.tmp 62) = .bool (true) from hL.2.2.2.2.2.2.2.2.2.2.2.2.2.2.2.2.2.2.2.2.2.2.2.2.2.2.2.2.2.2.2.2.2.2.2.2.1)
          have p63 := Posts.slot (show a0.eval (.tmp 63) = .bool (true) from hL.2.2.2.2.2.2.2.2.2.2.2.2.2.2.2.2.2.2.2.2.2.2.2.2.2.2.2.2.2.2.2.2.2.2.2.2.2.1)
          have p64 := Posts.slot (show a0.eval (.tmp 64) = undef from hL.2.2.2.2.2.2.2.2.2.2.2.2.2.2.2.2.2.2.2.2.2.2.2.2.2.2.2.2.2.2.2.2.2.2.2.2.2.2.1)
          have p65 := Posts.slot (show a0.eval (.tmp 65) = undef from hL.2.2.2.2.2.2.2.2.2.2.2.2.2.2.2.2.2.2.2.2.2.2.2.2.2.2.2.2.2.2.2.2.2.2.2.2.2.2.2.1)
          have p66 := Posts.slot (show a0.eval (.tmp 66) = undef from hL.2.2.2.2.2.2.2.2.2.2.2.2.2.2.2.2.2.2.2.2.2.2.2.2.2.2.2.2.2.2.2.2.2.2.2.2.2.2.2.2.1)
          have p67 := Posts.slot (show a0.eval (.tmp 67) = .bool (true) from hL.2.2.2.2.2.2.2.2.2.2.2.2.2.2.2.2.2.2.2.2.2.2.2.2.2.2.2.2.2.2.2.2.2.2.2.2.2.2.2.2.2.1)
          have p68 := Posts.slot (show a0.eval (.tmp 68) = .bool (true) from hL.2.2.2.2.2.2.2.2.2.2.2.2.2.2.2.2.2.2.2.2.2.2.2.2.2.2.2.2.2.2.2.2.2.2.2.2.2.2.2.2.2.2.1)
          have p69 := Posts.slot (show a0.eval (.tmp 69) = .bool (true) from hL.2.2.2.2.2.2.2.2.2.2.2.2.2.2.2.2.2.2.2.2.2.2.2.2.2.2.2.2.2.2.2.2.2.2.2.2.2.2.2.2.2.2.2.1)
          have hfr := hS.frame [26, 27, 28, 29, 30, 31, 32, 33, 34, 35, 36, 37, 38, 39, 40, 41, 42, 43, 44, 45, 46, 47, 48, 49, 50, 51, 52, 53, 54, 55, 56, 57, 58, 59, 60, 61, 62, 63, 64, 65, 66, 67, 68, 69, 2] (fun t ht => by simp [Posts.isDst] at ht; first | (rcases ht with h | h | h | h | h | h | h | h | h | h | h | h | h | h | h | h | h | h | h | h | h | h | h | h | h | h | h | h | h | h | h | h | h | h | h | h | h | h | h | h | h | h | h | h | h <;> subst h <;> simp) | (subst ht; simp))
          simp only [List.foldl_cons, List.foldl_nil] at hfr
          have hdf := hS.defers
          simp only [Array.getD_eq_getD_getElem?] at hfr
          clear hL hS
          generalize a0.tmps[26]?.getD undef = v26 at *
          generalize a0.tmps[27]?.getD undef = v27 at *
          generalize a0.tmps[28]?.getD undef = v28 at *
          generalize a0.tmps[29]?.getD undef = v29 at *
          generalize a0.tmps[30]?.getD undef = v30 at *
          generalize a0.tmps[31]?.getD undef = v31 at *
          generalize a0.tmps[32]?.getD undef = v32 at *
          generalize a0.tmps[33]?.getD undef = v33 at *
          generalize a0.tmps[34]?.getD undef = v34 at *
          generalize a0.tmps[35]?.getD undef = v35 at *
          generalize a0.tmps[36]?.getD undef = v36 at *
          generalize a0.tmps[37]?.getD undef = v37 at *
          generalize a0.tmps[38]?.getD undef = v38 at *
          generalize a0.tmps[39]?.getD undef = v39 at *
          generalize a0.tmps[40]?.getD undef = v40 at *
          generalize a0.tmps[41]?.getD undef = v41 at *
          generalize a0.tmps[42]?.getD undef = v42 at *
          generalize a0.tmps[43]?.getD undef = v43 at *
          generalize a0.tmps[44]?.getD undef = v44 at *
          generalize a0.tmps[45]?.getD undef = v45 at *
          generalize a0.tmps[46]?.getD undef = v46 at *
          generalize a0.tmps[47]?.getD undef = v47 at *
          generalize a0.tmps[48]?.getD undef = v48 at *
          generalize a0.tmps[49]?.getD undef = v49 at *
          generalize a0.tmps[50]?.getD undef = v50 at *
          generalize a0.tmps[51]?.getD undef = v51 at *
          generalize a0.tmps[52]?.getD undef = v52 at *
          generalize a0.tmps[53]?.getD undef = v53 at *
          generalize a0.tmps[54]?.getD undef = v54 at *
          generalize a0.tmps[55]?.getD undef = v55 at *
          generalize a0.tmps[56]?.getD undef = v56 at *
          generalize a0.tmps[57]?.getD undef = v57 at *
          generalize a0.tmps[58]?.getD undef = v58 at *
          generalize a0.tmps[59]?.getD undef = v59 at *
          generalize a0.tmps[60]?.getD undef = v60 at *
          generalize a0.tmps[61]?.getD undef = v61 at *
          generalize a0.tmps[62]?.getD undef = v62 at *
          generalize a0.tmps[63]?.getD undef = v63 at *
          generalize a0.tmps[64]?.getD undef = v64 at *
          generalize a0.tmps[65]?.getD undef = v65 at *
          generalize a0.tmps[66]?.getD undef = v66 at *
          generalize a0.tmps[67]?.getD undef = v67 at *
          generalize a0.tmps[68]?.getD undef = v68 at *
          generalize a0.tmps[69]?.getD undef = v69 at *
          generalize a0.tmps[2]?.getD undef = v2 at *
          obtain rfl := p26
          obtain rfl := p27
          obtain rfl := p28
          obtain rfl := p29
          obtain rfl := p30
          obtain rfl := p31
          obtain rfl := p32
          obtain rfl := p33
          obtain rfl := p34
          obtain rfl := p35
          obtain rfl := p36
          obtain rfl := p37
          obtain rfl := p38
          obtain rfl := p39
          obtain rfl := p40
          obtain rfl := p41
          obtain rfl := p42
          obtain rfl := p43
          obtain rfl := p44
          obtain rfl := p45
          obtain rfl := p46
          obtain rfl := p47
          obtain rfl := p48
          obtain rfl := p49
          obtain rfl := p50
          obtain rfl := p51
          obtain rfl := p52
          obtain rfl := p53
          obtain rfl := p54
          obtain rfl := p55
          obtain rfl := p56
          obtain rfl := p57
          obtain rfl := p58
          obtain rfl := p59
          obtain rfl := p60
          obtain rfl := p61
          obtain rfl := p62
          obtain rfl := p63
          obtain rfl := p64
          obtain rfl := p65
          obtain rfl := p66
          obtain rfl := p67
          obtain rfl := p68
          obtain rfl := p69
          obtain ⟨tm, df⟩ := a0
          simp only [List.setIfInBounds_toArray, List.set_cons_succ, List.set_cons_zero] at hfr hdf
          subst hfr
          subst hdf
          refine Posts.tail_op 44 (by kernel_rfl) (Posts.op_val (fun _ => trivial) rfl rfl (by intro c h; cases h) (v := .bool true) (Y := Y) (by simp [execOp, Act.eval, go_sem]) ?_)
          refine ⟨by kernel_rfl, ?_⟩
          simp only [Exit.inBlock, Exit.then]
          refine hK _ _ ?_
          go_wp2_with fail
          go_ret
          exact ⟨rfl, by rw [HV.out]; exact HB.trans (hY.mono hsV)⟩
      · have hj : jumpsI op = (op == 20) := by unfold jumpsI; simp [h19]
        rw [hj] at HJ
        generalize h20 : (op == 20) = jb at *
        have h19 : (op == 19) = false := by simpa using h19
        refine (wpIn_wide (n := 0)).1 (Posts.wpIn_region_tail hE 44 0 (Posts.At [Posts.is (.agg #[.int .u8 op, .int .u8 ia, .int .u16 ib, .int .u32 ic]), Posts.is (.bool (m)), Posts.is (.agg #[.int .u8 op, .int .u8 ia, .int .u16 ib, .int .u32 ic]), Posts.is (.bool (m)), Posts.is (.bool (true)), Posts.is (.bool (true)), Posts.is (.agg #[.int .u8 op, .int .u8 ia, .int .u16 ib, .int .u32 ic]), Posts.is (.string S), Posts.is (.agg #[.int .u8 op, .int .u8 ia, .int .u16 ib, .int .u32 ic]), Posts.is (.string S), Posts.is (.bool (true)), Posts.is (.bool (true)), Posts.is (.bool (true)), Posts.is (.pointer (some ⟨V, 0, none⟩)), Posts.is (.int .u8 op), Posts.is (.int .i64 tk), Posts.is (.pointer (some ⟨V, 0, none⟩)), Posts.is (.int .u8 op), Posts.is (.int .i64 tk), Posts.is (.bool (true)), Posts.is (.bool (true)), Posts.is (.bool (true)), Posts.is (.pointer (some ⟨V, 0, none⟩)), Posts.is (.int .u8 op), Posts.is (.int .i64 gv), Posts.is (.pointer (some ⟨V, 0, none⟩)), Posts.is (.int .u8 op), Posts.is (.int .i64 gv), Posts.is (.bool (true)), Posts.is (.bool (true)), Posts.is (.bool (true)), Posts.is (.pointer (some ⟨V, 0, none⟩)), Posts.is (.int .u8 op), Posts.is (.bool (jb)), Posts.is (.pointer (some ⟨V, 0, none⟩)), Posts.is (.int .u8 op), Posts.is (.bool (false)), Posts.is (.bool (false)), Posts.is (.pointer (some ⟨V, 0, none⟩)), Posts.is (.int .u8 op), Posts.is (.bool (jb)), Posts.is (.bool (jb)), Posts.is (.bool (true)), Posts.is (.bool (true))]) (fun _ _ => True) (by kernel_rfl) (by decide) (by kernel_rfl) (by kernel_rfl) (by kernel_rfl)
          (Posts.stable_at _ (by repeat' (first | exact trivial | (refine And.intro ?_ ?_) | exact Posts.is_stable _ | exact Posts.on_stable _ _ | assumption))) trivial ?_ ?_)
        · refine ⟨?_, ?_, ?_, ?_, ?_, ?_, ?_, ?_, ?_, ?_, ?_, ?_, ?_, ?_, ?_, ?_, ?_, ?_, ?_, ?_, ?_, ?_, ?_, ?_, ?_, ?_, ?_, ?_, ?_, ?_, ?_, ?_, ?_, ?_, ?_, ?_, ?_, ?_, ?_, ?_, ?_, ?_, ?_, ?_, trivial⟩
          · intro a X hX hS hD hJ hU
            obtain ⟨x0, x1, x2, x3⟩ := cells4 ((Posts.Ext.blk hX _ (lt_of_block hx)).trans hx)
            have d1 := Posts.slot (show a.eval (.tmp 1) = .pointer (some ⟨V, 0, none⟩) from hS.other 1 rfl)
            exact Posts.op_value (fun _ => trivial) rfl rfl (by intro c h; cases h) rfl (by rw [hS.size]; simp) (v := .agg #[.int .u8 op, .int .u8 ia, .int .u16 ib, .int .u32 ic]) (by simp [execOp, d1,  go_sem, x0, x1, x2, x3, h19, h20]) rfl (hE.refl _) trivial
          · intro a X hX hS hD hJ hU
            obtain ⟨x0, x1, x2, x3⟩ := cells4 ((Posts.Ext.blk hX _ (lt_of_block hx)).trans hx)
            have d26 := Posts.slot (show a.eval (.tmp 26) = .agg #[.int .u8 op, .int .u8 ia, .int .u16 ib, .int .u32 ic] from hD.1)
            refine Posts.op_call (fun _ => trivial) rfl rfl rfl (by intro c h; cases h) rfl (by rw [hS.size]; simp) 11 #[.agg #[.int .u8 op, .int .u8 ia, .int .u16 ib, .int .u32 ic]] (by simp [d26, go_sem]) ?_
            refine callsIn_wide.2 ((HM.out X (HB.trans (hX.mono hsV))).mono ?_)
            rintro e Y ⟨rfl, hbY⟩
            exact ⟨_, rfl, rfl, hbY, trivial⟩
          · intro a X hX hS hD hJ hU
            obtain ⟨x0, x1, x2, x3⟩ := cells4 ((Posts.Ext.blk hX _ (lt_of_block hx)).trans hx)
            have d1 := Posts.slot (show a.eval (.tmp 1) = .pointer (some ⟨V, 0, none⟩) from hS.other 1 rfl)
            exact Posts.op_value (fun _ => trivial) rfl rfl (by intro c h; cases h) rfl (by rw [hS.size]; simp) (v := .agg #[.int .u8 op, .int .u8 ia, .int .u16 ib, .int .u32 ic]) (by simp [execOp, d1,  go_sem, x0, x1, x2, x3, h19, h20]) rfl (hE.refl _) trivial
          · intro a X hX hS hD hJ hU
            obtain ⟨x0, x1, x2, x3⟩ := cells4 ((Posts.Ext.blk hX _ (lt_of_block hx)).trans hx)
            have d28 := Posts.slot (show a.eval (.tmp 28) = .agg #[.int .u8 op, .int .u8 ia, .int .u16 ib, .int .u32 ic] from hD.1)
            refine Posts.op_call (fun _ => trivial) rfl rfl rfl (by intro c h; cases h) rfl (by rw [hS.size]; simp) 12 #[.agg #[.int .u8 op, .int .u8 ia, .int .u16 ib, .int .u32 ic]] (by simp [d28, go_sem]) ?_
            refine callsIn_wide.2 ((HRM.out X).mono ?_)
            rintro e Y ⟨rfl, hbY⟩
            exact ⟨_, rfl, rfl, hbY, trivial⟩
          · intro a X hX hS hD hJ hU
            obtain ⟨x0, x1, x2, x3⟩ := cells4 ((Posts.Ext.blk hX _ (lt_of_block hx)).trans hx)
            have d27 := Posts.slot (show a.eval (.tmp 27) = .bool (m) from hD.1)
            have d29 := Posts.slot (show a.eval (.tmp 29) = .bool (m) from hD.2.1)
            exact Posts.op_value (fun _ => trivial) rfl rfl (by intro c h; cases h) rfl (by rw [hS.size]; simp) (v := .bool (true)) (by simp [execOp, d27, d29,  go_sem, x0, x1, x2, x3, h19, h20]) rfl (hE.refl _) trivial
          · intro a X hX hS hD hJ hU
            obtain ⟨x0, x1, x2, x3⟩ := cells4 ((Posts.Ext.blk hX _ (lt_of_block hx)).trans hx)
            have d30 := Posts.slot (show a.eval (.tmp 30) = .bool (true) from hD.1)
            exact Posts.op_value (fun _ => trivial) rfl rfl (by intro c h; cases h) rfl (by rw [hS.size]; simp) (v := .bool (true)) (by simp [execOp, d30,  go_sem, x0, x1, x2, x3, h19, h20]) rfl (hE.refl _) trivial
          · intro a X hX hS hD hJ hU
            obtain ⟨x0, x1, x2, x3⟩ := cells4 ((Posts.Ext.blk hX _ (lt_of_block hx)).trans hx)
            have d1 := Posts.slot (show a.eval (.tmp 1) = .pointer (some ⟨V, 0, none⟩) from hS.other 1 rfl)
            exact Posts.op_value (fun _ => trivial) rfl (Posts.wanted_yes rfl rfl rfl (show a.eval (.tmp 31) = .bool true from hD.1)) (by intro c h; cases h) rfl (by rw [hS.size]; simp) (v := .agg #[.int .u8 op, .int .u8 ia, .int .u16 ib, .int .u32 ic]) (by simp [execOp, d1,  go_sem, x0, x1, x2, x3, h19, h20]) rfl (hE.refl _) trivial
          · intro a X hX hS hD hJ hU
            obtain ⟨x0, x1, x2, x3⟩ := cells4 ((Posts.Ext.blk hX _ (lt_of_block hx)).trans hx)
            have d32 := Posts.slot (show a.eval (.tmp 32) = .agg #[.int .u8 op, .int .u8 ia, .int .u16 ib, .int .u32 ic] from hD.1)
            refine Posts.op_call (fun _ => trivial) rfl rfl (Posts.wanted_yes rfl rfl rfl (show a.eval (.tmp 31) = .bool true from hD.2.1)) (by intro c h; cases h) rfl (by rw [hS.size]; simp) 13 #[.agg #[.int .u8 op, .int .u8 ia, .int .u16 ib, .int .u32 ic]] (by simp [d32, go_sem]) ?_
            refine callsIn_wide.2 ((HT.out X (HB.trans (hX.mono hsV))).mono ?_)
            rintro e Y ⟨rfl, hbY⟩
            exact ⟨_, rfl, rfl, hbY, trivial⟩
          · intro a X hX hS hD hJ hU
            obtain ⟨x0, x1, x2, x3⟩ := cells4 ((Posts.Ext.blk hX _ (lt_of_block hx)).trans hx)
            have d1 := Posts.slot (show a.eval (.tmp 1) = .pointer (some ⟨V, 0, none⟩) from hS.other 1 rfl)
            exact Posts.op_value (fun _ => trivial) rfl (Posts.wanted_yes rfl rfl rfl (show a.eval (.tmp 31) = .bool true from hD.1)) (by intro c h; cases h) rfl (by rw [hS.size]; simp) (v := .agg #[.int .u8 op, .int .u8 ia, .int .u16 ib, .int .u32 ic]) (by simp [execOp, d1,  go_sem, x0, x1, x2, x3, h19, h20]) rfl (hE.refl _) trivial
          · intro a X hX hS hD hJ hU
            obtain ⟨x0, x1, x2, x3⟩ := cells4 ((Posts.Ext.blk hX _ (lt_of_block hx)).trans hx)
            have d34 := Posts.slot (show a.eval (.tmp 34) = .agg #[.int .u8 op, .int .u8 ia, .int .u16 ib, .int .u32 ic] from hD.1)
            refine Posts.op_call (fun _ => trivial) rfl rfl (Posts.wanted_yes rfl rfl rfl (show a.eval (.tmp 31) = .bool true from hD.2.2.1)) (by intro c h; cases h) rfl (by rw [hS.size]; simp) 14 #[.agg #[.int .u8 op, .int .u8 ia, .int .u16 ib, .int .u32 ic]] (by simp [d34, go_sem]) ?_
            refine callsIn_wide.2 ((HRT.out X).mono ?_)
            rintro e Y ⟨rfl, hbY⟩
            exact ⟨_, rfl, rfl, hbY, trivial⟩
          · intro a X hX hS hD hJ hU
            obtain ⟨x0, x1, x2, x3⟩ := cells4 ((Posts.Ext.blk hX _ (lt_of_block hx)).trans hx)
            have d33 := Posts.slot (show a.eval (.tmp 33) = .string S from hD.1)
            have d35 := Posts.slot (show a.eval (.tmp 35) = .string S from hD.2.1)
            exact Posts.op_value (fun _ => trivial) rfl (Posts.wanted_yes rfl rfl rfl (show a.eval (.tmp 31) = .bool true from hD.2.2.1)) (by intro c h; cases h) rfl (by rw [hS.size]; simp) (v := .bool (true)) (by simp [execOp, d33, d35,  go_sem, x0, x1, x2, x3, h19, h20]) rfl (hE.refl _) trivial
          · intro a X hX hS hD hJ hU
            obtain ⟨x0, x1, x2, x3⟩ := cells4 ((Posts.Ext.blk hX _ (lt_of_block hx)).trans hx)
            have dc := Posts.slot (show a.eval (.tmp 31) = .bool (true) from hD.1)
            rcases Bool.eq_false_or_eq_true (true) with hg | hg
            · have dx := Posts.slot (show a.eval (.tmp 36) = .bool (true) from hD.2.1)
              exact Posts.op_value (fun _ => trivial) rfl rfl (by intro c h; cases h) rfl (by rw [hS.size]; simp) (v := .bool (true)) (by simp [execOp, dc, hg, dx,  go_sem, x0, x1, x2, x3, h19, h20]) rfl (hE.refl _) trivial
            · cases hg
          · intro a X hX hS hD hJ hU
            obtain ⟨x0, x1, x2, x3⟩ := cells4 ((Posts.Ext.blk hX _ (lt_of_block hx)).trans hx)
            have d37 := Posts.slot (show a.eval (.tmp 37) = .bool (true) from hD.1)
            exact Posts.op_value (fun _ => trivial) rfl rfl (by intro c h; cases h) rfl (by rw [hS.size]; simp) (v := .bool (true)) (by simp [execOp, d37,  go_sem, x0, x1, x2, x3, h19, h20]) rfl (hE.refl _) trivial
          · intro a X hX hS hD hJ hU
            obtain ⟨x0, x1, x2, x3⟩ := cells4 ((Posts.Ext.blk hX _ (lt_of_block hx)).trans hx)
            have d1 := Posts.slot (show a.eval (.tmp 1) = .pointer (some ⟨V, 0, none⟩) from hS.other 1 rfl)
            exact Posts.op_value (fun _ => trivial) rfl (Posts.wanted_yes rfl rfl rfl (show a.eval (.tmp 38) = .bool true from hD.1)) (by intro c h; cases h) rfl (by rw [hS.size]; simp) (v := .pointer (some ⟨V, 0, none⟩)) (by simp [execOp, d1,  go_sem, x0, x1, x2, x3, h19, h20]) rfl (hE.refl _) trivial
          · intro a X hX hS hD hJ hU
            obtain ⟨x0, x1, x2, x3⟩ := cells4 ((Posts.Ext.blk hX _ (lt_of_block hx)).trans hx)
            have d39 := Posts.slot (show a.eval (.tmp 39) = .pointer (some ⟨V, 0, none⟩) from hD.1)
            exact Posts.op_value (fun _ => trivial) rfl (Posts.wanted_yes rfl rfl rfl (show a.eval (.tmp 38) = .bool true from hD.2.1)) (by intro c h; cases h) rfl (by rw [hS.size]; simp) (v := .int .u8 op) (by simp [execOp, d39,  go_sem, x0, x1, x2, x3, h19, h20]) rfl (hE.refl _) trivial
          · intro a X hX hS hD hJ hU
            obtain ⟨x0, x1, x2, x3⟩ := cells4 ((Posts.Ext.blk hX _ (lt_of_block hx)).trans hx)
            have d40 := Posts.slot (show a.eval (.tmp 40) = .int .u8 op from hD.1)
            refine Posts.op_call (fun _ => trivial) rfl rfl (Posts.wanted_yes rfl rfl rfl (show a.eval (.tmp 38) = .bool true from hD.2.1)) (by intro c h; cases h) rfl (by rw [hS.size]; simp) 15 #[.int .u8 op] (by simp [d40, go_sem]) ?_
            refine callsIn_wide.2 ((HTk.out X (HB.trans (hX.mono hsV))).mono ?_)
            rintro e Y ⟨rfl, hbY⟩
            exact ⟨_, rfl, rfl, hbY, trivial⟩
          · intro a X hX hS hD hJ hU
            obtain ⟨x0, x1, x2, x3⟩ := cells4 ((Posts.Ext.blk hX _ (lt_of_block hx)).trans hx)
            have d1 := Posts.slot (show a.eval (.tmp 1) = .pointer (some ⟨V, 0, none⟩) from hS.other 1 rfl)
            exact Posts.op_value (fun _ => trivial) rfl (Posts.wanted_yes rfl rfl rfl (show a.eval (.tmp 38) = .bool true from hD.1)) (by intro c h; cases h) rfl (by rw [hS.size]; simp) (v := .pointer (some ⟨V, 0, none⟩)) (by simp [execOp, d1,  go_sem, x0, x1, x2, x3, h19, h20]) rfl (hE.refl _) trivial
          · intro a X hX hS hD hJ hU
            obtain ⟨x0, x1, x2, x3⟩ := cells4 ((Posts.Ext.blk hX _ (lt_of_block hx)).trans hx)
            have d42 := Posts.slot (show a.eval (.tmp 42) = .pointer (some ⟨V, 0, none⟩) from hD.1)
            exact Posts.op_value (fun _ => trivial) rfl (Posts.wanted_yes rfl rfl rfl (show a.eval (.tmp 38) = .bool true from hD.2.1)) (by intro c h; cases h) rfl (by rw [hS.size]; simp) (v := .int .u8 op) (by simp [execOp, d42,  go_sem, x0, x1, x2, x3, h19, h20]) rfl (hE.refl _) trivial
          · intro a X hX hS hD hJ hU
            obtain ⟨x0, x1, x2, x3⟩ := cells4 ((Posts.Ext.blk hX _ (lt_of_block hx)).trans hx)
            have d43 := Posts.slot (show a.eval (.tmp 43) = .int .u8 op from hD.1)
            refine Posts.op_call (fun _ => trivial) rfl rfl (Posts.wanted_yes rfl rfl rfl (show a.eval (.tmp 38) = .bool true from hD.2.2.1)) (by intro c h; cases h) rfl (by rw [hS.size]; simp) 16 #[.int .u8 op] (by simp [d43, go_sem]) ?_
            refine callsIn_wide.2 ((HRTk.out X).mono ?_)
            rintro e Y ⟨rfl, hbY⟩
            exact ⟨_, rfl, rfl, hbY, trivial⟩
          · intro a X hX hS hD hJ hU
            obtain ⟨x0, x1, x2, x3⟩ := cells4 ((Posts.Ext.blk hX _ (lt_of_block hx)).trans hx)
            have d41 := Posts.slot (show a.eval (.tmp 41) = .int .i64 tk from hD.1)
            have d44 := Posts.slot (show a.eval (.tmp 44) = .int .i64 tk from hD.2.1)
            exact Posts.op_value (fun _ => trivial) rfl (Posts.wanted_yes rfl rfl rfl (show a.eval (.tmp 38) = .bool true from hD.2.2.1)) (by intro c h; cases h) rfl (by rw [hS.size]; simp) (v := .bool (true)) (by simp [execOp, d41, d44,  go_sem, x0, x1, x2, x3, h19, h20]) rfl (hE.refl _) trivial
          · intro a X hX hS hD hJ hU
            obtain ⟨x0, x1, x2, x3⟩ := cells4 ((Posts.Ext.blk hX _ (lt_of_block hx)).trans hx)
            have dc := Posts.slot (show a.eval (.tmp 38) = .bool (true) from hD.1)
            rcases Bool.eq_false_or_eq_true (true) with hg | hg
            · have dx := Posts.slot (show a.eval (.tmp 45) = .bool (true) from hD.2.1)
              exact Posts.op_value (fun _ => trivial) rfl rfl (by intro c h; cases h) rfl (by rw [hS.size]; simp) (v := .bool (true)) (by simp [execOp, dc, hg, dx,  go_sem, x0, x1, x2, x3, h19, h20]) rfl (hE.refl _) trivial
            · cases hg
          · intro a X hX hS hD hJ hU
            obtain ⟨x0, x1, x2, x3⟩ := cells4 ((Posts.Ext.blk hX _ (lt_of_block hx)).trans hx)
            have d46 := Posts.slot (show a.eval (.tmp 46) = .bool (true) from hD.1)
            exact Posts.op_value (fun _ => trivial) rfl rfl (by intro c h; cases h) rfl (by rw [hS.size]; simp) (v := .bool (true)) (by simp [execOp, d46,  go_sem, x0, x1, x2, x3, h19, h20]) rfl (hE.refl _) trivial
          · intro a X hX hS hD hJ hU
            obtain ⟨x0, x1, x2, x3⟩ := cells4 ((Posts.Ext.blk hX _ (lt_of_block hx)).trans hx)
            have d1 := Posts.slot (show a.eval (.tmp 1) = .pointer (some ⟨V, 0, none⟩) from hS.other 1 rfl)
            exact Posts.op_value (fun _ => trivial) rfl (Posts.wanted_yes rfl rfl rfl (show a.eval (.tmp 47) = .bool true from hD.1)) (by intro c h; cases h) rfl (by rw [hS.size]; simp) (v := .pointer (some ⟨V, 0, none⟩)) (by simp [execOp, d1,  go_sem, x0, x1, x2, x3, h19, h20]) rfl (hE.refl _) trivial
          · intro a X hX hS hD hJ hU
            obtain ⟨x0, x1, x2, x3⟩ := cells4 ((Posts.Ext.blk hX _ (lt_of_block hx)).trans hx)
            have d48 := Posts.slot (show a.eval (.tmp 48) = .pointer (some ⟨V, 0, none⟩) from hD.1)
            exact Posts.op_value (fun _ => trivial) rfl (Posts.wanted_yes rfl rfl rfl (show a.eval (.tmp 47) = .bool true from hD.2.1)) (by intro c h; cases h) rfl (by rw [hS.size]; simp) (v := .int .u8 op) (by simp [execOp, d48,  go_sem, x0, x1, x2, x3, h19, h20]) rfl (hE.refl _) trivial
          · intro a X hX hS hD hJ hU
            obtain ⟨x0, x1, x2, x3⟩ := cells4 ((Posts.Ext.blk hX _ (lt_of_block hx)).trans hx)
            have d49 := Posts.slot (show a.eval (.tmp 49) = .int .u8 op from hD.1)
            refine Posts.op_call (fun _ => trivial) rfl rfl (Posts.wanted_yes rfl rfl rfl (show a.eval (.tmp 47) = .bool true from hD.2.1)) (by intro c h; cases h) rfl (by rw [hS.size]; simp) 17 #[.int .u8 op] (by simp [d49, go_sem]) ?_
            refine callsIn_wide.2 ((HGv.out X (HB.trans (hX.mono hsV))).mono ?_)
            rintro e Y ⟨rfl, hbY⟩
            exact ⟨_, rfl, rfl, hbY, trivial⟩
          · intro a X hX hS hD hJ hU
            obtain ⟨x0, x1, x2, x3⟩ := cells4 ((Posts.Ext.blk hX _ (lt_of_block hx)).trans hx)
            have d1 := Posts.slot (show a.eval (.tmp 1) = .pointer (some ⟨V, 0, none⟩) from hS.other 1 rfl)
            exact Posts.op_value (fun _ => trivial) rfl (Posts.wanted_yes rfl rfl rfl (show a.eval (.tmp 47) = .bool true from hD.1)) (by intro c h; cases h) rfl (by rw [hS.size]; simp) (v := .pointer (some ⟨V, 0, none⟩)) (by simp [execOp, d1,  go_sem, x0, x1, x2, x3, h19, h20]) rfl (hE.refl _) trivial
          · intro a X hX hS hD hJ hU
            obtain ⟨x0, x1, x2, x3⟩ := cells4 ((Posts.Ext.blk hX _ (lt_of_block hx)).trans hx)
            have d51 := Posts.slot (show a.eval (.tmp 51) = .pointer (some ⟨V, 0, none⟩) from hD.1)
            exact Posts.op_value (fun _ => trivial) rfl (Posts.wanted_yes rfl rfl rfl (show a.eval (.tmp 47) = .bool true from hD.2.1)) (by intro c h; cases h) rfl (by rw [hS.size]; simp) (v := .int .u8 op) (by simp [execOp, d51,  go_sem, x0, x1, x2, x3, h19, h20]) rfl (hE.refl _) trivial
          · intro a X hX hS hD hJ hU
            obtain ⟨x0, x1, x2, x3⟩ := cells4 ((Posts.Ext.blk hX _ (lt_of_block hx)).trans hx)
            have d52 := Posts.slot (show a.eval (.tmp 52) = .int .u8 op from hD.1)
            refine Posts.op_call (fun _ => trivial) rfl rfl (Posts.wanted_yes rfl rfl rfl (show a.eval (.tmp 47) = .bool true from hD.2.2.1)) (by intro c h; cases h) rfl (by rw [hS.size]; simp) 18 #[.int .u8 op] (by simp [d52, go_sem]) ?_
            refine callsIn_wide.2 ((HRGv.out X).mono ?_)
            rintro e Y ⟨rfl, hbY⟩
            exact ⟨_, rfl, rfl, hbY, trivial⟩
          · intro a X hX hS hD hJ hU
            obtain ⟨x0, x1, x2, x3⟩ := cells4 ((Posts.Ext.blk hX _ (lt_of_block hx)).trans hx)
            have d50 := Posts.slot (show a.eval (.tmp 50) = .int .i64 gv from hD.1)
            have d53 := Posts.slot (show a.eval (.tmp 53) = .int .i64 gv from hD.2.1)
            exact Posts.op_value (fun _ => trivial) rfl (Posts.wanted_yes rfl rfl rfl (show a.eval (.tmp 47) = .bool true from hD.2.2.1)) (by intro c h; cases h) rfl (by rw [hS.size]; simp) (v := .bool (true)) (by simp [execOp, d50, d53,  go_sem, x0, x1, x2, x3, h19, h20]) rfl (hE.refl _) trivial
          · intro a X hX hS hD hJ hU
            obtain ⟨x0, x1, x2, x3⟩ := cells4 ((Posts.Ext.blk hX _ (lt_of_block hx)).trans hx)
            have dc := Posts.slot (show a.eval (.tmp 47) = .bool (true) from hD.1)
            rcases Bool.eq_false_or_eq_true (true) with hg | hg
            · have dx := Posts.slot (show a.eval (.tmp 54) = .bool (true) from hD.2.1)
              exact Posts.op_value (fun _ => trivial) rfl rfl (by intro c h; cases h) rfl (by rw [hS.size]; simp) (v := .bool (true)) (by simp [execOp, dc, hg, dx,  go_sem, x0, x1, x2, x3, h19, h20]) rfl (hE.refl _) trivial
            · cases hg
          · intro a X hX hS hD hJ hU
            obtain ⟨x0, x1, x2, x3⟩ := cells4 ((Posts.Ext.blk hX _ (lt_of_block hx)).trans hx)
            have d55 := Posts.slot (show a.eval (.tmp 55) = .bool (true) from hD.1)
            exact Posts.op_value (fun _ => trivial) rfl rfl (by intro c h; cases h) rfl (by rw [hS.size]; simp) (v := .bool (true)) (by simp [execOp, d55,  go_sem, x0, x1, x2, x3, h19, h20]) rfl (hE.refl _) trivial
          · intro a X hX hS hD hJ hU
            obtain ⟨x0, x1, x2, x3⟩ := cells4 ((Posts.Ext.blk hX _ (lt_of_block hx)).trans hx)
            have d1 := Posts.slot (show a.eval (.tmp 1) = .pointer (some ⟨V, 0, none⟩) from hS.other 1 rfl)
            exact Posts.op_value (fun _ => trivial) rfl (Posts.wanted_yes rfl rfl rfl (show a.eval (.tmp 56) = .bool true from hD.1)) (by intro c h; cases h) rfl (by rw [hS.size]; simp) (v := .pointer (some ⟨V, 0, none⟩)) (by simp [execOp, d1,  go_sem, x0, x1, x2, x3, h19, h20]) rfl (hE.refl _) trivial
          · intro a X hX hS hD hJ hU
            obtain ⟨x0, x1, x2, x3⟩ := cells4 ((Posts.Ext.blk hX _ (lt_of_block hx)).trans hx)
            have d57 := Posts.slot (show a.eval (.tmp 57) = .pointer (some ⟨V, 0, none⟩) from hD.1)
            exact Posts.op_value (fun _ => trivial) rfl (Posts.wanted_yes rfl rfl rfl (show a.eval (.tmp 56) = .bool true from hD.2.1)) (by intro c h; cases h) rfl (by rw [hS.size]; simp) (v := .int .u8 op) (by simp [execOp, d57,  go_sem, x0, x1, x2, x3, h19, h20]) rfl (hE.refl _) trivial
          · intro a X hX hS hD hJ hU
            obtain ⟨x0, x1, x2, x3⟩ := cells4 ((Posts.Ext.blk hX _ (lt_of_block hx)).trans hx)
            have d58 := Posts.slot (show a.eval (.tmp 58) = .int .u8 op from hD.1)
            refine Posts.op_call (fun _ => trivial) rfl rfl (Posts.wanted_yes rfl rfl rfl (show a.eval (.tmp 56) = .bool true from hD.2.1)) (by intro c h; cases h) rfl (by rw [hS.size]; simp) 19 #[.int .u8 op] (by simp [d58, go_sem]) ?_
            refine callsIn_wide.2 ((HJ.out X (HB.trans (hX.mono hsV))).mono ?_)
            rintro e Y ⟨rfl, hbY⟩
            exact ⟨_, rfl, rfl, hbY, trivial⟩
          · intro a X hX hS hD hJ hU
            obtain ⟨x0, x1, x2, x3⟩ := cells4 ((Posts.Ext.blk hX _ (lt_of_block hx)).trans hx)
            have d1 := Posts.slot (show a.eval (.tmp 1) = .pointer (some ⟨V, 0, none⟩) from hS.other 1 rfl)
            exact Posts.op_value (fun _ => trivial) rfl (Posts.wanted_yes rfl rfl rfl (show a.eval (.tmp 56) = .bool true from hD.1)) (by intro c h; cases h) rfl (by rw [hS.size]; simp) (v := .pointer (some ⟨V, 0, none⟩)) (by simp [execOp, d1,  go_sem, x0, x1, x2, x3, h19, h20]) rfl (hE.refl _) trivial
          · intro a X hX hS hD hJ hU
            obtain ⟨x0, x1, x2, x3⟩ := cells4 ((Posts.Ext.blk hX _ (lt_of_block hx)).trans hx)
            have d60 := Posts.slot (show a.eval (.tmp 60) = .pointer (some ⟨V, 0, none⟩) from hD.1)
            exact Posts.op_value (fun _ => trivial) rfl (Posts.wanted_yes rfl rfl rfl (show a.eval (.tmp 56) = .bool true from hD.2.1)) (by intro c h; cases h) rfl (by rw [hS.size]; simp) (v := .int .u8 op) (by simp [execOp, d60,  go_sem, x0, x1, x2, x3, h19, h20]) rfl (hE.refl _) trivial
          · intro a X hX hS hD hJ hU
            obtain ⟨x0, x1, x2, x3⟩ := cells4 ((Posts.Ext.blk hX _ (lt_of_block hx)).trans hx)
            have d61 := Posts.slot (show a.eval (.tmp 61) = .int .u8 op from hD.1)
            exact Posts.op_value (fun _ => trivial) rfl (Posts.wanted_yes rfl rfl rfl (show a.eval (.tmp 56) = .bool true from hD.2.1)) (by intro c h; cases h) rfl (by rw [hS.size]; simp) (v := .bool (false)) (by simp [execOp, d61,  go_sem, x0, x1, x2, x3, h19, h20]) rfl (hE.refl _) trivial
          · intro a X hX hS hD hJ hU
            obtain ⟨x0, x1, x2, x3⟩ := cells4 ((Posts.Ext.blk hX _ (lt_of_block hx)).trans hx)
            have d62 := Posts.slot (show a.eval (.tmp 62) = .bool (false) from hD.1)
            exact Posts.op_value (fun _ => trivial) rfl (Posts.wanted_yes rfl rfl rfl (show a.eval (.tmp 56) = .bool true from hD.2.2.1)) (by intro c h; cases h) rfl (by rw [hS.size]; simp) (v := .bool (false)) (by simp [execOp, d62,  go_sem, x0, x1, x2, x3, h19, h20]) rfl (hE.refl _) trivial
          · intro a X hX hS hD hJ hU
            obtain ⟨x0, x1, x2, x3⟩ := cells4 ((Posts.Ext.blk hX _ (lt_of_block hx)).trans hx)
            have d1 := Posts.slot (show a.eval (.tmp 1) = .pointer (some ⟨V, 0, none⟩) from hS.other 1 rfl)
            exact Posts.op_value (fun _ => trivial) rfl (Posts.wanted_yes rfl rfl rfl (show a.eval (.tmp 63) = .bool false from hD.1)) (by intro c h; cases h) rfl (by rw [hS.size]; simp) (v := .pointer (some ⟨V, 0, none⟩)) (by simp [execOp, d1,  go_sem, x0, x1, x2, x3, h19, h20]) rfl (hE.refl _) trivial
          · intro a X hX hS hD hJ hU
            obtain ⟨x0, x1, x2, x3⟩ := cells4 ((Posts.Ext.blk hX _ (lt_of_block hx)).trans hx)
            have d64 := Posts.slot (show a.eval (.tmp 64) = .pointer (some ⟨V, 0, none⟩) from hD.1)
            exact Posts.op_value (fun _ => trivial) rfl (Posts.wanted_yes rfl rfl rfl (show a.eval (.tmp 63) = .bool false from hD.2.1)) (by intro c h; cases h) rfl (by rw [hS.size]; simp) (v := .int .u8 op) (by simp [execOp, d64,  go_sem, x0, x1, x2, x3, h19, h20]) rfl (hE.refl _) trivial
          · intro a X hX hS hD hJ hU
            obtain ⟨x0, x1, x2, x3⟩ := cells4 ((Posts.Ext.blk hX _ (lt_of_block hx)).trans hx)
            have d65 := Posts.slot (show a.eval (.tmp 65) = .int .u8 op from hD.1)
            exact Posts.op_value (fun _ => trivial) rfl (Posts.wanted_yes rfl rfl rfl (show a.eval (.tmp 63) = .bool false from hD.2.1)) (by intro c h; cases h) rfl (by rw [hS.size]; simp) (v := .bool (jb)) (by simp [execOp, d65,  go_sem, x0, x1, x2, x3, h19, h20]) rfl (hE.refl _) trivial
          · intro a X hX hS hD hJ hU
            obtain ⟨x0, x1, x2, x3⟩ := cells4 ((Posts.Ext.blk hX _ (lt_of_block hx)).trans hx)
            have d63 := Posts.slot (show a.eval (.tmp 63) = .bool (false) from hD.1)
            have d66 := Posts.slot (show a.eval (.tmp 66) = .bool (jb) from hD.2.1)
            exact Posts.op_value (fun _ => trivial) rfl (Posts.wanted_yes rfl rfl rfl (show a.eval (.tmp 56) = .bool true from hD.2.2.1)) (by intro c h; cases h) rfl (by rw [hS.size]; simp) (v := .bool (jb)) (by simp [execOp, d63, d66, go_sem]) rfl (hE.refl _) trivial
          · intro a X hX hS hD hJ hU
            obtain ⟨x0, x1, x2, x3⟩ := cells4 ((Posts.Ext.blk hX _ (lt_of_block hx)).trans hx)
            have d59 := Posts.slot (show a.eval (.tmp 59) = .bool (jb) from hD.1)
            have d67 := Posts.slot (show a.eval (.tmp 67) = .bool (jb) from hD.2.1)
            exact Posts.op_value (fun _ => trivial) rfl (Posts.wanted_yes rfl rfl rfl (show a.eval (.tmp 56) = .bool true from hD.2.2.1)) (by intro c h; cases h) rfl (by rw [hS.size]; simp) (v := .bool (true)) (by simp [execOp, d59, d67,  go_sem, x0, x1, x2, x3, h19, h20]) rfl (hE.refl _) trivial
          · intro a X hX hS hD hJ hU
            obtain ⟨x0, x1, x2, x3⟩ := cells4 ((Posts.Ext.blk hX _ (lt_of_block hx)).trans hx)
            have dc := Posts.slot (show a.eval (.tmp 56) = .bool (true) from hD.1)
            rcases Bool.eq_false_or_eq_true (true) with hg | hg
            · have dx := Posts.slot (show a.eval (.tmp 68) = .bool (true) from hD.2.1)
              exact Posts.op_value (fun _ => trivial) rfl rfl (by intro c h; cases h) rfl (by rw [hS.size]; simp) (v := .bool (true)) (by simp [execOp, dc, hg, dx,  go_sem, x0, x1, x2, x3, h19, h20]) rfl (hE.refl _) trivial
            · cases hg
        · intro a0 Y hY hS hJt hL
          have p26 := Posts.slot (show a0.eval (.tmp 26) = .agg #[.int .u8 op, .int .u8 ia, .int .u16 ib, .int .u32 ic] from hL.1)
          have p27 := Posts.slot (show a0.eval (.tmp 27) = .bool (m) from hL.2.1)
          have p28 := Posts.slot (show a0.eval (.tmp 28) = .agg #[.int .u8 op, .int .u8 ia, .int .u16 ib, .int .u32 ic] from hL.2.2.1)
          have p29 := Posts.slot (show a0.eval (.tmp 29) = .bool (m) from hL.2.2.2.1)
          have p30 := Posts.slot (show a0.eval (.tmp 30) = .bool (true) from hL.2.2.2.2.1)
          have p31 := Posts.slot (show a0.eval (.tmp 31) = .bool (true) from hL.2.2.2.2.2.1)
          have p32 := Posts.slot (show a0.eval (.tmp 32) = .agg #[.int .u8 op, .int .u8 ia, .int .u16 ib, .int .u32 ic] from hL.2.2.2.2.2.2.1)
          have p33 := Posts.slot (show a0.eval (.tmp 33) = .string S from hL.2.2.2.2.2.2.2.1)
          have p34 := Posts.slot (show a0.eval (.tmp 34) = .agg #[.int .u8 op, .int .u8 ia, .int .u16 ib, .int .u32 ic] from hL.2.2.2.2.2.2.2.2.1)
          have p35 := Posts.slot (show a0.eval (.tmp 35) = .string S from hL.2.2.2.2.2.2.2.2.2.1)
          have p36 := Posts.slot (show a0.eval (.tmp 36) = .bool (true) from hL.2.2.2.2.2.2.2.2.2.2.1)
          have p37 := Posts.slot (show a0.eval (.tmp 37) = .bool (true) from hL.2.2.2.2.2.2.2.2.2.2.2.1)
          have p38 := Posts.slot (show a0.eval (.tmp 38) = .bool (true) from hL.2.2.2.2.2.2.2.2.2.2.2.2.1)
          have p39 := Posts.slot (show a0.eval (.tmp 39) = .pointer (some ⟨V, 0, none⟩) from hL.2.2.2.2.2.2.2.2.2.2.2.2.2.1)
          have p40 := Posts.slot (show a0.eval (.tmp 40) = .int .u8 op from hL.2.2.2.2.2.2.2.2.2.2.2.2.2.2.1)
          have p41 := Posts.slot (show a0.eval (.tmp 41) = .int .i64 tk from hL.2.2.2.2.2.2.2.2.2.2.2.2.2.2.2.1)
          have p42 := Posts.slot (show a0.eval (.tmp 42) = .pointer (some ⟨V, 0, none⟩) from hL.2.2.2.2.2.2.2.2.2.2.2.2.2.2.2.2.1)
          have p43 := Posts.slot (show a0.eval (.tmp 43) = .int .u8 op from hL.2.2.2.2.2.2.2.2.2.2.2.2.2.2.2.2.2.1)
          have p44 := Posts.slot (show a0.eval (.tmp 44) = .int .i64 tk from hL.2.2.2.2.2.2.2.2.2.2.2.2.2.2.2.2.2.2.1)
          have p45 := Posts.slot (show a0.eval (.tmp 45) = .bool (true) from hL.2.2.2.2.2.2.2.2.2.2.2.2.2.2.2.2.2.2.2.1)
          have p46 := Posts.slot (show a0.eval (.tmp 46) = .bool (true) from hL.2.2.2.2.2.2.2.2.2.2.2.2.2.2.2.2.2.2.2.2.1)
          have p47 := Posts.slot (show a0.eval (.tmp 47) = .bool (true) from hL.2.2.2.2.2.2.2.2.2.2.2.2.2.2.2.2.2.2.2.2.2.1)
          have p48 := Posts.slot (show a0.eval (.tmp 48) = .pointer (some ⟨V, 0, none⟩) from hL.2.2.2.2.2.2.2.2.2.2.2.2.2.2.2.2.2.2.2.2.2.2.1)
          have p49 := Posts.slot (show a0.eval (.tmp 49) = .int .u8 op from hL.2.2.2.2.2.2.2.2.2.2.2.2.2.2.2.2.2.2.2.2.2.2.2.1)
          have p50 := Posts.slot (show a0.eval (.tmp 50) = .int .i64 gv from hL.2.2.2.2.2.2.2.2.2.2.2.2.2.2.2.2.2.2.2.2.2.2.2.2.1)
          have p51 := Posts.slot (show a0.eval (.tmp 51) = .pointer (some ⟨V, 0, none⟩) from hL.2.2.2.2.2.2.2.2.2.2.2.2.2.2.2.2.2.2.2.2.2.2.2.2.2.1)
          have p52 := Posts.slot (show a0.eval (.tmp 52) = .int .u8 op from hL.2.2.2.2.2.2.2.2.2.2.2.2.2.2.2.2.2.2.2.2.2.2.2.2.2.2.1)
          have p53 := Posts.slot (show a0.eval (.tmp 53) = .int .i64 gv from hL.2.2.2.2.2.2.2.2.2.2.2.2.2.2.2.2.2.2.2.2.2.2.2.2.2.2.2.1)
          have p54 := Posts.slot (show a0.eval (.tmp 54) = .bool (true) from hL.2.2.2.2.2.2.2.2.2.2.2.2.2.2.2.2.2.2.2.2.2.2.2.2.2.2.2.2.1)
          have p55 := Posts.slot (show a0.eval (.tmp 55) = .bool (true) from hL.2.2.2.2.2.2.2.2.2.2.2.2.2.2.2.2.2.2.2.2.2.2.2.2.2.2.2.2.2.1)
          have p56 := Posts.slot (show a0.eval (.tmp 56) = .bool (true) from hL.2.2.2.2.2.2.2.2.2.2.2.2.2.2.2.2.2.2.2.2.2.2.2.2.2.2.2.2.2.2.1)
          have p57 := Posts.slot (show a0.eval (.tmp 57) = .pointer (some ⟨V, 0, none⟩) from hL.2.2.2.2.2.2.2.2.2.2.2.2.2.2.2.2.2.2.2.2.2.2.2.2.2.2.2.2.2.2.2.1)
          have p58 := Posts.slot (show a0.eval (.tmp 58) = .int .u8 op from hL.2.2.2.2.2.2.2.2.2.2.2.2.2.2.2.2.2.2.2.2.2.2.2.2.2.2.2.2.2.2.2.2.1)
          have p59 := Posts.slot (show a0.eval (.tmp 59) = .bool (jb) from hL.2.2.2.2.2.2.2.2.2.2.2.2.2.2.2.2.2.2.2.2.2.2.2.2.2.2.2.2.2.2.2.2.2.1)
          have p60 := Posts.slot (show a0.eval (.tmp 60) = .pointer (some ⟨V, 0, none⟩) from hL.2.2.2.2.2.2.2.2.2.2.2.2.2.2.2.2.2.2.2.2.2.2.2.2.2.2.2.2.2.2.2.2.2.2.1)
          have p61 := Posts.slot (show a0.eval (.tmp 61) = .int .u8 op from hL.2.2.2.2.2.2.2.2.2.2.2.2.2.2.2.2.2.2.2.2.2.2.2.2.2.2.2.2.2.2.2.2.2.2.2.1)
          have p62 := Posts.slot (show a0.eval (.tmp 62) = .bool (false) from hL.2.2.2.2.2.2.2.2.2.2.2.2.2.2.2.2.2.2.2.2.2.2.2.2.2.2.2.2.2.2.2.2.2.2.2.2.1)
          have p63 := Posts.slot (show a0.eval (.tmp 63) = .bool (false) from hL.2.2.2.2.2.2.2.2.2.2.2.2.2.2.2.2.2.2.2.2.2.2.2.2.2.2.2.2.2.2.2.2.2.2.2.2.2.1)
          have p64 := Posts.slot (show a0.eval (.tmp 64) = .pointer (some ⟨V, 0, none⟩) from hL.2.2.2.2.2.2.2.2.2.2.2.2.2.2.2.2.2.2.2.2.2.2.2.2.2.2.2.2.2.2.2.2.2.2.2.2.2.2.1)
          have p65 := Posts.slot (show a0.eval (.tmp 65) = .int .u8 op from hL.2.2.2.2.2.2.2.2.2.2.2.2.2.2.2.2.2.2.2.2.2.2.2.2.2.2.2.2.2.2.2.2.2.2.2.2.2.2.2.1)
          have p66 := Posts.slot (show a0.eval (.tmp 66) = .bool (jb) from hL.2.2.2.2.2.2.2.2.2.2.2.2.2.2.2.2.2.2.2.2.2.2.2.2.2.2.2.2.2.2.2.2.2.2.2.2.2.2.2.2.1)
          have p67 := Posts.slot (show a0.eval (.tmp 67) = .bool (jb) from hL.2.2.2.2.2.2.2.2.2.2.2.2.2.2.2.2.2.2.2.2.2.2.2.2.2.2.2.2.2.2.2.2.2.2.2.2.2.2.2.2.2.1)
          have p68 := Posts.slot (show a0.eval (.tmp 68) = .bool (true) from hL.2.2.2.2.2.2.2.2.2.2.2.2.2.2.2.2.2.2.2.2.2.2.2.2.2.2.2.2.2.2.2.2.2.2.2.2.2.2.2.2.2.2.1)
          have p69 := Posts.slot (show a0.eval (.tmp 69) = .bool (true) from hL.2.2.2.2.2.2.2.2.2.2.2.2.2.2.2.2.2.2.2.2.2.2.2.2.2.2.2.2.2.2.2.2.2.2.2.2.2.2.2.2.2.2.2.1)
          have hfr := hS.frame [26, 27, 28, 29, 30, 31, 32, 33, 34, 35, 36, 37, 38, 39, 40, 41, 42, 43, 44, 45, 46, 47, 48, 49, 50, 51, 52, 53, 54, 55, 56, 57, 58, 59, 60, 61, 62, 63, 64, 65, 66, 67, 68, 69, 2] (fun t ht => by simp [Posts.isDst] at ht; first | (rcases ht with h | h | h | h | h | h | h | h | h | h | h | h | h | h | h | h | h | h | h | h | h | h | h | h | h | h | h | h | h | h | h | h | h | h | h | h | h | h | h | h | h | h | h | h | h <;> subst h <;> simp) | (subst ht; simp))
          simp only [List.foldl_cons, List.foldl_nil] at hfr
          have hdf := hS.defers
          simp only [Array.getD_eq_getD_getElem?] at hfr
          clear hL hS
          generalize a0.tmps[26]?.getD undef = v26 at *
          generalize a0.tmps[27]?.getD undef = v27 at *
          generalize a0.tmps[28]?.getD undef = v28 at *
          generalize a0.tmps[29]?.getD undef = v29 at *
          generalize a0.tmps[30]?.getD undef = v30 at *
          generalize a0.tmps[31]?.getD undef = v31 at *
          generalize a0.tmps[32]?.getD undef = v32 at *
          generalize a0.tmps[33]?.getD undef = v33 at *
          generalize a0.tmps[34]?.getD undef = v34 at *
          generalize a0.tmps[35]?.getD undef = v35 at *
          generalize a0.tmps[36]?.getD undef = v36 at *
          generalize a0.tmps[37]?.getD undef = v37 at *
          generalize a0.tmps[38]?.getD undef = v38 at *
          generalize a0.tmps[39]?.getD undef = v39 at *
          generalize a0.tmps[40]?.getD undef = v40 at *
          generalize a0.tmps[41]?.getD undef = v41 at *
          generalize a0.tmps[42]?.getD undef = v42 at *
          generalize a0.tmps[43]?.getD undef = v43 at *
          generalize a0.tmps[44]?.getD undef = v44 at *
          generalize a0.tmps[45]?.getD undef = v45 at *
          generalize a0.tmps[46]?.getD undef = v46 at *
          generalize a0.tmps[47]?.getD undef = v47 at *
          generalize a0.tmps[48]?.getD undef = v48 at *
          generalize a0.tmps[49]?.getD undef = v49 at *
          generalize a0.tmps[50]?.getD undef = v50 at *
          generalize a0.tmps[51]?.getD undef = v51 at *
          generalize a0.tmps[52]?.getD undef = v52 at *
          generalize a0.tmps[53]?.getD undef = v53 at *
          generalize a0.tmps[54]?.getD undef = v54 at *
          generalize a0.tmps[55]?.getD undef = v55 at *
          generalize a0.tmps[56]?.getD undef = v56 at *
          generalize a0.tmps[57]?.getD undef = v57 at *
          generalize a0.tmps[58]?.getD undef = v58 at *
          generalize a0.tmps[59]?.getD undef = v59 at *
          generalize a0.tmps[60]?.getD undef = v60 at *
          generalize a0.tmps[61]?.getD undef = v61 at *
          generalize a0.tmps[62]?.getD undef = v62 at *
          generalize a0.tmps[63]?.getD undef = v63 at *
          generalize a0.tmps[64]?.getD undef = v64 at *
          generalize a0.tmps[65]?.getD undef = v65 at *
          generalize a0.tmps[66]?.getD undef = v66 at *
          generalize a0.tmps[67]?.getD undef = v67 at *
          generalize a0.tmps[68]?.getD undef = v68 at *
          generalize a0.tmps[69]?.getD undef = v69 at *
          generalize a0.tmps[2]?.getD undef = v2 at *
          obtain rfl := p26
          obtain rfl := p27
          obtain rfl := p28
          obtain rfl := p29
          obtain rfl := p30
          obtain rfl := p31
          obtain rfl := p32
          obtain rfl := p33
          obtain rfl := p34
          obtain rfl := p35
          obtain rfl := p36
          obtain rfl := p37
          obtain rfl := p38
          obtain rfl := p39
          obtain rfl := p40
          obtain rfl := p41
          obtain rfl := p42
          obtain rfl := p43
          obtain rfl := p44
          obtain rfl := p45
          obtain rfl := p46
          obtain rfl := p47
          obtain rfl := p48
          obtain rfl := p49
          obtain rfl := p50
          obtain rfl := p51
          obtain rfl := p52
          obtain rfl := p53
          obtain rfl := p54
          obtain rfl := p55
          obtain rfl := p56
          obtain rfl := p57
          obtain rfl := p58
          obtain rfl := p59
          obtain rfl := p60
          obtain rfl := p61
          obtain rfl := p62
          obtain rfl := p63
          obtain rfl := p64
          obtain rfl := p65
          obtain rfl := p66
          obtain rfl := p67
          obtain rfl := p68
          obtain rfl := p69
          obtain ⟨tm, df⟩ := a0
          simp only [List.setIfInBounds_toArray, List.set_cons_succ, List.set_cons_zero] at hfr hdf
          subst hfr
          subst hdf
          refine Posts.tail_op 44 (by kernel_rfl) (Posts.op_val (fun _ => trivial) rfl rfl (by intro c h; cases h) (v := .bool true) (Y := Y) (by simp [execOp, Act.eval, go_sem]) ?_)
          refine ⟨by kernel_rfl, ?_⟩
          simp only [Exit.inBlock, Exit.then]
          refine hK _ _ ?_
          go_wp2_with fail
          go_ret
          exact ⟨rfl, by rw [HV.out]; exact HB.trans (hY.mono hsV)⟩
/-- what the walk gives, for every argument, in every world that holds the tables -/
theorem contract (H : Type) (enc : TypeId × Value → H) (W : World) (base : Nat) (args : Array Value) (ds gs : List (DataW H)) (before : List MemPlace)
    (hval : ∀ (j : Nat) t v, Tryd.f3.params[j]? = some t → args[j]? = some v → Value.okWide Tryd.prog W .any base t v)
    (hW : DataW.Whole enc Tryd.prog Tryd.f3.params.toList Rows.isaInstrsSpec.vars false W args.toList ds gs before) (hL : laidMetH Tryd.prog Rows.isaInstrsRow.laid W) :
    Calls Tryd.prog 3 args W fun e W' => ∃ v, e = .returned v ∧ Rows.isaInstrsSpec.post enc Tryd.prog Tryd.f3 false true false false W args v W' := by
  have hW' := hW
  obtain ⟨p, q, hA0, hV, rfl, hfz, hnd⟩ := hW
  have hA : DataW.TrodAll enc Tryd.prog W 0 (fun _ => true) true Tryd.f3.params.toList args.toList ds p := hA0
  rw [Tryd.params3] at hA hval
  obtain ⟨v0, vs0, d0, ds0, p0, q0, hargs, rfl, rfl, h0, r0⟩ := trodAll_cons hA
  obtain ⟨rfl, rfl, rfl⟩ := trodAll_nil r0
  obtain rfl : args = #[v0] := by cases args; simp_all
  obtain ⟨rfl, rfl⟩ := trodVars_none hV
  have k0 := h0
  have lt0 : ∀ x ∈ p0, x.block < W.heap.size := by obtain ⟨m, hm⟩ := k0; exact DataW.trod_lt m _ _ _ hm
  obtain ⟨c0, rfl, _⟩ := okWide_struct Tryd.underlying25 (hval 0 25 v0 rfl rfl)
  obtain ⟨z0, rfl, w0⟩ : ∃ i : Iv, c0 = #[.int .u8 i.op, .int .u8 i.a, .int .u16 i.b, .int .u32 i.c] ∧ i.wf := by
    obtain ⟨fuel, hf⟩ := h0
    obtain ⟨i, hcs, h1⟩ := open_instr hf
    simp [Value.cells] at hcs
    exact ⟨i, by cases c0; simp_all, h1⟩
  clear hA0
  refine (walk W (tabs hL) z0 w0).mono fun e W' ⟨he, bel⟩ => ?_
  subst he
  exact ⟨_, rfl, _, _, _, [], _, [], hW', trodAll_mk1 (shut_bool Tryd.underlying4 _), (trodAll_cons_mk (Below.trod laidOut (by kernel_rfl) (of_decide_eq_true (by kernel_rfl)) k0 bel lt0) trodAll_mk0), rfl, bel.frame _, fun h => by cases h⟩

theorem reads (os : Os) {H : Type} (enc : TypeId × Value → H) : ∃ places, DataW.whole enc Tryd.prog ((laidWorld os).forCall (fun _ _ => 0) ⟨#[], (#[Value.agg #[.int .u8 0, .int .u8 0, .int .u16 0, .int .u32 0]] : Array Value), []⟩).memory Tryd.f3.params.toList Rows.isaInstrsSpec.vars false (#[Value.agg #[.int .u8 0, .int .u8 0, .int .u16 0, .int .u32 0]] : Array Value).toList 8 = some ([.agg [.lit (.int .u8 0), .lit (.int .u8 0), .lit (.int .u16 0), .lit (.int .u32 0)]], [], places) :=
  ⟨[], by kernel_rfl⟩

set_option maxRecDepth 100000 in
theorem lifted (os : Os) (started : os.Started) (H : Type) (enc : TypeId × Value → H) (F : Stop.Interp) :
    ReturnsInHanded {} Tryd.checked os 3 .any ((OpenSpec.ofChange Rows.isaInstrsSpec).preRow enc Tryd.prog Tryd.f3 Rows.isaInstrsRow.domain false Rows.isaInstrsRow.laid) (((OpenSpec.ofChange Rows.isaInstrsSpec).at F).post enc Tryd.prog Tryd.f3 false true false false) := by
  obtain ⟨places, hx⟩ := reads os enc
  refine returnsInHanded_of_row (C := Tryd.checked) (s := OpenSpec.ofChange Rows.isaInstrsSpec) own started (by kernel_rfl) Tryd.func3
    (witness_row_at (enc := enc) (C := Tryd.checked) false (laidWorld os) (#[Value.agg #[.int .u8 0, .int .u8 0, .int .u16 0, .int .u32 0]] : Array Value) rfl (by kernel_rfl) (by kernel_rfl) (by kernel_rfl)
      (OpenSpec.preRow_of_cond 8 hx (by kernel_rfl) (fun k hk => by cases hk) (by kernel_rfl) (laid_met os _))) ?_
  intro W base args ds gs before hval hW _ _ _ hL _ _
  exact contract H enc W base args ds gs before hval hW hL

theorem said : Rows.IsaInstrsSaid :=
  OpenClaim.holds_of_cond 3 Tryd.f3 rfl rfl rfl rfl rfl rfl rfl ⟨rfl, rfl, rfl, rfl, rfl⟩ rfl rfl rfl rfl rfl (by kernel_rfl) Tryd.func3 (by kernel_rfl)
    (of_decide_eq_true (by kernel_rfl)) (by unfold Func.isWrapper; first | (rw [if_pos (by decide +kernel)]; kernel_rfl) | (rw [if_neg (by decide +kernel)]; exact ⟨rfl, rfl⟩))
    (fun os started H enc _ F => by rw [OpenClaim.pre_eq_preRow]; exact lifted os started H enc F)

theorem plain (f : FuncId) (fn : Func) (hf : Tryd.pinned.checked.prog.funcNamed "tappet/tappetlaw09.IsaInstrs" = some f) (hfn : Tryd.pinned.checked.prog.funcs[f]? = some fn) :
    false = Tryd.pinned.checked.prog.looks [] ∧ ∀ (j : Nat) t, fn.params[j]? = some t → Tryd.pinned.checked.prog.wantsStandIn t = false := by
  obtain rfl : f = 3 := Option.some.inj ((show Tryd.prog.funcNamed "tappet/tappetlaw09.IsaInstrs" = some 3 by kernel_rfl).symm.trans hf) |>.symm
  obtain rfl : fn = Tryd.f3 := (Option.some.inj (Tryd.func3.symm.trans hfn)).symm
  refine ⟨by kernel_rfl, fun j t ht => ?_⟩
  rw [Tryd.params3] at ht
  have hm := Array.mem_of_getElem? ht
  simp at hm
  subst hm
  · exact (show Tryd.prog.wantsStandIn 25 = false by kernel_rfl)

theorem proved : Rows.IsaInstrsCardSaid :=
  Claim7.holds_tied_plain_at .later [] _ _ _ _ said (fun _ h => by cases h) (by kernel_rfl) (fun _ h => by cases h) isaInstrs_row_tie rfl ⟨rfl, rfl⟩ (by kernel_rfl) rfl plain (by kernel_rfl)
#print axioms proved
end Go.Proofs.YtnaefpjbeidkgaaDoor.isaInstrs
