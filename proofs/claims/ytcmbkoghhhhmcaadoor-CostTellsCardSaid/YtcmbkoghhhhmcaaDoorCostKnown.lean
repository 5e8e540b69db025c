/- The law's own small test is met. (Made by tools/gen_costknown.py.) -/
import Derived.Test.YtcmbkoghhhhmcaaDoorCostB
import Derived.Test.YtcmbkoghhhhmcaaDoorCostM
import Derived.Test.YtcmbkoghhhhmcaaDoorRightsPosts
import Derived.Test.YtcmbkoghhhhmcaaDoorRightsTmps
import Derived.Great.BuildSlice
namespace Go.Proofs.YtcmbkoghhhhmcaaDoor
open Go.ChangeShapes Go.WideShapes Go.ChangeAt Go.RowKit
namespace Cst
open Isa Flw

set_option linter.unusedVariables false
set_option linter.unusedSimpArgs false
/-- a program in memory; From's answer of one of them -/
def irowP (l : List Iv) (n : Nat) (v : Value) (X : World) : Prop := ∃ b, v = .slice (some ⟨b, 0, none⟩) n n ∧ IRow X (some ⟨b, 0, none⟩) n l
def ansU (v : Value) (X : World) : Prop := ∃ a c, v = .tuple #[.slice a 2 c, .int .i64 0, .int .i64 0] ∧ UR X a 2 [1, 0]
def rowU (v : Value) (X : World) : Prop := ∃ a c, v = .slice a 2 c ∧ UR X a 2 [1, 0]
theorem irowP_stable (l : List Iv) (n : Nat) : Posts.Stable Posts.Ext (irowP l n) := by
  rintro v X Y ⟨b, h1, h2⟩ hE
  exact ⟨b, h1, h2.below hE (Nat.le_refl _)⟩
theorem ansU_stable : Posts.Stable Posts.Ext ansU := by
  rintro v X Y ⟨a, c, h1, h2⟩ hE
  exact ⟨a, c, h1, h2.below hE (Nat.le_refl _)⟩
theorem rowU_stable : Posts.Stable Posts.Ext rowU := by
  rintro v X Y ⟨a, c, h1, h2⟩ hE
  exact ⟨a, c, h1, h2.below hE (Nat.le_refl _)⟩
set_option maxRecDepth 100000 in
set_option maxHeartbeats 3200000 in
theorem known_of (hF : FromC) (hWo : WorstC) (hP : PathC) : KnownC := by
  intro w hT
  have HT := Lib.hid (fun W (hb : Below w.heap.size w W) => hT.below hb (Nat.le_refl _))
  have HD := Lib.hid do_any
  clear hT
  go_enter Tryd.func6, Tryd.ntmps6
  go_wp2_with fail
  refine (HD.out 27 0 w).mono ?_
  rintro e wa ⟨rfl, hba⟩
  have HB0 := Lib.hid hba
  clear hba
  go_upto_region 2 with fail
  have hQ := alloc_new wa (.cells #[.int .u8 27, .int .u8 0, .int .u16 0, .int .u32 0] 46)
  have HB1 : Hid (Below w.heap.size w (wa.alloc (.cells #[.int .u8 27, .int .u8 0, .int .u16 0, .int .u32 0] 46))) := HB0.out.alloc HB0.out.size _
  generalize (wa.alloc (.cells #[.int .u8 27, .int .u8 0, .int .u16 0, .int .u32 0] 46)) = W1 at *
  obtain ⟨P1, hP1⟩ : ∃ x, wa.heap.size = x := ⟨_, rfl⟩
  rw [hP1] at hQ ⊢
  have HQ := Lib.hid hQ
  have HBk := Lib.hid (fun W (hb : Below W1.heap.size W1 W) => (hb.block P1 (lt_of_block HQ.out)).trans HQ.out)
  have HAns := Lib.hid (fun (l : List Iv) (n : Nat) W (hb : Below W1.heap.size W1 W) (b : Nat) (hr : IRow W (some ⟨b, 0, none⟩) n l) (hn : n ≤ 1000) => hF l _ n n W (HT.out W (HB1.out.trans (hb.mono HB1.out.size))) (Nat.le_refl _) (by omega) hr)
  have HMst := Lib.hid (fun (l : List Iv) (n : Nat) W (hb : Below W1.heap.size W1 W) (b : Nat) (hr : IRow W (some ⟨b, 0, none⟩) n l) (hn : n ≤ 1000) => hWo l _ n n W (HT.out W (HB1.out.trans (hb.mono HB1.out.size))) (Nat.le_refl _) (by omega) hr)
  have HPth := Lib.hid (fun (l : List Iv) (n : Nat) W (hb : Below W1.heap.size W1 W) (b : Nat) (hr : IRow W (some ⟨b, 0, none⟩) n l) (hn : n ≤ 1000) => hP l _ n n W (HT.out W (HB1.out.trans (hb.mono HB1.out.size))) (Nat.le_refl _) (by omega) hr)
  clear hQ hP1 HB0 hF hWo hP
  have hE := Posts.ext_rel
  refine (wpIn_wide (n := 0)).1 (Posts.wpIn_region_tail hE 5 2 (Posts.At [Posts.is (.agg #[.int .u8 1, .int .u8 0, .int .u16 0, .int .u32 0]), Posts.is (.agg #[.int .u8 20, .int .u8 0, .int .u16 0, .int .u32 4]), Posts.is (.agg #[.int .u8 2, .int .u8 0, .int .u16 0, .int .u32 0]), Posts.is (.agg #[.int .u8 27, .int .u8 0, .int .u16 0, .int .u32 0]), Posts.is (.agg #[.int .u8 27, .int .u8 0, .int .u16 0, .int .u32 0])]) (fun _ _ => True) (by kernel_rfl) (by decide) (by kernel_rfl) (by kernel_rfl) (by kernel_rfl)
    (Posts.stable_at _ (by repeat' (first | exact trivial | (refine And.intro ?_ ?_) | exact Posts.is_stable _ | exact Posts.on_stable _ _ | assumption))) trivial ?_ ?_)
  · refine ⟨?_, ?_, ?_, ?_, ?_, trivial⟩
    · intro a X hX hS hD hJ hU
      obtain ⟨x0, x1, x2, x3⟩ := cells4 ((Posts.Ext.blk hX _ (lt_of_block HQ.out)).trans HQ.out)
      refine Posts.op_call (fun _ => trivial) rfl rfl rfl (by intro c h; cases h) rfl (by rw [hS.size]; simp) 16 #[.int .u8 1, .int .u32 0] (by simp [execOp, go_sem]) ?_
      refine callsIn_wide.2 ((HD.out 1 0 X).mono ?_)
      rintro e Y ⟨rfl, hb⟩
      exact ⟨_, rfl, rfl, hb, trivial⟩
    · intro a X hX hS hD hJ hU
      obtain ⟨x0, x1, x2, x3⟩ := cells4 ((Posts.Ext.blk hX _ (lt_of_block HQ.out)).trans HQ.out)
      refine Posts.op_call (fun _ => trivial) rfl rfl rfl (by intro c h; cases h) rfl (by rw [hS.size]; simp) 16 #[.int .u8 20, .int .u32 4] (by simp [execOp, go_sem]) ?_
      refine callsIn_wide.2 ((HD.out 20 4 X).mono ?_)
      rintro e Y ⟨rfl, hb⟩
      exact ⟨_, rfl, rfl, hb, trivial⟩
    · intro a X hX hS hD hJ hU
      obtain ⟨x0, x1, x2, x3⟩ := cells4 ((Posts.Ext.blk hX _ (lt_of_block HQ.out)).trans HQ.out)
      refine Posts.op_call (fun _ => trivial) rfl rfl rfl (by intro c h; cases h) rfl (by rw [hS.size]; simp) 16 #[.int .u8 2, .int .u32 0] (by simp [execOp, go_sem]) ?_
      refine callsIn_wide.2 ((HD.out 2 0 X).mono ?_)
      rintro e Y ⟨rfl, hb⟩
      exact ⟨_, rfl, rfl, hb, trivial⟩
    · intro a X hX hS hD hJ hU
      obtain ⟨x0, x1, x2, x3⟩ := cells4 ((Posts.Ext.blk hX _ (lt_of_block HQ.out)).trans HQ.out)
      have d1 := Posts.slot (show a.eval (.tmp 1) = .pointer (some ⟨P1, 0, none⟩) from hS.other 1 rfl)
      exact Posts.op_value (fun _ => trivial) rfl rfl (by intro c h; cases h) rfl (by rw [hS.size]; simp) (v := .agg #[.int .u8 27, .int .u8 0, .int .u16 0, .int .u32 0]) (by simp [execOp, d1, x0, x1, x2, x3, go_sem]) rfl (hE.refl _) trivial
    · intro a X hX hS hD hJ hU
      obtain ⟨x0, x1, x2, x3⟩ := cells4 ((Posts.Ext.blk hX _ (lt_of_block HQ.out)).trans HQ.out)
      have d1 := Posts.slot (show a.eval (.tmp 1) = .pointer (some ⟨P1, 0, none⟩) from hS.other 1 rfl)
      exact Posts.op_value (fun _ => trivial) rfl rfl (by intro c h; cases h) rfl (by rw [hS.size]; simp) (v := .agg #[.int .u8 27, .int .u8 0, .int .u16 0, .int .u32 0]) (by simp [execOp, d1, x0, x1, x2, x3, go_sem]) rfl (hE.refl _) trivial
  · intro a0 Y hY hS hJt hL
    have p13 := Posts.slot (show a0.eval (.tmp 13) = .agg #[.int .u8 1, .int .u8 0, .int .u16 0, .int .u32 0] from hL.1)
    have p14 := Posts.slot (show a0.eval (.tmp 14) = .agg #[.int .u8 20, .int .u8 0, .int .u16 0, .int .u32 4] from hL.2.1)
    have p15 := Posts.slot (show a0.eval (.tmp 15) = .agg #[.int .u8 2, .int .u8 0, .int .u16 0, .int .u32 0] from hL.2.2.1)
    have p16 := Posts.slot (show a0.eval (.tmp 16) = .agg #[.int .u8 27, .int .u8 0, .int .u16 0, .int .u32 0] from hL.2.2.2.1)
    have p17 := Posts.slot (show a0.eval (.tmp 17) = .agg #[.int .u8 27, .int .u8 0, .int .u16 0, .int .u32 0] from hL.2.2.2.2.1)
    have hfr := hS.frame [13, 14, 15, 16, 17, 18, 2] (fun t ht => by simp [Posts.isDst] at ht; first | (rcases ht with h | h | h | h | h | h | h <;> subst h <;> simp) | (subst ht; simp))
    simp only [List.foldl_cons, List.foldl_nil] at hfr
    have hdf := hS.defers
    simp only [Array.getD_eq_getD_getElem?] at hfr
    clear hL hS
    generalize a0.tmps[13]?.getD undef = v13 at *
    generalize a0.tmps[14]?.getD undef = v14 at *
    generalize a0.tmps[15]?.getD undef = v15 at *
    generalize a0.tmps[16]?.getD undef = v16 at *
    generalize a0.tmps[17]?.getD undef = v17 at *
    generalize a0.tmps[18]?.getD undef = v18 at *
    generalize a0.tmps[2]?.getD undef = v2 at *
    obtain rfl := p13
    obtain rfl := p14
    obtain rfl := p15
    obtain rfl := p16
    obtain rfl := p17
    obtain ⟨tm, df⟩ := a0
    simp only [List.setIfInBounds_toArray, List.set_cons_succ, List.set_cons_zero] at hfr hdf
    subst hfr
    subst hdf
    refine Posts.tail_op 5 (by kernel_rfl) (Posts.op_val (fun _ => trivial) rfl rfl (by intro c h; cases h) (v := .slice (some ⟨Y.heap.size, 0, none⟩) 5 5) (Y := Y.alloc (.cells #[.int .u8 1, .int .u8 0, .int .u16 0, .int .u32 0, .int .u8 20, .int .u8 0, .int .u16 0, .int .u32 4, .int .u8 2, .int .u8 0, .int .u16 0, .int .u32 0, .int .u8 27, .int .u8 0, .int .u16 0, .int .u32 0, .int .u8 27, .int .u8 0, .int .u16 0, .int .u32 0] 46)) (by simp [execOp, Act.eval, go_sem]) ?_)
    refine Posts.tail_op 6 (by kernel_rfl) (Posts.op_val (fun _ => trivial) rfl rfl (by intro c h; cases h) (v := .slice (some ⟨Y.heap.size, 0, none⟩) 5 5) (Y := Y.alloc (.cells #[.int .u8 1, .int .u8 0, .int .u16 0, .int .u32 0, .int .u8 20, .int .u8 0, .int .u16 0, .int .u32 4, .int .u8 2, .int .u8 0, .int .u16 0, .int .u32 0, .int .u8 27, .int .u8 0, .int .u16 0, .int .u32 0, .int .u8 27, .int .u8 0, .int .u16 0, .int .u32 0] 46)) (by simp [execOp, Act.eval, Act.put, go_sem]) ?_)
    refine ⟨by kernel_rfl, ?_⟩
    simp only [Exit.inBlock, Exit.then]
    first
      | (rename_i hK; refine hK _ _ ?_)
      | (rename_i hK _; refine hK _ _ ?_)
      | (rename_i hK _ _; refine hK _ _ ?_)
    simp only [Act.put]
    have HC2 : Hid (Below W1.heap.size W1 (Y.alloc (.cells #[.int .u8 1, .int .u8 0, .int .u16 0, .int .u32 0, .int .u8 20, .int .u8 0, .int .u16 0, .int .u32 4, .int .u8 2, .int .u8 0, .int .u16 0, .int .u32 0, .int .u8 27, .int .u8 0, .int .u16 0, .int .u32 0, .int .u8 27, .int .u8 0, .int .u16 0, .int .u32 0] 46))) := hY.alloc hY.size _
    have HR2 : Hid (IRow (Y.alloc (.cells #[.int .u8 1, .int .u8 0, .int .u16 0, .int .u32 0, .int .u8 20, .int .u8 0, .int .u16 0, .int .u32 4, .int .u8 2, .int .u8 0, .int .u16 0, .int .u32 0, .int .u8 27, .int .u8 0, .int .u16 0, .int .u32 0, .int .u8 27, .int .u8 0, .int .u16 0, .int .u32 0] 46)) (some ⟨Y.heap.size, 0, none⟩) 5 cA) := lit_row Y cA wf_cA (by decide)
    clear hY hE HQ hK
    generalize Y.alloc (.cells #[.int .u8 1, .int .u8 0, .int .u16 0, .int .u32 0, .int .u8 20, .int .u8 0, .int .u16 0, .int .u32 4, .int .u8 2, .int .u8 0, .int .u16 0, .int .u32 0, .int .u8 27, .int .u8 0, .int .u16 0, .int .u32 0, .int .u8 27, .int .u8 0, .int .u16 0, .int .u32 0] 46) = w2 at *
    generalize Y.heap.size = AA at *
    clear Y
    have hk := HAns.out cA 5 w2 HC2.out _ HR2.out (by omega)
    unfold fromP at hk
    rw [fr_cA.1, fr_cA.2, frW_cA] at hk
    have HK := Lib.hid hk
    clear hk
    go_wp2_with fail
    refine HK.out.mono ?_
    rintro e w3 ⟨⟨v, rfl, ho⟩, hb⟩
    obtain ⟨va, vc, e, _, _, hz⟩ := own_ur ho
    rw [show ([4, 3, 2, 1, 1] : List Nat).length = 5 from rfl] at e hz
    subst e
    have HC3 := Lib.hid (HC2.out.trans (hb.mono HC2.out.size))
    have HR3 := Lib.hid (HR2.out.below hb (Nat.le_refl _))
    have HZ3 := Lib.hid hz
    clear ho hz hb HK
    have hk := HPth.out cA 5 w3 HC3.out _ HR3.out (by omega)
    rw [fr_cA.1, pth_cA] at hk
    have HK := Lib.hid hk
    clear hk
    go_wp2_with fail
    refine HK.out.mono ?_
    rintro e w4 ⟨v, rfl, ho, hb⟩
    obtain ⟨pa, pc, e, _, _, hr, _⟩ := nums_row ho
    rw [show ([0, 1, 2, 3] : List Nat).length = 4 from rfl] at e hr
    subst e
    have HC4 := Lib.hid (HC3.out.trans (hb.mono HC3.out.size))
    have HZ4 := Lib.hid (HZ3.out.below hb (Nat.le_refl _))
    clear hb HK HZ3 HR3 HC3 HR2 HC2 ho
    have hb := (Below.refl w4.heap.size w4).alloc (Nat.le_refl _) (.cells #[.int .u32 4, .int .u32 3, .int .u32 2, .int .u32 1, .int .u32 1] 28)
    have HSa : Hid (Calls Tryd.prog 10 #[.slice va 5 vc, .slice (some ⟨w4.heap.size, 0, none⟩) 5 5] (w4.alloc (.cells #[.int .u32 4, .int .u32 3, .int .u32 2, .int .u32 1, .int .u32 1] 28)) fun e w' => e = .returned (.bool true) ∧ w' = w4.alloc (.cells #[.int .u32 4, .int .u32 3, .int .u32 2, .int .u32 1, .int .u32 1] 28)) := same_any [4, 3, 2, 1, 1] [4, 3, 2, 1, 1] _ 5 _ _ 5 5 (by omega) _ (HZ4.out.below hb (Nat.le_refl _)) (ur_lit w4 [4, 3, 2, 1, 1])
    have HC5 : Hid (Below W1.heap.size W1 (w4.alloc (.cells #[.int .u32 4, .int .u32 3, .int .u32 2, .int .u32 1, .int .u32 1] 28))) := HC4.out.trans (hb.mono HC4.out.size)
    obtain ⟨pb, po, rfl, qc⟩ := (hr.below hb (Nat.le_refl _)).at 2 (by decide)
    have qc : (w4.alloc (.cells #[.int .u32 4, .int .u32 3, .int .u32 2, .int .u32 1, .int .u32 1] 28)).cell? ⟨pb, po + 2, none⟩ = some (.int .i64 2) := qc
    clear hb HZ4 hr
    go_wp2_with fail
    refine HSa.out.mono ?_
    rintro e w' ⟨rfl, hw'⟩
    subst hw'
    clear HSa HC4
    generalize w4.alloc (.cells #[.int .u32 4, .int .u32 3, .int .u32 2, .int .u32 1, .int .u32 1] 28) = w5 at *
    go_wp2_with fail
    clear qc
    refine (HD.out 20 1 w5).mono ?_
    rintro e w6 ⟨rfl, hb⟩
    have HC6 := Lib.hid (HC5.out.trans (hb.mono HC5.out.size))
    clear hb HC5
    go_wp2_with fail
    refine (HD.out 19 0 w6).mono ?_
    rintro e w7 ⟨rfl, hb⟩
    have HC7 := Lib.hid (HC6.out.trans (hb.mono HC6.out.size))
    clear hb HC6
    have HC8 : Hid (Below W1.heap.size W1 (w7.alloc (.cells #[.int .u8 20, .int .u8 0, .int .u16 0, .int .u32 1, .int .u8 19, .int .u8 0, .int .u16 0, .int .u32 0] 46))) := HC7.out.alloc HC7.out.size _
    have HR8 : Hid (IRow (w7.alloc (.cells #[.int .u8 20, .int .u8 0, .int .u16 0, .int .u32 1, .int .u8 19, .int .u8 0, .int .u16 0, .int .u32 0] 46)) (some ⟨w7.heap.size, 0, none⟩) 2 cB) := lit_row w7 cB wf_cB (by decide)
    have hk := HAns.out cB 2 _ HC8.out _ HR8.out (by omega)
    unfold fromP at hk
    rw [fr_cB.1, fr_cB.2.1, fr_cB.2.2] at hk
    have HK := Lib.hid hk
    clear hk
    go_wp2_with fail
    refine HK.out.mono ?_
    rintro e w9 ⟨⟨v, rfl, ho⟩, hb⟩
    obtain ⟨va9, vc9, rfl, _, _⟩ := own_shape ho
    have HC9 := Lib.hid (HC8.out.trans (hb.mono HC8.out.size))
    clear ho hb HK HR8 HC8
    have HQ := Lib.hid (HBk.out w9 HC9.out)
    have hE := Posts.ext_rel
    go_upto_region 8 with fail
    refine (wpIn_wide (n := 0)).1 (Posts.wpIn_region_tail hE 11 0 (Posts.At [Posts.is (.agg #[.int .u8 27, .int .u8 0, .int .u16 0, .int .u32 0]), Posts.is (.agg #[.int .u8 19, .int .u8 0, .int .u16 0, .int .u32 1]), irowP cC 2, ansU, ansU, rowU, Posts.is (.int .i64 0), Posts.is (.int .i64 0), rowU, Posts.is (.int .i64 0), Posts.is (.int .i64 0)]) (fun _ _ => True) (by kernel_rfl) (by decide) (by kernel_rfl) (by kernel_rfl) (by kernel_rfl)
      (Posts.stable_at _ (by repeat' (first | exact trivial | (refine And.intro ?_ ?_) | exact Posts.is_stable _ | exact Posts.on_stable _ _ | exact irowP_stable _ _ | exact ansU_stable | exact rowU_stable | assumption))) trivial ?_ ?_)
    · refine ⟨?_, ?_, ?_, ?_, ?_, ?_, ?_, ?_, ?_, ?_, ?_, trivial⟩
      · intro a X hX hS hD hJ hU
        obtain ⟨x0, x1, x2, x3⟩ := cells4 ((Posts.Ext.blk hX _ (lt_of_block HQ.out)).trans HQ.out)
        have d1 := Posts.slot (show a.eval (.tmp 1) = .pointer (some ⟨P1, 0, none⟩) from hS.other 1 rfl)
        exact Posts.op_value (fun _ => trivial) rfl rfl (by intro c h; cases h) rfl (by rw [hS.size]; simp) (v := .agg #[.int .u8 27, .int .u8 0, .int .u16 0, .int .u32 0]) (by simp [execOp, d1, x0, x1, x2, x3, go_sem]) rfl (hE.refl _) trivial
      · intro a X hX hS hD hJ hU
        obtain ⟨x0, x1, x2, x3⟩ := cells4 ((Posts.Ext.blk hX _ (lt_of_block HQ.out)).trans HQ.out)
        refine Posts.op_call (fun _ => trivial) rfl rfl rfl (by intro c h; cases h) rfl (by rw [hS.size]; simp) 16 #[.int .u8 19, .int .u32 1] (by simp [execOp, go_sem]) ?_
        refine callsIn_wide.2 ((HD.out 19 1 X).mono ?_)
        rintro e Y ⟨rfl, hb⟩
        exact ⟨_, rfl, rfl, hb, trivial⟩
      · intro a X hX hS hD hJ hU
        obtain ⟨x0, x1, x2, x3⟩ := cells4 ((Posts.Ext.blk hX _ (lt_of_block HQ.out)).trans HQ.out)
        have d66 := Posts.slot (show a.eval (.tmp 66) = .agg #[.int .u8 27, .int .u8 0, .int .u16 0, .int .u32 0] from hD.1)
        have d67 := Posts.slot (show a.eval (.tmp 67) = .agg #[.int .u8 19, .int .u8 0, .int .u16 0, .int .u32 1] from hD.2.1)
        exact Posts.op_value (fun _ => trivial) rfl rfl (by intro c h; cases h) rfl (by rw [hS.size]; simp) (v := .slice (some ⟨X.heap.size, 0, none⟩) 2 2) (Y := X.alloc (.cells #[.int .u8 27, .int .u8 0, .int .u16 0, .int .u32 0, .int .u8 19, .int .u8 0, .int .u16 0, .int .u32 1] 46)) (by simp [execOp, d66, d67, go_sem]) ⟨X.heap.size, rfl, lit_row X cC wf_cC (by decide)⟩ ((Below.refl _ X).alloc (Nat.le_refl _) _) trivial
      · intro a X hX hS hD hJ hU
        obtain ⟨x0, x1, x2, x3⟩ := cells4 ((Posts.Ext.blk hX _ (lt_of_block HQ.out)).trans HQ.out)
        obtain ⟨b, e68, hr⟩ : irowP cC 2 (a.eval (.tmp 68)) X := hD.1
        have d68 := Posts.slot e68
        refine Posts.op_call (fun _ => trivial) rfl rfl rfl (by intro c h; cases h) rfl (by rw [hS.size]; simp) 7 #[.slice (some ⟨b, 0, none⟩) 2 2] (by simp [execOp, d68, go_sem]) ?_
        have hk := HAns.out cC 2 X (HC9.out.trans (hX.mono HC9.out.size)) _ hr (by omega)
        unfold fromP at hk
        rw [fr_cC.1, fr_cC.2, frW_cC] at hk
        refine callsIn_wide.2 (hk.mono ?_)
        rintro e Y ⟨⟨v, rfl, ho⟩, hb⟩
        obtain ⟨va, vc, e, _, _, hz⟩ := own_ur ho
        rw [show ([1, 0] : List Nat).length = 2 from rfl] at e hz
        subst e
        exact ⟨_, rfl, ⟨va, vc, rfl, hz⟩, hb, trivial⟩
      · intro a X hX hS hD hJ hU
        obtain ⟨x0, x1, x2, x3⟩ := cells4 ((Posts.Ext.blk hX _ (lt_of_block HQ.out)).trans HQ.out)
        obtain ⟨va, vc, e0, hz⟩ : ansU (a.eval (.tmp 69)) X := hD.1
        have d0 := Posts.slot e0
        exact Posts.op_value (fun _ => trivial) rfl rfl (by intro c h; cases h) rfl (by rw [hS.size]; simp) (v := .tuple #[.slice va 2 vc, .int .i64 0, .int .i64 0]) (by simp [execOp, d0, go_sem]) ⟨va, vc, rfl, hz⟩ (hE.refl _) trivial
      · intro a X hX hS hD hJ hU
        obtain ⟨x0, x1, x2, x3⟩ := cells4 ((Posts.Ext.blk hX _ (lt_of_block HQ.out)).trans HQ.out)
        obtain ⟨va, vc, e0, hz⟩ : ansU (a.eval (.tmp 65)) X := hD.1
        have d0 := Posts.slot e0
        exact Posts.op_value (fun _ => trivial) rfl rfl (by intro c h; cases h) rfl (by rw [hS.size]; simp) (v := .slice va 2 vc) (by simp [execOp, d0, go_sem]) ⟨va, vc, rfl, hz⟩ (hE.refl _) trivial
      · intro a X hX hS hD hJ hU
        obtain ⟨x0, x1, x2, x3⟩ := cells4 ((Posts.Ext.blk hX _ (lt_of_block HQ.out)).trans HQ.out)
        obtain ⟨va, vc, e0, hz⟩ : ansU (a.eval (.tmp 65)) X := hD.1
        have d0 := Posts.slot e0
        exact Posts.op_value (fun _ => trivial) rfl rfl (by intro c h; cases h) rfl (by rw [hS.size]; simp) (v := .int .i64 0) (by simp [execOp, d0, go_sem]) rfl (hE.refl _) trivial
      · intro a X hX hS hD hJ hU
        obtain ⟨x0, x1, x2, x3⟩ := cells4 ((Posts.Ext.blk hX _ (lt_of_block HQ.out)).trans HQ.out)
        obtain ⟨va, vc, e0, hz⟩ : ansU (a.eval (.tmp 65)) X := hD.1
        have d0 := Posts.slot e0
        exact Posts.op_value (fun _ => trivial) rfl rfl (by intro c h; cases h) rfl (by rw [hS.size]; simp) (v := .int .i64 0) (by simp [execOp, d0, go_sem]) rfl (hE.refl _) trivial
      · intro a X hX hS hD hJ hU
        obtain ⟨x0, x1, x2, x3⟩ := cells4 ((Posts.Ext.blk hX _ (lt_of_block HQ.out)).trans HQ.out)
        obtain ⟨va, vc, e0, hz⟩ : rowU (a.eval (.tmp 70)) X := hD.1
        have d0 := Posts.slot e0
        exact Posts.op_value (fun _ => trivial) rfl rfl (by intro c h; cases h) rfl (by rw [hS.size]; simp) (v := .slice va 2 vc) (by simp [execOp, d0, go_sem]) ⟨va, vc, rfl, hz⟩ (hE.refl _) trivial
      · intro a X hX hS hD hJ hU
        obtain ⟨x0, x1, x2, x3⟩ := cells4 ((Posts.Ext.blk hX _ (lt_of_block HQ.out)).trans HQ.out)
        have d71 := Posts.slot (show a.eval (.tmp 71) = .int .i64 0 from hD.1)
        exact Posts.op_value (fun _ => trivial) rfl rfl (by intro c h; cases h) rfl (by rw [hS.size]; simp) (v := .int .i64 0) (by simp [execOp, d71,  go_sem]) rfl (hE.refl _) trivial
      · intro a X hX hS hD hJ hU
        obtain ⟨x0, x1, x2, x3⟩ := cells4 ((Posts.Ext.blk hX _ (lt_of_block HQ.out)).trans HQ.out)
        have d72 := Posts.slot (show a.eval (.tmp 72) = .int .i64 0 from hD.1)
        exact Posts.op_value (fun _ => trivial) rfl rfl (by intro c h; cases h) rfl (by rw [hS.size]; simp) (v := .int .i64 0) (by simp [execOp, d72,  go_sem]) rfl (hE.refl _) trivial
    · intro a0 Y hY hS hJt hL
      have p66 := Posts.slot (show a0.eval (.tmp 66) = .agg #[.int .u8 27, .int .u8 0, .int .u16 0, .int .u32 0] from hL.1)
      have p67 := Posts.slot (show a0.eval (.tmp 67) = .agg #[.int .u8 19, .int .u8 0, .int .u16 0, .int .u32 1] from hL.2.1)
      obtain ⟨b8, e68, hx0⟩ : (irowP cC 2) (a0.eval (.tmp 68)) Y := hL.2.2.1
      have p68 := Posts.slot e68
      clear e68
      obtain ⟨va1, vc1, e69, hx1⟩ : (ansU) (a0.eval (.tmp 69)) Y := hL.2.2.2.1
      have p69 := Posts.slot e69
      clear e69
      obtain ⟨va2, vc2, e65, hx2⟩ : (ansU) (a0.eval (.tmp 65)) Y := hL.2.2.2.2.1
      have p65 := Posts.slot e65
      clear e65
      obtain ⟨va3, vc3, e70, hx3⟩ : (rowU) (a0.eval (.tmp 70)) Y := hL.2.2.2.2.2.1
      have p70 := Posts.slot e70
      clear e70
      have p71 := Posts.slot (show a0.eval (.tmp 71) = .int .i64 0 from hL.2.2.2.2.2.2.1)
      have p72 := Posts.slot (show a0.eval (.tmp 72) = .int .i64 0 from hL.2.2.2.2.2.2.2.1)
      obtain ⟨va4, vc4, e3, hz4⟩ : (rowU) (a0.eval (.tmp 3)) Y := hL.2.2.2.2.2.2.2.2.1
      have p3 := Posts.slot e3
      clear e3
      have p8 := Posts.slot (show a0.eval (.tmp 8) = .int .i64 0 from hL.2.2.2.2.2.2.2.2.2.1)
      have p7 := Posts.slot (show a0.eval (.tmp 7) = .int .i64 0 from hL.2.2.2.2.2.2.2.2.2.2.1)
      have hfr := hS.frame [66, 67, 68, 69, 65, 70, 71, 72, 3, 8, 7] (fun t ht => by simp [Posts.isDst] at ht; first | (rcases ht with h | h | h | h | h | h | h | h | h | h | h <;> subst h <;> simp) | (subst ht; simp))
      simp only [List.foldl_cons, List.foldl_nil] at hfr
      have hdf := hS.defers
      simp only [Array.getD_eq_getD_getElem?] at hfr
      clear hL hS
      generalize a0.tmps[66]?.getD undef = v66 at *
      generalize a0.tmps[67]?.getD undef = v67 at *
      generalize a0.tmps[68]?.getD undef = v68 at *
      generalize a0.tmps[69]?.getD undef = v69 at *
      generalize a0.tmps[65]?.getD undef = v65 at *
      generalize a0.tmps[70]?.getD undef = v70 at *
      generalize a0.tmps[71]?.getD undef = v71 at *
      generalize a0.tmps[72]?.getD undef = v72 at *
      generalize a0.tmps[3]?.getD undef = v3 at *
      generalize a0.tmps[8]?.getD undef = v8 at *
      generalize a0.tmps[7]?.getD undef = v7 at *
      obtain rfl := p66
      obtain rfl := p67
      obtain rfl := p68
      obtain rfl := p69
      obtain rfl := p65
      obtain rfl := p70
      obtain rfl := p71
      obtain rfl := p72
      obtain rfl := p3
      obtain rfl := p8
      obtain rfl := p7
      obtain ⟨tm, df⟩ := a0
      simp only [List.setIfInBounds_toArray, List.set_cons_succ, List.set_cons_zero] at hfr hdf
      subst hfr
      subst hdf
      refine ⟨by kernel_rfl, ?_⟩
      simp only [Exit.inBlock, Exit.then]
      first
        | (rename_i hK; refine hK _ _ ?_)
        | (rename_i hK _; refine hK _ _ ?_)
        | (rename_i hK _ _; refine hK _ _ ?_)
      have HC10 := Lib.hid (HC9.out.trans (hY.mono HC9.out.size))
      have HZ10 := Lib.hid hz4
      obtain ⟨p0, p1, p2, p3⟩ := cells4 (HBk.out Y HC10.out)
      clear hY hE HC9 HQ hK hz4 hx0 hx1 hx2 hx3
      obtain ⟨w10, hw10⟩ : ∃ X, Y = X := ⟨_, rfl⟩
      subst hw10
      have HC11 : Hid (Below W1.heap.size W1 (Y.alloc (.cells #[.int .u8 27, .int .u8 0, .int .u16 0, .int .u32 0] 46))) := HC10.out.alloc HC10.out.size _
      have HR11 : Hid (IRow (Y.alloc (.cells #[.int .u8 27, .int .u8 0, .int .u16 0, .int .u32 0] 46)) (some ⟨Y.heap.size, 0, none⟩) 1 cD) := lit_row Y cD wf_cD (by decide)
      have hk := HMst.out cD 1 _ HC11.out _ HR11.out (by omega)
      unfold wz at hk
      rw [fr_cD.1, fr_cD.2, if_pos rfl, ws_cD] at hk
      have HK := Lib.hid hk
      have hbb := (Below.refl Y.heap.size Y).alloc (Nat.le_refl _) (.cells #[.int .u8 27, .int .u8 0, .int .u16 0, .int .u32 0] 46)
      have HZ11 := Lib.hid (HZ10.out.below hbb (Nat.le_refl _))
      clear hk hbb
      go_wp2_with fail
      refine HK.out.mono ?_
      rintro e w12 ⟨rfl, hb⟩
      have HC12 := Lib.hid (HC11.out.trans (hb.mono HC11.out.size))
      have HZ12 := Lib.hid (HZ11.out.below hb (Nat.le_refl _))
      clear hb HK HR11 HC11 HZ11 HZ10 HC10 p0 p1 p2 p3
      have hb := (Below.refl w12.heap.size w12).alloc (Nat.le_refl _) (.cells #[.int .u32 1, .int .u32 0] 28)
      have HSa : Hid (Calls Tryd.prog 10 #[.slice va4 2 vc4, .slice (some ⟨w12.heap.size, 0, none⟩) 2 2] (w12.alloc (.cells #[.int .u32 1, .int .u32 0] 28)) fun e w' => e = .returned (.bool true) ∧ w' = w12.alloc (.cells #[.int .u32 1, .int .u32 0] 28)) := same_any [1, 0] [1, 0] _ 2 _ _ 2 2 (by omega) _ (HZ12.out.below hb (Nat.le_refl _)) (ur_lit w12 [1, 0])
      have HC13 : Hid (Below W1.heap.size W1 (w12.alloc (.cells #[.int .u32 1, .int .u32 0] 28))) := HC12.out.trans (hb.mono HC12.out.size)
      clear hb
      go_wp2_with fail
      refine HSa.out.mono ?_
      rintro e w' ⟨rfl, hw'⟩
      subst hw'
      clear HSa
      go_wp2_with fail
      go_ret
      exact ⟨rfl, HB1.out.trans (HC13.out.mono HB1.out.size)⟩
end Cst
end Go.Proofs.YtcmbkoghhhhmcaaDoor
