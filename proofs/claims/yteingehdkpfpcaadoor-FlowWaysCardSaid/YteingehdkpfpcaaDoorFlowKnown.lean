/- The law's own small test: it is met, if the program's calls answer what the document says. (Made by tools/gen_flowknown.py.) -/
import Derived.Test.YteingehdkpfpcaaDoorFlowDo
import Derived.Test.YteingehdkpfpcaaDoorFlowR3
import Derived.Test.YteingehdkpfpcaaDoorRightsPosts
import Derived.Test.YteingehdkpfpcaaDoorRightsTmps
import Derived.Great.BuildSlice
namespace Go.Proofs.YteingehdkpfpcaaDoor
open Go.ChangeShapes Go.WideShapes Go.ChangeAt Go.RowKit
namespace Flw
open Isa
set_option linter.unusedVariables false
set_option linter.unusedSimpArgs false
theorem encs_len : ∀ l : List Iv, (encs l).length = l.length * 4
  | [] => rfl
  | a :: r => by
    have := encs_len r
    unfold encs at this ⊢
    rw [List.flatMap_cons, List.length_append, this, List.length_cons]
    simp [encI]; omega
theorem lit_row (Y : World) (l : List Iv) (hw : ∀ i ∈ l, i.wf) (hm : l.length ≤ 100) : IRow (Y.alloc (.cells (encs l).toArray 38)) (some ⟨Y.heap.size, 0, none⟩) l.length l := by
  have h := World.ownsRow_lit (base := Y.heap.size) (size := 4) (e := 38) Y (encs l).toArray l.length (Nat.le_refl _) (by unfold maxLen; omega) (by rw [List.size_toArray, encs_len])
  rw [List.toList_toArray] at h
  obtain ⟨a, c, e, _, _, r⟩ := own_irow h hw
  injection e with e1 e2 e3
  rw [e1]
  exact r
theorem nrow_lit (Y : World) (l : List Nat) (hm : l.length ≤ 1000 := by decide) : NRow (Y.alloc (.cells (nums l).toArray 3)) (some ⟨Y.heap.size, 0, none⟩) l.length l := by
  have h := World.ownsRow_lit (base := Y.heap.size) (size := 1) (e := 3) Y (nums l).toArray l.length (Nat.le_refl _) (by unfold maxLen; omega) (by unfold nums; simp)
  rw [List.toList_toArray] at h
  obtain ⟨a, c, e, _, _, r⟩ := own_nrow h
  injection e with e1 e2 e3
  rw [e1]
  exact r
theorem wf_kA : ∀ i ∈ kA, i.wf := wf_all (by decide +kernel)
theorem wf_kB : ∀ i ∈ kB, i.wf := wf_all (by decide +kernel)
theorem wf_kC : ∀ i ∈ kC, i.wf := wf_all (by decide +kernel)
set_option maxRecDepth 100000 in
set_option maxHeartbeats 6400000 in
theorem known_any (w : World) (hT : Tabs w) (hC : CheckC) (hO : OrderC) (hB : BehindC) : Calls Tryd.prog 9 #[] w fun e w' => e = .returned (.bool true) ∧ Below w.heap.size w w' := by
  have HTT := Lib.hid (fun W (hb : Below w.heap.size w W) => hT.below hb (Nat.le_refl _))
  have HC := Lib.hid hC
  have HO := Lib.hid hO
  have HBh := Lib.hid hB
  have HD := Lib.hid do_any
  clear hT hC hO hB
  go_enter Tryd.func9, Tryd.ntmps9
  go_wp2_with fail
  refine (HD.out 27 0 w).mono ?_
  rintro e w0 ⟨rfl, hb0⟩
  have hx := alloc_new w0 (.cells #[.int .u8 27, .int .u8 0, .int .u16 0, .int .u32 0] 38)
  have HB1 := Lib.hid (hb0.alloc hb0.size (.cells #[.int .u8 27, .int .u8 0, .int .u16 0, .int .u32 0] 38))
  clear hb0
  go_upto_region 2 with fail
  generalize w0.alloc (.cells #[.int .u8 27, .int .u8 0, .int .u16 0, .int .u32 0] 38) = w1 at *
  generalize w0.heap.size = P at *
  have HP := Lib.hid hx
  clear hx
  have hE := Posts.ext_rel
  refine (wpIn_wide (n := 0)).1 (Posts.wpIn_region_tail hE 3 0 (Posts.At [Posts.is (.agg #[.int .u8 20, .int .u8 0, .int .u16 0, .int .u32 2]), Posts.is (.agg #[.int .u8 27, .int .u8 0, .int .u16 0, .int .u32 0]), Posts.is (.agg #[.int .u8 27, .int .u8 0, .int .u16 0, .int .u32 0])]) (fun _ _ => True) (by kernel_rfl) (by decide) (by kernel_rfl) (by kernel_rfl) (by kernel_rfl)
    (Posts.stable_at _ (by repeat' (first | exact trivial | (refine And.intro ?_ ?_) | exact Posts.is_stable _ | exact Posts.on_stable _ _ | assumption))) trivial ?_ ?_)
  · refine ⟨?_, ?_, ?_, trivial⟩
    · intro a X hX hS hD hJ hU
      obtain ⟨y0, y1, y2, y3⟩ := cells4 ((Posts.Ext.blk hX _ (lt_of_block HP.out)).trans HP.out)
      refine Posts.op_call (fun _ => trivial) rfl rfl rfl (by intro c h; cases h) rfl (by rw [hS.size]; simp) 20 #[.int .u8 20, .int .u32 2] (by simp [execOp, go_sem]) ?_
      refine callsIn_wide.2 ((do_any 20 2 X).mono ?_)
      rintro e Y ⟨rfl, hb⟩
      exact ⟨_, rfl, rfl, hb, trivial⟩
    · intro a X hX hS hD hJ hU
      obtain ⟨y0, y1, y2, y3⟩ := cells4 ((Posts.Ext.blk hX _ (lt_of_block HP.out)).trans HP.out)
      have d1 := Posts.slot (show a.eval (.tmp 1) = .pointer (some ⟨P, 0, none⟩) from hS.other 1 rfl)
      exact Posts.op_value (fun _ => trivial) rfl rfl (by intro c h; cases h) rfl (by rw [hS.size]; simp) (v := .agg #[.int .u8 27, .int .u8 0, .int .u16 0, .int .u32 0]) (by simp [execOp, d1, y0, y1, y2, y3, go_sem]) rfl (hE.refl _) trivial
    · intro a X hX hS hD hJ hU
      obtain ⟨y0, y1, y2, y3⟩ := cells4 ((Posts.Ext.blk hX _ (lt_of_block HP.out)).trans HP.out)
      have d1 := Posts.slot (show a.eval (.tmp 1) = .pointer (some ⟨P, 0, none⟩) from hS.other 1 rfl)
      exact Posts.op_value (fun _ => trivial) rfl rfl (by intro c h; cases h) rfl (by rw [hS.size]; simp) (v := .agg #[.int .u8 27, .int .u8 0, .int .u16 0, .int .u32 0]) (by simp [execOp, d1, y0, y1, y2, y3, go_sem]) rfl (hE.refl _) trivial
  · intro a0 Y hY hS hJt hL
    have p18 := Posts.slot (show a0.eval (.tmp 18) = .agg #[.int .u8 20, .int .u8 0, .int .u16 0, .int .u32 2] from hL.1)
    have p19 := Posts.slot (show a0.eval (.tmp 19) = .agg #[.int .u8 27, .int .u8 0, .int .u16 0, .int .u32 0] from hL.2.1)
    have p20 := Posts.slot (show a0.eval (.tmp 20) = .agg #[.int .u8 27, .int .u8 0, .int .u16 0, .int .u32 0] from hL.2.2.1)
    have hfr := hS.frame [18, 19, 20, 21, 2] (fun t ht => by simp [Posts.isDst] at ht; first | (rcases ht with h | h | h | h | h <;> subst h <;> simp) | (subst ht; simp))
    simp only [List.foldl_cons, List.foldl_nil] at hfr
    have hdf := hS.defers
    simp only [Array.getD_eq_getD_getElem?] at hfr
    clear hL hS
    generalize a0.tmps[18]?.getD undef = v18 at *
    generalize a0.tmps[19]?.getD undef = v19 at *
    generalize a0.tmps[20]?.getD undef = v20 at *
    generalize a0.tmps[21]?.getD undef = v21 at *
    generalize a0.tmps[2]?.getD undef = v2 at *
    obtain rfl := p18
    obtain rfl := p19
    obtain rfl := p20
    obtain ⟨tm, df⟩ := a0
    simp only [List.setIfInBounds_toArray, List.set_cons_succ, List.set_cons_zero] at hfr hdf
    subst hfr
    subst hdf
    refine Posts.tail_op 3 (by kernel_rfl) (Posts.op_val (fun _ => trivial) rfl rfl (by intro c h; cases h) (v := .slice (some ⟨Y.heap.size, 0, none⟩) 3 3) (Y := Y.alloc (.cells #[.int .u8 20, .int .u8 0, .int .u16 0, .int .u32 2, .int .u8 27, .int .u8 0, .int .u16 0, .int .u32 0, .int .u8 27, .int .u8 0, .int .u16 0, .int .u32 0] 38)) (by simp [execOp, Act.eval, go_sem]) ?_)
    refine Posts.tail_op 4 (by kernel_rfl) (Posts.op_val (fun _ => trivial) rfl rfl (by intro c h; cases h) (v := .slice (some ⟨Y.heap.size, 0, none⟩) 3 3) (Y := Y.alloc (.cells #[.int .u8 20, .int .u8 0, .int .u16 0, .int .u32 2, .int .u8 27, .int .u8 0, .int .u16 0, .int .u32 0, .int .u8 27, .int .u8 0, .int .u16 0, .int .u32 0] 38)) (by simp [execOp, Act.eval, go_sem]) ?_)
    refine ⟨by kernel_rfl, ?_⟩
    simp only [Exit.inBlock, Exit.then]
    rename_i hK
    refine hK _ _ ?_
    have HB2 := Lib.hid ((HB1.out.trans (hY.mono HB1.out.size)).alloc (Nat.le_trans HB1.out.size hY.size) (.cells #[.int .u8 20, .int .u8 0, .int .u16 0, .int .u32 2, .int .u8 27, .int .u8 0, .int .u16 0, .int .u32 0, .int .u8 27, .int .u8 0, .int .u16 0, .int .u32 0] 38))
    have HP2 : Hid ((Y.alloc (.cells #[.int .u8 20, .int .u8 0, .int .u16 0, .int .u32 2, .int .u8 27, .int .u8 0, .int .u16 0, .int .u32 0, .int .u8 27, .int .u8 0, .int .u16 0, .int .u32 0] 38)).heap[P]? = some (.cells #[.int .u8 27, .int .u8 0, .int .u16 0, .int .u32 0] 38 (0, 0))) :=
      (Below.heap_alloc Y _ P (Nat.lt_of_lt_of_le (lt_of_block HP.out) hY.size)).trans ((Posts.Ext.blk hY _ (lt_of_block HP.out)).trans HP.out)
    have HR2 : Hid (IRow (Y.alloc (.cells #[.int .u8 20, .int .u8 0, .int .u16 0, .int .u32 2, .int .u8 27, .int .u8 0, .int .u16 0, .int .u32 0, .int .u8 27, .int .u8 0, .int .u16 0, .int .u32 0] 38)) (some ⟨Y.heap.size, 0, none⟩) 3 kA) := lit_row Y kA wf_kA (by decide)
    clear hY hE HB1 HP
    generalize Y.alloc (.cells #[.int .u8 20, .int .u8 0, .int .u16 0, .int .u32 2, .int .u8 27, .int .u8 0, .int .u16 0, .int .u32 0, .int .u8 27, .int .u8 0, .int .u16 0, .int .u32 0] 38) = w2 at *
    generalize Y.heap.size = AA at *
    go_wp2_with fail
    refine (HD.out 20 1 _).mono ?_
    rintro e w3 ⟨rfl, hb3⟩
    go_wp2_with fail
    refine (HD.out 19 0 _).mono ?_
    rintro e w4 ⟨rfl, hb4⟩
    have hb34 := hb3.trans (hb4.mono hb3.size)
    have HB3 := Lib.hid ((HB2.out.trans (hb34.mono HB2.out.size)).alloc (Nat.le_trans HB2.out.size hb34.size) (.cells #[.int .u8 20, .int .u8 0, .int .u16 0, .int .u32 1, .int .u8 19, .int .u8 0, .int .u16 0, .int .u32 0] 38))
    have hpl : P < w2.heap.size := lt_of_block HP2.out
    have HP3 : Hid ((w4.alloc (.cells #[.int .u8 20, .int .u8 0, .int .u16 0, .int .u32 1, .int .u8 19, .int .u8 0, .int .u16 0, .int .u32 0] 38)).heap[P]? = some (.cells #[.int .u8 27, .int .u8 0, .int .u16 0, .int .u32 0] 38 (0, 0))) :=
      (Below.heap_alloc w4 _ P (Nat.lt_of_lt_of_le hpl hb34.size)).trans ((hb34.block P hpl).trans HP2.out)
    have HRA3 := Lib.hid (HR2.out.below (hb34.alloc hb34.size (.cells #[.int .u8 20, .int .u8 0, .int .u16 0, .int .u32 1, .int .u8 19, .int .u8 0, .int .u16 0, .int .u32 0] 38)) (Nat.le_refl _))
    have HRB3 : Hid (IRow (w4.alloc (.cells #[.int .u8 20, .int .u8 0, .int .u16 0, .int .u32 1, .int .u8 19, .int .u8 0, .int .u16 0, .int .u32 0] 38)) (some ⟨w4.heap.size, 0, none⟩) 2 kB) := lit_row w4 kB wf_kB (by decide)
    clear hb3 hb4 hb34 hpl HB2 HP2 HR2
    go_upto_region 4 with fail
    generalize w4.alloc (.cells #[.int .u8 20, .int .u8 0, .int .u16 0, .int .u32 1, .int .u8 19, .int .u8 0, .int .u16 0, .int .u32 0] 38) = w5 at *
    generalize w4.heap.size = BB at *
    have HP := Lib.hid HP3.out
    have hE := Posts.ext_rel
    refine (wpIn_wide (n := 0)).1 (Posts.wpIn_region_tail hE 4 0 (Posts.At [Posts.is (.agg #[.int .u8 19, .int .u8 0, .int .u16 0, .int .u32 3]), Posts.is (.agg #[.int .u8 2, .int .u8 0, .int .u16 0, .int .u32 0]), Posts.is (.agg #[.int .u8 19, .int .u8 0, .int .u16 0, .int .u32 0]), Posts.is (.agg #[.int .u8 27, .int .u8 0, .int .u16 0, .int .u32 0])]) (fun _ _ => True) (by kernel_rfl) (by decide) (by kernel_rfl) (by kernel_rfl) (by kernel_rfl)
      (Posts.stable_at _ (by repeat' (first | exact trivial | (refine And.intro ?_ ?_) | exact Posts.is_stable _ | exact Posts.on_stable _ _ | assumption))) trivial ?_ ?_)
    · refine ⟨?_, ?_, ?_, ?_, trivial⟩
      · intro a X hX hS hD hJ hU
        obtain ⟨y0, y1, y2, y3⟩ := cells4 ((Posts.Ext.blk hX _ (lt_of_block HP.out)).trans HP.out)
        refine Posts.op_call (fun _ => trivial) rfl rfl rfl (by intro c h; cases h) rfl (by rw [hS.size]; simp) 20 #[.int .u8 19, .int .u32 3] (by simp [execOp, go_sem]) ?_
        refine callsIn_wide.2 ((do_any 19 3 X).mono ?_)
        rintro e Y ⟨rfl, hb⟩
        exact ⟨_, rfl, rfl, hb, trivial⟩
      · intro a X hX hS hD hJ hU
        obtain ⟨y0, y1, y2, y3⟩ := cells4 ((Posts.Ext.blk hX _ (lt_of_block HP.out)).trans HP.out)
        refine Posts.op_call (fun _ => trivial) rfl rfl rfl (by intro c h; cases h) rfl (by rw [hS.size]; simp) 20 #[.int .u8 2, .int .u32 0] (by simp [execOp, go_sem]) ?_
        refine callsIn_wide.2 ((do_any 2 0 X).mono ?_)
        rintro e Y ⟨rfl, hb⟩
        exact ⟨_, rfl, rfl, hb, trivial⟩
      · intro a X hX hS hD hJ hU
        obtain ⟨y0, y1, y2, y3⟩ := cells4 ((Posts.Ext.blk hX _ (lt_of_block HP.out)).trans HP.out)
        refine Posts.op_call (fun _ => trivial) rfl rfl rfl (by intro c h; cases h) rfl (by rw [hS.size]; simp) 20 #[.int .u8 19, .int .u32 0] (by simp [execOp, go_sem]) ?_
        refine callsIn_wide.2 ((do_any 19 0 X).mono ?_)
        rintro e Y ⟨rfl, hb⟩
        exact ⟨_, rfl, rfl, hb, trivial⟩
      · intro a X hX hS hD hJ hU
        obtain ⟨y0, y1, y2, y3⟩ := cells4 ((Posts.Ext.blk hX _ (lt_of_block HP.out)).trans HP.out)
        have d1 := Posts.slot (show a.eval (.tmp 1) = .pointer (some ⟨P, 0, none⟩) from hS.other 1 rfl)
        exact Posts.op_value (fun _ => trivial) rfl rfl (by intro c h; cases h) rfl (by rw [hS.size]; simp) (v := .agg #[.int .u8 27, .int .u8 0, .int .u16 0, .int .u32 0]) (by simp [execOp, d1, y0, y1, y2, y3, go_sem]) rfl (hE.refl _) trivial
    · intro a0 Y hY hS hJt hL
      have p25 := Posts.slot (show a0.eval (.tmp 25) = .agg #[.int .u8 19, .int .u8 0, .int .u16 0, .int .u32 3] from hL.1)
      have p26 := Posts.slot (show a0.eval (.tmp 26) = .agg #[.int .u8 2, .int .u8 0, .int .u16 0, .int .u32 0] from hL.2.1)
      have p27 := Posts.slot (show a0.eval (.tmp 27) = .agg #[.int .u8 19, .int .u8 0, .int .u16 0, .int .u32 0] from hL.2.2.1)
      have p28 := Posts.slot (show a0.eval (.tmp 28) = .agg #[.int .u8 27, .int .u8 0, .int .u16 0, .int .u32 0] from hL.2.2.2.1)
      have hfr := hS.frame [25, 26, 27, 28, 29, 4] (fun t ht => by simp [Posts.isDst] at ht; first | (rcases ht with h | h | h | h | h | h <;> subst h <;> simp) | (subst ht; simp))
      simp only [List.foldl_cons, List.foldl_nil] at hfr
      have hdf := hS.defers
      simp only [Array.getD_eq_getD_getElem?] at hfr
      clear hL hS
      generalize a0.tmps[25]?.getD undef = v25 at *
      generalize a0.tmps[26]?.getD undef = v26 at *
      generalize a0.tmps[27]?.getD undef = v27 at *
      generalize a0.tmps[28]?.getD undef = v28 at *
      generalize a0.tmps[29]?.getD undef = v29 at *
      generalize a0.tmps[4]?.getD undef = v4 at *
      obtain rfl := p25
      obtain rfl := p26
      obtain rfl := p27
      obtain rfl := p28
      obtain ⟨tm, df⟩ := a0
      simp only [List.setIfInBounds_toArray, List.set_cons_succ, List.set_cons_zero] at hfr hdf
      subst hfr
      subst hdf
      refine Posts.tail_op 4 (by kernel_rfl) (Posts.op_val (fun _ => trivial) rfl rfl (by intro c h; cases h) (v := .slice (some ⟨Y.heap.size, 0, none⟩) 4 4) (Y := Y.alloc (.cells #[.int .u8 19, .int .u8 0, .int .u16 0, .int .u32 3, .int .u8 2, .int .u8 0, .int .u16 0, .int .u32 0, .int .u8 19, .int .u8 0, .int .u16 0, .int .u32 0, .int .u8 27, .int .u8 0, .int .u16 0, .int .u32 0] 38)) (by simp [execOp, Act.eval, go_sem]) ?_)
      refine Posts.tail_op 5 (by kernel_rfl) (Posts.op_val (fun _ => trivial) rfl rfl (by intro c h; cases h) (v := .slice (some ⟨Y.heap.size, 0, none⟩) 4 4) (Y := Y.alloc (.cells #[.int .u8 19, .int .u8 0, .int .u16 0, .int .u32 3, .int .u8 2, .int .u8 0, .int .u16 0, .int .u32 0, .int .u8 19, .int .u8 0, .int .u16 0, .int .u32 0, .int .u8 27, .int .u8 0, .int .u16 0, .int .u32 0] 38)) (by simp [execOp, Act.eval, go_sem]) ?_)
      refine ⟨by kernel_rfl, ?_⟩
      simp only [Exit.inBlock, Exit.then]
      rename_i hK
      refine hK _ _ ?_
      have HB4 := Lib.hid ((HB3.out.trans (hY.mono HB3.out.size)).alloc (Nat.le_trans HB3.out.size hY.size) (.cells #[.int .u8 19, .int .u8 0, .int .u16 0, .int .u32 3, .int .u8 2, .int .u8 0, .int .u16 0, .int .u32 0, .int .u8 19, .int .u8 0, .int .u16 0, .int .u32 0, .int .u8 27, .int .u8 0, .int .u16 0, .int .u32 0] 38))
      have HP4 : Hid ((Y.alloc (.cells #[.int .u8 19, .int .u8 0, .int .u16 0, .int .u32 3, .int .u8 2, .int .u8 0, .int .u16 0, .int .u32 0, .int .u8 19, .int .u8 0, .int .u16 0, .int .u32 0, .int .u8 27, .int .u8 0, .int .u16 0, .int .u32 0] 38)).heap[P]? = some (.cells #[.int .u8 27, .int .u8 0, .int .u16 0, .int .u32 0] 38 (0, 0))) :=
        (Below.heap_alloc Y _ P (Nat.lt_of_lt_of_le (lt_of_block HP.out) hY.size)).trans ((Posts.Ext.blk hY _ (lt_of_block HP.out)).trans HP.out)
      have HR4 : Hid (IRow (Y.alloc (.cells #[.int .u8 19, .int .u8 0, .int .u16 0, .int .u32 3, .int .u8 2, .int .u8 0, .int .u16 0, .int .u32 0, .int .u8 19, .int .u8 0, .int .u16 0, .int .u32 0, .int .u8 27, .int .u8 0, .int .u16 0, .int .u32 0] 38)) (some ⟨Y.heap.size, 0, none⟩) 4 kC) := lit_row Y kC wf_kC (by decide)
      have HX := Lib.hid (fun W (hb : Below (Y.alloc (.cells #[.int .u8 19, .int .u8 0, .int .u16 0, .int .u32 3, .int .u8 2, .int .u8 0, .int .u16 0, .int .u32 0, .int .u8 19, .int .u8 0, .int .u16 0, .int .u32 0, .int .u8 27, .int .u8 0, .int .u16 0, .int .u32 0] 38)).heap.size (Y.alloc (.cells #[.int .u8 19, .int .u8 0, .int .u16 0, .int .u32 3, .int .u8 2, .int .u8 0, .int .u16 0, .int .u32 0, .int .u8 19, .int .u8 0, .int .u16 0, .int .u32 0, .int .u8 27, .int .u8 0, .int .u16 0, .int .u32 0] 38)) W) => And.intro (HB4.out.trans (hb.mono HB4.out.size)) (And.intro (((HRA3.out.below hY (Nat.le_refl _)).below ((Below.refl Y.heap.size Y).alloc (Nat.le_refl _) (.cells #[.int .u8 19, .int .u8 0, .int .u16 0, .int .u32 3, .int .u8 2, .int .u8 0, .int .u16 0, .int .u32 0, .int .u8 19, .int .u8 0, .int .u16 0, .int .u32 0, .int .u8 27, .int .u8 0, .int .u16 0, .int .u32 0] 38)) (Nat.le_refl _)).below hb (Nat.le_refl _)) (And.intro (((HRB3.out.below hY (Nat.le_refl _)).below ((Below.refl Y.heap.size Y).alloc (Nat.le_refl _) (.cells #[.int .u8 19, .int .u8 0, .int .u16 0, .int .u32 3, .int .u8 2, .int .u8 0, .int .u16 0, .int .u32 0, .int .u8 19, .int .u8 0, .int .u16 0, .int .u32 0, .int .u8 27, .int .u8 0, .int .u16 0, .int .u32 0] 38)) (Nat.le_refl _)).below hb (Nat.le_refl _)) (HR4.out.below hb (Nat.le_refl _)))))
      clear hY hE HB3 HP HP3 HP4 HRA3 HRB3 HR4 HB4
      generalize Y.alloc (.cells #[.int .u8 19, .int .u8 0, .int .u16 0, .int .u32 3, .int .u8 2, .int .u8 0, .int .u16 0, .int .u32 0, .int .u8 19, .int .u8 0, .int .u16 0, .int .u32 0, .int .u8 27, .int .u8 0, .int .u16 0, .int .u32 0] 38) = w6 at *
      generalize Y.heap.size = CC at *
      have HOA : Hid (∀ W, Below w6.heap.size w6 W → Calls Tryd.prog 13 #[.slice (some ⟨AA, 0, none⟩) 3 3] W fun e w' => ∃ v, e = .returned (.tuple #[v, .bool true]) ∧ numsP W.heap.size [0, 1, 2] w' v ∧ Below W.heap.size W w') := fun W hb => by
        have := HO.out kA _ 3 3 W (HTT.out W (HX.out W hb).1) (by omega) (by omega) (HX.out W hb).2.1
        rwa [ordA_A] at this
      have HOB : Hid (∀ W, Below w6.heap.size w6 W → Calls Tryd.prog 13 #[.slice (some ⟨BB, 0, none⟩) 2 2] W fun e w' => ∃ v, e = .returned (.tuple #[v, .bool false]) ∧ numsP W.heap.size [] w' v ∧ Below W.heap.size W w') := fun W hb => by
        have := HO.out kB _ 2 2 W (HTT.out W (HX.out W hb).1) (by omega) (by omega) (HX.out W hb).2.2.1
        rwa [ord_no ordA_B, ordA_B] at this
      have HOC : Hid (∀ W, Below w6.heap.size w6 W → Calls Tryd.prog 13 #[.slice (some ⟨CC, 0, none⟩) 4 4] W fun e w' => ∃ v, e = .returned (.tuple #[v, .bool true]) ∧ numsP W.heap.size [0, 3] w' v ∧ Below W.heap.size W w') := fun W hb => by
        have := HO.out kC _ 4 4 W (HTT.out W (HX.out W hb).1) (by omega) (by omega) (HX.out W hb).2.2.2
        rwa [ordA_C] at this
      have HbA : Hid (∀ W, Below w6.heap.size w6 W → Calls Tryd.prog 14 #[.slice (some ⟨AA, 0, none⟩) 3 3, .int .i64 0] W fun e w' => ∃ v, e = .returned v ∧ numsP W.heap.size [1, 2] w' v ∧ Below W.heap.size W w') := fun W hb => by
        have := HBh.out kA _ 3 3 0 W (HTT.out W (HX.out W hb).1) (by omega) (by omega) (by omega) (by omega) (HX.out W hb).2.1
        rwa [behA_A] at this
      have HbB : Hid (∀ W, Below w6.heap.size w6 W → Calls Tryd.prog 14 #[.slice (some ⟨BB, 0, none⟩) 2 2, .int .i64 0] W fun e w' => ∃ v, e = .returned v ∧ numsP W.heap.size [1] w' v ∧ Below W.heap.size W w') := fun W hb => by
        have := HBh.out kB _ 2 2 0 W (HTT.out W (HX.out W hb).1) (by omega) (by omega) (by omega) (by omega) (HX.out W hb).2.2.1
        rwa [behA_B] at this
      have HbC : Hid (∀ W, Below w6.heap.size w6 W → Calls Tryd.prog 14 #[.slice (some ⟨CC, 0, none⟩) 4 4, .int .i64 0] W fun e w' => ∃ v, e = .returned v ∧ numsP W.heap.size [3] w' v ∧ Below W.heap.size W w') := fun W hb => by
        have := HBh.out kC _ 4 4 0 W (HTT.out W (HX.out W hb).1) (by omega) (by omega) (by omega) (by omega) (HX.out W hb).2.2.2
        rwa [behA_C] at this
      have HXB := Lib.hid (fun W hb => (HX.out W hb).1)
      clear HX HO HBh
      have B6 := Lib.hid (Below.refl w6.heap.size w6)
      go_wp2_with fail
      refine (HOA.out w6 B6.out).mono ?_
      rintro e w7 ⟨v, rfl, hn, hb⟩
      obtain ⟨a7, c7, rfl, _, _, hr, _⟩ := nums_row hn
      have B7 := Lib.hid (B6.out.trans (hb.mono B6.out.size))
      have N7 := Lib.hid (fun W (hb : Below w7.heap.size w7 W) => hr.below hb (Nat.le_refl _))
      have B7_7 := Lib.hid (Below.refl w7.heap.size w7)
      clear hn hb hr
      go_wp2_with fail
      refine (HOB.out w7 B7.out).mono ?_
      rintro e w8 ⟨v, rfl, hn, hb⟩
      obtain ⟨a8, c8, rfl, _, _, hr, _⟩ := nums_row hn
      have B8 := Lib.hid (B7.out.trans (hb.mono B7.out.size))
      have B7_8 := Lib.hid (B7_7.out.trans (hb.mono B7_7.out.size))
      clear hn hb hr
      go_wp2_with fail
      refine (HOC.out w8 B8.out).mono ?_
      rintro e w9 ⟨v, rfl, hn, hb⟩
      obtain ⟨a9, c9, rfl, _, _, hr, _⟩ := nums_row hn
      have B9 := Lib.hid (B8.out.trans (hb.mono B8.out.size))
      have B7_9 := Lib.hid (B7_8.out.trans (hb.mono B7_8.out.size))
      have N9 := Lib.hid (fun W (hb : Below w9.heap.size w9 W) => hr.below hb (Nat.le_refl _))
      have B9_9 := Lib.hid (Below.refl w9.heap.size w9)
      clear hn hb hr
      have hb := (Below.refl w9.heap.size w9).alloc (Nat.le_refl _) (.cells #[.int .i64 0, .int .i64 1, .int .i64 2] 3)
      have HSa : Hid (Calls Tryd.prog 17 #[.slice a7 3 c7, .slice (some ⟨w9.heap.size, 0, none⟩) 3 3] (w9.alloc (.cells #[.int .i64 0, .int .i64 1, .int .i64 2] 3)) fun e w' => e = .returned (.bool true) ∧ w' = (w9.alloc (.cells #[.int .i64 0, .int .i64 1, .int .i64 2] 3))) := same_any [0, 1, 2] [0, 1, 2] a7 3 c7 _ 3 3 (by omega) _ (N7.out _ (B7_9.out.trans (hb.mono B7_9.out.size))) (nrow_lit w9 [0, 1, 2])
      have B10 := Lib.hid (B9.out.trans (hb.mono B9.out.size))
      have B7_10 := Lib.hid (B7_9.out.trans (hb.mono B7_9.out.size))
      have B9_10 := Lib.hid (B9_9.out.trans (hb.mono B9_9.out.size))
      clear hb
      go_wp2_with fail
      refine HSa.out.mono ?_
      rintro e w' ⟨rfl, rfl⟩
      clear HSa
      generalize (w9.alloc (.cells #[.int .i64 0, .int .i64 1, .int .i64 2] 3)) = w10 at *
      go_wp2_with fail
      refine (HbA.out w10 B10.out).mono ?_
      rintro e w11 ⟨v, rfl, hn, hb⟩
      obtain ⟨a11, c11, rfl, _, _, hr, _⟩ := nums_row hn
      have B11 := Lib.hid (B10.out.trans (hb.mono B10.out.size))
      have B7_11 := Lib.hid (B7_10.out.trans (hb.mono B7_10.out.size))
      have B9_11 := Lib.hid (B9_10.out.trans (hb.mono B9_10.out.size))
      have N11 := Lib.hid (fun W (hb : Below w11.heap.size w11 W) => hr.below hb (Nat.le_refl _))
      have B11_11 := Lib.hid (Below.refl w11.heap.size w11)
      clear hn hb hr
      have hb := (Below.refl w11.heap.size w11).alloc (Nat.le_refl _) (.cells #[.int .i64 1, .int .i64 2] 3)
      have HSa : Hid (Calls Tryd.prog 17 #[.slice a11 2 c11, .slice (some ⟨w11.heap.size, 0, none⟩) 2 2] (w11.alloc (.cells #[.int .i64 1, .int .i64 2] 3)) fun e w' => e = .returned (.bool true) ∧ w' = (w11.alloc (.cells #[.int .i64 1, .int .i64 2] 3))) := same_any [1, 2] [1, 2] a11 2 c11 _ 2 2 (by omega) _ (N11.out _ (B11_11.out.trans (hb.mono B11_11.out.size))) (nrow_lit w11 [1, 2])
      have B12 := Lib.hid (B11.out.trans (hb.mono B11.out.size))
      have B7_12 := Lib.hid (B7_11.out.trans (hb.mono B7_11.out.size))
      have B9_12 := Lib.hid (B9_11.out.trans (hb.mono B9_11.out.size))
      have B11_12 := Lib.hid (B11_11.out.trans (hb.mono B11_11.out.size))
      clear hb
      go_wp2_with fail
      refine HSa.out.mono ?_
      rintro e w' ⟨rfl, rfl⟩
      clear HSa
      generalize (w11.alloc (.cells #[.int .i64 1, .int .i64 2] 3)) = w12 at *
      go_wp2_with fail
      refine (HbB.out w12 B12.out).mono ?_
      rintro e w13 ⟨v, rfl, hn, hb⟩
      obtain ⟨a13, c13, rfl, _, _, hr, _⟩ := nums_row hn
      have B13 := Lib.hid (B12.out.trans (hb.mono B12.out.size))
      have B7_13 := Lib.hid (B7_12.out.trans (hb.mono B7_12.out.size))
      have B9_13 := Lib.hid (B9_12.out.trans (hb.mono B9_12.out.size))
      have B11_13 := Lib.hid (B11_12.out.trans (hb.mono B11_12.out.size))
      have N13 := Lib.hid (fun W (hb : Below w13.heap.size w13 W) => hr.below hb (Nat.le_refl _))
      have B13_13 := Lib.hid (Below.refl w13.heap.size w13)
      clear hn hb hr
      have hb := (Below.refl w13.heap.size w13).alloc (Nat.le_refl _) (.cells #[.int .i64 1] 3)
      have HSa : Hid (Calls Tryd.prog 17 #[.slice a13 1 c13, .slice (some ⟨w13.heap.size, 0, none⟩) 1 1] (w13.alloc (.cells #[.int .i64 1] 3)) fun e w' => e = .returned (.bool true) ∧ w' = (w13.alloc (.cells #[.int .i64 1] 3))) := same_any [1] [1] a13 1 c13 _ 1 1 (by omega) _ (N13.out _ (B13_13.out.trans (hb.mono B13_13.out.size))) (nrow_lit w13 [1])
      have B14 := Lib.hid (B13.out.trans (hb.mono B13.out.size))
      have B7_14 := Lib.hid (B7_13.out.trans (hb.mono B7_13.out.size))
      have B9_14 := Lib.hid (B9_13.out.trans (hb.mono B9_13.out.size))
      have B11_14 := Lib.hid (B11_13.out.trans (hb.mono B11_13.out.size))
      have B13_14 := Lib.hid (B13_13.out.trans (hb.mono B13_13.out.size))
      clear hb
      go_wp2_with fail
      refine HSa.out.mono ?_
      rintro e w' ⟨rfl, rfl⟩
      clear HSa
      generalize (w13.alloc (.cells #[.int .i64 1] 3)) = w14 at *
      go_wp2_with fail
      refine (HbC.out w14 B14.out).mono ?_
      rintro e w15 ⟨v, rfl, hn, hb⟩
      obtain ⟨a15, c15, rfl, _, _, hr, _⟩ := nums_row hn
      have B15 := Lib.hid (B14.out.trans (hb.mono B14.out.size))
      have B7_15 := Lib.hid (B7_14.out.trans (hb.mono B7_14.out.size))
      have B9_15 := Lib.hid (B9_14.out.trans (hb.mono B9_14.out.size))
      have B11_15 := Lib.hid (B11_14.out.trans (hb.mono B11_14.out.size))
      have B13_15 := Lib.hid (B13_14.out.trans (hb.mono B13_14.out.size))
      have N15 := Lib.hid (fun W (hb : Below w15.heap.size w15 W) => hr.below hb (Nat.le_refl _))
      have B15_15 := Lib.hid (Below.refl w15.heap.size w15)
      clear hn hb hr
      have hb := (Below.refl w15.heap.size w15).alloc (Nat.le_refl _) (.cells #[.int .i64 3] 3)
      have HSa : Hid (Calls Tryd.prog 17 #[.slice a15 1 c15, .slice (some ⟨w15.heap.size, 0, none⟩) 1 1] (w15.alloc (.cells #[.int .i64 3] 3)) fun e w' => e = .returned (.bool true) ∧ w' = (w15.alloc (.cells #[.int .i64 3] 3))) := same_any [3] [3] a15 1 c15 _ 1 1 (by omega) _ (N15.out _ (B15_15.out.trans (hb.mono B15_15.out.size))) (nrow_lit w15 [3])
      have B16 := Lib.hid (B15.out.trans (hb.mono B15.out.size))
      have B7_16 := Lib.hid (B7_15.out.trans (hb.mono B7_15.out.size))
      have B9_16 := Lib.hid (B9_15.out.trans (hb.mono B9_15.out.size))
      have B11_16 := Lib.hid (B11_15.out.trans (hb.mono B11_15.out.size))
      have B13_16 := Lib.hid (B13_15.out.trans (hb.mono B13_15.out.size))
      have B15_16 := Lib.hid (B15_15.out.trans (hb.mono B15_15.out.size))
      clear hb
      go_wp2_with fail
      refine HSa.out.mono ?_
      rintro e w' ⟨rfl, rfl⟩
      clear HSa
      generalize (w15.alloc (.cells #[.int .i64 3] 3)) = w16 at *
      have hb := (Below.refl w16.heap.size w16).alloc (Nat.le_refl _) (.cells #[.int .i64 0, .int .i64 3] 3)
      have HSa : Hid (Calls Tryd.prog 17 #[.slice a9 2 c9, .slice (some ⟨w16.heap.size, 0, none⟩) 2 2] (w16.alloc (.cells #[.int .i64 0, .int .i64 3] 3)) fun e w' => e = .returned (.bool true) ∧ w' = (w16.alloc (.cells #[.int .i64 0, .int .i64 3] 3))) := same_any [0, 3] [0, 3] a9 2 c9 _ 2 2 (by omega) _ (N9.out _ (B9_16.out.trans (hb.mono B9_16.out.size))) (nrow_lit w16 [0, 3])
      have B17 := Lib.hid (B16.out.trans (hb.mono B16.out.size))
      have B7_17 := Lib.hid (B7_16.out.trans (hb.mono B7_16.out.size))
      have B9_17 := Lib.hid (B9_16.out.trans (hb.mono B9_16.out.size))
      have B11_17 := Lib.hid (B11_16.out.trans (hb.mono B11_16.out.size))
      have B13_17 := Lib.hid (B13_16.out.trans (hb.mono B13_16.out.size))
      have B15_17 := Lib.hid (B15_16.out.trans (hb.mono B15_16.out.size))
      clear hb
      go_wp2_with fail
      refine HSa.out.mono ?_
      rintro e w' ⟨rfl, rfl⟩
      clear HSa
      generalize (w16.alloc (.cells #[.int .i64 0, .int .i64 3] 3)) = w17 at *
      go_wp2_with fail
      refine (HD.out 1 1 w17).mono ?_
      rintro e w18 ⟨rfl, hb⟩
      have B18 := Lib.hid (B17.out.trans (hb.mono B17.out.size))
      have B7_18 := Lib.hid (B7_17.out.trans (hb.mono B7_17.out.size))
      have B9_18 := Lib.hid (B9_17.out.trans (hb.mono B9_17.out.size))
      have B11_18 := Lib.hid (B11_17.out.trans (hb.mono B11_17.out.size))
      have B13_18 := Lib.hid (B13_17.out.trans (hb.mono B13_17.out.size))
      have B15_18 := Lib.hid (B15_17.out.trans (hb.mono B15_17.out.size))
      clear hb
      have hb := (Below.refl w18.heap.size w18).alloc (Nat.le_refl _) (.cells #[.int .u8 1, .int .u8 0, .int .u16 0, .int .u32 1] 38)
      have HCk : Hid (Calls Tryd.prog 10 #[.slice (some ⟨w18.heap.size, 0, none⟩) 1 1] (w18.alloc (.cells #[.int .u8 1, .int .u8 0, .int .u16 0, .int .u32 1] 38)) fun e w' => e = .returned (.tuple #[.int .i64 0, .int .i64 111]) ∧ Below (w18.alloc (.cells #[.int .u8 1, .int .u8 0, .int .u16 0, .int .u32 1] 38)).heap.size (w18.alloc (.cells #[.int .u8 1, .int .u8 0, .int .u16 0, .int .u32 1] 38)) w') := by
        have := HC.out [⟨1, 0, 0, 1⟩] _ 1 1 (w18.alloc (.cells #[.int .u8 1, .int .u8 0, .int .u16 0, .int .u32 1] 38)) (HTT.out _ (HXB.out _ (B18.out.trans (hb.mono B18.out.size)))) (by omega) (by omega) (lit_row w18 [⟨1, 0, 0, 1⟩] (wf_all (by decide +kernel)) (by decide))
        rwa [chk1.1, chk1.2] at this
      have B19 := Lib.hid (B18.out.trans (hb.mono B18.out.size))
      have B7_19 := Lib.hid (B7_18.out.trans (hb.mono B7_18.out.size))
      have B9_19 := Lib.hid (B9_18.out.trans (hb.mono B9_18.out.size))
      have B11_19 := Lib.hid (B11_18.out.trans (hb.mono B11_18.out.size))
      have B13_19 := Lib.hid (B13_18.out.trans (hb.mono B13_18.out.size))
      have B15_19 := Lib.hid (B15_18.out.trans (hb.mono B15_18.out.size))
      clear hb
      go_wp2_with fail
      refine HCk.out.mono ?_
      rintro e w20 ⟨rfl, hb⟩
      clear HCk
      generalize (w18.alloc (.cells #[.int .u8 1, .int .u8 0, .int .u16 0, .int .u32 1] 38)) = w19 at *
      have B20 := Lib.hid (B19.out.trans (hb.mono B19.out.size))
      have B7_20 := Lib.hid (B7_19.out.trans (hb.mono B7_19.out.size))
      have B9_20 := Lib.hid (B9_19.out.trans (hb.mono B9_19.out.size))
      have B11_20 := Lib.hid (B11_19.out.trans (hb.mono B11_19.out.size))
      have B13_20 := Lib.hid (B13_19.out.trans (hb.mono B13_19.out.size))
      have B15_20 := Lib.hid (B15_19.out.trans (hb.mono B15_19.out.size))
      clear hb
      go_wp2_with fail
      refine (HD.out 19 1 w20).mono ?_
      rintro e w21 ⟨rfl, hb⟩
      have B21 := Lib.hid (B20.out.trans (hb.mono B20.out.size))
      have B7_21 := Lib.hid (B7_20.out.trans (hb.mono B7_20.out.size))
      have B9_21 := Lib.hid (B9_20.out.trans (hb.mono B9_20.out.size))
      have B11_21 := Lib.hid (B11_20.out.trans (hb.mono B11_20.out.size))
      have B13_21 := Lib.hid (B13_20.out.trans (hb.mono B13_20.out.size))
      have B15_21 := Lib.hid (B15_20.out.trans (hb.mono B15_20.out.size))
      clear hb
      have hb := (Below.refl w21.heap.size w21).alloc (Nat.le_refl _) (.cells #[.int .u8 19, .int .u8 0, .int .u16 0, .int .u32 1] 38)
      have HCk : Hid (Calls Tryd.prog 10 #[.slice (some ⟨w21.heap.size, 0, none⟩) 1 1] (w21.alloc (.cells #[.int .u8 19, .int .u8 0, .int .u16 0, .int .u32 1] 38)) fun e w' => e = .returned (.tuple #[.int .i64 0, .int .i64 110]) ∧ Below (w21.alloc (.cells #[.int .u8 19, .int .u8 0, .int .u16 0, .int .u32 1] 38)).heap.size (w21.alloc (.cells #[.int .u8 19, .int .u8 0, .int .u16 0, .int .u32 1] 38)) w') := by
        have := HC.out [⟨19, 0, 0, 1⟩] _ 1 1 (w21.alloc (.cells #[.int .u8 19, .int .u8 0, .int .u16 0, .int .u32 1] 38)) (HTT.out _ (HXB.out _ (B21.out.trans (hb.mono B21.out.size)))) (by omega) (by omega) (lit_row w21 [⟨19, 0, 0, 1⟩] (wf_all (by decide +kernel)) (by decide))
        rwa [chk2.1, chk2.2] at this
      have B22 := Lib.hid (B21.out.trans (hb.mono B21.out.size))
      have B7_22 := Lib.hid (B7_21.out.trans (hb.mono B7_21.out.size))
      have B9_22 := Lib.hid (B9_21.out.trans (hb.mono B9_21.out.size))
      have B11_22 := Lib.hid (B11_21.out.trans (hb.mono B11_21.out.size))
      have B13_22 := Lib.hid (B13_21.out.trans (hb.mono B13_21.out.size))
      have B15_22 := Lib.hid (B15_21.out.trans (hb.mono B15_21.out.size))
      clear hb
      go_wp2_with fail
      refine HCk.out.mono ?_
      rintro e w23 ⟨rfl, hb⟩
      clear HCk
      generalize (w21.alloc (.cells #[.int .u8 19, .int .u8 0, .int .u16 0, .int .u32 1] 38)) = w22 at *
      have B23 := Lib.hid (B22.out.trans (hb.mono B22.out.size))
      have B7_23 := Lib.hid (B7_22.out.trans (hb.mono B7_22.out.size))
      have B9_23 := Lib.hid (B9_22.out.trans (hb.mono B9_22.out.size))
      have B11_23 := Lib.hid (B11_22.out.trans (hb.mono B11_22.out.size))
      have B13_23 := Lib.hid (B13_22.out.trans (hb.mono B13_22.out.size))
      have B15_23 := Lib.hid (B15_22.out.trans (hb.mono B15_22.out.size))
      clear hb
      have HCk : Hid (Calls Tryd.prog 10 #[.slice none 0 0] w23 fun e w' => e = .returned (.tuple #[.int .i64 0, .int .i64 111]) ∧ Below w23.heap.size w23 w') := by
        have := HC.out [] none 0 0 w23 (HTT.out _ (HXB.out _ B23.out)) (by omega) (by omega) ⟨rfl, by simp, .inl rfl⟩
        rwa [chk3.1, chk3.2] at this
      go_wp2_with fail
      refine HCk.out.mono ?_
      rintro e w24 ⟨rfl, hb⟩
      clear HCk
      have B24 := Lib.hid (B23.out.trans (hb.mono B23.out.size))
      have B7_24 := Lib.hid (B7_23.out.trans (hb.mono B7_23.out.size))
      have B9_24 := Lib.hid (B9_23.out.trans (hb.mono B9_23.out.size))
      have B11_24 := Lib.hid (B11_23.out.trans (hb.mono B11_23.out.size))
      have B13_24 := Lib.hid (B13_23.out.trans (hb.mono B13_23.out.size))
      have B15_24 := Lib.hid (B15_23.out.trans (hb.mono B15_23.out.size))
      clear hb
      go_wp2_with fail
      go_ret
      exact ⟨rfl, HXB.out _ B24.out⟩
end Flw
end Go.Proofs.YteingehdkpfpcaaDoor
