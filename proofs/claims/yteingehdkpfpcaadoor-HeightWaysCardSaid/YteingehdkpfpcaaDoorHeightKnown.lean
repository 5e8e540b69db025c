/- The law's own small test is met. (Made by tools/gen_heightknown.py.) -/
import Derived.Test.YteingehdkpfpcaaDoorHeightDo
import Derived.Test.YteingehdkpfpcaaDoorHeightWb
import Derived.Great.BuildSlice
namespace Go.Proofs.YteingehdkpfpcaaDoor
open Go.ChangeShapes Go.WideShapes Go.ChangeAt Go.RowKit
namespace Hgt
open Isa Flw
open Goes
set_option linter.unusedVariables false
set_option linter.unusedSimpArgs false
/-- a program in memory; a call's answer without a list -/
def irowP (l : List Iv) (n : Nat) (v : Value) (X : World) : Prop := ∃ b, v = .slice (some ⟨b, 0, none⟩) n n ∧ IRow X (some ⟨b, 0, none⟩) n l
def ansP (N : Nat) (E : Int) (v : Value) (X : World) : Prop := ∃ a c, v = .tuple #[.slice a 0 c, .int .i64 (N : Nat), .int .i64 E]
def nilP (v : Value) (X : World) : Prop := ∃ a c, v = .slice a 0 c
theorem irowP_stable (l : List Iv) (n : Nat) : Posts.Stable Posts.Ext (irowP l n) := by
  rintro v X Y ⟨b, h1, h2⟩ hE
  exact ⟨b, h1, h2.below hE (Nat.le_refl _)⟩
theorem ansP_stable (N : Nat) (E : Int) : Posts.Stable Posts.Ext (ansP N E) := fun _ _ _ h _ => h
theorem nilP_stable : Posts.Stable Posts.Ext nilP := fun _ _ _ h _ => h
theorem three (w : World) (a b c : Array Value) :
    (((w.alloc (.cells a 38)).alloc (.cells b 38)).alloc (.cells c 38)).heap[w.heap.size]? = some (.cells a 38 (0, 0)) ∧
    (((w.alloc (.cells a 38)).alloc (.cells b 38)).alloc (.cells c 38)).heap[w.heap.size + 1]? = some (.cells b 38 (0, 0)) ∧
    (((w.alloc (.cells a 38)).alloc (.cells b 38)).alloc (.cells c 38)).heap[w.heap.size + 1 + 1]? = some (.cells c 38 (0, 0)) := by
  have n1 := alloc_new w (.cells a 38)
  have n2 := alloc_new (w.alloc (.cells a 38)) (.cells b 38)
  have n3 := alloc_new ((w.alloc (.cells a 38)).alloc (.cells b 38)) (.cells c 38)
  simp only [World.size_alloc] at n2 n3
  exact ⟨(Below.heap_alloc _ _ _ (by simp; omega)).trans ((Below.heap_alloc _ _ _ (by simp)).trans n1), (Below.heap_alloc _ _ _ (by simp)).trans n2, n3⟩
set_option maxRecDepth 100000 in
set_option maxHeartbeats 1600000 in
theorem known_any : KnownC := by
  intro w hT
  have HT := Lib.hid (fun W (hb : Below w.heap.size w W) => hT.below hb (Nat.le_refl _))
  have HD := Lib.hid do_any
  clear hT
  go_enter Tryd.func21, Tryd.ntmps21
  go_wp2_with fail
  refine (HD.out 1 1 w).mono ?_
  rintro e wa ⟨rfl, hba⟩
  go_wp2_with fail
  refine (HD.out 2 0 wa).mono ?_
  rintro e wb ⟨rfl, hbb⟩
  go_wp2_with fail
  refine (HD.out 27 0 wb).mono ?_
  rintro e wc ⟨rfl, hbc⟩
  have HB0 : Hid (Below w.heap.size w wc) := hba.trans ((hbb.mono hba.size).trans (hbc.mono (by have := hba.size; have := hbb.size; omega)))
  clear hba hbb hbc
  go_upto_region 2 with fail
  have hQ := three wc #[.int .u8 1, .int .u8 0, .int .u16 0, .int .u32 1] #[.int .u8 2, .int .u8 0, .int .u16 0, .int .u32 0] #[.int .u8 27, .int .u8 0, .int .u16 0, .int .u32 0]
  have HB1 : Hid (Below w.heap.size w (((wc.alloc (.cells #[.int .u8 1, .int .u8 0, .int .u16 0, .int .u32 1] 38)).alloc (.cells #[.int .u8 2, .int .u8 0, .int .u16 0, .int .u32 0] 38)).alloc (.cells #[.int .u8 27, .int .u8 0, .int .u16 0, .int .u32 0] 38))) := ((HB0.out.alloc HB0.out.size _).alloc (by have := HB0.out.size; simp; omega) _).alloc (by have := HB0.out.size; simp; omega) _
  generalize (((wc.alloc (.cells #[.int .u8 1, .int .u8 0, .int .u16 0, .int .u32 1] 38)).alloc (.cells #[.int .u8 2, .int .u8 0, .int .u16 0, .int .u32 0] 38)).alloc (.cells #[.int .u8 27, .int .u8 0, .int .u16 0, .int .u32 0] 38)) = W1 at *
  obtain ⟨P1, hP1⟩ : ∃ x, wc.heap.size = x := ⟨_, rfl⟩
  obtain ⟨P2, hP2⟩ : ∃ x, P1 + 1 = x := ⟨_, rfl⟩
  obtain ⟨P3, hP3⟩ : ∃ x, P2 + 1 = x := ⟨_, rfl⟩
  rw [hP1, hP2, hP3] at hQ ⊢
  have HQ := Lib.hid hQ
  have HBk := Lib.hid (fun W (hb : Below W1.heap.size W1 W) => And.intro ((hb.block P1 (lt_of_block HQ.out.1)).trans HQ.out.1) (And.intro ((hb.block P2 (lt_of_block HQ.out.2.1)).trans HQ.out.2.1) ((hb.block P3 (lt_of_block HQ.out.2.2)).trans HQ.out.2.2)))
  have HAns := Lib.hid (fun (l : List Iv) (n : Nat) W (hb : Below W1.heap.size W1 W) (b : Nat) (hr : IRow W (some ⟨b, 0, none⟩) n l) (hn : n ≤ 1000) => heights_any l _ n n 2 W (HT.out W (HB1.out.trans (hb.mono HB1.out.size))) (Nat.le_refl _) (by omega) (by omega) (by omega) hr)
  have HMst := Lib.hid (fun (l : List Iv) (n : Nat) W (hb : Below W1.heap.size W1 W) (b : Nat) (hr : IRow W (some ⟨b, 0, none⟩) n l) (hn : n ≤ 1000) => most_any l _ n n 2 W (HT.out W (HB1.out.trans (hb.mono HB1.out.size))) (Nat.le_refl _) (by omega) (by omega) (by omega) hr)
  clear hQ hP1 hP2 hP3 HB0
  have hE := Posts.ext_rel
  refine (wpIn_wide (n := 0)).1 (Posts.wpIn_region_tail hE 5 2 (Posts.At [Posts.is (.agg #[.int .u8 1, .int .u8 0, .int .u16 0, .int .u32 1]), Posts.is (.agg #[.int .u8 1, .int .u8 0, .int .u16 0, .int .u32 1]), Posts.is (.agg #[.int .u8 5, .int .u8 0, .int .u16 0, .int .u32 0]), Posts.is (.agg #[.int .u8 22, .int .u8 0, .int .u16 0, .int .u32 0]), Posts.is (.agg #[.int .u8 27, .int .u8 0, .int .u16 0, .int .u32 0])]) (fun _ _ => True) (by kernel_rfl) (by decide) (by kernel_rfl) (by kernel_rfl) (by kernel_rfl)
    (Posts.stable_at _ (by repeat' (first | exact trivial | (refine And.intro ?_ ?_) | exact Posts.is_stable _ | exact Posts.on_stable _ _ | assumption))) trivial ?_ ?_)
  · refine ⟨?_, ?_, ?_, ?_, ?_, trivial⟩
    · intro a X hX hS hD hJ hU
      obtain ⟨x0, x1, x2, x3⟩ := cells4 ((Posts.Ext.blk hX _ (lt_of_block HQ.out.1)).trans HQ.out.1)
      obtain ⟨y0, y1, y2, y3⟩ := cells4 ((Posts.Ext.blk hX _ (lt_of_block HQ.out.2.2)).trans HQ.out.2.2)
      have d1 := Posts.slot (show a.eval (.tmp 1) = .pointer (some ⟨P1, 0, none⟩) from hS.other 1 rfl)
      exact Posts.op_value (fun _ => trivial) rfl rfl (by intro c h; cases h) rfl (by rw [hS.size]; simp) (v := .agg #[.int .u8 1, .int .u8 0, .int .u16 0, .int .u32 1]) (by simp [execOp, d1, x0, x1, x2, x3, go_sem]) rfl (hE.refl _) trivial
    · intro a X hX hS hD hJ hU
      obtain ⟨x0, x1, x2, x3⟩ := cells4 ((Posts.Ext.blk hX _ (lt_of_block HQ.out.1)).trans HQ.out.1)
      obtain ⟨y0, y1, y2, y3⟩ := cells4 ((Posts.Ext.blk hX _ (lt_of_block HQ.out.2.2)).trans HQ.out.2.2)
      have d1 := Posts.slot (show a.eval (.tmp 1) = .pointer (some ⟨P1, 0, none⟩) from hS.other 1 rfl)
      exact Posts.op_value (fun _ => trivial) rfl rfl (by intro c h; cases h) rfl (by rw [hS.size]; simp) (v := .agg #[.int .u8 1, .int .u8 0, .int .u16 0, .int .u32 1]) (by simp [execOp, d1, x0, x1, x2, x3, go_sem]) rfl (hE.refl _) trivial
    · intro a X hX hS hD hJ hU
      obtain ⟨x0, x1, x2, x3⟩ := cells4 ((Posts.Ext.blk hX _ (lt_of_block HQ.out.1)).trans HQ.out.1)
      obtain ⟨y0, y1, y2, y3⟩ := cells4 ((Posts.Ext.blk hX _ (lt_of_block HQ.out.2.2)).trans HQ.out.2.2)
      refine Posts.op_call (fun _ => trivial) rfl rfl rfl (by intro c h; cases h) rfl (by rw [hS.size]; simp) 41 #[.int .u8 5, .int .u32 0] (by simp [execOp, go_sem]) ?_
      refine callsIn_wide.2 ((HD.out 5 0 X).mono ?_)
      rintro e Y ⟨rfl, hb⟩
      exact ⟨_, rfl, rfl, hb, trivial⟩
    · intro a X hX hS hD hJ hU
      obtain ⟨x0, x1, x2, x3⟩ := cells4 ((Posts.Ext.blk hX _ (lt_of_block HQ.out.1)).trans HQ.out.1)
      obtain ⟨y0, y1, y2, y3⟩ := cells4 ((Posts.Ext.blk hX _ (lt_of_block HQ.out.2.2)).trans HQ.out.2.2)
      refine Posts.op_call (fun _ => trivial) rfl rfl rfl (by intro c h; cases h) rfl (by rw [hS.size]; simp) 41 #[.int .u8 22, .int .u32 0] (by simp [execOp, go_sem]) ?_
      refine callsIn_wide.2 ((HD.out 22 0 X).mono ?_)
      rintro e Y ⟨rfl, hb⟩
      exact ⟨_, rfl, rfl, hb, trivial⟩
    · intro a X hX hS hD hJ hU
      obtain ⟨x0, x1, x2, x3⟩ := cells4 ((Posts.Ext.blk hX _ (lt_of_block HQ.out.1)).trans HQ.out.1)
      obtain ⟨y0, y1, y2, y3⟩ := cells4 ((Posts.Ext.blk hX _ (lt_of_block HQ.out.2.2)).trans HQ.out.2.2)
      have d1 := Posts.slot (show a.eval (.tmp 3) = .pointer (some ⟨P3, 0, none⟩) from hS.other 3 rfl)
      exact Posts.op_value (fun _ => trivial) rfl rfl (by intro c h; cases h) rfl (by rw [hS.size]; simp) (v := .agg #[.int .u8 27, .int .u8 0, .int .u16 0, .int .u32 0]) (by simp [execOp, d1, y0, y1, y2, y3, go_sem]) rfl (hE.refl _) trivial
  · intro a0 Y hY hS hJt hL
    have p18 := Posts.slot (show a0.eval (.tmp 18) = .agg #[.int .u8 1, .int .u8 0, .int .u16 0, .int .u32 1] from hL.1)
    have p19 := Posts.slot (show a0.eval (.tmp 19) = .agg #[.int .u8 1, .int .u8 0, .int .u16 0, .int .u32 1] from hL.2.1)
    have p20 := Posts.slot (show a0.eval (.tmp 20) = .agg #[.int .u8 5, .int .u8 0, .int .u16 0, .int .u32 0] from hL.2.2.1)
    have p21 := Posts.slot (show a0.eval (.tmp 21) = .agg #[.int .u8 22, .int .u8 0, .int .u16 0, .int .u32 0] from hL.2.2.2.1)
    have p22 := Posts.slot (show a0.eval (.tmp 22) = .agg #[.int .u8 27, .int .u8 0, .int .u16 0, .int .u32 0] from hL.2.2.2.2.1)
    have hfr := hS.frame [18, 19, 20, 21, 22, 23, 4] (fun t ht => by simp [Posts.isDst] at ht; first | (rcases ht with h | h | h | h | h | h | h <;> subst h <;> simp) | (subst ht; simp))
    simp only [List.foldl_cons, List.foldl_nil] at hfr
    have hdf := hS.defers
    simp only [Array.getD_eq_getD_getElem?] at hfr
    clear hL hS
    generalize a0.tmps[18]?.getD undef = v18 at *
    generalize a0.tmps[19]?.getD undef = v19 at *
    generalize a0.tmps[20]?.getD undef = v20 at *
    generalize a0.tmps[21]?.getD undef = v21 at *
    generalize a0.tmps[22]?.getD undef = v22 at *
    generalize a0.tmps[23]?.getD undef = v23 at *
    generalize a0.tmps[4]?.getD undef = v4 at *
    obtain rfl := p18
    obtain rfl := p19
    obtain rfl := p20
    obtain rfl := p21
    obtain rfl := p22
    obtain ⟨tm, df⟩ := a0
    simp only [List.setIfInBounds_toArray, List.set_cons_succ, List.set_cons_zero] at hfr hdf
    subst hfr
    subst hdf
    refine Posts.tail_op 5 (by kernel_rfl) (Posts.op_val (fun _ => trivial) rfl rfl (by intro c h; cases h) (v := .slice (some ⟨Y.heap.size, 0, none⟩) 5 5) (Y := Y.alloc (.cells #[.int .u8 1, .int .u8 0, .int .u16 0, .int .u32 1, .int .u8 1, .int .u8 0, .int .u16 0, .int .u32 1, .int .u8 5, .int .u8 0, .int .u16 0, .int .u32 0, .int .u8 22, .int .u8 0, .int .u16 0, .int .u32 0, .int .u8 27, .int .u8 0, .int .u16 0, .int .u32 0] 38)) (by simp [execOp, Act.eval, go_sem]) ?_)
    refine Posts.tail_op 6 (by kernel_rfl) (Posts.op_val (fun _ => trivial) rfl rfl (by intro c h; cases h) (v := .slice (some ⟨Y.heap.size, 0, none⟩) 5 5) (Y := Y.alloc (.cells #[.int .u8 1, .int .u8 0, .int .u16 0, .int .u32 1, .int .u8 1, .int .u8 0, .int .u16 0, .int .u32 1, .int .u8 5, .int .u8 0, .int .u16 0, .int .u32 0, .int .u8 22, .int .u8 0, .int .u16 0, .int .u32 0, .int .u8 27, .int .u8 0, .int .u16 0, .int .u32 0] 38)) (by simp [execOp, Act.eval, Act.put, go_sem]) ?_)
    refine ⟨by kernel_rfl, ?_⟩
    simp only [Exit.inBlock, Exit.then]
    first
      | (rename_i hK; refine hK _ _ ?_)
      | (rename_i hK _; refine hK _ _ ?_)
      | (rename_i hK _ _; refine hK _ _ ?_)
    simp only [Act.put]
    have HC2 : Hid (Below W1.heap.size W1 (Y.alloc (.cells #[.int .u8 1, .int .u8 0, .int .u16 0, .int .u32 1, .int .u8 1, .int .u8 0, .int .u16 0, .int .u32 1, .int .u8 5, .int .u8 0, .int .u16 0, .int .u32 0, .int .u8 22, .int .u8 0, .int .u16 0, .int .u32 0, .int .u8 27, .int .u8 0, .int .u16 0, .int .u32 0] 38))) := hY.alloc hY.size _
    have HR2 : Hid (IRow (Y.alloc (.cells #[.int .u8 1, .int .u8 0, .int .u16 0, .int .u32 1, .int .u8 1, .int .u8 0, .int .u16 0, .int .u32 1, .int .u8 5, .int .u8 0, .int .u16 0, .int .u32 0, .int .u8 22, .int .u8 0, .int .u16 0, .int .u32 0, .int .u8 27, .int .u8 0, .int .u16 0, .int .u32 0] 38)) (some ⟨Y.heap.size, 0, none⟩) 5 hA) := lit_row Y hA wf_hA (by decide)
    clear hY hE HQ hK
    generalize Y.alloc (.cells #[.int .u8 1, .int .u8 0, .int .u16 0, .int .u32 1, .int .u8 1, .int .u8 0, .int .u16 0, .int .u32 1, .int .u8 5, .int .u8 0, .int .u16 0, .int .u32 0, .int .u8 22, .int .u8 0, .int .u16 0, .int .u32 0, .int .u8 27, .int .u8 0, .int .u16 0, .int .u32 0] 38) = w2 at *
    generalize Y.heap.size = AA at *
    clear Y
    have hk := HAns.out hA 5 w2 HC2.out _ HR2.out (by omega)
    rw [htA_A] at hk
    have HK := Lib.hid hk
    clear hk
    go_wp2_with fail
    refine HK.out.mono ?_
    rintro e w3 ⟨v, rfl, ho, hb⟩
    obtain ⟨va, vc, e, _, _, hz⟩ := own_zrow ho
    rw [show ([0, 1, 2, 1, 0] : List Int).length = 5 from rfl] at e hz
    subst e
    have HC3 := Lib.hid (HC2.out.trans (hb.mono HC2.out.size))
    have HR3 := Lib.hid (HR2.out.below hb (Nat.le_refl _))
    have HZ3 := Lib.hid hz
    clear ho hz hb HK
    have hk := HMst.out hA 5 w3 HC3.out _ HR3.out (by omega)
    rw [most_A] at hk
    have HK := Lib.hid hk
    clear hk
    go_wp2_with fail
    refine HK.out.mono ?_
    rintro e w4 ⟨rfl, hb⟩
    have HC4 := Lib.hid (HC3.out.trans (hb.mono HC3.out.size))
    have HZ4 := Lib.hid (HZ3.out.below hb (Nat.le_refl _))
    clear hb HK HZ3 HR3 HC3 HR2 HC2
    have hb := (Below.refl w4.heap.size w4).alloc (Nat.le_refl _) (.cells #[.int .i64 0, .int .i64 1, .int .i64 2, .int .i64 1, .int .i64 0] 3)
    have HSa : Hid (Calls Tryd.prog 26 #[.slice va 5 vc, .slice (some ⟨w4.heap.size, 0, none⟩) 5 5] (w4.alloc (.cells #[.int .i64 0, .int .i64 1, .int .i64 2, .int .i64 1, .int .i64 0] 3)) fun e w' => e = .returned (.bool true) ∧ w' = w4.alloc (.cells #[.int .i64 0, .int .i64 1, .int .i64 2, .int .i64 1, .int .i64 0] 3)) := same_any [0, 1, 2, 1, 0] [0, 1, 2, 1, 0] va 5 vc _ 5 5 (by omega) _ (HZ4.out.below hb (Nat.le_refl _)) (zrow_lit w4 [0, 1, 2, 1, 0])
    have HC5 : Hid (Below W1.heap.size W1 (w4.alloc (.cells #[.int .i64 0, .int .i64 1, .int .i64 2, .int .i64 1, .int .i64 0] 3))) := HC4.out.trans (hb.mono HC4.out.size)
    clear hb HZ4
    go_wp2_with fail
    refine HSa.out.mono ?_
    rintro e w' ⟨rfl, hw'⟩
    subst hw'
    clear HSa HC4
    generalize w4.alloc (.cells #[.int .i64 0, .int .i64 1, .int .i64 2, .int .i64 1, .int .i64 0] 3) = w5 at *
    obtain ⟨p0, p1, p2, p3⟩ := cells4 (HBk.out w5 HC5.out).1
    obtain ⟨q0, q1, q2, q3⟩ := cells4 (HBk.out w5 HC5.out).2.1
    obtain ⟨r0, r1, r2, r3⟩ := cells4 (HBk.out w5 HC5.out).2.2
    have HC6 : Hid (Below W1.heap.size W1 (w5.alloc (.cells #[.int .u8 2, .int .u8 0, .int .u16 0, .int .u32 0, .int .u8 27, .int .u8 0, .int .u16 0, .int .u32 0] 38))) := HC5.out.alloc HC5.out.size _
    have HR6 : Hid (IRow (w5.alloc (.cells #[.int .u8 2, .int .u8 0, .int .u16 0, .int .u32 0, .int .u8 27, .int .u8 0, .int .u16 0, .int .u32 0] 38)) (some ⟨w5.heap.size, 0, none⟩) 2 hB) := lit_row w5 hB wf_hB (by decide)
    have HK6 := Lib.hid (HAns.out hB 2 _ HC6.out _ HR6.out (by omega))
    have hk := HK6.out
    rw [htA_B] at hk
    have HK := Lib.hid hk
    clear hk HK6
    go_upto_region 7 with fail
    go_wp2_with fail
    refine HK.out.mono ?_
    rintro e w7 ⟨v, rfl, ho, hb⟩
    obtain ⟨va7, vc7, rfl, _, _⟩ := own_shape ho
    have HC7 := Lib.hid (HC6.out.trans (hb.mono HC6.out.size))
    clear ho hb HK HR6 HC6
    clear p0 p1 p2 p3 q0 q1 q2 q3 r0 r1 r2 r3
    obtain ⟨p0, p1, p2, p3⟩ := cells4 (HBk.out w7 HC7.out).1
    obtain ⟨q0, q1, q2, q3⟩ := cells4 (HBk.out w7 HC7.out).2.1
    obtain ⟨r0, r1, r2, r3⟩ := cells4 (HBk.out w7 HC7.out).2.2
    have HC8 : Hid (Below W1.heap.size W1 (w7.alloc (.cells #[.int .u8 1, .int .u8 0, .int .u16 0, .int .u32 1, .int .u8 2, .int .u8 0, .int .u16 0, .int .u32 0, .int .u8 2, .int .u8 0, .int .u16 0, .int .u32 0, .int .u8 27, .int .u8 0, .int .u16 0, .int .u32 0] 38))) := HC7.out.alloc HC7.out.size _
    have HR8 : Hid (IRow (w7.alloc (.cells #[.int .u8 1, .int .u8 0, .int .u16 0, .int .u32 1, .int .u8 2, .int .u8 0, .int .u16 0, .int .u32 0, .int .u8 2, .int .u8 0, .int .u16 0, .int .u32 0, .int .u8 27, .int .u8 0, .int .u16 0, .int .u32 0] 38)) (some ⟨w7.heap.size, 0, none⟩) 4 hC) := lit_row w7 hC wf_hC (by decide)
    have HK8 := Lib.hid (HAns.out hC 4 _ HC8.out _ HR8.out (by omega))
    have hk := HK8.out
    rw [htA_C] at hk
    have HK := Lib.hid hk
    clear hk HK8
    go_upto_region 8 with fail
    go_wp2_with fail
    refine HK.out.mono ?_
    rintro e w9 ⟨v, rfl, ho, hb⟩
    obtain ⟨va9, vc9, rfl, _, _⟩ := own_shape ho
    have HC9 := Lib.hid (HC8.out.trans (hb.mono HC8.out.size))
    clear ho hb HK HR8 HC8
    clear p0 p1 p2 p3 q0 q1 q2 q3 r0 r1 r2 r3
    have HQ := Lib.hid (HBk.out w9 HC9.out)
    have hE := Posts.ext_rel
    go_upto_region 9 with fail
    refine (wpIn_wide (n := 0)).1 (Posts.wpIn_region_tail hE 13 0 (Posts.At [Posts.is (.agg #[.int .u8 1, .int .u8 0, .int .u16 0, .int .u32 1]), Posts.is (.agg #[.int .u8 20, .int .u8 0, .int .u16 0, .int .u32 3]), Posts.is (.agg #[.int .u8 1, .int .u8 0, .int .u16 0, .int .u32 1]), Posts.is (.agg #[.int .u8 27, .int .u8 0, .int .u16 0, .int .u32 0]), irowP Hgt.hD 4, ansP 3 120, ansP 3 120, nilP, Posts.is (.int .i64 3), Posts.is (.int .i64 120), nilP, Posts.is (.int .i64 3), Posts.is (.int .i64 120)]) (fun _ _ => True) (by kernel_rfl) (by decide) (by kernel_rfl) (by kernel_rfl) (by kernel_rfl)
      (Posts.stable_at _ (by repeat' (first | exact trivial | (refine And.intro ?_ ?_) | exact Posts.is_stable _ | exact Posts.on_stable _ _ | exact irowP_stable _ _ | exact ansP_stable _ _ | exact nilP_stable | assumption))) trivial ?_ ?_)
    · refine ⟨?_, ?_, ?_, ?_, ?_, ?_, ?_, ?_, ?_, ?_, ?_, ?_, ?_, trivial⟩
      · intro a X hX hS hD hJ hU
        obtain ⟨x0, x1, x2, x3⟩ := cells4 ((Posts.Ext.blk hX _ (lt_of_block HQ.out.1)).trans HQ.out.1)
        obtain ⟨y0, y1, y2, y3⟩ := cells4 ((Posts.Ext.blk hX _ (lt_of_block HQ.out.2.2)).trans HQ.out.2.2)
        have d1 := Posts.slot (show a.eval (.tmp 1) = .pointer (some ⟨P1, 0, none⟩) from hS.other 1 rfl)
        exact Posts.op_value (fun _ => trivial) rfl rfl (by intro c h; cases h) rfl (by rw [hS.size]; simp) (v := .agg #[.int .u8 1, .int .u8 0, .int .u16 0, .int .u32 1]) (by simp [execOp, d1, x0, x1, x2, x3, go_sem]) rfl (hE.refl _) trivial
      · intro a X hX hS hD hJ hU
        obtain ⟨x0, x1, x2, x3⟩ := cells4 ((Posts.Ext.blk hX _ (lt_of_block HQ.out.1)).trans HQ.out.1)
        obtain ⟨y0, y1, y2, y3⟩ := cells4 ((Posts.Ext.blk hX _ (lt_of_block HQ.out.2.2)).trans HQ.out.2.2)
        refine Posts.op_call (fun _ => trivial) rfl rfl rfl (by intro c h; cases h) rfl (by rw [hS.size]; simp) 41 #[.int .u8 20, .int .u32 3] (by simp [execOp, go_sem]) ?_
        refine callsIn_wide.2 ((HD.out 20 3 X).mono ?_)
        rintro e Y ⟨rfl, hb⟩
        exact ⟨_, rfl, rfl, hb, trivial⟩
      · intro a X hX hS hD hJ hU
        obtain ⟨x0, x1, x2, x3⟩ := cells4 ((Posts.Ext.blk hX _ (lt_of_block HQ.out.1)).trans HQ.out.1)
        obtain ⟨y0, y1, y2, y3⟩ := cells4 ((Posts.Ext.blk hX _ (lt_of_block HQ.out.2.2)).trans HQ.out.2.2)
        have d1 := Posts.slot (show a.eval (.tmp 1) = .pointer (some ⟨P1, 0, none⟩) from hS.other 1 rfl)
        exact Posts.op_value (fun _ => trivial) rfl rfl (by intro c h; cases h) rfl (by rw [hS.size]; simp) (v := .agg #[.int .u8 1, .int .u8 0, .int .u16 0, .int .u32 1]) (by simp [execOp, d1, x0, x1, x2, x3, go_sem]) rfl (hE.refl _) trivial
      · intro a X hX hS hD hJ hU
        obtain ⟨x0, x1, x2, x3⟩ := cells4 ((Posts.Ext.blk hX _ (lt_of_block HQ.out.1)).trans HQ.out.1)
        obtain ⟨y0, y1, y2, y3⟩ := cells4 ((Posts.Ext.blk hX _ (lt_of_block HQ.out.2.2)).trans HQ.out.2.2)
        have d1 := Posts.slot (show a.eval (.tmp 3) = .pointer (some ⟨P3, 0, none⟩) from hS.other 3 rfl)
        exact Posts.op_value (fun _ => trivial) rfl rfl (by intro c h; cases h) rfl (by rw [hS.size]; simp) (v := .agg #[.int .u8 27, .int .u8 0, .int .u16 0, .int .u32 0]) (by simp [execOp, d1, y0, y1, y2, y3, go_sem]) rfl (hE.refl _) trivial
      · intro a X hX hS hD hJ hU
        obtain ⟨x0, x1, x2, x3⟩ := cells4 ((Posts.Ext.blk hX _ (lt_of_block HQ.out.1)).trans HQ.out.1)
        obtain ⟨y0, y1, y2, y3⟩ := cells4 ((Posts.Ext.blk hX _ (lt_of_block HQ.out.2.2)).trans HQ.out.2.2)
        have d74 := Posts.slot (show a.eval (.tmp 74) = .agg #[.int .u8 1, .int .u8 0, .int .u16 0, .int .u32 1] from hD.1)
        have d75 := Posts.slot (show a.eval (.tmp 75) = .agg #[.int .u8 20, .int .u8 0, .int .u16 0, .int .u32 3] from hD.2.1)
        have d76 := Posts.slot (show a.eval (.tmp 76) = .agg #[.int .u8 1, .int .u8 0, .int .u16 0, .int .u32 1] from hD.2.2.1)
        have d77 := Posts.slot (show a.eval (.tmp 77) = .agg #[.int .u8 27, .int .u8 0, .int .u16 0, .int .u32 0] from hD.2.2.2.1)
        exact Posts.op_value (fun _ => trivial) rfl rfl (by intro c h; cases h) rfl (by rw [hS.size]; simp) (v := .slice (some ⟨X.heap.size, 0, none⟩) 4 4) (Y := X.alloc (.cells #[.int .u8 1, .int .u8 0, .int .u16 0, .int .u32 1, .int .u8 20, .int .u8 0, .int .u16 0, .int .u32 3, .int .u8 1, .int .u8 0, .int .u16 0, .int .u32 1, .int .u8 27, .int .u8 0, .int .u16 0, .int .u32 0] 38)) (by simp [execOp, d74, d75, d76, d77, go_sem]) ⟨X.heap.size, rfl, lit_row X Hgt.hD wf_hD (by decide)⟩ ((Below.refl _ X).alloc (Nat.le_refl _) _) trivial
      · intro a X hX hS hD hJ hU
        obtain ⟨x0, x1, x2, x3⟩ := cells4 ((Posts.Ext.blk hX _ (lt_of_block HQ.out.1)).trans HQ.out.1)
        obtain ⟨y0, y1, y2, y3⟩ := cells4 ((Posts.Ext.blk hX _ (lt_of_block HQ.out.2.2)).trans HQ.out.2.2)
        obtain ⟨b, e78, hr⟩ : irowP Hgt.hD 4 (a.eval (.tmp 78)) X := hD.1
        have d78 := Posts.slot e78
        refine Posts.op_call (fun _ => trivial) rfl rfl rfl (by intro c h; cases h) rfl (by rw [hS.size]; simp) 22 #[.slice (some ⟨b, 0, none⟩) 4 4, .int .i64 2] (by simp [execOp, d78, go_sem]) ?_
        have hk := HAns.out Hgt.hD 4 X (HC9.out.trans (hX.mono HC9.out.size)) _ hr (by omega)
        rw [htA_D] at hk
        refine callsIn_wide.2 (hk.mono ?_)
        rintro e Y ⟨v, rfl, ho, hb⟩
        obtain ⟨va, vc, rfl, _, _⟩ := own_shape ho
        exact ⟨_, rfl, ⟨va, vc, rfl⟩, hb, trivial⟩
      · intro a X hX hS hD hJ hU
        obtain ⟨x0, x1, x2, x3⟩ := cells4 ((Posts.Ext.blk hX _ (lt_of_block HQ.out.1)).trans HQ.out.1)
        obtain ⟨y0, y1, y2, y3⟩ := cells4 ((Posts.Ext.blk hX _ (lt_of_block HQ.out.2.2)).trans HQ.out.2.2)
        obtain ⟨va, vc, e0⟩ : ansP 3 120 (a.eval (.tmp 79)) X := hD.1
        have d0 := Posts.slot e0
        exact Posts.op_value (fun _ => trivial) rfl rfl (by intro c h; cases h) rfl (by rw [hS.size]; simp) (v := .tuple #[.slice va 0 vc, .int .i64 3, .int .i64 120]) (by simp [execOp, d0, go_sem]) ⟨va, vc, rfl⟩ (hE.refl _) trivial
      · intro a X hX hS hD hJ hU
        obtain ⟨x0, x1, x2, x3⟩ := cells4 ((Posts.Ext.blk hX _ (lt_of_block HQ.out.1)).trans HQ.out.1)
        obtain ⟨y0, y1, y2, y3⟩ := cells4 ((Posts.Ext.blk hX _ (lt_of_block HQ.out.2.2)).trans HQ.out.2.2)
        obtain ⟨va, vc, e0⟩ : ansP 3 120 (a.eval (.tmp 73)) X := hD.1
        have d0 := Posts.slot e0
        exact Posts.op_value (fun _ => trivial) rfl rfl (by intro c h; cases h) rfl (by rw [hS.size]; simp) (v := .slice va 0 vc) (by simp [execOp, d0, go_sem]) ⟨va, vc, rfl⟩ (hE.refl _) trivial
      · intro a X hX hS hD hJ hU
        obtain ⟨x0, x1, x2, x3⟩ := cells4 ((Posts.Ext.blk hX _ (lt_of_block HQ.out.1)).trans HQ.out.1)
        obtain ⟨y0, y1, y2, y3⟩ := cells4 ((Posts.Ext.blk hX _ (lt_of_block HQ.out.2.2)).trans HQ.out.2.2)
        obtain ⟨va, vc, e0⟩ : ansP 3 120 (a.eval (.tmp 73)) X := hD.1
        have d0 := Posts.slot e0
        exact Posts.op_value (fun _ => trivial) rfl rfl (by intro c h; cases h) rfl (by rw [hS.size]; simp) (v := .int .i64 3) (by simp [execOp, d0, go_sem]) rfl (hE.refl _) trivial
      · intro a X hX hS hD hJ hU
        obtain ⟨x0, x1, x2, x3⟩ := cells4 ((Posts.Ext.blk hX _ (lt_of_block HQ.out.1)).trans HQ.out.1)
        obtain ⟨y0, y1, y2, y3⟩ := cells4 ((Posts.Ext.blk hX _ (lt_of_block HQ.out.2.2)).trans HQ.out.2.2)
        obtain ⟨va, vc, e0⟩ : ansP 3 120 (a.eval (.tmp 73)) X := hD.1
        have d0 := Posts.slot e0
        exact Posts.op_value (fun _ => trivial) rfl rfl (by intro c h; cases h) rfl (by rw [hS.size]; simp) (v := .int .i64 120) (by simp [execOp, d0, go_sem]) rfl (hE.refl _) trivial
      · intro a X hX hS hD hJ hU
        obtain ⟨x0, x1, x2, x3⟩ := cells4 ((Posts.Ext.blk hX _ (lt_of_block HQ.out.1)).trans HQ.out.1)
        obtain ⟨y0, y1, y2, y3⟩ := cells4 ((Posts.Ext.blk hX _ (lt_of_block HQ.out.2.2)).trans HQ.out.2.2)
        obtain ⟨va, vc, e0⟩ : nilP (a.eval (.tmp 80)) X := hD.1
        have d0 := Posts.slot e0
        exact Posts.op_value (fun _ => trivial) rfl rfl (by intro c h; cases h) rfl (by rw [hS.size]; simp) (v := .slice va 0 vc) (by simp [execOp, d0, go_sem]) ⟨va, vc, rfl⟩ (hE.refl _) trivial
      · intro a X hX hS hD hJ hU
        obtain ⟨x0, x1, x2, x3⟩ := cells4 ((Posts.Ext.blk hX _ (lt_of_block HQ.out.1)).trans HQ.out.1)
        obtain ⟨y0, y1, y2, y3⟩ := cells4 ((Posts.Ext.blk hX _ (lt_of_block HQ.out.2.2)).trans HQ.out.2.2)
        have d81 := Posts.slot (show a.eval (.tmp 81) = .int .i64 3 from hD.1)
        exact Posts.op_value (fun _ => trivial) rfl rfl (by intro c h; cases h) rfl (by rw [hS.size]; simp) (v := .int .i64 3) (by simp [execOp, d81,  go_sem]) rfl (hE.refl _) trivial
      · intro a X hX hS hD hJ hU
        obtain ⟨x0, x1, x2, x3⟩ := cells4 ((Posts.Ext.blk hX _ (lt_of_block HQ.out.1)).trans HQ.out.1)
        obtain ⟨y0, y1, y2, y3⟩ := cells4 ((Posts.Ext.blk hX _ (lt_of_block HQ.out.2.2)).trans HQ.out.2.2)
        have d82 := Posts.slot (show a.eval (.tmp 82) = .int .i64 120 from hD.1)
        exact Posts.op_value (fun _ => trivial) rfl rfl (by intro c h; cases h) rfl (by rw [hS.size]; simp) (v := .int .i64 120) (by simp [execOp, d82,  go_sem]) rfl (hE.refl _) trivial
    · intro a0 Y hY hS hJt hL
      have p74 := Posts.slot (show a0.eval (.tmp 74) = .agg #[.int .u8 1, .int .u8 0, .int .u16 0, .int .u32 1] from hL.1)
      have p75 := Posts.slot (show a0.eval (.tmp 75) = .agg #[.int .u8 20, .int .u8 0, .int .u16 0, .int .u32 3] from hL.2.1)
      have p76 := Posts.slot (show a0.eval (.tmp 76) = .agg #[.int .u8 1, .int .u8 0, .int .u16 0, .int .u32 1] from hL.2.2.1)
      have p77 := Posts.slot (show a0.eval (.tmp 77) = .agg #[.int .u8 27, .int .u8 0, .int .u16 0, .int .u32 0] from hL.2.2.2.1)
      obtain ⟨b9, e78, _⟩ : (irowP Hgt.hD 4) (a0.eval (.tmp 78)) Y := hL.2.2.2.2.1
      have p78 := Posts.slot e78
      clear e78
      obtain ⟨va1, vc1, e79⟩ : (ansP 3 120) (a0.eval (.tmp 79)) Y := hL.2.2.2.2.2.1
      have p79 := Posts.slot e79
      clear e79
      obtain ⟨va2, vc2, e73⟩ : (ansP 3 120) (a0.eval (.tmp 73)) Y := hL.2.2.2.2.2.2.1
      have p73 := Posts.slot e73
      clear e73
      obtain ⟨va3, vc3, e80⟩ : (nilP) (a0.eval (.tmp 80)) Y := hL.2.2.2.2.2.2.2.1
      have p80 := Posts.slot e80
      clear e80
      have p81 := Posts.slot (show a0.eval (.tmp 81) = .int .i64 3 from hL.2.2.2.2.2.2.2.2.1)
      have p82 := Posts.slot (show a0.eval (.tmp 82) = .int .i64 120 from hL.2.2.2.2.2.2.2.2.2.1)
      obtain ⟨va4, vc4, e12⟩ : (nilP) (a0.eval (.tmp 12)) Y := hL.2.2.2.2.2.2.2.2.2.2.1
      have p12 := Posts.slot e12
      clear e12
      have p13 := Posts.slot (show a0.eval (.tmp 13) = .int .i64 3 from hL.2.2.2.2.2.2.2.2.2.2.2.1)
      have p14 := Posts.slot (show a0.eval (.tmp 14) = .int .i64 120 from hL.2.2.2.2.2.2.2.2.2.2.2.2.1)
      have hfr := hS.frame [74, 75, 76, 77, 78, 79, 73, 80, 81, 82, 12, 13, 14] (fun t ht => by simp [Posts.isDst] at ht; first | (rcases ht with h | h | h | h | h | h | h | h | h | h | h | h | h <;> subst h <;> simp) | (subst ht; simp))
      simp only [List.foldl_cons, List.foldl_nil] at hfr
      have hdf := hS.defers
      simp only [Array.getD_eq_getD_getElem?] at hfr
      clear hL hS
      generalize a0.tmps[74]?.getD undef = v74 at *
      generalize a0.tmps[75]?.getD undef = v75 at *
      generalize a0.tmps[76]?.getD undef = v76 at *
      generalize a0.tmps[77]?.getD undef = v77 at *
      generalize a0.tmps[78]?.getD undef = v78 at *
      generalize a0.tmps[79]?.getD undef = v79 at *
      generalize a0.tmps[73]?.getD undef = v73 at *
      generalize a0.tmps[80]?.getD undef = v80 at *
      generalize a0.tmps[81]?.getD undef = v81 at *
      generalize a0.tmps[82]?.getD undef = v82 at *
      generalize a0.tmps[12]?.getD undef = v12 at *
      generalize a0.tmps[13]?.getD undef = v13 at *
      generalize a0.tmps[14]?.getD undef = v14 at *
      obtain rfl := p74
      obtain rfl := p75
      obtain rfl := p76
      obtain rfl := p77
      obtain rfl := p78
      obtain rfl := p79
      obtain rfl := p73
      obtain rfl := p80
      obtain rfl := p81
      obtain rfl := p82
      obtain rfl := p12
      obtain rfl := p13
      obtain rfl := p14
      obtain ⟨tm, df⟩ := a0
      simp only [List.setIfInBounds_toArray, List.set_cons_succ, List.set_cons_zero] at hfr hdf
      subst hfr
      subst hdf
      refine ⟨by kernel_rfl, ?_⟩
      simp only [Exit.inBlock, Exit.then]
      first
        | (rename_i hK; refine hK _ _ ?_)
        | (rename_i hK _; refine hK _ _ ?_)
        | (rename_i hK _ _; refine hK _ _ ?_)
      have HBf : Hid (Below w.heap.size w Y) := HB1.out.trans ((HC9.out.trans (hY.mono HC9.out.size)).mono HB1.out.size)
      clear hY hE HC9 HBk HAns HMst HQ HT HD hK
      go_wp2_with fail
      go_ret
      exact ⟨rfl, HBf.out⟩
end Hgt
end Go.Proofs.YteingehdkpfpcaaDoor
