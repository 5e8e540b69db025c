/- The statement HmacSames holds: whatever the input, the call answers true, and what was handed in reads as it did. Under the statement's own reading alone: the primes' table is as the program's text lays it. -/
import Derived.Test.YtodbfkifendniaaDoorHmacDig
import Derived.Test.YtodbfkifendniaaDoorPosts
namespace Go.Proofs.YtodbfkifendniaaDoor.hmacSames
open Go.ChangeShapes Go.WideShapes Go.ChangeAt Go.RowKit Sha

set_option maxRecDepth 100000 in
set_option maxHeartbeats 2000000 in
theorem walk (d f : List Int) (w : World) (hr : Roots w) (l0 : d.length = 32) (w0 : ∀ z ∈ d, 0 ≤ z ∧ z ≤ 255) (l1 : f.length = 32) (w1 : ∀ z ∈ f, 0 ≤ z ∧ z ≤ 255) :
    Calls Tryd.prog 6 #[.agg (ints .u8 d), .agg (ints .u8 f)] w fun e w' => e = .returned (.bool true) ∧ Below w.heap.size w w' := by
  have HR := Lib.hid hr
  have hd := Lib.hid l0
  have hf := Lib.hid l1
  have hdb := Lib.hid w0
  have hfb := Lib.hid w1
  clear hr l0 l1 w0 w1
  go_enter Tryd.func6, Tryd.ntmps6
  go_wp2_with fail
  have H2 : Hid (((w.alloc (.cells (ints .u8 d) 25)).alloc (.cells (ints .u8 f) 25)).heap[w.heap.size]? = some (.cells (ints .u8 d) 25 (0, 0))) := heap_alloc2_old _ _ _
  have H3 : Hid (((w.alloc (.cells (ints .u8 d) 25)).alloc (.cells (ints .u8 f) 25)).heap[w.heap.size + 1]? = some (.cells (ints .u8 f) 25 (0, 0))) := heap_alloc2_new _ _ _
  have HBW := Lib.hid (B_alloc (B_alloc (Below.refl w.heap.size w) (.cells (ints .u8 d) 25)) (.cells (ints .u8 f) 25))
  have HRV := Lib.hid (HR.out.below HBW.out)
  generalize (w.alloc (.cells (ints .u8 d) 25)).alloc (.cells (ints .u8 f) 25) = V at *
  refine Posts.wp_region (Posts.At [Posts.is (.agg (ints .u8 d)), Posts.is (.agg (ints .u8 f)), Posts.is (.bool (decide (d = f))), Posts.is (.agg (ints .u8 d)), Posts.is (.agg (ints .u8 f)), Posts.is (.bool (decide (d = f))), Posts.is (.bool true), Posts.is (.bool true), Posts.is (.agg (ints .u8 d)), Posts.is (.agg (ints .u8 d)), Posts.is (.bool true), Posts.is (.bool true), Posts.is (.bool true), Posts.is (.bool true), Posts.is (.bool true), Posts.is (.bool true)]) (by kernel_rfl) (by kernel_rfl) (by kernel_rfl)
    (Posts.stable_at _ (by repeat' (first | exact trivial | (refine And.intro ?_ ?_) | exact Posts.is_stable _ | exact Posts.row_stable _ _ _))) ?_ ?_
  · refine ⟨?_, ?_, ?_, ?_, ?_, ?_, ?_, ?_, ?_, ?_, ?_, ?_, ?_, ?_, ?_, ?_, trivial⟩
    · intro a X hX hS hD
      have d2 := Posts.slot (show a.eval (.tmp 2) = .pointer (some ⟨w.heap.size, 0, none⟩) from hS.other 2 rfl)
      exact Posts.op_value rfl rfl rfl (by rw [hS.size]; simp) (run_load_op (.tmp 2) rfl _ d hd.out (hS.other 2 rfl) (R_below hX H2.out)) rfl (Posts.Ext.refl _)
    · intro a X hX hS hD
      have d3 := Posts.slot (show a.eval (.tmp 3) = .pointer (some ⟨w.heap.size + 1, 0, none⟩) from hS.other 3 rfl)
      exact Posts.op_value rfl rfl rfl (by rw [hS.size]; simp) (run_load_op (.tmp 3) rfl _ f hf.out (hS.other 3 rfl) (R_below hX H3.out)) rfl (Posts.Ext.refl _)
    · intro a X hX hS hD
      have d5 := Posts.slot (show a.eval (.tmp 5) = .agg (ints .u8 d) from hD.1)
      have d6 := Posts.slot (show a.eval (.tmp 6) = .agg (ints .u8 f) from hD.2.1)
      refine Posts.op_call rfl rfl rfl (by rw [hS.size]; simp) 15 #[.agg (ints .u8 d), .agg (ints .u8 f)] (by simp [d5, d6, go_sem]) ?_
      refine (same_any d f X hd.out hf.out hdb.out hfb.out).mono ?_
      rintro e Y ⟨rfl, hXY⟩
      exact ⟨_, rfl, rfl, hXY⟩
    · intro a X hX hS hD
      have d2 := Posts.slot (show a.eval (.tmp 2) = .pointer (some ⟨w.heap.size, 0, none⟩) from hS.other 2 rfl)
      exact Posts.op_value rfl rfl rfl (by rw [hS.size]; simp) (run_load_op (.tmp 2) rfl _ d hd.out (hS.other 2 rfl) (R_below hX H2.out)) rfl (Posts.Ext.refl _)
    · intro a X hX hS hD
      have d3 := Posts.slot (show a.eval (.tmp 3) = .pointer (some ⟨w.heap.size + 1, 0, none⟩) from hS.other 3 rfl)
      exact Posts.op_value rfl rfl rfl (by rw [hS.size]; simp) (run_load_op (.tmp 3) rfl _ f hf.out (hS.other 3 rfl) (R_below hX H3.out)) rfl (Posts.Ext.refl _)
    · intro a X hX hS hD
      have d8 := Posts.slot (show a.eval (.tmp 8) = .agg (ints .u8 d) from hD.1)
      have d9 := Posts.slot (show a.eval (.tmp 9) = .agg (ints .u8 f) from hD.2.1)
      exact Posts.op_value rfl rfl rfl (by rw [hS.size]; simp) (run_eql_any X (.tmp 8) (.tmp 9) rfl d f hd.out hf.out hD.1 hD.2.1) rfl (Posts.Ext.refl _)
    · intro a X hX hS hD
      have d7 := Posts.slot (show a.eval (.tmp 7) = .bool (decide (d = f)) from hD.1)
      have d10 := Posts.slot (show a.eval (.tmp 10) = .bool (decide (d = f)) from hD.2.1)
      exact Posts.op_value rfl rfl rfl (by rw [hS.size]; simp) (v := .bool true) (by simp [execOp, d7, d10, go_sem]) rfl (Posts.Ext.refl _)
    · intro a X hX hS hD
      have d11 := Posts.slot (show a.eval (.tmp 11) = .bool true from hD.1)
      exact Posts.op_value rfl rfl rfl (by rw [hS.size]; simp) (v := .bool true) (by simp [execOp, d11, go_sem]) rfl (Posts.Ext.refl _)
    · intro a X hX hS hD
      have d2 := Posts.slot (show a.eval (.tmp 2) = .pointer (some ⟨w.heap.size, 0, none⟩) from hS.other 2 rfl)
      exact Posts.op_value rfl (Posts.wanted_yes rfl rfl rfl hD.1) rfl (by rw [hS.size]; simp) (run_load_op (.tmp 2) rfl _ d hd.out (hS.other 2 rfl) (R_below hX H2.out)) rfl (Posts.Ext.refl _)
    · intro a X hX hS hD
      have d2 := Posts.slot (show a.eval (.tmp 2) = .pointer (some ⟨w.heap.size, 0, none⟩) from hS.other 2 rfl)
      exact Posts.op_value rfl (Posts.wanted_yes rfl rfl rfl hD.1) rfl (by rw [hS.size]; simp) (run_load_op (.tmp 2) rfl _ d hd.out (hS.other 2 rfl) (R_below hX H2.out)) rfl (Posts.Ext.refl _)
    · intro a X hX hS hD
      have d13 := Posts.slot (show a.eval (.tmp 13) = .agg (ints .u8 d) from hD.1)
      have d14 := Posts.slot (show a.eval (.tmp 14) = .agg (ints .u8 d) from hD.2.1)
      refine Posts.op_call rfl (Posts.wanted_yes rfl rfl rfl hD.2.2.1) rfl (by rw [hS.size]; simp) 15 #[.agg (ints .u8 d), .agg (ints .u8 d)] (by simp [d13, d14, go_sem]) ?_
      refine (same_any d d X hd.out hd.out hdb.out hdb.out).mono ?_
      rintro e Y ⟨rfl, hXY⟩
      exact ⟨_, rfl, by simp [Posts.At, Posts.is], hXY⟩
    · intro a X hX hS hD
      have d12 := Posts.slot (show a.eval (.tmp 12) = .bool true from hD.1)
      have d15 := Posts.slot (show a.eval (.tmp 15) = .bool true from hD.2.1)
      exact Posts.op_value rfl rfl rfl (by rw [hS.size]; simp) (v := .bool true) (by simp [execOp, d12, d15, go_sem]) rfl (Posts.Ext.refl _)
    · intro a X hX hS hD
      have d16 := Posts.slot (show a.eval (.tmp 16) = .bool true from hD.1)
      exact Posts.op_value rfl rfl rfl (by rw [hS.size]; simp) (v := .bool true) (by simp [execOp, d16, go_sem]) rfl (Posts.Ext.refl _)
    · intro a X hX hS hD
      refine Posts.op_call rfl (Posts.wanted_yes rfl rfl rfl hD.1) rfl (by rw [hS.size]; simp) 12 #[] (by simp [go_sem]) ?_
      refine (worksH_any _ (HRV.out.below hX)).mono ?_
      rintro e Y ⟨rfl, hXY⟩
      exact ⟨_, rfl, rfl, hXY⟩
    · intro a X hX hS hD
      have d17 := Posts.slot (show a.eval (.tmp 17) = .bool true from hD.1)
      have d18 := Posts.slot (show a.eval (.tmp 18) = .bool true from hD.2.1)
      exact Posts.op_value rfl rfl rfl (by rw [hS.size]; simp) (v := .bool true) (by simp [execOp, d17, d18, go_sem]) rfl (Posts.Ext.refl _)
    · intro a X hX hS hD
      have d19 := Posts.slot (show a.eval (.tmp 19) = .bool true from hD.1)
      exact Posts.op_value rfl rfl rfl (by rw [hS.size]; simp) (v := .bool true) (by simp [execOp, d19, go_sem]) rfl (Posts.Ext.refl _)
  · intro a Y hY hS hL
    have hres : a.tmps.getD 4 undef = .bool true := hL.2.2.2.2.2.2.2.2.2.2.2.2.2.2.2.1
    rename_i hK
    refine hK _ _ ?_
    go_wp2_with fail
    exact bodyPost_ret (v := .bool true) (by have h := results_tmp (fn := Tryd.f6) (t := 4) rfl a.tmps Tryd.prog Y; rw [hres] at h; exact h) hS.defers ⟨rfl, HBW.out.trans (Below.mono hY HBW.out.size)⟩

/-- what the walk gives, for every argument, in every world that holds the table -/
theorem contract (H : Type) (enc : TypeId × Value → H) (W : World) (base : Nat) (args : Array Value) (ds gs : List (DataW H)) (before : List MemPlace)
    (hval : ∀ (j : Nat) t v, Tryd.f6.params[j]? = some t → args[j]? = some v → Value.okWide Tryd.prog W .any base t v)
    (hW : DataW.Whole enc Tryd.prog Tryd.f6.params.toList Rows.hmacSamesSpec.vars false W args.toList ds gs before) (hL : laidMetH Tryd.prog Rows.hmacSamesRow.laid W) :
    Calls Tryd.prog 6 args W fun e W' => ∃ v, e = .returned v ∧ Rows.hmacSamesSpec.post enc Tryd.prog Tryd.f6 false true false false W args v W' := by
  have hW' := hW
  obtain ⟨p, q, hA0, hV, rfl, hfz, hnd⟩ := hW
  have hA : DataW.TrodAll enc Tryd.prog W 0 (fun _ => true) true Tryd.f6.params.toList args.toList ds p := hA0
  rw [Tryd.params6] at hA hval
  obtain ⟨v0, vs0, d0, ds0, p0, q0, hargs, rfl, rfl, h0, r0⟩ := trodAll_cons hA
  obtain ⟨v1, vs1, d1, ds1, p1, q1, rfl, rfl, rfl, h1, r1⟩ := trodAll_cons r0
  obtain ⟨rfl, rfl, rfl⟩ := trodAll_nil r1
  obtain rfl : args = #[v0, v1] := by cases args; simp_all
  obtain ⟨rfl, rfl⟩ := trodVars_none hV
  obtain ⟨c0, rfl, hc0⟩ := okWide_digest (hval 0 25 v0 rfl rfl)
  have k0 := h0
  have lt0 : ∀ x ∈ p0, x.block < W.heap.size := by obtain ⟨m, hm⟩ := k0; exact DataW.trod_lt m _ _ _ hm
  obtain ⟨z0, rfl, l0, w0⟩ := open_digest h0 hc0
  obtain ⟨c1, rfl, hc1⟩ := okWide_digest (hval 1 25 v1 rfl rfl)
  have k1 := h1
  have lt1 : ∀ x ∈ p1, x.block < W.heap.size := by obtain ⟨m, hm⟩ := k1; exact DataW.trod_lt m _ _ _ hm
  obtain ⟨z1, rfl, l1, w1⟩ := open_digest h1 hc1
  clear hA0
  refine (walk z0 z1 W (roots hL) l0 w0 l1 w1).mono fun e W' ⟨he, bel⟩ => ?_
  subst he
  exact ⟨_, rfl, _, _, _, [], _, [], hW', trodAll_mk1 (shut_bool Tryd.underlying4 _), (trodAll_cons_mk (Below.trod laidOut (by kernel_rfl) (of_decide_eq_true (by kernel_rfl)) k0 bel lt0) (trodAll_cons_mk (Below.trod laidOut (by kernel_rfl) (of_decide_eq_true (by kernel_rfl)) k1 bel lt1) trodAll_mk0)), rfl, bel.frame _, fun h => by cases h⟩

theorem reads (os : Os) {H : Type} (enc : TypeId × Value → H) : ∃ places, DataW.whole enc Tryd.prog ((laidWorld os).forCall (fun _ _ => 0) ⟨#[], (#[Value.agg #[Value.int IntKind.u8 0, Value.int IntKind.u8 0, Value.int IntKind.u8 0, Value.int IntKind.u8 0, Value.int IntKind.u8 0, Value.int IntKind.u8 0, Value.int IntKind.u8 0, Value.int IntKind.u8 0, Value.int IntKind.u8 0, Value.int IntKind.u8 0, Value.int IntKind.u8 0, Value.int IntKind.u8 0, Value.int IntKind.u8 0, Value.int IntKind.u8 0, Value.int IntKind.u8 0, Value.int IntKind.u8 0, Value.int IntKind.u8 0, Value.int IntKind.u8 0, Value.int IntKind.u8 0, Value.int IntKind.u8 0, Value.int IntKind.u8 0, Value.int IntKind.u8 0, Value.int IntKind.u8 0, Value.int IntKind.u8 0, Value.int IntKind.u8 0, Value.int IntKind.u8 0, Value.int IntKind.u8 0, Value.int IntKind.u8 0, Value.int IntKind.u8 0, Value.int IntKind.u8 0, Value.int IntKind.u8 0, Value.int IntKind.u8 0], Value.agg #[Value.int IntKind.u8 0, Value.int IntKind.u8 0, Value.int IntKind.u8 0, Value.int IntKind.u8 0, Value.int IntKind.u8 0, Value.int IntKind.u8 0, Value.int IntKind.u8 0, Value.int IntKind.u8 0, Value.int IntKind.u8 0, Value.int IntKind.u8 0, Value.int IntKind.u8 0, Value.int IntKind.u8 0, Value.int IntKind.u8 0, Value.int IntKind.u8 0, Value.int IntKind.u8 0, Value.int IntKind.u8 0, Value.int IntKind.u8 0, Value.int IntKind.u8 0, Value.int IntKind.u8 0, Value.int IntKind.u8 0, Value.int IntKind.u8 0, Value.int IntKind.u8 0, Value.int IntKind.u8 0, Value.int IntKind.u8 0, Value.int IntKind.u8 0, Value.int IntKind.u8 0, Value.int IntKind.u8 0, Value.int IntKind.u8 0, Value.int IntKind.u8 0, Value.int IntKind.u8 0, Value.int IntKind.u8 0, Value.int IntKind.u8 0]] : Array Value), []⟩).memory Tryd.f6.params.toList Rows.hmacSamesSpec.vars false (#[Value.agg #[Value.int IntKind.u8 0, Value.int IntKind.u8 0, Value.int IntKind.u8 0, Value.int IntKind.u8 0, Value.int IntKind.u8 0, Value.int IntKind.u8 0, Value.int IntKind.u8 0, Value.int IntKind.u8 0, Value.int IntKind.u8 0, Value.int IntKind.u8 0, Value.int IntKind.u8 0, Value.int IntKind.u8 0, Value.int IntKind.u8 0, Value.int IntKind.u8 0, Value.int IntKind.u8 0, Value.int IntKind.u8 0, Value.int IntKind.u8 0, Value.int IntKind.u8 0, Value.int IntKind.u8 0, Value.int IntKind.u8 0, Value.int IntKind.u8 0, Value.int IntKind.u8 0, Value.int IntKind.u8 0, Value.int IntKind.u8 0, Value.int IntKind.u8 0, Value.int IntKind.u8 0, Value.int IntKind.u8 0, Value.int IntKind.u8 0, Value.int IntKind.u8 0, Value.int IntKind.u8 0, Value.int IntKind.u8 0, Value.int IntKind.u8 0], Value.agg #[Value.int IntKind.u8 0, Value.int IntKind.u8 0, Value.int IntKind.u8 0, Value.int IntKind.u8 0, Value.int IntKind.u8 0, Value.int IntKind.u8 0, Value.int IntKind.u8 0, Value.int IntKind.u8 0, Value.int IntKind.u8 0, Value.int IntKind.u8 0, Value.int IntKind.u8 0, Value.int IntKind.u8 0, Value.int IntKind.u8 0, Value.int IntKind.u8 0, Value.int IntKind.u8 0, Value.int IntKind.u8 0, Value.int IntKind.u8 0, Value.int IntKind.u8 0, Value.int IntKind.u8 0, Value.int IntKind.u8 0, Value.int IntKind.u8 0, Value.int IntKind.u8 0, Value.int IntKind.u8 0, Value.int IntKind.u8 0, Value.int IntKind.u8 0, Value.int IntKind.u8 0, Value.int IntKind.u8 0, Value.int IntKind.u8 0, Value.int IntKind.u8 0, Value.int IntKind.u8 0, Value.int IntKind.u8 0, Value.int IntKind.u8 0]] : Array Value).toList 8 = some ([.agg [.lit (.int .u8 0), .lit (.int .u8 0), .lit (.int .u8 0), .lit (.int .u8 0), .lit (.int .u8 0), .lit (.int .u8 0), .lit (.int .u8 0), .lit (.int .u8 0), .lit (.int .u8 0), .lit (.int .u8 0), .lit (.int .u8 0), .lit (.int .u8 0), .lit (.int .u8 0), .lit (.int .u8 0), .lit (.int .u8 0), .lit (.int .u8 0), .lit (.int .u8 0), .lit (.int .u8 0), .lit (.int .u8 0), .lit (.int .u8 0), .lit (.int .u8 0), .lit (.int .u8 0), .lit (.int .u8 0), .lit (.int .u8 0), .lit (.int .u8 0), .lit (.int .u8 0), .lit (.int .u8 0), .lit (.int .u8 0), .lit (.int .u8 0), .lit (.int .u8 0), .lit (.int .u8 0), .lit (.int .u8 0)], .agg [.lit (.int .u8 0), .lit (.int .u8 0), .lit (.int .u8 0), .lit (.int .u8 0), .lit (.int .u8 0), .lit (.int .u8 0), .lit (.int .u8 0), .lit (.int .u8 0), .lit (.int .u8 0), .lit (.int .u8 0), .lit (.int .u8 0), .lit (.int .u8 0), .lit (.int .u8 0), .lit (.int .u8 0), .lit (.int .u8 0), .lit (.int .u8 0), .lit (.int .u8 0), .lit (.int .u8 0), .lit (.int .u8 0), .lit (.int .u8 0), .lit (.int .u8 0), .lit (.int .u8 0), .lit (.int .u8 0), .lit (.int .u8 0), .lit (.int .u8 0), .lit (.int .u8 0), .lit (.int .u8 0), .lit (.int .u8 0), .lit (.int .u8 0), .lit (.int .u8 0), .lit (.int .u8 0), .lit (.int .u8 0)]], [], places) :=
  ⟨[], by kernel_rfl⟩

set_option maxRecDepth 100000 in
theorem lifted (os : Os) (started : os.Started) (H : Type) (enc : TypeId × Value → H) (F : Stop.Interp) :
    ReturnsInHanded {} Tryd.checked os 6 .any ((OpenSpec.ofChange Rows.hmacSamesSpec).preRow enc Tryd.prog Tryd.f6 Rows.hmacSamesRow.domain false Rows.hmacSamesRow.laid) (((OpenSpec.ofChange Rows.hmacSamesSpec).at F).post enc Tryd.prog Tryd.f6 false true false false) := by
  obtain ⟨places, hx⟩ := reads os enc
  refine returnsInHanded_of_row (C := Tryd.checked) (s := OpenSpec.ofChange Rows.hmacSamesSpec) own started (by kernel_rfl) Tryd.func6
    (witness_row_at (enc := enc) (C := Tryd.checked) false (laidWorld os) (#[Value.agg #[Value.int IntKind.u8 0, Value.int IntKind.u8 0, Value.int IntKind.u8 0, Value.int IntKind.u8 0, Value.int IntKind.u8 0, Value.int IntKind.u8 0, Value.int IntKind.u8 0, Value.int IntKind.u8 0, Value.int IntKind.u8 0, Value.int IntKind.u8 0, Value.int IntKind.u8 0, Value.int IntKind.u8 0, Value.int IntKind.u8 0, Value.int IntKind.u8 0, Value.int IntKind.u8 0, Value.int IntKind.u8 0, Value.int IntKind.u8 0, Value.int IntKind.u8 0, Value.int IntKind.u8 0, Value.int IntKind.u8 0, Value.int IntKind.u8 0, Value.int IntKind.u8 0, Value.int IntKind.u8 0, Value.int IntKind.u8 0, Value.int IntKind.u8 0, Value.int IntKind.u8 0, Value.int IntKind.u8 0, Value.int IntKind.u8 0, Value.int IntKind.u8 0, Value.int IntKind.u8 0, Value.int IntKind.u8 0, Value.int IntKind.u8 0], Value.agg #[Value.int IntKind.u8 0, Value.int IntKind.u8 0, Value.int IntKind.u8 0, Value.int IntKind.u8 0, Value.int IntKind.u8 0, Value.int IntKind.u8 0, Value.int IntKind.u8 0, Value.int IntKind.u8 0, Value.int IntKind.u8 0, Value.int IntKind.u8 0, Value.int IntKind.u8 0, Value.int IntKind.u8 0, Value.int IntKind.u8 0, Value.int IntKind.u8 0, Value.int IntKind.u8 0, Value.int IntKind.u8 0, Value.int IntKind.u8 0, Value.int IntKind.u8 0, Value.int IntKind.u8 0, Value.int IntKind.u8 0, Value.int IntKind.u8 0, Value.int IntKind.u8 0, Value.int IntKind.u8 0, Value.int IntKind.u8 0, Value.int IntKind.u8 0, Value.int IntKind.u8 0, Value.int IntKind.u8 0, Value.int IntKind.u8 0, Value.int IntKind.u8 0, Value.int IntKind.u8 0, Value.int IntKind.u8 0, Value.int IntKind.u8 0]] : Array Value) rfl (by kernel_rfl) (by kernel_rfl) (by kernel_rfl)
      (OpenSpec.preRow_of_cond 8 hx (by kernel_rfl) (fun k hk => by cases hk) (by kernel_rfl) (laid_met os _))) ?_
  intro W base args ds gs before hval hW _ _ _ hL _ _
  exact contract H enc W base args ds gs before hval hW hL

theorem said : Rows.HmacSamesSaid :=
  OpenClaim.holds_of_cond 6 Tryd.f6 rfl rfl rfl rfl rfl rfl rfl ⟨rfl, rfl, rfl, rfl, rfl⟩ rfl rfl rfl rfl rfl (by kernel_rfl) Tryd.func6 (by kernel_rfl)
    (of_decide_eq_true (by kernel_rfl)) (by unfold Func.isWrapper; first | (rw [if_pos (by decide +kernel)]; kernel_rfl) | (rw [if_neg (by decide +kernel)]; exact ⟨rfl, rfl⟩))
    (fun os started H enc _ F => by rw [OpenClaim.pre_eq_preRow]; exact lifted os started H enc F)

theorem plain (f : FuncId) (fn : Func) (hf : Tryd.pinned.checked.prog.funcNamed "tappet/tappetlaw03.HmacSames" = some f) (hfn : Tryd.pinned.checked.prog.funcs[f]? = some fn) :
    false = Tryd.pinned.checked.prog.looks [] ∧ ∀ (j : Nat) t, fn.params[j]? = some t → Tryd.pinned.checked.prog.wantsStandIn t = false := by
  obtain rfl : f = 6 := Option.some.inj ((show Tryd.prog.funcNamed "tappet/tappetlaw03.HmacSames" = some 6 by kernel_rfl).symm.trans hf) |>.symm
  obtain rfl : fn = Tryd.f6 := (Option.some.inj (Tryd.func6.symm.trans hfn)).symm
  refine ⟨by kernel_rfl, fun j t ht => ?_⟩
  rw [Tryd.params6] at ht
  have hm := Array.mem_of_getElem? ht
  simp at hm
  subst hm
  · exact (show Tryd.prog.wantsStandIn 25 = false by kernel_rfl)

theorem proved : Rows.HmacSamesCardSaid :=
  Claim7.holds_tied_plain_at .later [] _ _ _ _ said (fun _ h => by cases h) (by kernel_rfl) (fun _ h => by cases h) hmacSames_row_tie rfl ⟨rfl, rfl⟩ (by kernel_rfl) rfl plain (by kernel_rfl)
#print axioms proved
end Go.Proofs.YtodbfkifendniaaDoor.hmacSames
