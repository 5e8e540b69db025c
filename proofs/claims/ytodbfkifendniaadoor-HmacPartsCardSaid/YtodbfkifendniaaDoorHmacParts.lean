/- The statement HmacParts holds: whatever the input, the call answers true, and what was handed in reads as it did. Under the statement's own reading alone: the primes' table is as the program's text lays it. -/
import Derived.Test.YtodbfkifendniaaDoorHmacArgs
import Derived.Test.YtodbfkifendniaaDoorPosts
namespace Go.Proofs.YtodbfkifendniaaDoor.hmacParts
open Go.ChangeShapes Go.WideShapes Go.ChangeAt Go.RowKit Sha

/-- a guard that says no: the layer's own test -/
macro "hm_no" : tactic => `(tactic| (go_wp2_with fail; refine (worksH_any _ (by assumption)).mono ?_; rintro e w1 ⟨rfl, hb1⟩; go_wp2_with fail; go_ret; exact ⟨rfl, hb1⟩))

set_option maxRecDepth 100000 in
set_option maxHeartbeats 2000000 in
theorem walk (a0 : Option Addr) (len0 cap0 : Nat) (z0 : List Int) (a1 : Option Addr) (len1 cap1 : Nat) (z1 : List Int) (a2 a3 : Int) (w : World) (hr : Roots w) (w0 : IsRow .u8 w a0 len0 cap0 z0) (w1 : IsRow .u8 w a1 len1 cap1 z1) (w2 : (Lit.int .i64 a2).wf = true) (w3 : (Lit.int .i64 a3).wf = true) :
    Calls Tryd.prog 7 #[.slice a0 len0 cap0, .slice a1 len1 cap1, .int .i64 a2, .int .i64 a3] w fun e w' => e = .returned (.bool true) ∧ Below w.heap.size w w' := by
  obtain ⟨hlen0, hcap0⟩ := w0.len
  obtain ⟨hlen1, hcap1⟩ := w1.len
  have hrow0 := w0.row
  have hrow1 := w1.row
  have hi2 : -9223372036854775808 ≤ a2 ∧ a2 ≤ 9223372036854775807 := by simpa [Lit.wf, IntKind.min, IntKind.max, IntKind.signed, IntKind.bits] using w2
  have hi3 : -9223372036854775808 ≤ a3 ∧ a3 ≤ 9223372036854775807 := by simpa [Lit.wf, IntKind.min, IntKind.max, IntKind.signed, IntKind.bits] using w3
  obtain ⟨i20, i21⟩ := hi2
  obtain ⟨i30, i31⟩ := hi3
  generalize z0.take len0 = key at *
  generalize z1.take len1 = text at *
  have HK := Lib.hid hrow0
  have HT := Lib.hid hrow1
  have HR := Lib.hid hr
  clear w0 w1 w2 w3 hrow0 hrow1
  by_cases b1 : 10000 < len0
  · clear HR; go_enter Tryd.func7, Tryd.ntmps7; hm_no
  by_cases b2 : 10000 < len1
  · clear HR; go_enter Tryd.func7, Tryd.ntmps7; hm_no
  by_cases b3 : a2 < 0
  · clear HR; go_enter Tryd.func7, Tryd.ntmps7; hm_no
  by_cases b4 : a3 < a2
  · clear HR; go_enter Tryd.func7, Tryd.ntmps7; hm_no
  by_cases b5 : (len1 : Int) < a3
  · clear HR; go_enter Tryd.func7, Tryd.ntmps7; hm_no
  clear hr
  obtain ⟨m, rfl⟩ := Int.eq_ofNat_of_zero_le (by omega : 0 ≤ a2)
  obtain ⟨n, rfl⟩ := Int.eq_ofNat_of_zero_le (by omega : 0 ≤ a3)
  obtain ⟨ah, hsh, hSh⟩ := head_of HT.out m (m : Int) rfl (by omega) hlen1
  obtain ⟨am, hsm, hSm⟩ := mid_of HT.out m n (m : Int) (n : Int) rfl rfl (by omega) (by omega) hlen1
  obtain ⟨ar, hsr, hSr⟩ := rest_of HT.out n (by omega) hlen1
  have HSh := Lib.hid hSh
  have HSm := Lib.hid hSm
  have HSr := Lib.hid hSr
  clear hSh hSm hSr
  have HE : Hid (text.take m ++ ((text.take n).drop m ++ text.drop n) = text) := by
    show _ = _
    rw [← List.append_assoc, show text.take m = (text.take n).take m from by rw [List.take_take, Nat.min_eq_left (by omega)], List.take_append_drop, List.take_append_drop]
  have HTl : Hid (text.length ≤ 100000) := by have := HT.out.1; show _ ≤ _; omega
  obtain ⟨T, hTt⟩ : ∃ T, T = tag key text := ⟨_, rfl⟩
  have HTt := Lib.hid hTt
  have HTl32 := Lib.hid (show T.length = 32 by rw [hTt, tag_length])
  clear hTt
  have hB : Below w.heap.size w w := Below.refl _ _
  have q1 : m ≤ cap1 := by omega
  have q2 : n - m ≤ cap1 - m := by omega
  have q3 : cap1 - m ≤ 9223372036854775807 := by omega
  have q4 : len1 - n ≤ cap1 - n := by omega
  have q5 : cap1 - n ≤ 9223372036854775807 := by omega
  have q6 : len0 ≤ 100000 := by omega
  have q7 : len1 ≤ 100000 := by omega
  go_enter Tryd.func7, Tryd.ntmps7
  go_wp2_with fail
  refine Posts.wp_region (Posts.At [Posts.is (.slice a0 len0 cap0), Posts.is (.slice a1 len1 cap1), Posts.is (.int .i64 m), Posts.is (.slice ah m cap1),
    Posts.is (.slice a1 len1 cap1), Posts.is (.int .i64 m), Posts.is (.int .i64 n), Posts.is (.slice am (n - m) (cap1 - m)),
    Posts.is (.slice a1 len1 cap1), Posts.is (.int .i64 n), Posts.is (.slice ar (len1 - n) (cap1 - n)),
    Posts.row 3 #[.slice ah m cap1, .slice am (n - m) (cap1 - m), .slice ar (len1 - n) (cap1 - n)] 22, Posts.is (.agg (ints .u8 T)),
    Posts.is (.slice a0 len0 cap0), Posts.is (.slice a1 len1 cap1), Posts.row 1 #[.slice a1 len1 cap1] 22, Posts.is (.agg (ints .u8 T)),
    Posts.is (.bool true), Posts.is (.bool true), Posts.is (.bool true), Posts.is (.bool true), Posts.is (.bool true)]) (by kernel_rfl) (by kernel_rfl) (by kernel_rfl)
    (Posts.stable_at _ (by repeat' (first | exact trivial | (refine And.intro ?_ ?_) | exact Posts.is_stable _ | exact Posts.row_stable _ _ _))) ?_ ?_
  · refine ⟨?_, ?_, ?_, ?_, ?_, ?_, ?_, ?_, ?_, ?_, ?_, ?_, ?_, ?_, ?_, ?_, ?_, ?_, ?_, ?_, ?_, ?_, trivial⟩
    · intro a X hX hS hD
      have s0 := Posts.slot (show a.eval (.tmp 0) = .slice a0 len0 cap0 from hS.other 0 rfl)
      exact Posts.op_value rfl rfl rfl (by rw [hS.size]; simp) (v := .slice a0 len0 cap0) (by simp [execOp, s0, go_sem]) rfl (Posts.Ext.refl _)
    · intro a X hX hS hD
      have s0 := Posts.slot (show a.eval (.tmp 1) = .slice a1 len1 cap1 from hS.other 1 rfl)
      exact Posts.op_value rfl rfl rfl (by rw [hS.size]; simp) (v := .slice a1 len1 cap1) (by simp [execOp, s0, go_sem]) rfl (Posts.Ext.refl _)
    · intro a X hX hS hD
      have s0 := Posts.slot (show a.eval (.tmp 2) = .int .i64 m from hS.other 2 rfl)
      exact Posts.op_value rfl rfl rfl (by rw [hS.size]; simp) (v := .int .i64 m) (by simp [execOp, s0, go_sem]) rfl (Posts.Ext.refl _)
    · intro a X hX hS hD
      have d0 := Posts.slot (show a.eval (.tmp 34) = .slice a1 len1 cap1 from hD.1)
      have d1 := Posts.slot (show a.eval (.tmp 35) = .int .i64 m from hD.2.1)
      exact Posts.op_value rfl rfl rfl (by rw [hS.size]; simp) (v := .slice ah m cap1) (by simp [execOp, d0, d1, go_sem, hsh X]) rfl (Posts.Ext.refl _)
    · intro a X hX hS hD
      have s0 := Posts.slot (show a.eval (.tmp 1) = .slice a1 len1 cap1 from hS.other 1 rfl)
      exact Posts.op_value rfl rfl rfl (by rw [hS.size]; simp) (v := .slice a1 len1 cap1) (by simp [execOp, s0, go_sem]) rfl (Posts.Ext.refl _)
    · intro a X hX hS hD
      have s0 := Posts.slot (show a.eval (.tmp 2) = .int .i64 m from hS.other 2 rfl)
      exact Posts.op_value rfl rfl rfl (by rw [hS.size]; simp) (v := .int .i64 m) (by simp [execOp, s0, go_sem]) rfl (Posts.Ext.refl _)
    · intro a X hX hS hD
      have s0 := Posts.slot (show a.eval (.tmp 3) = .int .i64 n from hS.other 3 rfl)
      exact Posts.op_value rfl rfl rfl (by rw [hS.size]; simp) (v := .int .i64 n) (by simp [execOp, s0, go_sem]) rfl (Posts.Ext.refl _)
    · intro a X hX hS hD
      have d0 := Posts.slot (show a.eval (.tmp 37) = .slice a1 len1 cap1 from hD.1)
      have d1 := Posts.slot (show a.eval (.tmp 38) = .int .i64 m from hD.2.1)
      have d2 := Posts.slot (show a.eval (.tmp 39) = .int .i64 n from hD.2.2.1)
      exact Posts.op_value rfl rfl rfl (by rw [hS.size]; simp) (v := .slice am (n - m) (cap1 - m)) (by simp [execOp, d0, d1, d2, go_sem, hsm X]) rfl (Posts.Ext.refl _)
    · intro a X hX hS hD
      have s0 := Posts.slot (show a.eval (.tmp 1) = .slice a1 len1 cap1 from hS.other 1 rfl)
      exact Posts.op_value rfl rfl rfl (by rw [hS.size]; simp) (v := .slice a1 len1 cap1) (by simp [execOp, s0, go_sem]) rfl (Posts.Ext.refl _)
    · intro a X hX hS hD
      have s0 := Posts.slot (show a.eval (.tmp 3) = .int .i64 n from hS.other 3 rfl)
      exact Posts.op_value rfl rfl rfl (by rw [hS.size]; simp) (v := .int .i64 n) (by simp [execOp, s0, go_sem]) rfl (Posts.Ext.refl _)
    · intro a X hX hS hD
      have d0 := Posts.slot (show a.eval (.tmp 41) = .slice a1 len1 cap1 from hD.1)
      have d1 := Posts.slot (show a.eval (.tmp 42) = .int .i64 n from hD.2.1)
      exact Posts.op_value rfl rfl rfl (by rw [hS.size]; simp) (v := .slice ar (len1 - n) (cap1 - n)) (by simp [execOp, d0, d1, go_sem, hsr X]) rfl (Posts.Ext.refl _)
    · intro a X hX hS hD
      have d0 := Posts.slot (show a.eval (.tmp 36) = .slice ah m cap1 from hD.1)
      have d1 := Posts.slot (show a.eval (.tmp 40) = .slice am (n - m) (cap1 - m) from hD.2.1)
      have d2 := Posts.slot (show a.eval (.tmp 43) = .slice ar (len1 - n) (cap1 - n) from hD.2.2.1)
      refine Posts.op_value rfl rfl rfl (by rw [hS.size]; simp) (v := .slice (some ⟨X.heap.size, 0, none⟩) 3 3) (Y := X.alloc (.cells #[.slice ah m cap1, .slice am (n - m) (cap1 - m), .slice ar (len1 - n) (cap1 - n)] 22)) ?_ ⟨_, rfl, heap_alloc_new _ _⟩ (Posts.Ext.alloc _ _)
      simp [execOp, d0, d1, d2, go_sem]
    · intro a X hX hS hD
      have d0 := Posts.slot (show a.eval (.tmp 33) = .slice a0 len0 cap0 from hD.1)
      obtain ⟨b, d1, hb⟩ : Posts.row 3 #[.slice ah m cap1, .slice am (n - m) (cap1 - m), .slice ar (len1 - n) (cap1 - n)] 22 (a.eval (.tmp 44)) X := hD.2.1
      have d1 := Posts.slot d1
      refine Posts.op_call rfl rfl rfl (by rw [hS.size]; simp) 13 #[.slice a0 len0 cap0, .slice (some ⟨b, 0, none⟩) 3 3] (by simp [d0, d1, go_sem]) ?_
      refine (of_three HR.out HK.out hlen0 hcap0 q6 HSh.out q1 hcap1 HSm.out q2 q3 HSr.out q4 q5 HE.out HTl.out hX hb).mono ?_
      rintro e Y ⟨rfl, hXY, _⟩
      exact ⟨_, rfl, by rw [← HTt.out]; rfl, hXY⟩
    · intro a X hX hS hD
      have s0 := Posts.slot (show a.eval (.tmp 0) = .slice a0 len0 cap0 from hS.other 0 rfl)
      exact Posts.op_value rfl rfl rfl (by rw [hS.size]; simp) (v := .slice a0 len0 cap0) (by simp [execOp, s0, go_sem]) rfl (Posts.Ext.refl _)
    · intro a X hX hS hD
      have s0 := Posts.slot (show a.eval (.tmp 1) = .slice a1 len1 cap1 from hS.other 1 rfl)
      exact Posts.op_value rfl rfl rfl (by rw [hS.size]; simp) (v := .slice a1 len1 cap1) (by simp [execOp, s0, go_sem]) rfl (Posts.Ext.refl _)
    · intro a X hX hS hD
      have d0 := Posts.slot (show a.eval (.tmp 47) = .slice a1 len1 cap1 from hD.1)
      refine Posts.op_value rfl rfl rfl (by rw [hS.size]; simp) (v := .slice (some ⟨X.heap.size, 0, none⟩) 1 1) (Y := X.alloc (.cells #[.slice a1 len1 cap1] 22)) ?_ ⟨_, rfl, heap_alloc_new _ _⟩ (Posts.Ext.alloc _ _)
      simp [execOp, d0, go_sem]
    · intro a X hX hS hD
      have d0 := Posts.slot (show a.eval (.tmp 46) = .slice a0 len0 cap0 from hD.1)
      obtain ⟨b, d1, hb⟩ : Posts.row 1 #[.slice a1 len1 cap1] 22 (a.eval (.tmp 48)) X := hD.2.1
      have d1 := Posts.slot d1
      refine Posts.op_call rfl rfl rfl (by rw [hS.size]; simp) 13 #[.slice a0 len0 cap0, .slice (some ⟨b, 0, none⟩) 1 1] (by simp [d0, d1, go_sem]) ?_
      refine (of_one HR.out HK.out hlen0 hcap0 q6 HT.out hlen1 hcap1 q7 hX hb).mono ?_
      rintro e Y ⟨rfl, hXY, _⟩
      exact ⟨_, rfl, by rw [← HTt.out]; rfl, hXY⟩
    · intro a X hX hS hD
      exact Posts.op_value rfl rfl rfl (by rw [hS.size]; simp) (run_eql_op X (.tmp 45) (.tmp 49) rfl T HTl32.out hD.1 hD.2.1) rfl (Posts.Ext.refl _)
    · intro a X hX hS hD
      have d0 := Posts.slot (show a.eval (.tmp 50) = .bool true from hD.1)
      exact Posts.op_value rfl rfl rfl (by rw [hS.size]; simp) (v := .bool true) (by simp [execOp, d0, go_sem]) rfl (Posts.Ext.refl _)
    · intro a X hX hS hD
      refine Posts.op_call rfl (Posts.wanted_yes rfl rfl rfl hD.1) rfl (by rw [hS.size]; simp) 12 #[] (by simp [go_sem]) ?_
      refine (worksH_any _ (HR.out.below hX)).mono ?_
      rintro e Y ⟨rfl, hXY⟩
      exact ⟨_, rfl, rfl, hXY⟩
    · intro a X hX hS hD
      have d0 := Posts.slot (show a.eval (.tmp 51) = .bool true from hD.1)
      have d1 := Posts.slot (show a.eval (.tmp 52) = .bool true from hD.2.1)
      exact Posts.op_value rfl rfl rfl (by rw [hS.size]; simp) (v := .bool true) (by simp [execOp, d0, d1, go_sem]) rfl (Posts.Ext.refl _)
    · intro a X hX hS hD
      have d0 := Posts.slot (show a.eval (.tmp 53) = .bool true from hD.1)
      exact Posts.op_value rfl rfl rfl (by rw [hS.size]; simp) (v := .bool true) (by simp [execOp, d0, go_sem]) rfl (Posts.Ext.refl _)
  · intro a Y hY hS hL
    have hres : a.tmps.getD 8 undef = .bool true := hL.2.2.2.2.2.2.2.2.2.2.2.2.2.2.2.2.2.2.2.2.2.1
    rename_i hK
    refine hK _ _ ?_
    go_wp2_with fail
    exact bodyPost_ret (v := .bool true) (by have h := results_tmp (fn := Tryd.f7) (t := 8) rfl a.tmps Tryd.prog Y; rw [hres] at h; exact h) hS.defers ⟨rfl, hY⟩

/-- what the walk gives, for every argument, in every world that holds the table -/
theorem contract (H : Type) (enc : TypeId × Value → H) (W : World) (base : Nat) (args : Array Value) (ds gs : List (DataW H)) (before : List MemPlace)
    (hval : ∀ (j : Nat) t v, Tryd.f7.params[j]? = some t → args[j]? = some v → Value.okWide Tryd.prog W .any base t v)
    (hW : DataW.Whole enc Tryd.prog Tryd.f7.params.toList Rows.hmacPartsSpec.vars false W args.toList ds gs before) (hL : laidMetH Tryd.prog Rows.hmacPartsRow.laid W) :
    Calls Tryd.prog 7 args W fun e W' => ∃ v, e = .returned v ∧ Rows.hmacPartsSpec.post enc Tryd.prog Tryd.f7 false true false false W args v W' := by
  have hW' := hW
  obtain ⟨p, q, hA0, hV, rfl, hfz, hnd⟩ := hW
  have hA : DataW.TrodAll enc Tryd.prog W 0 (fun _ => true) true Tryd.f7.params.toList args.toList ds p := hA0
  rw [Tryd.params7] at hA hval
  obtain ⟨v0, vs0, d0, ds0, p0, q0, hargs, rfl, rfl, h0, r0⟩ := trodAll_cons hA
  obtain ⟨v1, vs1, d1, ds1, p1, q1, rfl, rfl, rfl, h1, r1⟩ := trodAll_cons r0
  obtain ⟨v2, vs2, d2, ds2, p2, q2, rfl, rfl, rfl, h2, r2⟩ := trodAll_cons r1
  obtain ⟨v3, vs3, d3, ds3, p3, q3, rfl, rfl, rfl, h3, r3⟩ := trodAll_cons r2
  obtain ⟨rfl, rfl, rfl⟩ := trodAll_nil r3
  obtain rfl : args = #[v0, v1, v2, v3] := by cases args; simp_all
  obtain ⟨rfl, rfl⟩ := trodVars_none hV
  obtain ⟨a0, len0, cap0, rfl⟩ := okWide_slice Tryd.underlying22 (hval 0 22 v0 rfl rfl)
  have k0 := h0
  have lt0 : ∀ x ∈ p0, x.block < W.heap.size := by obtain ⟨m, hm⟩ := k0; exact DataW.trod_lt m _ _ _ hm
  obtain ⟨z0, w0⟩ : ∃ zs, IsRow .u8 W a0 len0 cap0 zs := by
    obtain ⟨fuel, hf⟩ := h0
    rcases open_ints Tryd.underlying22 Tryd.underlying5 (by kernel_rfl) hf with ⟨hcs, _⟩ | ⟨x, l, c, zs, hcs, _, hl, hm, hz, _, hcell, hwz⟩
    · simp [Value.cells] at hcs
      obtain ⟨rfl, rfl, rfl⟩ := hcs
      exact ⟨[], .inl ⟨rfl, rfl, rfl, rfl⟩⟩
    · simp [Value.cells] at hcs
      obtain ⟨rfl, rfl, rfl⟩ := hcs
      exact ⟨zs, .inr ⟨_, rfl, hl, hm, by simpa using hz, hcell, hwz⟩⟩
  obtain ⟨a1, len1, cap1, rfl⟩ := okWide_slice Tryd.underlying22 (hval 1 22 v1 rfl rfl)
  have k1 := h1
  have lt1 : ∀ x ∈ p1, x.block < W.heap.size := by obtain ⟨m, hm⟩ := k1; exact DataW.trod_lt m _ _ _ hm
  obtain ⟨z1, w1⟩ : ∃ zs, IsRow .u8 W a1 len1 cap1 zs := by
    obtain ⟨fuel, hf⟩ := h1
    rcases open_ints Tryd.underlying22 Tryd.underlying5 (by kernel_rfl) hf with ⟨hcs, _⟩ | ⟨x, l, c, zs, hcs, _, hl, hm, hz, _, hcell, hwz⟩
    · simp [Value.cells] at hcs
      obtain ⟨rfl, rfl, rfl⟩ := hcs
      exact ⟨[], .inl ⟨rfl, rfl, rfl, rfl⟩⟩
    · simp [Value.cells] at hcs
      obtain ⟨rfl, rfl, rfl⟩ := hcs
      exact ⟨zs, .inr ⟨_, rfl, hl, hm, by simpa using hz, hcell, hwz⟩⟩
  obtain ⟨a2, rfl, rfl, rfl, w2⟩ := open_int Tryd.underlying3 (hval 2 3 v2 rfl rfl) h2
  obtain ⟨a3, rfl, rfl, rfl, w3⟩ := open_int Tryd.underlying3 (hval 3 3 v3 rfl rfl) h3
  clear hA0
  refine (walk a0 len0 cap0 z0 a1 len1 cap1 z1 a2 a3 W (roots hL) w0 w1 w2 w3).mono fun e W' ⟨he, bel⟩ => ?_
  subst he
  exact ⟨_, rfl, _, _, _, [], _, [], hW', trodAll_mk1 (shut_bool Tryd.underlying4 _), (trodAll_cons_mk (Below.trod laidOut (by kernel_rfl) (of_decide_eq_true (by kernel_rfl)) k0 bel lt0) (trodAll_cons_mk (Below.trod laidOut (by kernel_rfl) (of_decide_eq_true (by kernel_rfl)) k1 bel lt1) (trodAll_cons_mk (shut_int Tryd.underlying3 w2) (trodAll_cons_mk (shut_int Tryd.underlying3 w3) trodAll_mk0)))), rfl, bel.frame _, fun h => by cases h⟩

theorem reads (os : Os) {H : Type} (enc : TypeId × Value → H) : ∃ places, DataW.whole enc Tryd.prog ((laidWorld os).forCall (fun _ _ => 0) ⟨#[], (#[Value.slice none 0 0, Value.slice none 0 0, Value.int .i64 0, Value.int .i64 0] : Array Value), []⟩).memory Tryd.f7.params.toList Rows.hmacPartsSpec.vars false (#[Value.slice none 0 0, Value.slice none 0 0, Value.int .i64 0, Value.int .i64 0] : Array Value).toList 8 = some ([.nil, .nil, .lit (.int .i64 0), .lit (.int .i64 0)], [], places) :=
  ⟨[], by kernel_rfl⟩

set_option maxRecDepth 100000 in
theorem lifted (os : Os) (started : os.Started) (H : Type) (enc : TypeId × Value → H) (F : Stop.Interp) :
    ReturnsInHanded {} Tryd.checked os 7 .any ((OpenSpec.ofChange Rows.hmacPartsSpec).preRow enc Tryd.prog Tryd.f7 Rows.hmacPartsRow.domain false Rows.hmacPartsRow.laid) (((OpenSpec.ofChange Rows.hmacPartsSpec).at F).post enc Tryd.prog Tryd.f7 false true false false) := by
  obtain ⟨places, hx⟩ := reads os enc
  refine returnsInHanded_of_row (C := Tryd.checked) (s := OpenSpec.ofChange Rows.hmacPartsSpec) own started (by kernel_rfl) Tryd.func7
    (witness_row_at (enc := enc) (C := Tryd.checked) false (laidWorld os) (#[Value.slice none 0 0, Value.slice none 0 0, Value.int .i64 0, Value.int .i64 0] : Array Value) rfl (by kernel_rfl) (by kernel_rfl) (by kernel_rfl)
      (OpenSpec.preRow_of_cond 8 hx (by kernel_rfl) (fun k hk => by cases hk) (by kernel_rfl) (laid_met os _))) ?_
  intro W base args ds gs before hval hW _ _ _ hL _ _
  exact contract H enc W base args ds gs before hval hW hL

theorem said : Rows.HmacPartsSaid :=
  OpenClaim.holds_of_cond 7 Tryd.f7 rfl rfl rfl rfl rfl rfl rfl ⟨rfl, rfl, rfl, rfl, rfl⟩ rfl rfl rfl rfl rfl (by kernel_rfl) Tryd.func7 (by kernel_rfl)
    (of_decide_eq_true (by kernel_rfl)) (by unfold Func.isWrapper; first | (rw [if_pos (by decide +kernel)]; kernel_rfl) | (rw [if_neg (by decide +kernel)]; exact ⟨rfl, rfl⟩))
    (fun os started H enc _ F => by rw [OpenClaim.pre_eq_preRow]; exact lifted os started H enc F)

theorem plain (f : FuncId) (fn : Func) (hf : Tryd.pinned.checked.prog.funcNamed "tappet/tappetlaw03.HmacParts" = some f) (hfn : Tryd.pinned.checked.prog.funcs[f]? = some fn) :
    false = Tryd.pinned.checked.prog.looks [] ∧ ∀ (j : Nat) t, fn.params[j]? = some t → Tryd.pinned.checked.prog.wantsStandIn t = false := by
  obtain rfl : f = 7 := Option.some.inj ((show Tryd.prog.funcNamed "tappet/tappetlaw03.HmacParts" = some 7 by kernel_rfl).symm.trans hf) |>.symm
  obtain rfl : fn = Tryd.f7 := (Option.some.inj (Tryd.func7.symm.trans hfn)).symm
  refine ⟨by kernel_rfl, fun j t ht => ?_⟩
  rw [Tryd.params7] at ht
  have hm := Array.mem_of_getElem? ht
  simp at hm
  rcases hm with rfl | rfl
  · exact (show Tryd.prog.wantsStandIn 22 = false by kernel_rfl)
  · exact (show Tryd.prog.wantsStandIn 3 = false by kernel_rfl)

theorem proved : Rows.HmacPartsCardSaid :=
  Claim7.holds_tied_plain_at .later [] _ _ _ _ said (fun _ h => by cases h) (by kernel_rfl) (fun _ h => by cases h) hmacParts_row_tie rfl ⟨rfl, rfl⟩ (by kernel_rfl) rfl plain (by kernel_rfl)
#print axioms proved
end Go.Proofs.YtodbfkifendniaaDoor.hmacParts
