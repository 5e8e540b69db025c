/- The statement HmacKeys holds: whatever the input, the call answers true, and what was handed in reads as it did. Under the statement's own reading alone: the primes' table is as the program's text lays it. -/
import Derived.Test.YtodbfkifendniaaDoorHmacBytes
import Derived.Test.YtodbfkifendniaaDoorPosts
namespace Go.Proofs.YtodbfkifendniaaDoor.hmacKeys
open Go.ChangeShapes Go.WideShapes Go.ChangeAt Go.RowKit Sha

set_option maxRecDepth 100000 in
set_option maxHeartbeats 2000000 in
theorem walk (a0 : Option Addr) (len0 cap0 : Nat) (z0 : List Int) (a1 : Option Addr) (len1 cap1 : Nat) (z1 : List Int) (a2 : Int) (w : World) (hr : Roots w) (w0 : IsRow .u8 w a0 len0 cap0 z0) (w1 : IsRow .u8 w a1 len1 cap1 z1) (w2 : (Lit.int .i64 a2).wf = true) :
    Calls Tryd.prog 8 #[.slice a0 len0 cap0, .slice a1 len1 cap1, .int .i64 a2] w fun e w' => e = .returned (.bool true) ∧ Below w.heap.size w w' := by
  obtain ⟨hlen0, hcap0⟩ := w0.len
  obtain ⟨hlen1, hcap1⟩ := w1.len
  have hrow0 := w0.row
  have hrow1 := w1.row
  have hi2 : -9223372036854775808 ≤ a2 ∧ a2 ≤ 9223372036854775807 := by simpa [Lit.wf, IntKind.min, IntKind.max, IntKind.signed, IntKind.bits] using w2
  obtain ⟨i20, i21⟩ := hi2
  generalize z0.take len0 = key at *
  generalize z1.take len1 = text at *
  have HK := Lib.hid hrow0
  have HT := Lib.hid hrow1
  have HR := Lib.hid hr
  clear w0 w1 w2 hrow0 hrow1 hr
  by_cases b1 : 10000 < len0
  · go_enter Tryd.func8, Tryd.ntmps8
    go_wp2_with fail
    refine (worksH_any _ HR.out).mono ?_
    rintro e w1 ⟨rfl, hb1⟩
    go_wp2_with fail
    go_ret
    exact ⟨rfl, hb1⟩
  by_cases b2 : 10000 < len1
  · go_enter Tryd.func8, Tryd.ntmps8
    go_wp2_with fail
    refine (worksH_any _ HR.out).mono ?_
    rintro e w1 ⟨rfl, hb1⟩
    go_wp2_with fail
    go_ret
    exact ⟨rfl, hb1⟩
  have q6 : len0 ≤ 100000 := by omega
  have q7 : len1 ≤ 100000 := by omega
  have hlk := HK.out.1
  obtain ⟨T, hTt⟩ : ∃ T, T = tag key text := ⟨_, rfl⟩
  have HTt := Lib.hid hTt
  have HTl32 := Lib.hid (show T.length = 32 by rw [hTt, tag_length])
  have hst := fun W => store_tag_new W key text
  rw [← hTt] at hst
  have hz : (ints .u8 T).size = 32 := by rw [ints_size, HTl32.out]
  clear hTt
  have hOf := Lib.hid (of_one HR.out HK.out hlen0 hcap0 q6 HT.out hlen1 hcap1 q7 (B_alloc (Below.refl w.heap.size w) _) (R_new (X := w) (o := .cells #[.slice a1 len1 cap1] 22) rfl))
  have d1 : decide ((10000 : Int) < (len0 : Int)) = false := by simp; omega
  have d2 : decide ((10000 : Int) < (len1 : Int)) = false := by simp; omega
  by_cases h64 : 64 < len0
  · have d3 : decide ((64 : Int) < (len0 : Int)) = true := by simp; omega
    have HSum : Hid (∀ W : World, Below w.heap.size w W → Calls Tryd.prog 11 #[.slice (some ⟨W.heap.size, 0, none⟩) 1 1] (W.alloc (.cells #[.slice a0 len0 cap0] 22)) fun e Y => e = .returned (.agg (ints .u8 (sum key))) ∧ Below W.heap.size W Y) := by
      intro W hW
      have hb : Below W.heap.size W (W.alloc (.cells #[.slice a0 len0 cap0] 22)) := (Below.refl _ _).alloc (Nat.le_refl _) _
      refine (sum_any [key] _ 1 1 _ (by omega) (by simp; omega) ((HR.out.below hW).below hb) (prow_one W a0 len0 cap0 key 22 (0, 0) hlen0 hcap0 (HK.out.below' hW (Nat.le_refl _)))).mono ?_
      rintro e Y ⟨rfl, hb'⟩
      exact ⟨by simp, hb.trans (hb'.mono hb.size)⟩
    go_enter Tryd.func8, Tryd.ntmps8
    go_wp2_with fail
    refine hOf.out.mono ?_
    rintro e w1 ⟨rfl, _, hB1⟩
    rw [← HTt.out]
    have HB1 := Lib.hid (B_alloc hB1 (.cells (ints .u8 T) 25))
    have H7a := Lib.hid (heap_alloc_new w1 (.cells (ints .u8 T) 25))
    clear hB1
    have hst2 := fun W => store_digest_new W key
    have hz2 := sum_size key
    have hc := HSum.out _ HB1.out
    rw [show (w1.alloc (.cells (ints .u8 T) 25)).heap.size = w1.heap.size + 1 from by simp] at hc
    have HC := Lib.hid hc
    clear hc
    go_wp2_with fail
    refine HC.out.mono ?_
    rintro e w2 ⟨rfl, hb2⟩
    have hb2' := hb2.mono (show (w1.alloc (.cells (ints .u8 T) 25)).heap.size ≤ w1.heap.size + 1 by simp)
    have hx1 : Below (w1.alloc (.cells (ints .u8 T) 25)).heap.size (w1.alloc (.cells (ints .u8 T) 25)) (w2.alloc (.cells (ints .u8 (sum key)) 25)) := B_alloc hb2' _
    have HBW := Lib.hid (HB1.out.trans (hx1.mono HB1.out.size))
    have H7 := Lib.hid (R_below hx1 H7a.out)
    have H8 := Lib.hid (heap_alloc_new w2 (.cells (ints .u8 (sum key)) 25))
    clear hb2 hb2' hx1 H7a HB1
    go_wp2_with fail
    clear hst hst2 hz hz2 hOf HSum HC
    generalize w2.alloc (.cells (ints .u8 (sum key)) 25) = V at *
    generalize w2.heap.size = gD at *
    generalize w1.heap.size = gT at *
    have HRV := Lib.hid (HR.out.below HBW.out)
    have HTV := Lib.hid (HT.out.below' HBW.out (Nat.le_refl _))
    have HKD := Lib.hid (srow_int (t := 25) H8.out (sum_length key) (sum_byte key))
    have HTg : Hid (tag (sum key) text = T) := by show _ = _; rw [HTt.out]; unfold tag; rw [kb_sum key (by omega)]
    refine Posts.wp_region (Posts.At [Posts.is (.slice (some ⟨gD, 0, none⟩) 32 32), Posts.is (.slice a1 len1 cap1), Posts.row 1 #[.slice a1 len1 cap1] 22, Posts.is (.agg (ints .u8 T)), Posts.is (.agg (ints .u8 T)), Posts.is (.bool true), Posts.is (.bool true), Posts.is (.bool true), Posts.is (.bool true), Posts.is (.bool true)]) (by kernel_rfl) (by kernel_rfl) (by kernel_rfl)
      (Posts.stable_at _ (by repeat' (first | exact trivial | (refine And.intro ?_ ?_) | exact Posts.is_stable _ | exact Posts.row_stable _ _ _))) ?_ ?_
    · refine ⟨?_, ?_, ?_, ?_, ?_, ?_, ?_, ?_, ?_, ?_, trivial⟩
      · intro a X hX hS hD
        have d8 := Posts.slot (show a.eval (.tmp 8) = .pointer (some ⟨gD, 0, none⟩) from hS.other 8 rfl)
        exact Posts.op_value rfl rfl rfl (by rw [hS.size]; simp) (v := .slice (some ⟨gD, 0, none⟩) 32 32) (by simp [execOp, d8, go_sem]; try kernel_rfl) rfl (Posts.Ext.refl _)
      · intro a X hX hS hD
        have d1 := Posts.slot (show a.eval (.tmp 1) = .slice a1 len1 cap1 from hS.other 1 rfl)
        exact Posts.op_value rfl rfl rfl (by rw [hS.size]; simp) (v := .slice a1 len1 cap1) (by simp [execOp, d1, go_sem]) rfl (Posts.Ext.refl _)
      · intro a X hX hS hD
        have d30 := Posts.slot (show a.eval (.tmp 30) = .slice a1 len1 cap1 from hD.1)
        refine Posts.op_value rfl rfl rfl (by rw [hS.size]; simp) (v := .slice (some ⟨X.heap.size, 0, none⟩) 1 1) (Y := X.alloc (.cells #[.slice a1 len1 cap1] 22)) ?_ ⟨_, rfl, heap_alloc_new _ _⟩ (Posts.Ext.alloc _ _)
        simp [execOp, d30, go_sem]
      · intro a X hX hS hD
        have d29 := Posts.slot (show a.eval (.tmp 29) = .slice (some ⟨gD, 0, none⟩) 32 32 from hD.1)
        obtain ⟨bd31, ed31, hd31⟩ : Posts.row 1 #[.slice a1 len1 cap1] 22 (a.eval (.tmp 31)) X := hD.2.1
        have d31 := Posts.slot ed31
        refine Posts.op_call rfl rfl rfl (by rw [hS.size]; simp) 13 #[.slice (some ⟨gD, 0, none⟩) 32 32, .slice (some ⟨bd31, 0, none⟩) 1 1] (by simp [d29, d31, go_sem]) ?_
        refine (of_one HRV.out HKD.out (by omega) (by omega) (by omega) HTV.out hlen1 hcap1 q7 hX hd31).mono ?_
        rintro e Y ⟨rfl, hXY, _⟩
        exact ⟨_, rfl, by rw [HTg.out]; rfl, hXY⟩
      · intro a X hX hS hD
        have d7 := Posts.slot (show a.eval (.tmp 7) = .pointer (some ⟨gT, 0, none⟩) from hS.other 7 rfl)
        exact Posts.op_value rfl rfl rfl (by rw [hS.size]; simp) (run_load_op (.tmp 7) rfl gT T HTl32.out (hS.other 7 rfl) (R_below hX H7.out)) rfl (Posts.Ext.refl _)
      · intro a X hX hS hD
        exact Posts.op_value rfl rfl rfl (by rw [hS.size]; simp) (run_eql_op X (.tmp 32) (.tmp 33) rfl T HTl32.out hD.1 hD.2.1) rfl (Posts.Ext.refl _)
      · intro a X hX hS hD
        have d34 := Posts.slot (show a.eval (.tmp 34) = .bool true from hD.1)
        exact Posts.op_value rfl rfl rfl (by rw [hS.size]; simp) (v := .bool true) (by simp [execOp, d34, go_sem]) rfl (Posts.Ext.refl _)
      · intro a X hX hS hD
        refine Posts.op_call rfl (Posts.wanted_yes rfl rfl rfl hD.1) rfl (by rw [hS.size]; simp) 12 #[] (by simp [go_sem]) ?_
        refine (worksH_any _ (HRV.out.below hX)).mono ?_
        rintro e Y ⟨rfl, hXY⟩
        exact ⟨_, rfl, rfl, hXY⟩
      · intro a X hX hS hD
        have d35 := Posts.slot (show a.eval (.tmp 35) = .bool true from hD.1)
        have d36 := Posts.slot (show a.eval (.tmp 36) = .bool true from hD.2.1)
        exact Posts.op_value rfl rfl rfl (by rw [hS.size]; simp) (v := .bool true) (by simp [execOp, d35, d36, go_sem]) rfl (Posts.Ext.refl _)
      · intro a X hX hS hD
        have d37 := Posts.slot (show a.eval (.tmp 37) = .bool true from hD.1)
        exact Posts.op_value rfl rfl rfl (by rw [hS.size]; simp) (v := .bool true) (by simp [execOp, d37, go_sem]) rfl (Posts.Ext.refl _)
    · intro a Y hY hS hL
      have hres : a.tmps.getD 6 undef = .bool true := hL.2.2.2.2.2.2.2.2.2.1
      rename_i hK
      refine hK _ _ ?_
      go_wp2_with fail
      exact bodyPost_ret (v := .bool true) (by have h := results_tmp (fn := Tryd.f8) (t := 6) rfl a.tmps Tryd.prog Y; rw [hres] at h; exact h) hS.defers ⟨rfl, HBW.out.trans (Below.mono hY HBW.out.size)⟩
  · have d3 : decide ((64 : Int) < (len0 : Int)) = false := by simp; omega
    by_cases b3 : a2 < 0
    · have d4 : decide (a2 < 0) = true := by simp; omega
      go_enter Tryd.func8, Tryd.ntmps8
      go_wp2_with fail
      refine hOf.out.mono ?_
      rintro e w1 ⟨rfl, _, hB1⟩
      rw [← HTt.out]
      have HB1 := Lib.hid (B_alloc hB1 (.cells (ints .u8 T) 25))
      have H7a := Lib.hid (heap_alloc_new w1 (.cells (ints .u8 T) 25))
      clear hB1
      go_wp2_with fail
      refine (worksH_any _ (HR.out.below HB1.out)).mono ?_
      rintro e w2 ⟨rfl, hb2⟩
      go_wp2_with fail
      go_ret
      exact ⟨rfl, HB1.out.trans (hb2.mono HB1.out.size)⟩
    by_cases b4 : (64 : Int) - len0 < a2
    · have d4 : decide (a2 < 0) = false := by simp; omega
      have d5 : decide ((64 : Int) - (len0 : Int) < a2) = true := by simp; omega
      go_enter Tryd.func8, Tryd.ntmps8
      go_wp2_with fail
      refine hOf.out.mono ?_
      rintro e w1 ⟨rfl, _, hB1⟩
      rw [← HTt.out]
      have HB1 := Lib.hid (B_alloc hB1 (.cells (ints .u8 T) 25))
      have H7a := Lib.hid (heap_alloc_new w1 (.cells (ints .u8 T) 25))
      clear hB1
      go_wp2_with fail
      refine (worksH_any _ (HR.out.below HB1.out)).mono ?_
      rintro e w2 ⟨rfl, hb2⟩
      go_wp2_with fail
      go_ret
      exact ⟨rfl, HB1.out.trans (hb2.mono HB1.out.size)⟩
    have d4 : decide (a2 < 0) = false := by simp; omega
    have d5 : decide ((64 : Int) - (len0 : Int) < a2) = false := by simp; omega
    obtain ⟨n, rfl⟩ := Int.eq_ofNat_of_zero_le (by omega : 0 ≤ a2)
    go_enter Tryd.func8, Tryd.ntmps8
    go_wp2_with fail
    refine hOf.out.mono ?_
    rintro e w1 ⟨rfl, _, hB1⟩
    rw [← HTt.out]
    have HB1 := Lib.hid (B_alloc hB1 (.cells (ints .u8 T) 25))
    have H7a := Lib.hid (heap_alloc_new w1 (.cells (ints .u8 T) 25))
    clear hB1
    have hO0 : Own ((w1.alloc (.cells (ints .u8 T) 25)).alloc (.cells #[] 5)) (w1.heap.size + 1) (w1.heap.size + 1) 0 0 [] := own_of rfl (Nat.le_refl _) (Nat.le_refl _) (by unfold maxLen; omega) (R_new (by simp)) rfl rfl
    have hsA := HK.out.below' (B_alloc HB1.out (.cells #[] 5)) (Nat.le_refl _)
    obtain ⟨g1, c1, w2, hrun1, hO1, hbl1⟩ := app_bytes (c := cap0) hO0 hsA (by omega) (by simp)
    obtain ⟨gM, capM, V, hrun2, hO2, hbl2⟩ := app_zeros (n := n) hO1 (by omega) (by have := hbl1.size; simp at this; omega)
    rw [Nat.zero_add, List.nil_append] at hO2
    rw [Nat.zero_add] at hrun1
    rw [Nat.zero_add] at hrun2
    go_wp2_with (first | (at_builtin; refine wpList_append_run rfl (.tmp 48) (.tmp 49) 22 22 rfl _ _ _ w2 22 rfl rfl rfl hrun1 ?_) | (at_builtin; refine wpList_append_run rfl (.tmp 50) (.tmp 51) 22 3 rfl _ _ _ V 22 rfl rfl rfl hrun2 ?_))
    have hx1 : Below (w1.heap.size + 1) (w1.alloc (.cells (ints .u8 T) 25)) V := (((Below.refl _ _).alloc (by simp) _).trans hbl1).trans hbl2
    have HBW := Lib.hid (HB1.out.trans (hx1.mono (by have := HB1.out.size; simpa using this)))
    have H7 := Lib.hid ((hx1.block _ (by omega)).trans H7a.out)
    have qM1 : len0 + n ≤ capM := hO2.form.2.2.1
    have qM2 : capM ≤ 9223372036854775807 := hO2.form.2.2.2.1
    have HKM := Lib.hid (srow_of_own hO2 (by intro z hz; rcases List.mem_append.1 hz with h | h; exact HK.out.2.1 z h; have := List.eq_of_mem_replicate h; omega))
    clear hst hz hOf hO0 hsA hrun1 hO1 hbl1 hrun2 hO2 hbl2 hx1 H7a HB1
    generalize w1.heap.size = gT at *
    have HRV := Lib.hid (HR.out.below HBW.out)
    have HTV := Lib.hid (HT.out.below' HBW.out (Nat.le_refl _))
    have HTg : Hid (tag (key ++ List.replicate n 0) text = T) := by show _ = _; rw [HTt.out]; unfold tag; rw [kb_noughts key n (by omega)]
    refine Posts.wp_region (Posts.At [Posts.is (.slice (some ⟨gM, 0, none⟩) (len0 + n) capM), Posts.is (.slice a1 len1 cap1), Posts.row 1 #[.slice a1 len1 cap1] 22, Posts.is (.agg (ints .u8 T)), Posts.is (.agg (ints .u8 T)), Posts.is (.bool true), Posts.is (.bool true), Posts.is (.bool true), Posts.is (.bool true), Posts.is (.bool true)]) (by kernel_rfl) (by kernel_rfl) (by kernel_rfl)
      (Posts.stable_at _ (by repeat' (first | exact trivial | (refine And.intro ?_ ?_) | exact Posts.is_stable _ | exact Posts.row_stable _ _ _))) ?_ ?_
    · refine ⟨?_, ?_, ?_, ?_, ?_, ?_, ?_, ?_, ?_, ?_, trivial⟩
      · intro a X hX hS hD
        have d9 := Posts.slot (show a.eval (.tmp 9) = .slice (some ⟨gM, 0, none⟩) (len0 + n) capM from hS.other 9 rfl)
        exact Posts.op_value rfl rfl rfl (by rw [hS.size]; simp) (v := .slice (some ⟨gM, 0, none⟩) (len0 + n) capM) (by simp [execOp, d9, go_sem]) rfl (Posts.Ext.refl _)
      · intro a X hX hS hD
        have d1 := Posts.slot (show a.eval (.tmp 1) = .slice a1 len1 cap1 from hS.other 1 rfl)
        exact Posts.op_value rfl rfl rfl (by rw [hS.size]; simp) (v := .slice a1 len1 cap1) (by simp [execOp, d1, go_sem]) rfl (Posts.Ext.refl _)
      · intro a X hX hS hD
        have d54 := Posts.slot (show a.eval (.tmp 54) = .slice a1 len1 cap1 from hD.1)
        refine Posts.op_value rfl rfl rfl (by rw [hS.size]; simp) (v := .slice (some ⟨X.heap.size, 0, none⟩) 1 1) (Y := X.alloc (.cells #[.slice a1 len1 cap1] 22)) ?_ ⟨_, rfl, heap_alloc_new _ _⟩ (Posts.Ext.alloc _ _)
        simp [execOp, d54, go_sem]
      · intro a X hX hS hD
        have d53 := Posts.slot (show a.eval (.tmp 53) = .slice (some ⟨gM, 0, none⟩) (len0 + n) capM from hD.1)
        obtain ⟨bd55, ed55, hd55⟩ : Posts.row 1 #[.slice a1 len1 cap1] 22 (a.eval (.tmp 55)) X := hD.2.1
        have d55 := Posts.slot ed55
        refine Posts.op_call rfl rfl rfl (by rw [hS.size]; simp) 13 #[.slice (some ⟨gM, 0, none⟩) (len0 + n) capM, .slice (some ⟨bd55, 0, none⟩) 1 1] (by simp [d53, d55, go_sem]) ?_
        refine (of_one HRV.out HKM.out qM1 qM2 (by omega) HTV.out hlen1 hcap1 q7 hX hd55).mono ?_
        rintro e Y ⟨rfl, hXY, _⟩
        exact ⟨_, rfl, by rw [HTg.out]; rfl, hXY⟩
      · intro a X hX hS hD
        have d7 := Posts.slot (show a.eval (.tmp 7) = .pointer (some ⟨gT, 0, none⟩) from hS.other 7 rfl)
        exact Posts.op_value rfl rfl rfl (by rw [hS.size]; simp) (run_load_op (.tmp 7) rfl gT T HTl32.out (hS.other 7 rfl) (R_below hX H7.out)) rfl (Posts.Ext.refl _)
      · intro a X hX hS hD
        exact Posts.op_value rfl rfl rfl (by rw [hS.size]; simp) (run_eql_op X (.tmp 56) (.tmp 57) rfl T HTl32.out hD.1 hD.2.1) rfl (Posts.Ext.refl _)
      · intro a X hX hS hD
        have d58 := Posts.slot (show a.eval (.tmp 58) = .bool true from hD.1)
        exact Posts.op_value rfl rfl rfl (by rw [hS.size]; simp) (v := .bool true) (by simp [execOp, d58, go_sem]) rfl (Posts.Ext.refl _)
      · intro a X hX hS hD
        refine Posts.op_call rfl (Posts.wanted_yes rfl rfl rfl hD.1) rfl (by rw [hS.size]; simp) 12 #[] (by simp [go_sem]) ?_
        refine (worksH_any _ (HRV.out.below hX)).mono ?_
        rintro e Y ⟨rfl, hXY⟩
        exact ⟨_, rfl, rfl, hXY⟩
      · intro a X hX hS hD
        have d59 := Posts.slot (show a.eval (.tmp 59) = .bool true from hD.1)
        have d60 := Posts.slot (show a.eval (.tmp 60) = .bool true from hD.2.1)
        exact Posts.op_value rfl rfl rfl (by rw [hS.size]; simp) (v := .bool true) (by simp [execOp, d59, d60, go_sem]) rfl (Posts.Ext.refl _)
      · intro a X hX hS hD
        have d61 := Posts.slot (show a.eval (.tmp 61) = .bool true from hD.1)
        exact Posts.op_value rfl rfl rfl (by rw [hS.size]; simp) (v := .bool true) (by simp [execOp, d61, go_sem]) rfl (Posts.Ext.refl _)
    · intro a Y hY hS hL
      have hres : a.tmps.getD 6 undef = .bool true := hL.2.2.2.2.2.2.2.2.2.1
      rename_i hK
      refine hK _ _ ?_
      go_wp2_with fail
      exact bodyPost_ret (v := .bool true) (by have h := results_tmp (fn := Tryd.f8) (t := 6) rfl a.tmps Tryd.prog Y; rw [hres] at h; exact h) hS.defers ⟨rfl, HBW.out.trans (Below.mono hY HBW.out.size)⟩

/-- what the walk gives, for every argument, in every world that holds the table -/
theorem contract (H : Type) (enc : TypeId × Value → H) (W : World) (base : Nat) (args : Array Value) (ds gs : List (DataW H)) (before : List MemPlace)
    (hval : ∀ (j : Nat) t v, Tryd.f8.params[j]? = some t → args[j]? = some v → Value.okWide Tryd.prog W .any base t v)
    (hW : DataW.Whole enc Tryd.prog Tryd.f8.params.toList Rows.hmacKeysSpec.vars false W args.toList ds gs before) (hL : laidMetH Tryd.prog Rows.hmacKeysRow.laid W) :
    Calls Tryd.prog 8 args W fun e W' => ∃ v, e = .returned v ∧ Rows.hmacKeysSpec.post enc Tryd.prog Tryd.f8 false true false false W args v W' := by
  have hW' := hW
  obtain ⟨p, q, hA0, hV, rfl, hfz, hnd⟩ := hW
  have hA : DataW.TrodAll enc Tryd.prog W 0 (fun _ => true) true Tryd.f8.params.toList args.toList ds p := hA0
  rw [Tryd.params8] at hA hval
  obtain ⟨v0, vs0, d0, ds0, p0, q0, hargs, rfl, rfl, h0, r0⟩ := trodAll_cons hA
  obtain ⟨v1, vs1, d1, ds1, p1, q1, rfl, rfl, rfl, h1, r1⟩ := trodAll_cons r0
  obtain ⟨v2, vs2, d2, ds2, p2, q2, rfl, rfl, rfl, h2, r2⟩ := trodAll_cons r1
  obtain ⟨rfl, rfl, rfl⟩ := trodAll_nil r2
  obtain rfl : args = #[v0, v1, v2] := by cases args; simp_all
  obtain ⟨rfl, rfl⟩ := trodVars_none hV
  obtain ⟨a0, len0, cap0, rfl⟩ := okWide_slice Tryd.underlying22 (hval 0 22 v0 rfl rfl)
  have k0 := h0
  have lt0 : ∀ x ∈ p0, x.block < W.heap.size := by obtain ⟨m, hm⟩ := k0; exact DataW.trod_lt m _ _ _ hm
  obtain ⟨z0, w0⟩ : ∃ zs, IsRow .u8 W a0 len0 cap0 zs := by
    obtain ⟨fuel, hf⟩ := h0
    rcases open_ints Tryd.underlying22 Tryd.underlying5 (by kernel_rfl) hf with ⟨hcs, _⟩ | ⟨x, l, c, zs, hcs, _, hl, hm, hz, _, hcell, hwz⟩
    · simp [Value.cells] at hcs
      obtain ⟨rfl, rfl, rfl⟩ := hcs
      exact ⟨[], .inl ⟨rfl, rfl, rfl, rfl⟩⟩
    · simp [Value.cells] at hcs
      obtain ⟨rfl, rfl, rfl⟩ := hcs
      exact ⟨zs, .inr ⟨_, rfl, hl, hm, by simpa using hz, hcell, hwz⟩⟩
  obtain ⟨a1, len1, cap1, rfl⟩ := okWide_slice Tryd.underlying22 (hval 1 22 v1 rfl rfl)
  have k1 := h1
  have lt1 : ∀ x ∈ p1, x.block < W.heap.size := by obtain ⟨m, hm⟩ := k1; exact DataW.trod_lt m _ _ _ hm
  obtain ⟨z1, w1⟩ : ∃ zs, IsRow .u8 W a1 len1 cap1 zs := by
    obtain ⟨fuel, hf⟩ := h1
    rcases open_ints Tryd.underlying22 Tryd.underlying5 (by kernel_rfl) hf with ⟨hcs, _⟩ | ⟨x, l, c, zs, hcs, _, hl, hm, hz, _, hcell, hwz⟩
    · simp [Value.cells] at hcs
      obtain ⟨rfl, rfl, rfl⟩ := hcs
      exact ⟨[], .inl ⟨rfl, rfl, rfl, rfl⟩⟩
    · simp [Value.cells] at hcs
      obtain ⟨rfl, rfl, rfl⟩ := hcs
      exact ⟨zs, .inr ⟨_, rfl, hl, hm, by simpa using hz, hcell, hwz⟩⟩
  obtain ⟨a2, rfl, rfl, rfl, w2⟩ := open_int Tryd.underlying3 (hval 2 3 v2 rfl rfl) h2
  clear hA0
  refine (walk a0 len0 cap0 z0 a1 len1 cap1 z1 a2 W (roots hL) w0 w1 w2).mono fun e W' ⟨he, bel⟩ => ?_
  subst he
  exact ⟨_, rfl, _, _, _, [], _, [], hW', trodAll_mk1 (shut_bool Tryd.underlying4 _), (trodAll_cons_mk (Below.trod laidOut (by kernel_rfl) (of_decide_eq_true (by kernel_rfl)) k0 bel lt0) (trodAll_cons_mk (Below.trod laidOut (by kernel_rfl) (of_decide_eq_true (by kernel_rfl)) k1 bel lt1) (trodAll_cons_mk (shut_int Tryd.underlying3 w2) trodAll_mk0))), rfl, bel.frame _, fun h => by cases h⟩

theorem reads (os : Os) {H : Type} (enc : TypeId × Value → H) : ∃ places, DataW.whole enc Tryd.prog ((laidWorld os).forCall (fun _ _ => 0) ⟨#[], (#[Value.slice none 0 0, Value.slice none 0 0, Value.int .i64 0] : Array Value), []⟩).memory Tryd.f8.params.toList Rows.hmacKeysSpec.vars false (#[Value.slice none 0 0, Value.slice none 0 0, Value.int .i64 0] : Array Value).toList 8 = some ([.nil, .nil, .lit (.int .i64 0)], [], places) :=
  ⟨[], by kernel_rfl⟩

set_option maxRecDepth 100000 in
theorem lifted (os : Os) (started : os.Started) (H : Type) (enc : TypeId × Value → H) (F : Stop.Interp) :
    ReturnsInHanded {} Tryd.checked os 8 .any ((OpenSpec.ofChange Rows.hmacKeysSpec).preRow enc Tryd.prog Tryd.f8 Rows.hmacKeysRow.domain false Rows.hmacKeysRow.laid) (((OpenSpec.ofChange Rows.hmacKeysSpec).at F).post enc Tryd.prog Tryd.f8 false true false false) := by
  obtain ⟨places, hx⟩ := reads os enc
  refine returnsInHanded_of_row (C := Tryd.checked) (s := OpenSpec.ofChange Rows.hmacKeysSpec) own started (by kernel_rfl) Tryd.func8
    (witness_row_at (enc := enc) (C := Tryd.checked) false (laidWorld os) (#[Value.slice none 0 0, Value.slice none 0 0, Value.int .i64 0] : Array Value) rfl (by kernel_rfl) (by kernel_rfl) (by kernel_rfl)
      (OpenSpec.preRow_of_cond 8 hx (by kernel_rfl) (fun k hk => by cases hk) (by kernel_rfl) (laid_met os _))) ?_
  intro W base args ds gs before hval hW _ _ _ hL _ _
  exact contract H enc W base args ds gs before hval hW hL

theorem said : Rows.HmacKeysSaid :=
  OpenClaim.holds_of_cond 8 Tryd.f8 rfl rfl rfl rfl rfl rfl rfl ⟨rfl, rfl, rfl, rfl, rfl⟩ rfl rfl rfl rfl rfl (by kernel_rfl) Tryd.func8 (by kernel_rfl)
    (of_decide_eq_true (by kernel_rfl)) (by unfold Func.isWrapper; first | (rw [if_pos (by decide +kernel)]; kernel_rfl) | (rw [if_neg (by decide +kernel)]; exact ⟨rfl, rfl⟩))
    (fun os started H enc _ F => by rw [OpenClaim.pre_eq_preRow]; exact lifted os started H enc F)

theorem plain (f : FuncId) (fn : Func) (hf : Tryd.pinned.checked.prog.funcNamed "tappet/tappetlaw03.HmacKeys" = some f) (hfn : Tryd.pinned.checked.prog.funcs[f]? = some fn) :
    false = Tryd.pinned.checked.prog.looks [] ∧ ∀ (j : Nat) t, fn.params[j]? = some t → Tryd.pinned.checked.prog.wantsStandIn t = false := by
  obtain rfl : f = 8 := Option.some.inj ((show Tryd.prog.funcNamed "tappet/tappetlaw03.HmacKeys" = some 8 by kernel_rfl).symm.trans hf) |>.symm
  obtain rfl : fn = Tryd.f8 := (Option.some.inj (Tryd.func8.symm.trans hfn)).symm
  refine ⟨by kernel_rfl, fun j t ht => ?_⟩
  rw [Tryd.params8] at ht
  have hm := Array.mem_of_getElem? ht
  simp at hm
  rcases hm with rfl | rfl
  · exact (show Tryd.prog.wantsStandIn 22 = false by kernel_rfl)
  · exact (show Tryd.prog.wantsStandIn 3 = false by kernel_rfl)

theorem proved : Rows.HmacKeysCardSaid :=
  Claim7.holds_tied_plain_at .later [] _ _ _ _ said (fun _ h => by cases h) (by kernel_rfl) (fun _ h => by cases h) hmacKeys_row_tie rfl ⟨rfl, rfl⟩ (by kernel_rfl) rfl plain (by kernel_rfl)
#print axioms proved
end Go.Proofs.YtodbfkifendniaaDoor.hmacKeys
