/- The statement ShaKeeps holds: whatever the input, the call answers true, and what was handed in reads as it did. Under the statement's own reading alone: the primes' table is as the program's text lays it. -/
import Derived.Test.YtodbfkifendniaaDoorKeepsLib
namespace Go.Proofs.YtodbfkifendniaaDoor.shaKeeps
open Go.ChangeShapes Go.WideShapes Go.ChangeAt Go.RowKit Sha

/-- a guard that says no: the layer's own test -/
macro "hm_no" : tactic => `(tactic| (go_wp2_with fail; refine (works_any _ (by assumption)).mono ?_; rintro e w1 ⟨rfl, hb1⟩; go_wp2_with fail; go_ret; exact ⟨rfl, hb1⟩))

set_option maxRecDepth 100000 in
set_option maxHeartbeats 2000000 in
theorem walk (a0 : Option Addr) (len0 cap0 : Nat) (z0 : List Int) (a1 : Int) (w : World) (hr : Roots w) (w0 : IsRow .u8 w a0 len0 cap0 z0) (w1 : (Lit.int .i64 a1).wf = true) :
    Calls Tryd.prog 3 #[.slice a0 len0 cap0, .int .i64 a1] w fun e w' => e = .returned (.bool true) ∧ Below w.heap.size w w' := by
  obtain ⟨hlen, hcap⟩ := w0.len
  have hrow := w0.row
  have hi : -9223372036854775808 ≤ a1 ∧ a1 ≤ 9223372036854775807 := by simpa [Lit.wf, IntKind.min, IntKind.max, IntKind.signed, IntKind.bits] using w1
  obtain ⟨i0, i1⟩ := hi
  generalize z0.take len0 = l at *
  have HRow := Lib.hid hrow
  have HR := Lib.hid hr
  clear w0 w1 hrow
  by_cases b1 : 20000 < len0
  · clear HR; go_enter Tryd.func3, Tryd.ntmps3; hm_no
  by_cases b2 : a1 < 0
  · clear HR; go_enter Tryd.func3, Tryd.ntmps3; hm_no
  by_cases b3 : (len0 : Int) < a1
  · clear HR; go_enter Tryd.func3, Tryd.ntmps3; hm_no
  clear hr
  obtain ⟨k, rfl⟩ := Int.eq_ofNat_of_zero_le (by omega : 0 ≤ a1)
  have hll := HRow.out.1
  have HBy := Lib.hid HRow.out.2.1
  have hs1 := row_string cap0 HRow.out
  obtain ⟨ah, hsh, hSh⟩ := head_of HRow.out k (k : Int) rfl (by omega) hlen
  obtain ⟨ar, hsr, hSr⟩ := rest_of HRow.out k (by omega) hlen
  have HSh := Lib.hid hSh
  have HSr := Lib.hid hSr
  clear hSh hSr
  have hkc : k ≤ cap0 := by omega
  have hrc : len0 - k ≤ cap0 - k := by omega
  have hcc : cap0 - k ≤ 9223372036854775807 := by omega
  have hk2 : k ≤ 100000 := by omega
  have hr2 : len0 - k ≤ 100000 := by omega
  have HTT := Lib.hid (List.take_append_drop k l)
  obtain ⟨SA, hSA⟩ : ∃ T, T = sum (l.take k) := ⟨_, rfl⟩
  obtain ⟨SB, hSB⟩ : ∃ T, T = sum l := ⟨_, rfl⟩
  have HSA := Lib.hid hSA
  have HSB := Lib.hid hSB
  have HlA := Lib.hid (show SA.length = 32 by rw [hSA, sum_length])
  have HlB := Lib.hid (show SB.length = 32 by rw [hSB, sum_length])
  clear hSA hSB
  go_enter Tryd.func3, Tryd.ntmps3
  go_wp2_with fail
  clear hs1
  refine Posts.wp_region_tail 15 4 (Posts.At [Posts.is (.slice a0 len0 cap0), Posts.is (.int .i64 k), Posts.is (.slice ah k cap0), Posts.row 1 #[.slice ah k cap0] 22, Posts.is (.agg (ints .u8 SA)), Posts.is (.slice a0 len0 cap0), Posts.is (.int .i64 k), Posts.is (.slice ah k cap0), Posts.is (.slice a0 len0 cap0), Posts.is (.int .i64 k), Posts.is (.slice ar (len0 - k) (cap0 - k)), Posts.row 2 #[.slice ah k cap0, .slice ar (len0 - k) (cap0 - k)] 22, Posts.is (.agg (ints .u8 SB)), ptrRow w.heap.size, ptrRow w.heap.size]) Two67 (by kernel_rfl) (by simp) (by kernel_rfl) (by kernel_rfl) (by kernel_rfl)
    (Posts.stable_at _ (by repeat' (first | exact trivial | (refine And.intro ?_ ?_) | exact Posts.is_stable _ | exact Posts.row_stable _ _ _ | exact ptrRow_stable _)))
    ⟨fun g h => (by cases h), fun g h => (by cases h), fun g h => (by cases h)⟩ ?_ ?_
  · refine ⟨?_, ?_, ?_, ?_, ?_, ?_, ?_, ?_, ?_, ?_, ?_, ?_, ?_, ?_, ?_, trivial⟩
    · intro a X hX hS hD hJ
      refine Posts.with_J ?_ (fun v Y hE => hJ.keep hE (by decide) (by decide) v)
      have d0 := Posts.slot (show a.eval (.tmp 0) = .slice a0 len0 cap0 from hS.other 0 rfl)
      exact Posts.op_value rfl rfl rfl (by rw [hS.size]; simp) (v := .slice a0 len0 cap0) (by simp [execOp, d0, go_sem]) rfl (Posts.Ext.refl _)
    · intro a X hX hS hD hJ
      refine Posts.with_J ?_ (fun v Y hE => hJ.keep hE (by decide) (by decide) v)
      have d1 := Posts.slot (show a.eval (.tmp 1) = .int .i64 k from hS.other 1 rfl)
      exact Posts.op_value rfl rfl rfl (by rw [hS.size]; simp) (v := .int .i64 k) (by simp [execOp, d1, go_sem]) rfl (Posts.Ext.refl _)
    · intro a X hX hS hD hJ
      refine Posts.with_J ?_ (fun v Y hE => hJ.keep hE (by decide) (by decide) v)
      have d24 := Posts.slot (show a.eval (.tmp 24) = .slice a0 len0 cap0 from hD.1)
      have d25 := Posts.slot (show a.eval (.tmp 25) = .int .i64 k from hD.2.1)
      exact Posts.op_value rfl rfl rfl (by rw [hS.size]; simp) (v := .slice ah k cap0) (by simp [execOp, d24, d25, go_sem, hsh X]) rfl (Posts.Ext.refl _)
    · intro a X hX hS hD hJ
      refine Posts.with_J ?_ (fun v Y hE => hJ.keep hE (by decide) (by decide) v)
      have d26 := Posts.slot (show a.eval (.tmp 26) = .slice ah k cap0 from hD.1)
      refine Posts.op_value rfl rfl rfl (by rw [hS.size]; simp) (v := .slice (some ⟨X.heap.size, 0, none⟩) 1 1) (Y := X.alloc (.cells #[.slice ah k cap0] 22)) ?_ ⟨_, rfl, heap_alloc_new _ _⟩ (Posts.Ext.alloc _ _)
      simp [execOp, d26, go_sem]
    · intro a X hX hS hD hJ
      refine Posts.with_J ?_ (fun v Y hE => hJ.keep hE (by decide) (by decide) v)
      obtain ⟨bd27, ed27, hd27⟩ : Posts.row 1 #[.slice ah k cap0] 22 (a.eval (.tmp 27)) X := hD.1
      have d27 := Posts.slot ed27
      refine Posts.op_call rfl rfl rfl (by rw [hS.size]; simp) 11 #[.slice (some ⟨bd27, 0, none⟩) 1 1] (by simp [d27, go_sem]) ?_
      refine (sum_one (HR.out.below hX) (HSh.out.below' hX (Nat.le_refl _)) hkc hcap hk2 hd27).mono ?_
      rintro e Y ⟨rfl, hXY⟩
      exact ⟨_, rfl, by rw [← HSA.out]; rfl, hXY⟩
    · intro a X hX hS hD hJ
      refine Posts.with_J ?_ (fun v Y hE => hJ.keep hE (by decide) (by decide) v)
      have d0 := Posts.slot (show a.eval (.tmp 0) = .slice a0 len0 cap0 from hS.other 0 rfl)
      exact Posts.op_value rfl rfl rfl (by rw [hS.size]; simp) (v := .slice a0 len0 cap0) (by simp [execOp, d0, go_sem]) rfl (Posts.Ext.refl _)
    · intro a X hX hS hD hJ
      refine Posts.with_J ?_ (fun v Y hE => hJ.keep hE (by decide) (by decide) v)
      have d1 := Posts.slot (show a.eval (.tmp 1) = .int .i64 k from hS.other 1 rfl)
      exact Posts.op_value rfl rfl rfl (by rw [hS.size]; simp) (v := .int .i64 k) (by simp [execOp, d1, go_sem]) rfl (Posts.Ext.refl _)
    · intro a X hX hS hD hJ
      refine Posts.with_J ?_ (fun v Y hE => hJ.keep hE (by decide) (by decide) v)
      have d29 := Posts.slot (show a.eval (.tmp 29) = .slice a0 len0 cap0 from hD.1)
      have d30 := Posts.slot (show a.eval (.tmp 30) = .int .i64 k from hD.2.1)
      exact Posts.op_value rfl rfl rfl (by rw [hS.size]; simp) (v := .slice ah k cap0) (by simp [execOp, d29, d30, go_sem, hsh X]) rfl (Posts.Ext.refl _)
    · intro a X hX hS hD hJ
      refine Posts.with_J ?_ (fun v Y hE => hJ.keep hE (by decide) (by decide) v)
      have d0 := Posts.slot (show a.eval (.tmp 0) = .slice a0 len0 cap0 from hS.other 0 rfl)
      exact Posts.op_value rfl rfl rfl (by rw [hS.size]; simp) (v := .slice a0 len0 cap0) (by simp [execOp, d0, go_sem]) rfl (Posts.Ext.refl _)
    · intro a X hX hS hD hJ
      refine Posts.with_J ?_ (fun v Y hE => hJ.keep hE (by decide) (by decide) v)
      have d1 := Posts.slot (show a.eval (.tmp 1) = .int .i64 k from hS.other 1 rfl)
      exact Posts.op_value rfl rfl rfl (by rw [hS.size]; simp) (v := .int .i64 k) (by simp [execOp, d1, go_sem]) rfl (Posts.Ext.refl _)
    · intro a X hX hS hD hJ
      refine Posts.with_J ?_ (fun v Y hE => hJ.keep hE (by decide) (by decide) v)
      have d32 := Posts.slot (show a.eval (.tmp 32) = .slice a0 len0 cap0 from hD.1)
      have d33 := Posts.slot (show a.eval (.tmp 33) = .int .i64 k from hD.2.1)
      exact Posts.op_value rfl rfl rfl (by rw [hS.size]; simp) (v := .slice ar (len0 - k) (cap0 - k)) (by simp [execOp, d32, d33, go_sem, hsr X]) rfl (Posts.Ext.refl _)
    · intro a X hX hS hD hJ
      refine Posts.with_J ?_ (fun v Y hE => hJ.keep hE (by decide) (by decide) v)
      have d31 := Posts.slot (show a.eval (.tmp 31) = .slice ah k cap0 from hD.1)
      have d34 := Posts.slot (show a.eval (.tmp 34) = .slice ar (len0 - k) (cap0 - k) from hD.2.1)
      refine Posts.op_value rfl rfl rfl (by rw [hS.size]; simp) (v := .slice (some ⟨X.heap.size, 0, none⟩) 2 2) (Y := X.alloc (.cells #[.slice ah k cap0, .slice ar (len0 - k) (cap0 - k)] 22)) ?_ ⟨_, rfl, heap_alloc_new _ _⟩ (Posts.Ext.alloc _ _)
      simp [execOp, d31, d34, go_sem]
    · intro a X hX hS hD hJ
      refine Posts.with_J ?_ (fun v Y hE => hJ.keep hE (by decide) (by decide) v)
      obtain ⟨bd35, ed35, hd35⟩ : Posts.row 2 #[.slice ah k cap0, .slice ar (len0 - k) (cap0 - k)] 22 (a.eval (.tmp 35)) X := hD.1
      have d35 := Posts.slot ed35
      refine Posts.op_call rfl rfl rfl (by rw [hS.size]; simp) 11 #[.slice (some ⟨bd35, 0, none⟩) 2 2] (by simp [d35, go_sem]) ?_
      refine (sum_two (HR.out.below hX) (HSh.out.below' hX (Nat.le_refl _)) hkc hcap (HSr.out.below' hX (Nat.le_refl _)) hrc hcc hk2 hr2 HTT.out hd35).mono ?_
      rintro e Y ⟨rfl, hXY⟩
      exact ⟨_, rfl, by rw [← HSB.out]; rfl, hXY⟩
    · intro a X hX hS hD hJ
      exact op_valueJ rfl rfl rfl (by rw [hS.size]; simp) (v := .pointer (some ⟨X.heap.size, 0, none⟩)) (Y := X.alloc (.cells #[Value.int IntKind.u8 0, Value.int IntKind.u8 0, Value.int IntKind.u8 0, Value.int IntKind.u8 0, Value.int IntKind.u8 0, Value.int IntKind.u8 0, Value.int IntKind.u8 0, Value.int IntKind.u8 0, Value.int IntKind.u8 0, Value.int IntKind.u8 0, Value.int IntKind.u8 0, Value.int IntKind.u8 0, Value.int IntKind.u8 0, Value.int IntKind.u8 0, Value.int IntKind.u8 0, Value.int IntKind.u8 0, Value.int IntKind.u8 0, Value.int IntKind.u8 0, Value.int IntKind.u8 0, Value.int IntKind.u8 0, Value.int IntKind.u8 0, Value.int IntKind.u8 0, Value.int IntKind.u8 0, Value.int IntKind.u8 0, Value.int IntKind.u8 0, Value.int IntKind.u8 0, Value.int IntKind.u8 0, Value.int IntKind.u8 0, Value.int IntKind.u8 0, Value.int IntKind.u8 0, Value.int IntKind.u8 0, Value.int IntKind.u8 0] 25)) (by simp [execOp, go_sem]; try kernel_rfl) ⟨_, rfl, heap_alloc_new _ _, hX.size⟩ (Posts.Ext.alloc _ _) (hJ.put6 (by rw [hS.size]; simp) _)
    · intro a X hX hS hD hJ
      exact op_valueJ rfl rfl rfl (by rw [hS.size]; simp) (v := .pointer (some ⟨X.heap.size, 0, none⟩)) (Y := X.alloc (.cells #[Value.int IntKind.u8 0, Value.int IntKind.u8 0, Value.int IntKind.u8 0, Value.int IntKind.u8 0, Value.int IntKind.u8 0, Value.int IntKind.u8 0, Value.int IntKind.u8 0, Value.int IntKind.u8 0, Value.int IntKind.u8 0, Value.int IntKind.u8 0, Value.int IntKind.u8 0, Value.int IntKind.u8 0, Value.int IntKind.u8 0, Value.int IntKind.u8 0, Value.int IntKind.u8 0, Value.int IntKind.u8 0, Value.int IntKind.u8 0, Value.int IntKind.u8 0, Value.int IntKind.u8 0, Value.int IntKind.u8 0, Value.int IntKind.u8 0, Value.int IntKind.u8 0, Value.int IntKind.u8 0, Value.int IntKind.u8 0, Value.int IntKind.u8 0, Value.int IntKind.u8 0, Value.int IntKind.u8 0, Value.int IntKind.u8 0, Value.int IntKind.u8 0, Value.int IntKind.u8 0, Value.int IntKind.u8 0, Value.int IntKind.u8 0] 25)) (by simp [execOp, go_sem]; try kernel_rfl) ⟨_, rfl, heap_alloc_new _ _, hX.size⟩ (Posts.Ext.alloc _ _) (hJ.put7 (by rw [hS.size]; simp) _)
  · intro A0 Y0 hY0 hS0 hJ0 hL0
    rename_i hK
    have t28 : A0.eval (.tmp 28) = .agg (ints .u8 SA) := hL0.2.2.2.2.1
    have t36 : A0.eval (.tmp 36) = .agg (ints .u8 SB) := hL0.2.2.2.2.2.2.2.2.2.2.2.2.1
    obtain ⟨gA, t6, hgA, hA0⟩ : ptrRow w.heap.size (A0.eval (.tmp 6)) Y0 := hL0.2.2.2.2.2.2.2.2.2.2.2.2.2.1
    obtain ⟨gB, t7, hgB, hB0⟩ : ptrRow w.heap.size (A0.eval (.tmp 7)) Y0 := hL0.2.2.2.2.2.2.2.2.2.2.2.2.2.2.1
    have hne : gA ≠ gB := fun h => hJ0.ne gA t6 (by rw [h]; exact t7)
    have s0 : A0.tmps.getD 0 undef = .slice a0 len0 cap0 := hS0.other 0 rfl
    have s1 : A0.tmps.getD 1 undef = .int .i64 k := hS0.other 1 rfl
    have s5 : A0.tmps.getD 5 undef = .string (strOfNums l) := hS0.other 5 rfl
    have s6 : A0.tmps.getD 6 undef = .pointer (some ⟨gA, 0, none⟩) := t6
    have s7 : A0.tmps.getD 7 undef = .pointer (some ⟨gB, 0, none⟩) := t7
    have hsz : A0.tmps.size = 62 := hS0.size
    have hdef : A0.defers = [] := hS0.defers
    show wpAny _ _ _ _ 2 (Posts.firsts 17 15) A0 Y0
    refine wpAny_all (rs := [15]) (by kernel_rfl) (by simp) ?_
    intro i hi
    obtain rfl : i = 15 := by simpa using hi
    refine op_store rfl rfl rfl 6 28 rfl gA SA HlA.out t6 t28 hgA ?_
    refine wpAny_all (rs := [16]) (by kernel_rfl) (by simp) ?_
    intro i hi
    obtain rfl : i = 16 := by simpa using hi
    refine op_store rfl rfl rfl 7 36 rfl gB SB HlB.out t7 t36 (by rw [setRow_other _ _ _ _ (Ne.symm hne)]; exact hgB) ?_
    refine ⟨by kernel_rfl, ?_⟩
    have H6 : Hid (((Y0.setRow gA (ints .u8 SA)).setRow gB (ints .u8 SB)).heap[gA]? = some (.cells (ints .u8 SA) 25 (0, 0))) := by
      show _ = _
      rw [setRow_other _ _ _ _ hne]; exact setRow_heap _ _ _ _ _ _ hgA
    have H7 : Hid (((Y0.setRow gA (ints .u8 SA)).setRow gB (ints .u8 SB)).heap[gB]? = some (.cells (ints .u8 SB) 25 (0, 0))) := setRow_heap _ _ _ _ _ _ (by rw [setRow_other _ _ _ _ (Ne.symm hne)]; exact hgB)
    have HBW : Hid (Below w.heap.size w ((Y0.setRow gA (ints .u8 SA)).setRow gB (ints .u8 SB))) := Below.trans (show Below w.heap.size w Y0 from hY0) ⟨rfl, rfl, rfl, by simp [World.setRow], fun j hj => by rw [setRow_other _ _ _ _ (by omega), setRow_other _ _ _ _ (by omega)]⟩
    generalize (Y0.setRow gA (ints .u8 SA)).setRow gB (ints .u8 SB) = V at *
    have HRV := Lib.hid (HR.out.below HBW.out)
    have HKV := Lib.hid (HRow.out.below' HBW.out (Nat.le_refl _))
    clear hY0 hS0 hJ0 hL0 t28 t36 hgA hgB hA0 hB0 t6 t7 hsh hsr
    refine hK _ _ ?_
    clear hK
    go_wp2_with fail
    refine Posts.wp_region (Posts.At [Posts.is (.slice a0 len0 cap0), Posts.is (.string (strOfNums l)), Posts.is (.string (strOfNums l)), Posts.is (.bool true), Posts.is (.bool true), Posts.is (.string (strOfNums l)), Posts.is (.int .i64 k), Posts.is (.string (strOfNums (l.take k))), bytesP (l.take k), rowP (l.take k), Posts.is (.agg (ints .u8 SA)), Posts.is (.agg (ints .u8 SA)), Posts.is (.bool true), Posts.is (.bool true), Posts.is (.bool true), Posts.is (.string (strOfNums l)), bytesP (l), rowP (l), Posts.is (.agg (ints .u8 SB)), Posts.is (.agg (ints .u8 SB)), Posts.is (.bool true), Posts.is (.bool true), Posts.is (.bool true), Posts.is (.bool true), Posts.is (.bool true), Posts.is (.bool true)]) (by kernel_rfl) (by kernel_rfl) (by kernel_rfl)
      (Posts.stable_at _ (by repeat' (first | exact trivial | (refine And.intro ?_ ?_) | exact Posts.is_stable _ | exact Posts.row_stable _ _ _ | exact bytesP_stable _ | exact rowP_stable _))) ?_ ?_
    · refine ⟨?_, ?_, ?_, ?_, ?_, ?_, ?_, ?_, ?_, ?_, ?_, ?_, ?_, ?_, ?_, ?_, ?_, ?_, ?_, ?_, ?_, ?_, ?_, ?_, ?_, ?_, trivial⟩
      · intro a X hX hS hD
        have d0 := Posts.slot (show a.eval (.tmp 0) = .slice a0 len0 cap0 from (hS.other 0 rfl).trans s0)
        exact Posts.op_value rfl rfl rfl (by rw [hS.size, hsz]; decide) (v := .slice a0 len0 cap0) (by simp [execOp, d0, go_sem]) rfl (Posts.Ext.refl _)
      · intro a X hX hS hD
        have d37 := Posts.slot (show a.eval (.tmp 37) = .slice a0 len0 cap0 from hD.1)
        exact Posts.op_value rfl rfl rfl (by rw [hS.size, hsz]; decide) (conv_string_op X (.tmp 37) rfl l _ _ cap0 (HKV.out.below' hX (Nat.le_refl _)) hD.1) rfl (Posts.Ext.refl _)
      · intro a X hX hS hD
        have d5 := Posts.slot (show a.eval (.tmp 5) = .string (strOfNums l) from (hS.other 5 rfl).trans s5)
        exact Posts.op_value rfl rfl rfl (by rw [hS.size, hsz]; decide) (v := .string (strOfNums l)) (by simp [execOp, d5, go_sem]) rfl (Posts.Ext.refl _)
      · intro a X hX hS hD
        have d38 := Posts.slot (show a.eval (.tmp 38) = .string (strOfNums l) from hD.1)
        have d39 := Posts.slot (show a.eval (.tmp 39) = .string (strOfNums l) from hD.2.1)
        exact Posts.op_value rfl rfl rfl (by rw [hS.size, hsz]; decide) (v := .bool true) (by simp [execOp, d38, d39, go_sem]) rfl (Posts.Ext.refl _)
      · intro a X hX hS hD
        have d40 := Posts.slot (show a.eval (.tmp 40) = .bool true from hD.1)
        exact Posts.op_value rfl rfl rfl (by rw [hS.size, hsz]; decide) (v := .bool true) (by simp [execOp, d40, go_sem]) rfl (Posts.Ext.refl _)
      · intro a X hX hS hD
        have d5 := Posts.slot (show a.eval (.tmp 5) = .string (strOfNums l) from (hS.other 5 rfl).trans s5)
        exact Posts.op_value rfl (Posts.wanted_yes rfl rfl rfl hD.1) rfl (by rw [hS.size, hsz]; decide) (v := .string (strOfNums l)) (by simp [execOp, d5, go_sem]) rfl (Posts.Ext.refl _)
      · intro a X hX hS hD
        have d1 := Posts.slot (show a.eval (.tmp 1) = .int .i64 k from (hS.other 1 rfl).trans s1)
        exact Posts.op_value rfl (Posts.wanted_yes rfl rfl rfl hD.1) rfl (by rw [hS.size, hsz]; decide) (v := .int .i64 k) (by simp [execOp, d1, go_sem]) rfl (Posts.Ext.refl _)
      · intro a X hX hS hD
        have d42 := Posts.slot (show a.eval (.tmp 42) = .string (strOfNums l) from hD.1)
        have d43 := Posts.slot (show a.eval (.tmp 43) = .int .i64 k from hD.2.1)
        exact Posts.op_value rfl (Posts.wanted_yes rfl rfl rfl hD.2.2.1) rfl (by rw [hS.size, hsz]; decide) (head_string_op X (.tmp 42) (.tmp 43) rfl l k (by omega) hD.1 hD.2.1) rfl (Posts.Ext.refl _)
      · intro a X hX hS hD
        have d44 := Posts.slot (show a.eval (.tmp 44) = .string (strOfNums (l.take k)) from hD.1)
        exact op_ex rfl (Posts.wanted_yes rfl rfl rfl hD.2.1) rfl (by rw [hS.size, hsz]; decide) (conv_op X (.tmp 44) rfl (l.take k) (fun z hz => HBy.out z (List.mem_of_mem_take hz)) (by simp; omega) hD.1)
      · intro a X hX hS hD
        have hd45 : (bytesP (l.take k)) (a.eval (.tmp 45)) X := hD.1
        obtain ⟨ka, m', c', e1, k1, k2, k3⟩ := hd45
        have e2 := Posts.slot e1
        refine Posts.op_value rfl (Posts.wanted_yes rfl rfl rfl hD.2.1) rfl (by rw [hS.size, hsz]; decide) (v := .slice (some ⟨X.heap.size, 0, none⟩) 1 1) (Y := X.alloc (.cells #[.slice ka m' c'] 22)) ?_ ⟨_, ka, m', c', rfl, heap_alloc_new _ _, k1, k2, k3.below' (Posts.Ext.alloc _ _) (Nat.le_refl _)⟩ (Posts.Ext.alloc _ _)
        simp [execOp, e2, go_sem]
      · intro a X hX hS hD
        have hd46 : (rowP (l.take k)) (a.eval (.tmp 46)) X := hD.1
        obtain ⟨b', e2, hc⟩ := sum_made (HRV.out.below hX) hd46 (by simp; omega)
        have f2 := Posts.slot e2
        refine Posts.op_call rfl (Posts.wanted_yes rfl rfl rfl hD.2.1) rfl (by rw [hS.size, hsz]; decide) 11 #[.slice (some ⟨b', 0, none⟩) 1 1] (by simp [f2, go_sem]) ?_
        refine hc.mono ?_
        rintro e Y ⟨rfl, hXY⟩
        exact ⟨_, rfl, by rw [← HSA.out]; rfl, hXY⟩
      · intro a X hX hS hD
        have d6 := Posts.slot (show a.eval (.tmp 6) = .pointer (some ⟨gA, 0, none⟩) from (hS.other 6 rfl).trans s6)
        exact Posts.op_value rfl (Posts.wanted_yes rfl rfl rfl hD.1) rfl (by rw [hS.size, hsz]; decide) (run_load_op (.tmp 6) rfl _ SA HlA.out ((hS.other 6 rfl).trans s6) (R_below hX H6.out)) rfl (Posts.Ext.refl _)
      · intro a X hX hS hD
        have d47 := Posts.slot (show a.eval (.tmp 47) = .agg (ints .u8 SA) from hD.1)
        have d48 := Posts.slot (show a.eval (.tmp 48) = .agg (ints .u8 SA) from hD.2.1)
        exact Posts.op_value rfl (Posts.wanted_yes rfl rfl rfl hD.2.2.1) rfl (by rw [hS.size, hsz]; decide) (run_eql_op X (.tmp 47) (.tmp 48) rfl SA HlA.out hD.1 hD.2.1) rfl (Posts.Ext.refl _)
      · intro a X hX hS hD
        have d41 := Posts.slot (show a.eval (.tmp 41) = .bool true from hD.1)
        have d49 := Posts.slot (show a.eval (.tmp 49) = .bool true from hD.2.1)
        exact Posts.op_value rfl rfl rfl (by rw [hS.size, hsz]; decide) (v := .bool true) (by simp [execOp, d41, d49, go_sem]) rfl (Posts.Ext.refl _)
      · intro a X hX hS hD
        have d50 := Posts.slot (show a.eval (.tmp 50) = .bool true from hD.1)
        exact Posts.op_value rfl rfl rfl (by rw [hS.size, hsz]; decide) (v := .bool true) (by simp [execOp, d50, go_sem]) rfl (Posts.Ext.refl _)
      · intro a X hX hS hD
        have d5 := Posts.slot (show a.eval (.tmp 5) = .string (strOfNums l) from (hS.other 5 rfl).trans s5)
        exact Posts.op_value rfl (Posts.wanted_yes rfl rfl rfl hD.1) rfl (by rw [hS.size, hsz]; decide) (v := .string (strOfNums l)) (by simp [execOp, d5, go_sem]) rfl (Posts.Ext.refl _)
      · intro a X hX hS hD
        have d52 := Posts.slot (show a.eval (.tmp 52) = .string (strOfNums l) from hD.1)
        exact op_ex rfl (Posts.wanted_yes rfl rfl rfl hD.2.1) rfl (by rw [hS.size, hsz]; decide) (conv_op X (.tmp 52) rfl (l) HBy.out (by omega) hD.1)
      · intro a X hX hS hD
        have hd53 : (bytesP (l)) (a.eval (.tmp 53)) X := hD.1
        obtain ⟨ka, m', c', e1, k1, k2, k3⟩ := hd53
        have e2 := Posts.slot e1
        refine Posts.op_value rfl (Posts.wanted_yes rfl rfl rfl hD.2.1) rfl (by rw [hS.size, hsz]; decide) (v := .slice (some ⟨X.heap.size, 0, none⟩) 1 1) (Y := X.alloc (.cells #[.slice ka m' c'] 22)) ?_ ⟨_, ka, m', c', rfl, heap_alloc_new _ _, k1, k2, k3.below' (Posts.Ext.alloc _ _) (Nat.le_refl _)⟩ (Posts.Ext.alloc _ _)
        simp [execOp, e2, go_sem]
      · intro a X hX hS hD
        have hd54 : (rowP (l)) (a.eval (.tmp 54)) X := hD.1
        obtain ⟨b', e2, hc⟩ := sum_made (HRV.out.below hX) hd54 (by omega)
        have f2 := Posts.slot e2
        refine Posts.op_call rfl (Posts.wanted_yes rfl rfl rfl hD.2.1) rfl (by rw [hS.size, hsz]; decide) 11 #[.slice (some ⟨b', 0, none⟩) 1 1] (by simp [f2, go_sem]) ?_
        refine hc.mono ?_
        rintro e Y ⟨rfl, hXY⟩
        exact ⟨_, rfl, by rw [← HSB.out]; rfl, hXY⟩
      · intro a X hX hS hD
        have d7 := Posts.slot (show a.eval (.tmp 7) = .pointer (some ⟨gB, 0, none⟩) from (hS.other 7 rfl).trans s7)
        exact Posts.op_value rfl (Posts.wanted_yes rfl rfl rfl hD.1) rfl (by rw [hS.size, hsz]; decide) (run_load_op (.tmp 7) rfl _ SB HlB.out ((hS.other 7 rfl).trans s7) (R_below hX H7.out)) rfl (Posts.Ext.refl _)
      · intro a X hX hS hD
        have d55 := Posts.slot (show a.eval (.tmp 55) = .agg (ints .u8 SB) from hD.1)
        have d56 := Posts.slot (show a.eval (.tmp 56) = .agg (ints .u8 SB) from hD.2.1)
        exact Posts.op_value rfl (Posts.wanted_yes rfl rfl rfl hD.2.2.1) rfl (by rw [hS.size, hsz]; decide) (run_eql_op X (.tmp 55) (.tmp 56) rfl SB HlB.out hD.1 hD.2.1) rfl (Posts.Ext.refl _)
      · intro a X hX hS hD
        have d51 := Posts.slot (show a.eval (.tmp 51) = .bool true from hD.1)
        have d57 := Posts.slot (show a.eval (.tmp 57) = .bool true from hD.2.1)
        exact Posts.op_value rfl rfl rfl (by rw [hS.size, hsz]; decide) (v := .bool true) (by simp [execOp, d51, d57, go_sem]) rfl (Posts.Ext.refl _)
      · intro a X hX hS hD
        have d58 := Posts.slot (show a.eval (.tmp 58) = .bool true from hD.1)
        exact Posts.op_value rfl rfl rfl (by rw [hS.size, hsz]; decide) (v := .bool true) (by simp [execOp, d58, go_sem]) rfl (Posts.Ext.refl _)
      · intro a X hX hS hD
        refine Posts.op_call rfl (Posts.wanted_yes rfl rfl rfl hD.1) rfl (by rw [hS.size, hsz]; decide) 10 #[] (by simp [go_sem]) ?_
        refine (works_any _ (HRV.out.below hX)).mono ?_
        rintro e Y ⟨rfl, hXY⟩
        exact ⟨_, rfl, rfl, hXY⟩
      · intro a X hX hS hD
        have d59 := Posts.slot (show a.eval (.tmp 59) = .bool true from hD.1)
        have d60 := Posts.slot (show a.eval (.tmp 60) = .bool true from hD.2.1)
        exact Posts.op_value rfl rfl rfl (by rw [hS.size, hsz]; decide) (v := .bool true) (by simp [execOp, d59, d60, go_sem]) rfl (Posts.Ext.refl _)
      · intro a X hX hS hD
        have d61 := Posts.slot (show a.eval (.tmp 61) = .bool true from hD.1)
        exact Posts.op_value rfl rfl rfl (by rw [hS.size, hsz]; decide) (v := .bool true) (by simp [execOp, d61, go_sem]) rfl (Posts.Ext.refl _)
    · intro a Y hY hS hL
      have hres : a.tmps.getD 4 undef = .bool true := hL.2.2.2.2.2.2.2.2.2.2.2.2.2.2.2.2.2.2.2.2.2.2.2.2.2.1
      rename_i hK
      refine hK _ _ ?_
      go_wp2_with fail
      exact bodyPost_ret (v := .bool true) (by have h := results_tmp (fn := Tryd.f3) (t := 4) rfl a.tmps Tryd.prog Y; rw [hres] at h; exact h) (hS.defers.trans hdef) ⟨rfl, HBW.out.trans (Below.mono hY HBW.out.size)⟩

/-- what the walk gives, for every argument, in every world that holds the table -/
theorem contract (H : Type) (enc : TypeId × Value → H) (W : World) (base : Nat) (args : Array Value) (ds gs : List (DataW H)) (before : List MemPlace)
    (hval : ∀ (j : Nat) t v, Tryd.f3.params[j]? = some t → args[j]? = some v → Value.okWide Tryd.prog W .any base t v)
    (hW : DataW.Whole enc Tryd.prog Tryd.f3.params.toList Rows.shaKeepsSpec.vars false W args.toList ds gs before) (hL : laidMetH Tryd.prog Rows.shaKeepsRow.laid W) :
    Calls Tryd.prog 3 args W fun e W' => ∃ v, e = .returned v ∧ Rows.shaKeepsSpec.post enc Tryd.prog Tryd.f3 false true false false W args v W' := by
  have hW' := hW
  obtain ⟨p, q, hA0, hV, rfl, hfz, hnd⟩ := hW
  have hA : DataW.TrodAll enc Tryd.prog W 0 (fun _ => true) true Tryd.f3.params.toList args.toList ds p := hA0
  rw [Tryd.params3] at hA hval
  obtain ⟨v0, vs0, d0, ds0, p0, q0, hargs, rfl, rfl, h0, r0⟩ := trodAll_cons hA
  obtain ⟨v1, vs1, d1, ds1, p1, q1, rfl, rfl, rfl, h1, r1⟩ := trodAll_cons r0
  obtain ⟨rfl, rfl, rfl⟩ := trodAll_nil r1
  obtain rfl : args = #[v0, v1] := by cases args; simp_all
  obtain ⟨rfl, rfl⟩ := trodVars_none hV
  obtain ⟨a0, len0, cap0, rfl⟩ := okWide_slice Tryd.underlying22 (hval 0 22 v0 rfl rfl)
  have k0 := h0
  have lt0 : ∀ x ∈ p0, x.block < W.heap.size := by obtain ⟨m, hm⟩ := k0; exact DataW.trod_lt m _ _ _ hm
  obtain ⟨z0, w0⟩ : ∃ zs, IsRow .u8 W a0 len0 cap0 zs := by
    obtain ⟨fuel, hf⟩ := h0
    rcases open_ints Tryd.underlying22 Tryd.underlying5 (by kernel_rfl) hf with ⟨hcs, _⟩ | ⟨x, l, c, zs, hcs, _, hl, hm, hz, _, hcell, hwz⟩
    · simp [Value.cells] at hcs
      obtain ⟨rfl, rfl, rfl⟩ := hcs
      exact ⟨[], .inl ⟨rfl, rfl, rfl, rfl⟩⟩
    · simp [Value.cells] at hcs
      obtain ⟨rfl, rfl, rfl⟩ := hcs
      exact ⟨zs, .inr ⟨_, rfl, hl, hm, by simpa using hz, hcell, hwz⟩⟩
  obtain ⟨a1, rfl, rfl, rfl, w1⟩ := open_int Tryd.underlying3 (hval 1 3 v1 rfl rfl) h1
  clear hA0
  refine (walk a0 len0 cap0 z0 a1 W (roots hL) w0 w1).mono fun e W' ⟨he, bel⟩ => ?_
  subst he
  exact ⟨_, rfl, _, _, _, [], _, [], hW', trodAll_mk1 (shut_bool Tryd.underlying4 _), (trodAll_cons_mk (Below.trod laidOut (by kernel_rfl) (of_decide_eq_true (by kernel_rfl)) k0 bel lt0) (trodAll_cons_mk (shut_int Tryd.underlying3 w1) trodAll_mk0)), rfl, bel.frame _, fun h => by cases h⟩

theorem reads (os : Os) {H : Type} (enc : TypeId × Value → H) : ∃ places, DataW.whole enc Tryd.prog ((laidWorld os).forCall (fun _ _ => 0) ⟨#[], (#[Value.slice none 0 0, Value.int .i64 0] : Array Value), []⟩).memory Tryd.f3.params.toList Rows.shaKeepsSpec.vars false (#[Value.slice none 0 0, Value.int .i64 0] : Array Value).toList 8 = some ([.nil, .lit (.int .i64 0)], [], places) :=
  ⟨[], by kernel_rfl⟩

set_option maxRecDepth 100000 in
theorem lifted (os : Os) (started : os.Started) (H : Type) (enc : TypeId × Value → H) (F : Stop.Interp) :
    ReturnsInHanded {} Tryd.checked os 3 .any ((OpenSpec.ofChange Rows.shaKeepsSpec).preRow enc Tryd.prog Tryd.f3 Rows.shaKeepsRow.domain false Rows.shaKeepsRow.laid) (((OpenSpec.ofChange Rows.shaKeepsSpec).at F).post enc Tryd.prog Tryd.f3 false true false false) := by
  obtain ⟨places, hx⟩ := reads os enc
  refine returnsInHanded_of_row (C := Tryd.checked) (s := OpenSpec.ofChange Rows.shaKeepsSpec) own started (by kernel_rfl) Tryd.func3
    (witness_row_at (enc := enc) (C := Tryd.checked) false (laidWorld os) (#[Value.slice none 0 0, Value.int .i64 0] : Array Value) rfl (by kernel_rfl) (by kernel_rfl) (by kernel_rfl)
      (OpenSpec.preRow_of_cond 8 hx (by kernel_rfl) (fun k hk => by cases hk) (by kernel_rfl) (laid_met os _))) ?_
  intro W base args ds gs before hval hW _ _ _ hL _ _
  exact contract H enc W base args ds gs before hval hW hL

theorem said : Rows.ShaKeepsSaid :=
  OpenClaim.holds_of_cond 3 Tryd.f3 rfl rfl rfl rfl rfl rfl rfl ⟨rfl, rfl, rfl, rfl, rfl⟩ rfl rfl rfl rfl rfl (by kernel_rfl) Tryd.func3 (by kernel_rfl)
    (of_decide_eq_true (by kernel_rfl)) (by unfold Func.isWrapper; first | (rw [if_pos (by decide +kernel)]; kernel_rfl) | (rw [if_neg (by decide +kernel)]; exact ⟨rfl, rfl⟩))
    (fun os started H enc _ F => by rw [OpenClaim.pre_eq_preRow]; exact lifted os started H enc F)

theorem plain (f : FuncId) (fn : Func) (hf : Tryd.pinned.checked.prog.funcNamed "tappet/tappetlaw02.ShaKeeps" = some f) (hfn : Tryd.pinned.checked.prog.funcs[f]? = some fn) :
    false = Tryd.pinned.checked.prog.looks [] ∧ ∀ (j : Nat) t, fn.params[j]? = some t → Tryd.pinned.checked.prog.wantsStandIn t = false := by
  obtain rfl : f = 3 := Option.some.inj ((show Tryd.prog.funcNamed "tappet/tappetlaw02.ShaKeeps" = some 3 by kernel_rfl).symm.trans hf) |>.symm
  obtain rfl : fn = Tryd.f3 := (Option.some.inj (Tryd.func3.symm.trans hfn)).symm
  refine ⟨by kernel_rfl, fun j t ht => ?_⟩
  rw [Tryd.params3] at ht
  have hm := Array.mem_of_getElem? ht
  simp at hm
  rcases hm with rfl | rfl
  · exact (show Tryd.prog.wantsStandIn 22 = false by kernel_rfl)
  · exact (show Tryd.prog.wantsStandIn 3 = false by kernel_rfl)

theorem proved : Rows.ShaKeepsCardSaid :=
  Claim7.holds_tied_plain_at .later [] _ _ _ _ said (fun _ h => by cases h) (by kernel_rfl) (fun _ h => by cases h) shaKeeps_row_tie rfl ⟨rfl, rfl⟩ (by kernel_rfl) rfl plain (by kernel_rfl)
#print axioms proved
end Go.Proofs.YtodbfkifendniaaDoor.shaKeeps
