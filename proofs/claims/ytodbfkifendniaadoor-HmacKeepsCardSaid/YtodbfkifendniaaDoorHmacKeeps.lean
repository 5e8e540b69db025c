/- The statement HmacKeeps holds: whatever the input, the call answers true, and what was handed in reads as it did. Under the statement's own reading alone: the primes' table is as the program's text lays it. -/
import Derived.Test.YtodbfkifendniaaDoorHmacConv
import Derived.Deep.QuietTactic
import Derived.BigQuiet
namespace Go.Proofs.YtodbfkifendniaaDoor.hmacKeeps
open Go.ChangeShapes Go.WideShapes Go.ChangeAt Go.RowKit Sha

theorem store_two_first (W : World) (l : List Int) (hl : l.length = 32) : Sem.run Tryd.prog (storeCells ⟨W.heap.size, 0, none⟩ (ints .u8 l).toList) ((W.alloc (.cells #[Value.int IntKind.u8 0, Value.int IntKind.u8 0, Value.int IntKind.u8 0, Value.int IntKind.u8 0, Value.int IntKind.u8 0, Value.int IntKind.u8 0, Value.int IntKind.u8 0, Value.int IntKind.u8 0, Value.int IntKind.u8 0, Value.int IntKind.u8 0, Value.int IntKind.u8 0, Value.int IntKind.u8 0, Value.int IntKind.u8 0, Value.int IntKind.u8 0, Value.int IntKind.u8 0, Value.int IntKind.u8 0, Value.int IntKind.u8 0, Value.int IntKind.u8 0, Value.int IntKind.u8 0, Value.int IntKind.u8 0, Value.int IntKind.u8 0, Value.int IntKind.u8 0, Value.int IntKind.u8 0, Value.int IntKind.u8 0, Value.int IntKind.u8 0, Value.int IntKind.u8 0, Value.int IntKind.u8 0, Value.int IntKind.u8 0, Value.int IntKind.u8 0, Value.int IntKind.u8 0, Value.int IntKind.u8 0, Value.int IntKind.u8 0] 25)).alloc (.cells #[Value.int IntKind.u8 0, Value.int IntKind.u8 0, Value.int IntKind.u8 0, Value.int IntKind.u8 0, Value.int IntKind.u8 0, Value.int IntKind.u8 0, Value.int IntKind.u8 0, Value.int IntKind.u8 0, Value.int IntKind.u8 0, Value.int IntKind.u8 0, Value.int IntKind.u8 0, Value.int IntKind.u8 0, Value.int IntKind.u8 0, Value.int IntKind.u8 0, Value.int IntKind.u8 0, Value.int IntKind.u8 0, Value.int IntKind.u8 0, Value.int IntKind.u8 0, Value.int IntKind.u8 0, Value.int IntKind.u8 0, Value.int IntKind.u8 0, Value.int IntKind.u8 0, Value.int IntKind.u8 0, Value.int IntKind.u8 0, Value.int IntKind.u8 0, Value.int IntKind.u8 0, Value.int IntKind.u8 0, Value.int IntKind.u8 0, Value.int IntKind.u8 0, Value.int IntKind.u8 0, Value.int IntKind.u8 0, Value.int IntKind.u8 0] 25)) = .ok () ((W.alloc (.cells (ints .u8 l) 25)).alloc (.cells #[Value.int IntKind.u8 0, Value.int IntKind.u8 0, Value.int IntKind.u8 0, Value.int IntKind.u8 0, Value.int IntKind.u8 0, Value.int IntKind.u8 0, Value.int IntKind.u8 0, Value.int IntKind.u8 0, Value.int IntKind.u8 0, Value.int IntKind.u8 0, Value.int IntKind.u8 0, Value.int IntKind.u8 0, Value.int IntKind.u8 0, Value.int IntKind.u8 0, Value.int IntKind.u8 0, Value.int IntKind.u8 0, Value.int IntKind.u8 0, Value.int IntKind.u8 0, Value.int IntKind.u8 0, Value.int IntKind.u8 0, Value.int IntKind.u8 0, Value.int IntKind.u8 0, Value.int IntKind.u8 0, Value.int IntKind.u8 0, Value.int IntKind.u8 0, Value.int IntKind.u8 0, Value.int IntKind.u8 0, Value.int IntKind.u8 0, Value.int IntKind.u8 0, Value.int IntKind.u8 0, Value.int IntKind.u8 0, Value.int IntKind.u8 0] 25)) := by
  have h := store_result (W := (W.alloc (.cells #[Value.int IntKind.u8 0, Value.int IntKind.u8 0, Value.int IntKind.u8 0, Value.int IntKind.u8 0, Value.int IntKind.u8 0, Value.int IntKind.u8 0, Value.int IntKind.u8 0, Value.int IntKind.u8 0, Value.int IntKind.u8 0, Value.int IntKind.u8 0, Value.int IntKind.u8 0, Value.int IntKind.u8 0, Value.int IntKind.u8 0, Value.int IntKind.u8 0, Value.int IntKind.u8 0, Value.int IntKind.u8 0, Value.int IntKind.u8 0, Value.int IntKind.u8 0, Value.int IntKind.u8 0, Value.int IntKind.u8 0, Value.int IntKind.u8 0, Value.int IntKind.u8 0, Value.int IntKind.u8 0, Value.int IntKind.u8 0, Value.int IntKind.u8 0, Value.int IntKind.u8 0, Value.int IntKind.u8 0, Value.int IntKind.u8 0, Value.int IntKind.u8 0, Value.int IntKind.u8 0, Value.int IntKind.u8 0, Value.int IntKind.u8 0] 25)).alloc (.cells #[Value.int IntKind.u8 0, Value.int IntKind.u8 0, Value.int IntKind.u8 0, Value.int IntKind.u8 0, Value.int IntKind.u8 0, Value.int IntKind.u8 0, Value.int IntKind.u8 0, Value.int IntKind.u8 0, Value.int IntKind.u8 0, Value.int IntKind.u8 0, Value.int IntKind.u8 0, Value.int IntKind.u8 0, Value.int IntKind.u8 0, Value.int IntKind.u8 0, Value.int IntKind.u8 0, Value.int IntKind.u8 0, Value.int IntKind.u8 0, Value.int IntKind.u8 0, Value.int IntKind.u8 0, Value.int IntKind.u8 0, Value.int IntKind.u8 0, Value.int IntKind.u8 0, Value.int IntKind.u8 0, Value.int IntKind.u8 0, Value.int IntKind.u8 0, Value.int IntKind.u8 0, Value.int IntKind.u8 0, Value.int IntKind.u8 0, Value.int IntKind.u8 0, Value.int IntKind.u8 0, Value.int IntKind.u8 0, Value.int IntKind.u8 0] 25)) (b := W.heap.size) l (heap_alloc2_old _ _ _) hl
  have e : ∀ (C D : Array Value), ((W.alloc (.cells C 25)).alloc (.cells D 25)).setRow W.heap.size (ints .u8 l) = (W.alloc (.cells (ints .u8 l) 25)).alloc (.cells D 25) := by
    intro C D
    simp only [World.setRow, World.alloc]
    congr 1
    apply Array.ext
    · simp
    · intro i h1 h2
      simp [Array.getElem_modify, Array.getElem_push]
      by_cases hi : W.heap.size = i
      · subst hi; simp
      · by_cases h3 : i < W.heap.size
        · simp [hi, h3]
        · have h4 : ¬ i < W.heap.size + 1 := by omega
          simp [hi, h4]
  rw [e] at h
  exact h
theorem store_two_second (W : World) (k l : List Int) (hl : l.length = 32) : Sem.run Tryd.prog (storeCells ⟨W.heap.size + 1, 0, none⟩ (ints .u8 l).toList) ((W.alloc (.cells (ints .u8 k) 25)).alloc (.cells #[Value.int IntKind.u8 0, Value.int IntKind.u8 0, Value.int IntKind.u8 0, Value.int IntKind.u8 0, Value.int IntKind.u8 0, Value.int IntKind.u8 0, Value.int IntKind.u8 0, Value.int IntKind.u8 0, Value.int IntKind.u8 0, Value.int IntKind.u8 0, Value.int IntKind.u8 0, Value.int IntKind.u8 0, Value.int IntKind.u8 0, Value.int IntKind.u8 0, Value.int IntKind.u8 0, Value.int IntKind.u8 0, Value.int IntKind.u8 0, Value.int IntKind.u8 0, Value.int IntKind.u8 0, Value.int IntKind.u8 0, Value.int IntKind.u8 0, Value.int IntKind.u8 0, Value.int IntKind.u8 0, Value.int IntKind.u8 0, Value.int IntKind.u8 0, Value.int IntKind.u8 0, Value.int IntKind.u8 0, Value.int IntKind.u8 0, Value.int IntKind.u8 0, Value.int IntKind.u8 0, Value.int IntKind.u8 0, Value.int IntKind.u8 0] 25)) = .ok () ((W.alloc (.cells (ints .u8 k) 25)).alloc (.cells (ints .u8 l) 25)) := by
  have h := run_storeCells_new (P := Tryd.prog) (W.alloc (.cells (ints .u8 k) 25)) 25 #[Value.int IntKind.u8 0, Value.int IntKind.u8 0, Value.int IntKind.u8 0, Value.int IntKind.u8 0, Value.int IntKind.u8 0, Value.int IntKind.u8 0, Value.int IntKind.u8 0, Value.int IntKind.u8 0, Value.int IntKind.u8 0, Value.int IntKind.u8 0, Value.int IntKind.u8 0, Value.int IntKind.u8 0, Value.int IntKind.u8 0, Value.int IntKind.u8 0, Value.int IntKind.u8 0, Value.int IntKind.u8 0, Value.int IntKind.u8 0, Value.int IntKind.u8 0, Value.int IntKind.u8 0, Value.int IntKind.u8 0, Value.int IntKind.u8 0, Value.int IntKind.u8 0, Value.int IntKind.u8 0, Value.int IntKind.u8 0, Value.int IntKind.u8 0, Value.int IntKind.u8 0, Value.int IntKind.u8 0, Value.int IntKind.u8 0, Value.int IntKind.u8 0, Value.int IntKind.u8 0, Value.int IntKind.u8 0, Value.int IntKind.u8 0] (ints .u8 l) (by rw [ints_size, hl]; kernel_rfl) (by rw [ints_size, hl]; rfl) (ints_all _ _)
  rw [show (W.alloc (.cells (ints .u8 k) 25)).heap.size = W.heap.size + 1 from by simp] at h
  exact h
/-- a guard that says no: the layer's own test -/
macro "hm_no" : tactic => `(tactic| (go_wp2_with fail; refine (worksH_any _ (by assumption)).mono ?_; rintro e w1 ⟨rfl, hb1⟩; go_wp2_with fail; go_ret; exact ⟨rfl, hb1⟩))

set_option maxRecDepth 100000 in
set_option maxHeartbeats 2000000 in
theorem walk (a0 : Option Addr) (len0 cap0 : Nat) (z0 : List Int) (a1 : Option Addr) (len1 cap1 : Nat) (z1 : List Int) (a2 : Int) (w : World) (hr : Roots w) (w0 : IsRow .u8 w a0 len0 cap0 z0) (w1 : IsRow .u8 w a1 len1 cap1 z1) (w2 : (Lit.int .i64 a2).wf = true) :
    Calls Tryd.prog 9 #[.slice a0 len0 cap0, .slice a1 len1 cap1, .int .i64 a2] w fun e w' => e = .returned (.bool true) ∧ Below w.heap.size w w' := by
  obtain ⟨hlen0, hcap0⟩ := w0.len
  obtain ⟨hlen1, hcap1⟩ := w1.len
  have hrow0 := w0.row
  have hrow1 := w1.row
  have hi2 : -9223372036854775808 ≤ a2 ∧ a2 ≤ 9223372036854775807 := by simpa [Lit.wf, IntKind.min, IntKind.max, IntKind.signed, IntKind.bits] using w2
  obtain ⟨i20, i21⟩ := hi2
  generalize z0.take len0 = key at *
  generalize z1.take len1 = text at *
  have HK := Lib.hid hrow0
  have HT := Lib.hid hrow1
  have HR := Lib.hid hr
  clear w0 w1 w2 hrow0 hrow1
  by_cases b1 : 10000 < len0
  · clear HR; go_enter Tryd.func9, Tryd.ntmps9; hm_no
  by_cases b2 : 10000 < len1
  · clear HR; go_enter Tryd.func9, Tryd.ntmps9; hm_no
  by_cases b3 : a2 < 0
  · clear HR; go_enter Tryd.func9, Tryd.ntmps9; hm_no
  by_cases b4 : (len0 : Int) < a2
  · clear HR; go_enter Tryd.func9, Tryd.ntmps9; hm_no
  clear hr
  obtain ⟨m, rfl⟩ := Int.eq_ofNat_of_zero_le (by omega : 0 ≤ a2)
  have hlk := HK.out.1
  have hlt := HT.out.1
  have HBk := Lib.hid HK.out.2.1
  have HBt := Lib.hid HT.out.2.1
  obtain ⟨ah, hsh, hSh⟩ := head_of HK.out m (m : Int) rfl (by omega) hlen0
  have HSh := Lib.hid hSh
  clear hSh
  have q1 : m ≤ cap0 := by omega
  have q2 : m ≤ 100000 := by omega
  have q6 : len0 ≤ 100000 := by omega
  have q7 : len1 ≤ 100000 := by omega
  obtain ⟨TA, hTA⟩ : ∃ T, T = tag (key.take m) text := ⟨_, rfl⟩
  obtain ⟨TB, hTB⟩ : ∃ T, T = tag key text := ⟨_, rfl⟩
  have HTA := Lib.hid hTA
  have HTB := Lib.hid hTB
  have HlA := Lib.hid (show TA.length = 32 by rw [hTA, tag_length])
  have HlB := Lib.hid (show TB.length = 32 by rw [hTB, tag_length])
  clear hTA hTB
  have hst1 : ∀ n, (convert 22 9 (.slice a0 len0 cap0)).run Tryd.prog (w.drewN n) = .ok (.string (strOfNums key)) (w.drewN n) := fun n => row_string cap0 (HK.out.below' ⟨rfl, rfl, rfl, Nat.le_refl _, fun _ _ => rfl⟩ (Nat.le_refl _))
  have hst2 : ∀ n, (convert 22 9 (.slice a1 len1 cap1)).run Tryd.prog (w.drewN n) = .ok (.string (strOfNums text)) (w.drewN n) := fun n => row_string cap1 (HT.out.below' ⟨rfl, rfl, rfl, Nat.le_refl _, fun _ _ => rfl⟩ (Nat.le_refl _))
  go_enter Tryd.func9, Tryd.ntmps9
  go_wp2_with fail
  go_quiet (fail)
  clear hst1 hst2
  have HB0 : Hid (Below w.heap.size w (w.drewN nq)) := ⟨rfl, rfl, rfl, Nat.le_refl _, fun _ _ => rfl⟩
  generalize w.drewN nq = W0 at *
  have HOfA : Hid (∀ X : World, Below w.heap.size w X → Calls Tryd.prog 13 #[.slice ah m cap0, .slice (some ⟨X.heap.size, 0, none⟩) 1 1] (X.alloc (.cells #[.slice a1 len1 cap1] 22)) fun e w' => e = .returned (.agg (ints .u8 TA)) ∧ Below w.heap.size w w') := by
    intro X hX
    refine (of_one HR.out HSh.out q1 hcap0 q2 HT.out hlen1 hcap1 q7 (B_alloc hX _) (R_new rfl)).mono ?_
    rintro e w' ⟨rfl, _, hb⟩
    exact ⟨by rw [← HTA.out], hb⟩
  have HOfB : Hid (∀ X : World, Below w.heap.size w X → Calls Tryd.prog 13 #[.slice a0 len0 cap0, .slice (some ⟨X.heap.size, 0, none⟩) 1 1] (X.alloc (.cells #[.slice a1 len1 cap1] 22)) fun e w' => e = .returned (.agg (ints .u8 TB)) ∧ Below w.heap.size w w') := by
    intro X hX
    refine (of_one HR.out HK.out hlen0 hcap0 q6 HT.out hlen1 hcap1 q7 (B_alloc hX _) (R_new rfl)).mono ?_
    rintro e w' ⟨rfl, _, hb⟩
    exact ⟨by rw [← HTB.out], hb⟩
  go_wp2_with fail
  refine (HOfA.out W0 HB0.out).mono ?_
  rintro e w1 ⟨rfl, hb1⟩
  have HB1 := Lib.hid hb1
  clear hb1
  go_wp2_with fail
  refine (HOfB.out w1 HB1.out).mono ?_
  rintro e w2 ⟨rfl, hb2⟩
  have HB2 := Lib.hid hb2
  clear hb2 HOfA HOfB
  have e1 := store_two_first w2 TA HlA.out
  have e2 := store_two_second w2 TA TB HlB.out
  have hz1 : (ints .u8 TA).size = 32 := by rw [ints_size, HlA.out]
  have hz2 : (ints .u8 TB).size = 32 := by rw [ints_size, HlB.out]
  go_wp2_with fail
  clear e1 e2 hz1 hz2
  have H9 : Hid (((w2.alloc (.cells (ints .u8 TA) 25)).alloc (.cells (ints .u8 TB) 25)).heap[w2.heap.size]? = some (.cells (ints .u8 TA) 25 (0, 0))) := heap_alloc2_old _ _ _
  have H10 : Hid (((w2.alloc (.cells (ints .u8 TA) 25)).alloc (.cells (ints .u8 TB) 25)).heap[w2.heap.size + 1]? = some (.cells (ints .u8 TB) 25 (0, 0))) := heap_alloc2_new _ _ _
  have HBW := Lib.hid (B_alloc (B_alloc HB2.out (.cells (ints .u8 TA) 25)) (.cells (ints .u8 TB) 25))
  generalize (w2.alloc (.cells (ints .u8 TA) 25)).alloc (.cells (ints .u8 TB) 25) = V at *
  have HRV := Lib.hid (HR.out.below HBW.out)
  have HKV := Lib.hid (HK.out.below' HBW.out (Nat.le_refl _))
  have HTV := Lib.hid (HT.out.below' HBW.out (Nat.le_refl _))
  generalize hgB : w2.heap.size + 1 = gB at *
  generalize w2.heap.size = gA at *
  refine Posts.wp_region (Posts.At [Posts.is (.slice a0 len0 cap0), Posts.is (.string (strOfNums key)), Posts.is (.string (strOfNums key)), Posts.is (.bool true), Posts.is (.bool true), Posts.is (.slice a1 len1 cap1), Posts.is (.string (strOfNums text)), Posts.is (.string (strOfNums text)), Posts.is (.bool true), Posts.is (.bool true), Posts.is (.bool true), Posts.is (.string (strOfNums key)), Posts.is (.int .i64 m), Posts.is (.string (strOfNums (key.take m))), bytesP (key.take m), Posts.is (.string (strOfNums text)), bytesP (text), rowP (text), Posts.is (.agg (ints .u8 TA)), Posts.is (.agg (ints .u8 TA)), Posts.is (.bool true), Posts.is (.bool true), Posts.is (.bool true), Posts.is (.string (strOfNums key)), bytesP (key), Posts.is (.string (strOfNums text)), bytesP (text), rowP (text), Posts.is (.agg (ints .u8 TB)), Posts.is (.agg (ints .u8 TB)), Posts.is (.bool true), Posts.is (.bool true), Posts.is (.bool true), Posts.is (.bool true), Posts.is (.bool true), Posts.is (.bool true)]) (by kernel_rfl) (by kernel_rfl) (by kernel_rfl)
    (Posts.stable_at _ (by repeat' (first | exact trivial | (refine And.intro ?_ ?_) | exact Posts.is_stable _ | exact Posts.row_stable _ _ _ | exact bytesP_stable _ | exact rowP_stable _))) ?_ ?_
  · refine ⟨?_, ?_, ?_, ?_, ?_, ?_, ?_, ?_, ?_, ?_, ?_, ?_, ?_, ?_, ?_, ?_, ?_, ?_, ?_, ?_, ?_, ?_, ?_, ?_, ?_, ?_, ?_, ?_, ?_, ?_, ?_, ?_, ?_, ?_, ?_, ?_, trivial⟩
    · intro a X hX hS hD
      have d0 := Posts.slot (show a.eval (.tmp 0) = .slice a0 len0 cap0 from hS.other 0 rfl)
      exact Posts.op_value rfl rfl rfl (by rw [hS.size]; simp) (v := .slice a0 len0 cap0) (by simp [execOp, d0, go_sem]) rfl (Posts.Ext.refl _)
    · intro a X hX hS hD
      have d44 := Posts.slot (show a.eval (.tmp 44) = .slice a0 len0 cap0 from hD.1)
      exact Posts.op_value rfl rfl rfl (by rw [hS.size]; simp) (conv_string_op X (.tmp 44) rfl key _ _ cap0 (HKV.out.below' hX (Nat.le_refl _)) hD.1) rfl (Posts.Ext.refl _)
    · intro a X hX hS hD
      have d7 := Posts.slot (show a.eval (.tmp 7) = .string (strOfNums key) from hS.other 7 rfl)
      exact Posts.op_value rfl rfl rfl (by rw [hS.size]; simp) (v := .string (strOfNums key)) (by simp [execOp, d7, go_sem]) rfl (Posts.Ext.refl _)
    · intro a X hX hS hD
      have d45 := Posts.slot (show a.eval (.tmp 45) = .string (strOfNums key) from hD.1)
      have d46 := Posts.slot (show a.eval (.tmp 46) = .string (strOfNums key) from hD.2.1)
      exact Posts.op_value rfl rfl rfl (by rw [hS.size]; simp) (v := .bool true) (by simp [execOp, d45, d46, go_sem]) rfl (Posts.Ext.refl _)
    · intro a X hX hS hD
      have d47 := Posts.slot (show a.eval (.tmp 47) = .bool true from hD.1)
      exact Posts.op_value rfl rfl rfl (by rw [hS.size]; simp) (v := .bool true) (by simp [execOp, d47, go_sem]) rfl (Posts.Ext.refl _)
    · intro a X hX hS hD
      have d1 := Posts.slot (show a.eval (.tmp 1) = .slice a1 len1 cap1 from hS.other 1 rfl)
      exact Posts.op_value rfl (Posts.wanted_yes rfl rfl rfl hD.1) rfl (by rw [hS.size]; simp) (v := .slice a1 len1 cap1) (by simp [execOp, d1, go_sem]) rfl (Posts.Ext.refl _)
    · intro a X hX hS hD
      have d49 := Posts.slot (show a.eval (.tmp 49) = .slice a1 len1 cap1 from hD.1)
      exact Posts.op_value rfl (Posts.wanted_yes rfl rfl rfl hD.2.1) rfl (by rw [hS.size]; simp) (conv_string_op X (.tmp 49) rfl text _ _ cap1 (HTV.out.below' hX (Nat.le_refl _)) hD.1) rfl (Posts.Ext.refl _)
    · intro a X hX hS hD
      have d8 := Posts.slot (show a.eval (.tmp 8) = .string (strOfNums text) from hS.other 8 rfl)
      exact Posts.op_value rfl (Posts.wanted_yes rfl rfl rfl hD.1) rfl (by rw [hS.size]; simp) (v := .string (strOfNums text)) (by simp [execOp, d8, go_sem]) rfl (Posts.Ext.refl _)
    · intro a X hX hS hD
      have d50 := Posts.slot (show a.eval (.tmp 50) = .string (strOfNums text) from hD.1)
      have d51 := Posts.slot (show a.eval (.tmp 51) = .string (strOfNums text) from hD.2.1)
      exact Posts.op_value rfl (Posts.wanted_yes rfl rfl rfl hD.2.2.1) rfl (by rw [hS.size]; simp) (v := .bool true) (by simp [execOp, d50, d51, go_sem]) rfl (Posts.Ext.refl _)
    · intro a X hX hS hD
      have d48 := Posts.slot (show a.eval (.tmp 48) = .bool true from hD.1)
      have d52 := Posts.slot (show a.eval (.tmp 52) = .bool true from hD.2.1)
      exact Posts.op_value rfl rfl rfl (by rw [hS.size]; simp) (v := .bool true) (by simp [execOp, d48, d52, go_sem]) rfl (Posts.Ext.refl _)
    · intro a X hX hS hD
      have d53 := Posts.slot (show a.eval (.tmp 53) = .bool true from hD.1)
      exact Posts.op_value rfl rfl rfl (by rw [hS.size]; simp) (v := .bool true) (by simp [execOp, d53, go_sem]) rfl (Posts.Ext.refl _)
    · intro a X hX hS hD
      have d7 := Posts.slot (show a.eval (.tmp 7) = .string (strOfNums key) from hS.other 7 rfl)
      exact Posts.op_value rfl (Posts.wanted_yes rfl rfl rfl hD.1) rfl (by rw [hS.size]; simp) (v := .string (strOfNums key)) (by simp [execOp, d7, go_sem]) rfl (Posts.Ext.refl _)
    · intro a X hX hS hD
      have d2 := Posts.slot (show a.eval (.tmp 2) = .int .i64 m from hS.other 2 rfl)
      exact Posts.op_value rfl (Posts.wanted_yes rfl rfl rfl hD.1) rfl (by rw [hS.size]; simp) (v := .int .i64 m) (by simp [execOp, d2, go_sem]) rfl (Posts.Ext.refl _)
    · intro a X hX hS hD
      have d55 := Posts.slot (show a.eval (.tmp 55) = .string (strOfNums key) from hD.1)
      have d56 := Posts.slot (show a.eval (.tmp 56) = .int .i64 m from hD.2.1)
      exact Posts.op_value rfl (Posts.wanted_yes rfl rfl rfl hD.2.2.1) rfl (by rw [hS.size]; simp) (head_string_op X (.tmp 55) (.tmp 56) rfl key m (by omega) hD.1 hD.2.1) rfl (Posts.Ext.refl _)
    · intro a X hX hS hD
      have d57 := Posts.slot (show a.eval (.tmp 57) = .string (strOfNums (key.take m)) from hD.1)
      exact op_ex rfl (Posts.wanted_yes rfl rfl rfl hD.2.1) rfl (by rw [hS.size]; simp) (conv_op X (.tmp 57) rfl (key.take m) (fun z hz => HBk.out z (List.mem_of_mem_take hz)) (by simp; omega) hD.1)
    · intro a X hX hS hD
      have d8 := Posts.slot (show a.eval (.tmp 8) = .string (strOfNums text) from hS.other 8 rfl)
      exact Posts.op_value rfl (Posts.wanted_yes rfl rfl rfl hD.1) rfl (by rw [hS.size]; simp) (v := .string (strOfNums text)) (by simp [execOp, d8, go_sem]) rfl (Posts.Ext.refl _)
    · intro a X hX hS hD
      have d59 := Posts.slot (show a.eval (.tmp 59) = .string (strOfNums text) from hD.1)
      exact op_ex rfl (Posts.wanted_yes rfl rfl rfl hD.2.1) rfl (by rw [hS.size]; simp) (conv_op X (.tmp 59) rfl (text) HBt.out (by omega) hD.1)
    · intro a X hX hS hD
      have hd60 : (bytesP (text)) (a.eval (.tmp 60)) X := hD.1
      obtain ⟨ka, m', c', e1, k1, k2, k3⟩ := hd60
      have e2 := Posts.slot e1
      refine Posts.op_value rfl (Posts.wanted_yes rfl rfl rfl hD.2.1) rfl (by rw [hS.size]; simp) (v := .slice (some ⟨X.heap.size, 0, none⟩) 1 1) (Y := X.alloc (.cells #[.slice ka m' c'] 22)) ?_ ⟨_, ka, m', c', rfl, heap_alloc_new _ _, k1, k2, k3.below' (Posts.Ext.alloc _ _) (Nat.le_refl _)⟩ (Posts.Ext.alloc _ _)
      simp [execOp, e2, go_sem]
    · intro a X hX hS hD
      have hd58 : (bytesP (key.take m)) (a.eval (.tmp 58)) X := hD.1
      have hd61 : (rowP (text)) (a.eval (.tmp 61)) X := hD.2.1
      obtain ⟨ka, n', cap', b', e1, e2, hc⟩ := of_made (HRV.out.below hX) hd58 (by simp; omega) hd61 (by omega)
      have f1 := Posts.slot e1
      have f2 := Posts.slot e2
      refine Posts.op_call rfl (Posts.wanted_yes rfl rfl rfl hD.2.2.1) rfl (by rw [hS.size]; simp) 13 #[.slice ka n' cap', .slice (some ⟨b', 0, none⟩) 1 1] (by simp [f1, f2, go_sem]) ?_
      refine hc.mono ?_
      rintro e Y ⟨rfl, hXY⟩
      exact ⟨_, rfl, by rw [← HTA.out]; rfl, hXY⟩
    · intro a X hX hS hD
      have d9 := Posts.slot (show a.eval (.tmp 9) = .pointer (some ⟨gA, 0, none⟩) from hS.other 9 rfl)
      exact Posts.op_value rfl (Posts.wanted_yes rfl rfl rfl hD.1) rfl (by rw [hS.size]; simp) (run_load_op (.tmp 9) rfl _ TA HlA.out (hS.other 9 rfl) (R_below hX H9.out)) rfl (Posts.Ext.refl _)
    · intro a X hX hS hD
      have d62 := Posts.slot (show a.eval (.tmp 62) = .agg (ints .u8 TA) from hD.1)
      have d63 := Posts.slot (show a.eval (.tmp 63) = .agg (ints .u8 TA) from hD.2.1)
      exact Posts.op_value rfl (Posts.wanted_yes rfl rfl rfl hD.2.2.1) rfl (by rw [hS.size]; simp) (run_eql_op X (.tmp 62) (.tmp 63) rfl TA HlA.out hD.1 hD.2.1) rfl (Posts.Ext.refl _)
    · intro a X hX hS hD
      have d54 := Posts.slot (show a.eval (.tmp 54) = .bool true from hD.1)
      have d64 := Posts.slot (show a.eval (.tmp 64) = .bool true from hD.2.1)
      exact Posts.op_value rfl rfl rfl (by rw [hS.size]; simp) (v := .bool true) (by simp [execOp, d54, d64, go_sem]) rfl (Posts.Ext.refl _)
    · intro a X hX hS hD
      have d65 := Posts.slot (show a.eval (.tmp 65) = .bool true from hD.1)
      exact Posts.op_value rfl rfl rfl (by rw [hS.size]; simp) (v := .bool true) (by simp [execOp, d65, go_sem]) rfl (Posts.Ext.refl _)
    · intro a X hX hS hD
      have d7 := Posts.slot (show a.eval (.tmp 7) = .string (strOfNums key) from hS.other 7 rfl)
      exact Posts.op_value rfl (Posts.wanted_yes rfl rfl rfl hD.1) rfl (by rw [hS.size]; simp) (v := .string (strOfNums key)) (by simp [execOp, d7, go_sem]) rfl (Posts.Ext.refl _)
    · intro a X hX hS hD
      have d67 := Posts.slot (show a.eval (.tmp 67) = .string (strOfNums key) from hD.1)
      exact op_ex rfl (Posts.wanted_yes rfl rfl rfl hD.2.1) rfl (by rw [hS.size]; simp) (conv_op X (.tmp 67) rfl (key) HBk.out (by omega) hD.1)
    · intro a X hX hS hD
      have d8 := Posts.slot (show a.eval (.tmp 8) = .string (strOfNums text) from hS.other 8 rfl)
      exact Posts.op_value rfl (Posts.wanted_yes rfl rfl rfl hD.1) rfl (by rw [hS.size]; simp) (v := .string (strOfNums text)) (by simp [execOp, d8, go_sem]) rfl (Posts.Ext.refl _)
    · intro a X hX hS hD
      have d69 := Posts.slot (show a.eval (.tmp 69) = .string (strOfNums text) from hD.1)
      exact op_ex rfl (Posts.wanted_yes rfl rfl rfl hD.2.1) rfl (by rw [hS.size]; simp) (conv_op X (.tmp 69) rfl (text) HBt.out (by omega) hD.1)
    · intro a X hX hS hD
      have hd70 : (bytesP (text)) (a.eval (.tmp 70)) X := hD.1
      obtain ⟨ka, m', c', e1, k1, k2, k3⟩ := hd70
      have e2 := Posts.slot e1
      refine Posts.op_value rfl (Posts.wanted_yes rfl rfl rfl hD.2.1) rfl (by rw [hS.size]; simp) (v := .slice (some ⟨X.heap.size, 0, none⟩) 1 1) (Y := X.alloc (.cells #[.slice ka m' c'] 22)) ?_ ⟨_, ka, m', c', rfl, heap_alloc_new _ _, k1, k2, k3.below' (Posts.Ext.alloc _ _) (Nat.le_refl _)⟩ (Posts.Ext.alloc _ _)
      simp [execOp, e2, go_sem]
    · intro a X hX hS hD
      have hd68 : (bytesP (key)) (a.eval (.tmp 68)) X := hD.1
      have hd71 : (rowP (text)) (a.eval (.tmp 71)) X := hD.2.1
      obtain ⟨ka, n', cap', b', e1, e2, hc⟩ := of_made (HRV.out.below hX) hd68 (by omega) hd71 (by omega)
      have f1 := Posts.slot e1
      have f2 := Posts.slot e2
      refine Posts.op_call rfl (Posts.wanted_yes rfl rfl rfl hD.2.2.1) rfl (by rw [hS.size]; simp) 13 #[.slice ka n' cap', .slice (some ⟨b', 0, none⟩) 1 1] (by simp [f1, f2, go_sem]) ?_
      refine hc.mono ?_
      rintro e Y ⟨rfl, hXY⟩
      exact ⟨_, rfl, by rw [← HTB.out]; rfl, hXY⟩
    · intro a X hX hS hD
      have d10 := Posts.slot (show a.eval (.tmp 10) = .pointer (some ⟨gB, 0, none⟩) from hS.other 10 rfl)
      exact Posts.op_value rfl (Posts.wanted_yes rfl rfl rfl hD.1) rfl (by rw [hS.size]; simp) (run_load_op (.tmp 10) rfl _ TB HlB.out (hS.other 10 rfl) (R_below hX H10.out)) rfl (Posts.Ext.refl _)
    · intro a X hX hS hD
      have d72 := Posts.slot (show a.eval (.tmp 72) = .agg (ints .u8 TB) from hD.1)
      have d73 := Posts.slot (show a.eval (.tmp 73) = .agg (ints .u8 TB) from hD.2.1)
      exact Posts.op_value rfl (Posts.wanted_yes rfl rfl rfl hD.2.2.1) rfl (by rw [hS.size]; simp) (run_eql_op X (.tmp 72) (.tmp 73) rfl TB HlB.out hD.1 hD.2.1) rfl (Posts.Ext.refl _)
    · intro a X hX hS hD
      have d66 := Posts.slot (show a.eval (.tmp 66) = .bool true from hD.1)
      have d74 := Posts.slot (show a.eval (.tmp 74) = .bool true from hD.2.1)
      exact Posts.op_value rfl rfl rfl (by rw [hS.size]; simp) (v := .bool true) (by simp [execOp, d66, d74, go_sem]) rfl (Posts.Ext.refl _)
    · intro a X hX hS hD
      have d75 := Posts.slot (show a.eval (.tmp 75) = .bool true from hD.1)
      exact Posts.op_value rfl rfl rfl (by rw [hS.size]; simp) (v := .bool true) (by simp [execOp, d75, go_sem]) rfl (Posts.Ext.refl _)
    · intro a X hX hS hD
      refine Posts.op_call rfl (Posts.wanted_yes rfl rfl rfl hD.1) rfl (by rw [hS.size]; simp) 12 #[] (by simp [go_sem]) ?_
      refine (worksH_any _ (HRV.out.below hX)).mono ?_
      rintro e Y ⟨rfl, hXY⟩
      exact ⟨_, rfl, rfl, hXY⟩
    · intro a X hX hS hD
      have d76 := Posts.slot (show a.eval (.tmp 76) = .bool true from hD.1)
      have d77 := Posts.slot (show a.eval (.tmp 77) = .bool true from hD.2.1)
      exact Posts.op_value rfl rfl rfl (by rw [hS.size]; simp) (v := .bool true) (by simp [execOp, d76, d77, go_sem]) rfl (Posts.Ext.refl _)
    · intro a X hX hS hD
      have d78 := Posts.slot (show a.eval (.tmp 78) = .bool true from hD.1)
      exact Posts.op_value rfl rfl rfl (by rw [hS.size]; simp) (v := .bool true) (by simp [execOp, d78, go_sem]) rfl (Posts.Ext.refl _)
  · intro a Y hY hS hL
    have hres : a.tmps.getD 6 undef = .bool true := hL.2.2.2.2.2.2.2.2.2.2.2.2.2.2.2.2.2.2.2.2.2.2.2.2.2.2.2.2.2.2.2.2.2.2.2.1
    rename_i hK
    refine hK _ _ ?_
    go_wp2_with fail
    exact bodyPost_ret (v := .bool true) (by have h := results_tmp (fn := Tryd.f9) (t := 6) rfl a.tmps Tryd.prog Y; rw [hres] at h; exact h) hS.defers ⟨rfl, HBW.out.trans (Below.mono hY HBW.out.size)⟩

/-- what the walk gives, for every argument, in every world that holds the table -/
theorem contract (H : Type) (enc : TypeId × Value → H) (W : World) (base : Nat) (args : Array Value) (ds gs : List (DataW H)) (before : List MemPlace)
    (hval : ∀ (j : Nat) t v, Tryd.f9.params[j]? = some t → args[j]? = some v → Value.okWide Tryd.prog W .any base t v)
    (hW : DataW.Whole enc Tryd.prog Tryd.f9.params.toList Rows.hmacKeepsSpec.vars false W args.toList ds gs before) (hL : laidMetH Tryd.prog Rows.hmacKeepsRow.laid W) :
    Calls Tryd.prog 9 args W fun e W' => ∃ v, e = .returned v ∧ Rows.hmacKeepsSpec.post enc Tryd.prog Tryd.f9 false true false false W args v W' := by
  have hW' := hW
  obtain ⟨p, q, hA0, hV, rfl, hfz, hnd⟩ := hW
  have hA : DataW.TrodAll enc Tryd.prog W 0 (fun _ => true) true Tryd.f9.params.toList args.toList ds p := hA0
  rw [Tryd.params9] at hA hval
  obtain ⟨v0, vs0, d0, ds0, p0, q0, hargs, rfl, rfl, h0, r0⟩ := trodAll_cons hA
  obtain ⟨v1, vs1, d1, ds1, p1, q1, rfl, rfl, rfl, h1, r1⟩ := trodAll_cons r0
  obtain ⟨v2, vs2, d2, ds2, p2, q2, rfl, rfl, rfl, h2, r2⟩ := trodAll_cons r1
  obtain ⟨rfl, rfl, rfl⟩ := trodAll_nil r2
  obtain rfl : args = #[v0, v1, v2] := by cases args; simp_all
  obtain ⟨rfl, rfl⟩ := trodVars_none hV
  obtain ⟨a0, len0, cap0, rfl⟩ := okWide_slice Tryd.underlying22 (hval 0 22 v0 rfl rfl)
  have k0 := h0
  have lt0 : ∀ x ∈ p0, x.block < W.heap.size := by obtain ⟨m, hm⟩ := k0; exact DataW.trod_lt m _ _ _ hm
  obtain ⟨z0, w0⟩ : ∃ zs, IsRow .u8 W a0 len0 cap0 zs := by
    obtain ⟨fuel, hf⟩ := h0
    rcases open_ints Tryd.underlying22 Tryd.underlying5 (by kernel_rfl) hf with ⟨hcs, _⟩ | ⟨x, l, c, zs, hcs, _, hl, hm, hz, _, hcell, hwz⟩
    · simp [Value.cells] at hcs
      obtain ⟨rfl, rfl, rfl⟩ := hcs
      exact ⟨[], .inl ⟨rfl, rfl, rfl, rfl⟩⟩
    · simp [Value.cells] at hcs
      obtain ⟨rfl, rfl, rfl⟩ := hcs
      exact ⟨zs, .inr ⟨_, rfl, hl, hm, by simpa using hz, hcell, hwz⟩⟩
  obtain ⟨a1, len1, cap1, rfl⟩ := okWide_slice Tryd.underlying22 (hval 1 22 v1 rfl rfl)
  have k1 := h1
  have lt1 : ∀ x ∈ p1, x.block < W.heap.size := by obtain ⟨m, hm⟩ := k1; exact DataW.trod_lt m _ _ _ hm
  obtain ⟨z1, w1⟩ : ∃ zs, IsRow .u8 W a1 len1 cap1 zs := by
    obtain ⟨fuel, hf⟩ := h1
    rcases open_ints Tryd.underlying22 Tryd.underlying5 (by kernel_rfl) hf with ⟨hcs, _⟩ | ⟨x, l, c, zs, hcs, _, hl, hm, hz, _, hcell, hwz⟩
    · simp [Value.cells] at hcs
      obtain ⟨rfl, rfl, rfl⟩ := hcs
      exact ⟨[], .inl ⟨rfl, rfl, rfl, rfl⟩⟩
    · simp [Value.cells] at hcs
      obtain ⟨rfl, rfl, rfl⟩ := hcs
      exact ⟨zs, .inr ⟨_, rfl, hl, hm, by simpa using hz, hcell, hwz⟩⟩
  obtain ⟨a2, rfl, rfl, rfl, w2⟩ := open_int Tryd.underlying3 (hval 2 3 v2 rfl rfl) h2
  clear hA0
  refine (walk a0 len0 cap0 z0 a1 len1 cap1 z1 a2 W (roots hL) w0 w1 w2).mono fun e W' ⟨he, bel⟩ => ?_
  subst he
  exact ⟨_, rfl, _, _, _, [], _, [], hW', trodAll_mk1 (shut_bool Tryd.underlying4 _), (trodAll_cons_mk (Below.trod laidOut (by kernel_rfl) (of_decide_eq_true (by kernel_rfl)) k0 bel lt0) (trodAll_cons_mk (Below.trod laidOut (by kernel_rfl) (of_decide_eq_true (by kernel_rfl)) k1 bel lt1) (trodAll_cons_mk (shut_int Tryd.underlying3 w2) trodAll_mk0))), rfl, bel.frame _, fun h => by cases h⟩

theorem reads (os : Os) {H : Type} (enc : TypeId × Value → H) : ∃ places, DataW.whole enc Tryd.prog ((laidWorld os).forCall (fun _ _ => 0) ⟨#[], (#[Value.slice none 0 0, Value.slice none 0 0, Value.int .i64 0] : Array Value), []⟩).memory Tryd.f9.params.toList Rows.hmacKeepsSpec.vars false (#[Value.slice none 0 0, Value.slice none 0 0, Value.int .i64 0] : Array Value).toList 8 = some ([.nil, .nil, .lit (.int .i64 0)], [], places) :=
  ⟨[], by kernel_rfl⟩

set_option maxRecDepth 100000 in
theorem lifted (os : Os) (started : os.Started) (H : Type) (enc : TypeId × Value → H) (F : Stop.Interp) :
    ReturnsInHanded {} Tryd.checked os 9 .any ((OpenSpec.ofChange Rows.hmacKeepsSpec).preRow enc Tryd.prog Tryd.f9 Rows.hmacKeepsRow.domain false Rows.hmacKeepsRow.laid) (((OpenSpec.ofChange Rows.hmacKeepsSpec).at F).post enc Tryd.prog Tryd.f9 false true false false) := by
  obtain ⟨places, hx⟩ := reads os enc
  refine returnsInHanded_of_row (C := Tryd.checked) (s := OpenSpec.ofChange Rows.hmacKeepsSpec) own started (by kernel_rfl) Tryd.func9
    (witness_row_at (enc := enc) (C := Tryd.checked) false (laidWorld os) (#[Value.slice none 0 0, Value.slice none 0 0, Value.int .i64 0] : Array Value) rfl (by kernel_rfl) (by kernel_rfl) (by kernel_rfl)
      (OpenSpec.preRow_of_cond 8 hx (by kernel_rfl) (fun k hk => by cases hk) (by kernel_rfl) (laid_met os _))) ?_
  intro W base args ds gs before hval hW _ _ _ hL _ _
  exact contract H enc W base args ds gs before hval hW hL

theorem said : Rows.HmacKeepsSaid :=
  OpenClaim.holds_of_cond 9 Tryd.f9 rfl rfl rfl rfl rfl rfl rfl ⟨rfl, rfl, rfl, rfl, rfl⟩ rfl rfl rfl rfl rfl (by kernel_rfl) Tryd.func9 (by kernel_rfl)
    (of_decide_eq_true (by kernel_rfl)) (by unfold Func.isWrapper; first | (rw [if_pos (by decide +kernel)]; kernel_rfl) | (rw [if_neg (by decide +kernel)]; exact ⟨rfl, rfl⟩))
    (fun os started H enc _ F => by rw [OpenClaim.pre_eq_preRow]; exact lifted os started H enc F)

theorem plain (f : FuncId) (fn : Func) (hf : Tryd.pinned.checked.prog.funcNamed "tappet/tappetlaw03.HmacKeeps" = some f) (hfn : Tryd.pinned.checked.prog.funcs[f]? = some fn) :
    false = Tryd.pinned.checked.prog.looks [] ∧ ∀ (j : Nat) t, fn.params[j]? = some t → Tryd.pinned.checked.prog.wantsStandIn t = false := by
  obtain rfl : f = 9 := Option.some.inj ((show Tryd.prog.funcNamed "tappet/tappetlaw03.HmacKeeps" = some 9 by kernel_rfl).symm.trans hf) |>.symm
  obtain rfl : fn = Tryd.f9 := (Option.some.inj (Tryd.func9.symm.trans hfn)).symm
  refine ⟨by kernel_rfl, fun j t ht => ?_⟩
  rw [Tryd.params9] at ht
  have hm := Array.mem_of_getElem? ht
  simp at hm
  rcases hm with rfl | rfl
  · exact (show Tryd.prog.wantsStandIn 22 = false by kernel_rfl)
  · exact (show Tryd.prog.wantsStandIn 3 = false by kernel_rfl)

theorem proved : Rows.HmacKeepsCardSaid :=
  Claim7.holds_tied_plain_at .later [] _ _ _ _ said (fun _ h => by cases h) (by kernel_rfl) (fun _ h => by cases h) hmacKeeps_row_tie rfl ⟨rfl, rfl⟩ (by kernel_rfl) rfl plain (by kernel_rfl)
#print axioms proved
end Go.Proofs.YtodbfkifendniaaDoor.hmacKeeps
