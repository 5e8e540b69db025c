/- The statement IsaBack holds: an instruction is read from its bytes as it is, whatever stands behind, and what is read has just the bytes that it was read from; the chapter's small test is answered. Under the statement's own reading alone: the tables of the kinds and of the powers of ten are as the program's text lays them. -/
import Derived.Test.YtnaefpjbeidkgaaDoorIsaApp
import Derived.Test.YtnaefpjbeidkgaaDoorRightsTmps
import Derived.SizedLaws
namespace Go.Proofs.YtnaefpjbeidkgaaDoor.isaBack
open Go.ChangeShapes Go.WideShapes Go.ChangeAt Go.RowKit Isa
open Go.ChangeMaps (open_string shut_string)
set_option linter.unusedVariables false
set_option linter.unusedSimpArgs false
theorem rd_zero {l : List Int} (h : rdE l ≠ 0) : rdI l = ⟨0, 0, 0, 0⟩ := by unfold rdI; rw [if_neg h]
theorem rd_one {l : List Int} (hb : ∀ z ∈ l, 0 ≤ z ∧ z ≤ 255) (h : rdE l = 0) : 8 ≤ l.length ∧ rdI l = readI l ∧ mayI (readI l) = true ∧ bytesI (rdI l) = l.take 8 ∧ (rdI l).wf := by
  have h8 : 8 ≤ l.length := by
    by_cases h8 : l.length < 8
    · unfold rdE at h; rw [if_pos h8] at h; cases h
    · omega
  have hi : rdI l = readI l := by unfold rdI; rw [if_pos h]
  have hm : mayI (readI l) = true := by
    unfold rdE at h
    rw [if_neg (by omega)] at h
    cases e : mayI (readI l) with
    | true => rfl
    | false => rw [e] at h; cases h
  exact ⟨h8, hi, hm, by rw [hi]; exact bytesI_read hb h8, by rw [hi]; exact readI_wf hb⟩
theorem len_lits {H : Type} (k : IntKind) (zs : List Int) (n B : Nat) : ((_root_.Go.ChangeShapes.lits (H := H) k (zs.take n)).length + (_root_.Go.ChangeShapes.lits (H := H) k (zs.drop n)).length) * B = zs.length * B := by
  congr 1
  simp [_root_.Go.ChangeShapes.lits]
  omega
theorem bts_bytes (i : Iv) : bts (bytesI i) = #[.int .u8 i.op, .int .u8 i.a, .int .u8 (i.b % 256), .int .u8 (i.b / 256), .int .u8 (i.c % 256), .int .u8 (i.c / 256 % 256), .int .u8 (i.c / 65536 % 256), .int .u8 (i.c / 16777216)] := rfl
theorem bytesV_bts (i : Iv) : bytesV i = .agg (bts (bytesI i)) := rfl
set_option maxHeartbeats 6400000 in
theorem walk (w : World) (hT : Tabs w) (i : Iv) (hi : i.wf) (a : Option Addr) (n c : Nat) (l : List Int) (h : Row w a n l) (hc : n ≤ c ∧ c ≤ 9223372036854775807 ∧ n ≤ 140737488351232) :
    Calls Tryd.prog 6 #[.agg #[.int .u8 i.op, .int .u8 i.a, .int .u16 i.b, .int .u32 i.c], .slice a n c] w fun e w' => e = .returned (.bool true) ∧ Below w.heap.size w w' := by
  have HK := Lib.hid (fun W (hb : Below w.heap.size w W) => known_any W (hT.below hb (Nat.le_refl _)))
  have HM := Lib.hid (fun W (hb : Below w.heap.size w W) => may_any i hi W (hT.below hb (Nat.le_refl _)))
  have HBy := Lib.hid (fun W => bytes_any i hi W)
  have HR := Lib.hid (fun W (hb : Below w.heap.size w W) => h.below hb (Nat.le_refl _))
  have HR2 := Lib.hid (fun W (hb : Below w.heap.size w W) => read_any l a n c hc.1 hc.2.1 W (hT.below hb (Nat.le_refl _)) (h.below hb (Nat.le_refl _)))
  have HR1 := Lib.hid (fun W (hb : Below w.heap.size w W) a' n' c' (hr : Row W a' n' (bytesI i ++ l)) (h1 : n' ≤ c') (h2 : c' ≤ 9223372036854775807) => read_any (bytesI i ++ l) a' n' c' h1 h2 W (hT.below hb (Nat.le_refl _)) hr)
  have HA := Lib.hid (fun W V5 (hb : Below w.heap.size w W) (hV : W.heap[V5]? = some (.cells (bts (bytesI i)) 27)) => app_any (c := c) W V5 (bytesI i) (bytesI_len i) (bytesI_byte hi) hV (h.below hb (Nat.le_refl _)) hc.2.2)
  have HQ : Hid (rdE l = 0 → ∃ r : Iv, rdI l = r ∧ 8 ≤ n ∧ (∀ W, Below w.heap.size w W → Calls Tryd.prog 11 #[iv r] W fun e w' => e = .returned (.bool true) ∧ Below W.heap.size W w') ∧
      (∀ W, Calls Tryd.prog 9 #[iv r] W fun e w' => e = .returned (.agg (bts (l.take 8))) ∧ Below W.heap.size W w')) := fun h0 => by
    obtain ⟨q1, q2, q3, q4, q5⟩ := rd_one h.2.1 h0
    refine ⟨rdI l, rfl, by rw [← h.1]; exact q1, fun W hb => ?_, fun W => ?_⟩
    · have := may_any (rdI l) q5 W (hT.below hb (Nat.le_refl _))
      rw [q2, q3] at this
      rw [q2]
      exact this
    · have := bytes_any (rdI l) q5 W
      rw [bytesV_bts, q4] at this
      exact this
  have HZ : Hid (rdE l ≠ 0 → rdI l = ⟨0, 0, 0, 0⟩) := rd_zero
  have HL : Hid (l.length = n) := h.1
  have HLb : Hid (∀ z ∈ l, 0 ≤ z ∧ z ≤ 255) := h.2.1
  rw [rdE_app, rdI_app] at HR1
  have HEq : Hid (∀ W, (Op.equalIn 10000 25 (.agg #[.int .u8 i.op, .int .u8 i.a, .int .u16 i.b, .int .u32 i.c]) (.agg #[.int .u8 i.op, .int .u8 i.a, .int .u16 i.b, .int .u32 i.c])).run Tryd.prog W = .ok true W) := fun W => by
    have := eqIn i i W
    simpa using this
  have HEz : ∀ W, (Op.equalIn 10000 25 (.agg #[.int .u8 0, .int .u8 0, .int .u16 0, .int .u32 0]) (.agg #[.int .u8 0, .int .u8 0, .int .u16 0, .int .u32 0])).run Tryd.prog W = .ok true W := fun W => by
    have := eqIn ⟨0, 0, 0, 0⟩ ⟨0, 0, 0, 0⟩ W
    simpa using this
  clear hT h
  obtain ⟨hc1, hc2, hc3⟩ := hc
  rw [bytesV_bts, bts_bytes] at HBy
  rw [bts_bytes] at HA
  clear hi
  generalize hm0 : mayI i = m at *
  clear hm0
  obtain ⟨o1, a1, b1, c1⟩ := i
  unfold iv at HM HBy HR1 HR2 HQ
  simp only at HM HBy HR1 HR2 HA HQ HEq ⊢
  generalize hK0 : (bytesI ⟨o1, a1, b1, c1⟩ ++ l) = BL at *
  clear hK0
  generalize b1 % 256 = y2 at HA HBy
  generalize b1 / 256 = y3 at HA HBy
  generalize c1 % 256 = y4 at HA HBy
  generalize c1 / 256 % 256 = y5 at HA HBy
  generalize c1 / 65536 % 256 = y6 at HA HBy
  generalize c1 / 16777216 = y7 at HA HBy
  generalize rdE l = E2 at *
  generalize rdI l = I2 at *
  obtain ⟨o2, a2, b2, c2⟩ := I2
  simp only at HR2
  go_enter Tryd.func6, Tryd.ntmps6
  go_wp2_with fail
  have HB0 : Below w.heap.size w (w.alloc (.cells #[.int .u8 o1, .int .u8 a1, .int .u16 b1, .int .u32 c1] 25)) := by go_grown
  refine (HK.out _ HB0).mono ?_
  rintro e w1 ⟨rfl, hb1⟩
  have HB1 : Below w.heap.size w w1 := HB0.trans (hb1.mono HB0.size)
  have hx1 := (hb1.block _ (lt_of_block (alloc_new w (.cells #[.int .u8 o1, .int .u8 a1, .int .u16 b1, .int .u32 c1] 25)))).trans (alloc_new w (.cells #[.int .u8 o1, .int .u8 a1, .int .u16 b1, .int .u32 c1] 25))
  clear HB0 hb1 HK
  obtain ⟨V, hV⟩ : ∃ V, w.heap.size = V := ⟨_, rfl⟩
  have HV := Lib.hid hV
  rw [hV] at hx1 HB1 HM HR HR2 HR1 HA HQ ⊢
  clear hV
  obtain ⟨x0, x1, x2, x3⟩ := cells4 hx1
  go_wp2_with fail
  refine (HBy.out _).mono ?_
  rintro e w2 ⟨rfl, hb2⟩
  have HB2 : Below V w w2 := HB1.trans (hb2.mono (by have := lt_of_block hx1; omega))
  have hx2 := (hb2.block _ (lt_of_block hx1)).trans hx1
  have hl2 := lt_of_block hx2
  have HB3 : Below V w (w2.alloc (.cells #[.int .u8 o1, .int .u8 a1, .int .u8 y2, .int .u8 y3, .int .u8 y4, .int .u8 y5, .int .u8 y6, .int .u8 y7] 27)) := HB2.alloc (by omega) _
  have hx3 := (Below.heap_alloc w2 (.cells #[.int .u8 o1, .int .u8 a1, .int .u8 y2, .int .u8 y3, .int .u8 y4, .int .u8 y5, .int .u8 y6, .int .u8 y7] 27) V hl2).trans hx2
  obtain ⟨a', cap', W', hap, hrow, hbel, hcap1, hcap2⟩ := HA.out _ w2.heap.size HB3 (alloc_new _ _)
  clear x0 x1 x2 x3 hx1 HB1 hb2 HA HBy
  have HB4 : Below V w W' := HB3.trans (hbel.mono (by have := lt_of_block hx3; omega))
  have hx4 := (hbel.block _ (lt_of_block hx3)).trans hx3
  go_wp2_with (at_builtin; refine wpList_append_run rfl (.tmp 14) (.tmp 15) 29 29 rfl _ _ _ W' 29 rfl rfl rfl hap ?_)
  refine (HR1.out W' HB4 a' (8 + n) cap' hrow hcap1 hcap2).mono ?_
  rintro e w4 ⟨rfl, hb4⟩
  have HB5 : Below V w w4 := HB4.trans (hb4.mono (by have := lt_of_block hx4; omega))
  have hx5 := (hb4.block _ (lt_of_block hx4)).trans hx4
  have hl5 := lt_of_block hx5
  clear hx2 hx3 hx4 HB2 HB3 HB4 hb4 hbel hrow hap HR1 hcap1 hcap2 hl2
  cases m
  · have HB6 : Below V w (w4.alloc (.cells #[.int .u8 0, .int .u8 0, .int .u16 0, .int .u32 0] 25)) := HB5.alloc (by omega) _
    have hx6 := (Below.heap_alloc w4 (.cells #[.int .u8 0, .int .u8 0, .int .u16 0, .int .u32 0] 25) V hl5).trans hx5
    have hy6 := alloc_new w4 (.cells #[.int .u8 0, .int .u8 0, .int .u16 0, .int .u32 0] 25)
    have hne : V ≠ w4.heap.size := by omega
    obtain ⟨x0, x1, x2, x3⟩ := cells4 hx6
    simp only [reduceIte, Bool.false_eq_true]
    go_wp2_with fail
    refine (HM.out _ HB6).mono ?_
    rintro e w5 ⟨rfl, hb5⟩
    have hx7 := (hb5.block _ (lt_of_block hx6)).trans hx6
    have hy7 := (hb5.block _ (lt_of_block hy6)).trans hy6
    have HB7 : Below V w w5 := HB6.trans (hb5.mono (by have := lt_of_block hx6; omega))
    clear x0 x1 x2 x3 hx6 hy6 HB6 hx5 HB5 HM hb5
    generalize w4.heap.size = V6 at *
    obtain ⟨x0, x1, x2, x3⟩ := cells4 hx7
    obtain ⟨y0, y1, y2, y3⟩ := cells4 hy7
    have hEq := HEq.out
    go_wp2_with (simp only [hEq, Result.andThen_ok, Bool.not_true])
    refine (HR2.out _ HB7).mono ?_
    rintro e w7 ⟨rfl, hb7⟩
    have hy8 := (hb7.block _ (lt_of_block hy7)).trans hy7
    have HB8 : Below V w w7 := HB7.trans (hb7.mono (by have := lt_of_block hx7; omega))
    have hf : ∀ j, w7.frozen? ⟨V6, j, none⟩ = false := fun j => by simp [World.frozen?, hy8]
    have hVle : V ≤ V6 := by omega
    clear x0 x1 x2 x3 y0 y1 y2 y3 hx7 hy7 HB7 hb7 hEq HEq HR2
    obtain ⟨y0, y1, y2, y3⟩ := cells4 hy8
    by_cases hE2 : E2 = 0
    · subst hE2
      obtain ⟨_, rfl, h8, hMr, hBr⟩ := HQ.out rfl
      simp only at hMr hBr
      obtain ⟨z0, z1, z2, z3, z4, z5, z6, z7, hz⟩ := eight (l := l) (by rw [HL.out]; exact h8)
      rw [hz] at hBr
      have hBr2 : ∀ W, Calls Tryd.prog 9 #[.agg #[.int .u8 o2, .int .u8 a2, .int .u16 b2, .int .u32 c2]] W fun e w' => e = .returned (.agg #[.int .u8 z0, .int .u8 z1, .int .u8 z2, .int .u8 z3, .int .u8 z4, .int .u8 z5, .int .u8 z6, .int .u8 z7]) ∧ Below W.heap.size W w' := hBr
      have HBr := Lib.hid hBr2
      have HMr := Lib.hid hMr
      clear hBr hBr2 hMr HQ HZ
      go_wp2_with (simp only [hf])
      have hq : ((((w7.setCell ⟨V6, 0, none⟩ (.int .u8 o2)).setCell ⟨V6, 1, none⟩ (.int .u8 a2)).setCell ⟨V6, 2, none⟩ (.int .u16 b2)).setCell ⟨V6, 3, none⟩ (.int .u32 c2)).heap[V6]? = some (.cells #[.int .u8 o2, .int .u8 a2, .int .u16 b2, .int .u32 c2] 25) := by
        have := row_set (j := 3) (u := .int .u32 c2) (row_set (j := 2) (u := .int .u16 b2) (row_set (j := 1) (u := .int .u8 a2) (row_set (j := 0) (u := .int .u8 o2) hy8)))
        simpa using this
      have HB9 : Below V w ((((w7.setCell ⟨V6, 0, none⟩ (.int .u8 o2)).setCell ⟨V6, 1, none⟩ (.int .u8 a2)).setCell ⟨V6, 2, none⟩ (.int .u16 b2)).setCell ⟨V6, 3, none⟩ (.int .u32 c2)) := (((HB8.setCell (p := ⟨V6, 0, none⟩) hVle _).setCell (p := ⟨V6, 1, none⟩) hVle _).setCell (p := ⟨V6, 2, none⟩) hVle _).setCell (p := ⟨V6, 3, none⟩) hVle _
      generalize (((w7.setCell ⟨V6, 0, none⟩ (.int .u8 o2)).setCell ⟨V6, 1, none⟩ (.int .u8 a2)).setCell ⟨V6, 2, none⟩ (.int .u16 b2)).setCell ⟨V6, 3, none⟩ (.int .u32 c2) = W8 at *
      clear y0 y1 y2 y3 hy8 hf HB8
      refine (HBr.out W8).mono ?_
      rintro e w9 ⟨rfl, hb9⟩
      have hq9 := (hb9.block _ (lt_of_block hq)).trans hq
      have hl9 := lt_of_block hq9
      have HB10 : Below V w (w9.alloc (.cells #[.int .u8 z0, .int .u8 z1, .int .u8 z2, .int .u8 z3, .int .u8 z4, .int .u8 z5, .int .u8 z6, .int .u8 z7] 27)) := (HB9.trans (hb9.mono (by have := lt_of_block hq; omega))).alloc (by omega) _
      have hq10 := (Below.heap_alloc w9 (.cells #[.int .u8 z0, .int .u8 z1, .int .u8 z2, .int .u8 z3, .int .u8 z4, .int .u8 z5, .int .u8 z6, .int .u8 z7] 27) V6 hl9).trans hq9
      have hz10 := alloc_new w9 (.cells #[.int .u8 z0, .int .u8 z1, .int .u8 z2, .int .u8 z3, .int .u8 z4, .int .u8 z5, .int .u8 z6, .int .u8 z7] 27)
      clear HB9 hb9 hq hq9
      go_wp2_with fail
      generalize w9.alloc (.cells #[.int .u8 z0, .int .u8 z1, .int .u8 z2, .int .u8 z3, .int .u8 z4, .int .u8 z5, .int .u8 z6, .int .u8 z7] 27) = W10 at *
      generalize w9.heap.size = V8 at *
      obtain ⟨hrl, hrb, hrc⟩ := HR.out W10 HB10
      obtain ⟨p, off, rfl, hcell⟩ := hrc.resolve_left (by omega)
      have hlz : [z0, z1, z2, z3, z4, z5, z6, z7] = (l.take 8).take 8 := by rw [hz]; rfl
      have hcv1 : ∀ X, Posts.Ext W10 X → (convert 29 9 (.slice (some ⟨V8, 0, none⟩) 8 8)).run Tryd.prog X = .ok (.string (sB (u8s (l.take 8)))) X := fun X hX => by
        have := conv_any X V8 0 8 (l.take 8) (fun z hz => hrb z (List.mem_of_mem_take hz)) 8 (by rw [hz]; exact Nat.le_refl 8) (fun j hj => by
          rw [Nat.zero_add, cells_at ((Posts.Ext.blk hX _ (lt_of_block hz10)).trans hz10), hz]
          match j, hj with
          | 0, _ => rfl
          | 1, _ => rfl
          | 2, _ => rfl
          | 3, _ => rfl
          | 4, _ => rfl
          | 5, _ => rfl
          | 6, _ => rfl
          | 7, _ => rfl)
        rw [List.take_take] at this
        exact this
      have hcv2 : ∀ X, Posts.Ext W10 X → (convert 29 9 (.slice (some ⟨p, off, none⟩) 8 c)).run Tryd.prog X = .ok (.string (sB (u8s (l.take 8)))) X := fun X hX =>
        conv_any X p off c l hrb 8 (by rw [hrl]; exact h8) (fun j hj => by
          have hcj := hcell j (by omega)
          exact (World.cell?_of_block (Posts.Ext.blk hX p (World.block_lt_of_cell? _ _ hcj))).trans hcj)
      generalize sB (u8s (l.take 8)) = S at *
      have hE := Posts.ext_rel
      have hsV : V ≤ W10.heap.size := by have := lt_of_block hz10; have := lt_of_block hq10; omega
      have h8i : (8 : Int) ≤ n := by omega
      have h8c : 8 ≤ c := by omega
      have hci : ¬ ((c : Int) < 8) := by omega
      clear hcell hrl hrb hlz hz
      refine (wpIn_wide (n := 0)).1 (Posts.wpIn_region_tail hE 10 1 (Posts.At [Posts.is (.agg #[.int .u8 o2, .int .u8 a2, .int .u16 b2, .int .u32 c2]), Posts.is (.bool (true)), Posts.is (.bool (true)), Posts.is (.slice (some ⟨V8, 0, none⟩) 8 8), Posts.is (.string S), Posts.is (.slice (some ⟨p, off, none⟩) n c), Posts.is (.slice (some ⟨p, off, none⟩) 8 c), Posts.is (.string S), Posts.is (.bool (true)), Posts.is (.bool (true))]) (fun _ _ => True) (by kernel_rfl) (by decide) (by kernel_rfl) (by kernel_rfl) (by kernel_rfl)
        (Posts.stable_at _ (by repeat' (first | exact trivial | (refine And.intro ?_ ?_) | exact Posts.is_stable _ | exact Posts.on_stable _ _ | assumption))) trivial ?_ ?_)
      · refine ⟨?_, ?_, ?_, ?_, ?_, ?_, ?_, ?_, ?_, ?_, trivial⟩
        · intro a X hX hS hD hJ hU
          obtain ⟨y0, y1, y2, y3⟩ := cells4 ((Posts.Ext.blk hX _ (lt_of_block hq10)).trans hq10)
          have q1 := hcv1 X hX
          have q2 := hcv2 X hX
          have d6 := Posts.slot (show a.eval (.tmp 6) = .pointer (some ⟨V6, 0, none⟩) from hS.other 6 rfl)
          exact Posts.op_value (fun _ => trivial) rfl rfl (by intro c h; cases h) rfl (by rw [hS.size]; simp) (v := .agg #[.int .u8 o2, .int .u8 a2, .int .u16 b2, .int .u32 c2]) (by simp [execOp, d6,  go_sem, y0, y1, y2, y3, q1, q2, h8i, h8c, hc1, hci]) rfl (hE.refl _) trivial
        · intro a X hX hS hD hJ hU
          obtain ⟨y0, y1, y2, y3⟩ := cells4 ((Posts.Ext.blk hX _ (lt_of_block hq10)).trans hq10)
          have q1 := hcv1 X hX
          have q2 := hcv2 X hX
          have d46 := Posts.slot (show a.eval (.tmp 46) = .agg #[.int .u8 o2, .int .u8 a2, .int .u16 b2, .int .u32 c2] from hD.1)
          refine Posts.op_call (fun _ => trivial) rfl rfl rfl (by intro c h; cases h) rfl (by rw [hS.size]; simp) 11 #[.agg #[.int .u8 o2, .int .u8 a2, .int .u16 b2, .int .u32 c2]] (by simp [d46, go_sem]) ?_
          refine callsIn_wide.2 ((HMr.out X (HB10.trans (hX.mono hsV))).mono ?_)
          rintro e Y ⟨rfl, hbY⟩
          exact ⟨_, rfl, rfl, hbY, trivial⟩
        · intro a X hX hS hD hJ hU
          obtain ⟨y0, y1, y2, y3⟩ := cells4 ((Posts.Ext.blk hX _ (lt_of_block hq10)).trans hq10)
          have q1 := hcv1 X hX
          have q2 := hcv2 X hX
          have d47 := Posts.slot (show a.eval (.tmp 47) = .bool (true) from hD.1)
          exact Posts.op_value (fun _ => trivial) rfl rfl (by intro c h; cases h) rfl (by rw [hS.size]; simp) (v := .bool (true)) (by simp [execOp, d47,  go_sem, y0, y1, y2, y3, q1, q2, h8i, h8c, hc1, hci]) rfl (hE.refl _) trivial
        · intro a X hX hS hD hJ hU
          obtain ⟨y0, y1, y2, y3⟩ := cells4 ((Posts.Ext.blk hX _ (lt_of_block hq10)).trans hq10)
          have q1 := hcv1 X hX
          have q2 := hcv2 X hX
          have d8 := Posts.slot (show a.eval (.tmp 8) = .pointer (some ⟨V8, 0, none⟩) from hS.other 8 rfl)
          exact Posts.op_value (fun _ => trivial) rfl (Posts.wanted_yes rfl rfl rfl (show a.eval (.tmp 48) = .bool true from hD.1)) (by intro c h; cases h) rfl (by rw [hS.size]; simp) (v := .slice (some ⟨V8, 0, none⟩) 8 8) (by simp [execOp, d8,  go_sem, y0, y1, y2, y3, q1, q2, h8i, h8c, hc1, hci]) rfl (hE.refl _) trivial
        · intro a X hX hS hD hJ hU
          obtain ⟨y0, y1, y2, y3⟩ := cells4 ((Posts.Ext.blk hX _ (lt_of_block hq10)).trans hq10)
          have q1 := hcv1 X hX
          have q2 := hcv2 X hX
          have d49 := Posts.slot (show a.eval (.tmp 49) = .slice (some ⟨V8, 0, none⟩) 8 8 from hD.1)
          exact Posts.op_value (fun _ => trivial) rfl (Posts.wanted_yes rfl rfl rfl (show a.eval (.tmp 48) = .bool true from hD.2.1)) (by intro c h; cases h) rfl (by rw [hS.size]; simp) (v := .string S) (by simp [execOp, d49,  go_sem, y0, y1, y2, y3, q1, q2, h8i, h8c, hc1, hci]) rfl (hE.refl _) trivial
        · intro a X hX hS hD hJ hU
          obtain ⟨y0, y1, y2, y3⟩ := cells4 ((Posts.Ext.blk hX _ (lt_of_block hq10)).trans hq10)
          have q1 := hcv1 X hX
          have q2 := hcv2 X hX
          have d1 := Posts.slot (show a.eval (.tmp 1) = .slice (some ⟨p, off, none⟩) n c from hS.other 1 rfl)
          exact Posts.op_value (fun _ => trivial) rfl (Posts.wanted_yes rfl rfl rfl (show a.eval (.tmp 48) = .bool true from hD.1)) (by intro c h; cases h) rfl (by rw [hS.size]; simp) (v := .slice (some ⟨p, off, none⟩) n c) (by simp [execOp, d1,  go_sem, y0, y1, y2, y3, q1, q2, h8i, h8c, hc1, hci]) rfl (hE.refl _) trivial
        · intro a X hX hS hD hJ hU
          obtain ⟨y0, y1, y2, y3⟩ := cells4 ((Posts.Ext.blk hX _ (lt_of_block hq10)).trans hq10)
          have q1 := hcv1 X hX
          have q2 := hcv2 X hX
          have d51 := Posts.slot (show a.eval (.tmp 51) = .slice (some ⟨p, off, none⟩) n c from hD.1)
          exact Posts.op_value (fun _ => trivial) rfl (Posts.wanted_yes rfl rfl rfl (show a.eval (.tmp 48) = .bool true from hD.2.1)) (by intro c h; cases h) rfl (by rw [hS.size]; simp) (v := .slice (some ⟨p, off, none⟩) 8 c) (by simp [execOp, d51,  go_sem, y0, y1, y2, y3, q1, q2, h8i, h8c, hc1, hci]) rfl (hE.refl _) trivial
        · intro a X hX hS hD hJ hU
          obtain ⟨y0, y1, y2, y3⟩ := cells4 ((Posts.Ext.blk hX _ (lt_of_block hq10)).trans hq10)
          have q1 := hcv1 X hX
          have q2 := hcv2 X hX
          have d52 := Posts.slot (show a.eval (.tmp 52) = .slice (some ⟨p, off, none⟩) 8 c from hD.1)
          exact Posts.op_value (fun _ => trivial) rfl (Posts.wanted_yes rfl rfl rfl (show a.eval (.tmp 48) = .bool true from hD.2.1)) (by intro c h; cases h) rfl (by rw [hS.size]; simp) (v := .string S) (by simp [execOp, d52,  go_sem, y0, y1, y2, y3, q1, q2, h8i, h8c, hc1, hci]) rfl (hE.refl _) trivial
        · intro a X hX hS hD hJ hU
          obtain ⟨y0, y1, y2, y3⟩ := cells4 ((Posts.Ext.blk hX _ (lt_of_block hq10)).trans hq10)
          have q1 := hcv1 X hX
          have q2 := hcv2 X hX
          have d50 := Posts.slot (show a.eval (.tmp 50) = .string S from hD.1)
          have d53 := Posts.slot (show a.eval (.tmp 53) = .string S from hD.2.1)
          exact Posts.op_value (fun _ => trivial) rfl (Posts.wanted_yes rfl rfl rfl (show a.eval (.tmp 48) = .bool true from hD.2.2.1)) (by intro c h; cases h) rfl (by rw [hS.size]; simp) (v := .bool (true)) (by simp [execOp, d50, d53,  go_sem, y0, y1, y2, y3, q1, q2, h8i, h8c, hc1, hci]) rfl (hE.refl _) trivial
        · intro a X hX hS hD hJ hU
          obtain ⟨y0, y1, y2, y3⟩ := cells4 ((Posts.Ext.blk hX _ (lt_of_block hq10)).trans hq10)
          have q1 := hcv1 X hX
          have q2 := hcv2 X hX
          have dc := Posts.slot (show a.eval (.tmp 48) = .bool (true) from hD.1)
          rcases Bool.eq_false_or_eq_true (true) with hg | hg
          · have dx := Posts.slot (show a.eval (.tmp 54) = .bool (true) from hD.2.1)
            exact Posts.op_value (fun _ => trivial) rfl rfl (by intro c h; cases h) rfl (by rw [hS.size]; simp) (v := .bool (true)) (by simp [execOp, dc, hg, dx,  go_sem, y0, y1, y2, y3, q1, q2, h8i, h8c, hc1, hci]) rfl (hE.refl _) trivial
          · cases hg
      · intro a0 Y hY hS hJt hL
        have p46 := Posts.slot (show a0.eval (.tmp 46) = .agg #[.int .u8 o2, .int .u8 a2, .int .u16 b2, .int .u32 c2] from hL.1)
        have p47 := Posts.slot (show a0.eval (.tmp 47) = .bool (true) from hL.2.1)
        have p48 := Posts.slot (show a0.eval (.tmp 48) = .bool (true) from hL.2.2.1)
        have p49 := Posts.slot (show a0.eval (.tmp 49) = .slice (some ⟨V8, 0, none⟩) 8 8 from hL.2.2.2.1)
        have p50 := Posts.slot (show a0.eval (.tmp 50) = .string S from hL.2.2.2.2.1)
        have p51 := Posts.slot (show a0.eval (.tmp 51) = .slice (some ⟨p, off, none⟩) n c from hL.2.2.2.2.2.1)
        have p52 := Posts.slot (show a0.eval (.tmp 52) = .slice (some ⟨p, off, none⟩) 8 c from hL.2.2.2.2.2.2.1)
        have p53 := Posts.slot (show a0.eval (.tmp 53) = .string S from hL.2.2.2.2.2.2.2.1)
        have p54 := Posts.slot (show a0.eval (.tmp 54) = .bool (true) from hL.2.2.2.2.2.2.2.2.1)
        have p55 := Posts.slot (show a0.eval (.tmp 55) = .bool (true) from hL.2.2.2.2.2.2.2.2.2.1)
        have hfr := hS.frame [46, 47, 48, 49, 50, 51, 52, 53, 54, 55, 4] (fun t ht => by simp [Posts.isDst] at ht; first | (rcases ht with h | h | h | h | h | h | h | h | h | h | h <;> subst h <;> simp) | (subst ht; simp))
        simp only [List.foldl_cons, List.foldl_nil] at hfr
        have hdf := hS.defers
        simp only [Array.getD_eq_getD_getElem?] at hfr
        clear hL hS
        generalize a0.tmps[46]?.getD undef = v46 at *
        generalize a0.tmps[47]?.getD undef = v47 at *
        generalize a0.tmps[48]?.getD undef = v48 at *
        generalize a0.tmps[49]?.getD undef = v49 at *
        generalize a0.tmps[50]?.getD undef = v50 at *
        generalize a0.tmps[51]?.getD undef = v51 at *
        generalize a0.tmps[52]?.getD undef = v52 at *
        generalize a0.tmps[53]?.getD undef = v53 at *
        generalize a0.tmps[54]?.getD undef = v54 at *
        generalize a0.tmps[55]?.getD undef = v55 at *
        generalize a0.tmps[4]?.getD undef = v4 at *
        obtain rfl := p46
        obtain rfl := p47
        obtain rfl := p48
        obtain rfl := p49
        obtain rfl := p50
        obtain rfl := p51
        obtain rfl := p52
        obtain rfl := p53
        obtain rfl := p54
        obtain rfl := p55
        obtain ⟨tm, df⟩ := a0
        simp only [List.setIfInBounds_toArray, List.set_cons_succ, List.set_cons_zero] at hfr hdf
        subst hfr
        subst hdf
        refine Posts.tail_op 10 (by kernel_rfl) (Posts.op_val (fun _ => trivial) rfl rfl (by intro c h; cases h) (v := .bool true) (Y := Y) (by simp [execOp, Act.eval, go_sem]) ?_)
        refine ⟨by kernel_rfl, ?_⟩
        simp only [Exit.inBlock, Exit.then]
        rename_i hK
        refine hK _ _ ?_
        go_wp2_with fail
        go_ret
        exact ⟨rfl, by rw [HV.out]; exact HB10.trans (hY.mono hsV)⟩
    · have hI2 := HZ.out hE2
      simp only [Iv.mk.injEq] at hI2
      obtain ⟨rfl, rfl, rfl, rfl⟩ := hI2
      have hne0 : (E2 != 0) = true := by simpa using hE2
      clear HZ HQ hE2
      go_wp2_with (first | simp only [hf] | simp only [HEz, Result.andThen_ok])
      go_ret
      exact ⟨rfl, by rw [HV.out]; exact (((HB8.setCell (p := ⟨V6, 0, none⟩) hVle _).setCell (p := ⟨V6, 1, none⟩) hVle _).setCell (p := ⟨V6, 2, none⟩) hVle _).setCell (p := ⟨V6, 3, none⟩) hVle _⟩
  · have HB6 : Below V w (w4.alloc (.cells #[.int .u8 o1, .int .u8 a1, .int .u16 b1, .int .u32 c1] 25)) := HB5.alloc (by omega) _
    have hx6 := (Below.heap_alloc w4 (.cells #[.int .u8 o1, .int .u8 a1, .int .u16 b1, .int .u32 c1] 25) V hl5).trans hx5
    have hy6 := alloc_new w4 (.cells #[.int .u8 o1, .int .u8 a1, .int .u16 b1, .int .u32 c1] 25)
    have hne : V ≠ w4.heap.size := by omega
    obtain ⟨x0, x1, x2, x3⟩ := cells4 hx6
    simp only [reduceIte, Bool.false_eq_true]
    go_wp2_with fail
    refine (HM.out _ HB6).mono ?_
    rintro e w5 ⟨rfl, hb5⟩
    have hx7 := (hb5.block _ (lt_of_block hx6)).trans hx6
    have hy7 := (hb5.block _ (lt_of_block hy6)).trans hy6
    have HB7 : Below V w w5 := HB6.trans (hb5.mono (by have := lt_of_block hx6; omega))
    clear x0 x1 x2 x3 hx6 hy6 HB6 hx5 HB5 HM hb5
    generalize w4.heap.size = V6 at *
    obtain ⟨x0, x1, x2, x3⟩ := cells4 hx7
    obtain ⟨y0, y1, y2, y3⟩ := cells4 hy7
    have hEq := HEq.out
    go_wp2_with (simp only [hEq, Result.andThen_ok, Bool.not_true])
    refine (HR2.out _ HB7).mono ?_
    rintro e w7 ⟨rfl, hb7⟩
    have hy8 := (hb7.block _ (lt_of_block hy7)).trans hy7
    have HB8 : Below V w w7 := HB7.trans (hb7.mono (by have := lt_of_block hx7; omega))
    have hf : ∀ j, w7.frozen? ⟨V6, j, none⟩ = false := fun j => by simp [World.frozen?, hy8]
    have hVle : V ≤ V6 := by omega
    clear x0 x1 x2 x3 y0 y1 y2 y3 hx7 hy7 HB7 hb7 hEq HEq HR2
    obtain ⟨y0, y1, y2, y3⟩ := cells4 hy8
    by_cases hE2 : E2 = 0
    · subst hE2
      obtain ⟨_, rfl, h8, hMr, hBr⟩ := HQ.out rfl
      simp only at hMr hBr
      obtain ⟨z0, z1, z2, z3, z4, z5, z6, z7, hz⟩ := eight (l := l) (by rw [HL.out]; exact h8)
      rw [hz] at hBr
      have hBr2 : ∀ W, Calls Tryd.prog 9 #[.agg #[.int .u8 o2, .int .u8 a2, .int .u16 b2, .int .u32 c2]] W fun e w' => e = .returned (.agg #[.int .u8 z0, .int .u8 z1, .int .u8 z2, .int .u8 z3, .int .u8 z4, .int .u8 z5, .int .u8 z6, .int .u8 z7]) ∧ Below W.heap.size W w' := hBr
      have HBr := Lib.hid hBr2
      have HMr := Lib.hid hMr
      clear hBr hBr2 hMr HQ HZ
      go_wp2_with (simp only [hf])
      have hq : ((((w7.setCell ⟨V6, 0, none⟩ (.int .u8 o2)).setCell ⟨V6, 1, none⟩ (.int .u8 a2)).setCell ⟨V6, 2, none⟩ (.int .u16 b2)).setCell ⟨V6, 3, none⟩ (.int .u32 c2)).heap[V6]? = some (.cells #[.int .u8 o2, .int .u8 a2, .int .u16 b2, .int .u32 c2] 25) := by
        have := row_set (j := 3) (u := .int .u32 c2) (row_set (j := 2) (u := .int .u16 b2) (row_set (j := 1) (u := .int .u8 a2) (row_set (j := 0) (u := .int .u8 o2) hy8)))
        simpa using this
      have HB9 : Below V w ((((w7.setCell ⟨V6, 0, none⟩ (.int .u8 o2)).setCell ⟨V6, 1, none⟩ (.int .u8 a2)).setCell ⟨V6, 2, none⟩ (.int .u16 b2)).setCell ⟨V6, 3, none⟩ (.int .u32 c2)) := (((HB8.setCell (p := ⟨V6, 0, none⟩) hVle _).setCell (p := ⟨V6, 1, none⟩) hVle _).setCell (p := ⟨V6, 2, none⟩) hVle _).setCell (p := ⟨V6, 3, none⟩) hVle _
      generalize (((w7.setCell ⟨V6, 0, none⟩ (.int .u8 o2)).setCell ⟨V6, 1, none⟩ (.int .u8 a2)).setCell ⟨V6, 2, none⟩ (.int .u16 b2)).setCell ⟨V6, 3, none⟩ (.int .u32 c2) = W8 at *
      clear y0 y1 y2 y3 hy8 hf HB8
      refine (HBr.out W8).mono ?_
      rintro e w9 ⟨rfl, hb9⟩
      have hq9 := (hb9.block _ (lt_of_block hq)).trans hq
      have hl9 := lt_of_block hq9
      have HB10 : Below V w (w9.alloc (.cells #[.int .u8 z0, .int .u8 z1, .int .u8 z2, .int .u8 z3, .int .u8 z4, .int .u8 z5, .int .u8 z6, .int .u8 z7] 27)) := (HB9.trans (hb9.mono (by have := lt_of_block hq; omega))).alloc (by omega) _
      have hq10 := (Below.heap_alloc w9 (.cells #[.int .u8 z0, .int .u8 z1, .int .u8 z2, .int .u8 z3, .int .u8 z4, .int .u8 z5, .int .u8 z6, .int .u8 z7] 27) V6 hl9).trans hq9
      have hz10 := alloc_new w9 (.cells #[.int .u8 z0, .int .u8 z1, .int .u8 z2, .int .u8 z3, .int .u8 z4, .int .u8 z5, .int .u8 z6, .int .u8 z7] 27)
      clear HB9 hb9 hq hq9
      go_wp2_with fail
      generalize w9.alloc (.cells #[.int .u8 z0, .int .u8 z1, .int .u8 z2, .int .u8 z3, .int .u8 z4, .int .u8 z5, .int .u8 z6, .int .u8 z7] 27) = W10 at *
      generalize w9.heap.size = V8 at *
      obtain ⟨hrl, hrb, hrc⟩ := HR.out W10 HB10
      obtain ⟨p, off, rfl, hcell⟩ := hrc.resolve_left (by omega)
      have hlz : [z0, z1, z2, z3, z4, z5, z6, z7] = (l.take 8).take 8 := by rw [hz]; rfl
      have hcv1 : ∀ X, Posts.Ext W10 X → (convert 29 9 (.slice (some ⟨V8, 0, none⟩) 8 8)).run Tryd.prog X = .ok (.string (sB (u8s (l.take 8)))) X := fun X hX => by
        have := conv_any X V8 0 8 (l.take 8) (fun z hz => hrb z (List.mem_of_mem_take hz)) 8 (by rw [hz]; exact Nat.le_refl 8) (fun j hj => by
          rw [Nat.zero_add, cells_at ((Posts.Ext.blk hX _ (lt_of_block hz10)).trans hz10), hz]
          match j, hj with
          | 0, _ => rfl
          | 1, _ => rfl
          | 2, _ => rfl
          | 3, _ => rfl
          | 4, _ => rfl
          | 5, _ => rfl
          | 6, _ => rfl
          | 7, _ => rfl)
        rw [List.take_take] at this
        exact this
      have hcv2 : ∀ X, Posts.Ext W10 X → (convert 29 9 (.slice (some ⟨p, off, none⟩) 8 c)).run Tryd.prog X = .ok (.string (sB (u8s (l.take 8)))) X := fun X hX =>
        conv_any X p off c l hrb 8 (by rw [hrl]; exact h8) (fun j hj => by
          have hcj := hcell j (by omega)
          exact (World.cell?_of_block (Posts.Ext.blk hX p (World.block_lt_of_cell? _ _ hcj))).trans hcj)
      generalize sB (u8s (l.take 8)) = S at *
      have hE := Posts.ext_rel
      have hsV : V ≤ W10.heap.size := by have := lt_of_block hz10; have := lt_of_block hq10; omega
      have h8i : (8 : Int) ≤ n := by omega
      have h8c : 8 ≤ c := by omega
      have hci : ¬ ((c : Int) < 8) := by omega
      clear hcell hrl hrb hlz hz
      refine (wpIn_wide (n := 0)).1 (Posts.wpIn_region_tail hE 10 1 (Posts.At [Posts.is (.agg #[.int .u8 o2, .int .u8 a2, .int .u16 b2, .int .u32 c2]), Posts.is (.bool (true)), Posts.is (.bool (true)), Posts.is (.slice (some ⟨V8, 0, none⟩) 8 8), Posts.is (.string S), Posts.is (.slice (some ⟨p, off, none⟩) n c), Posts.is (.slice (some ⟨p, off, none⟩) 8 c), Posts.is (.string S), Posts.is (.bool (true)), Posts.is (.bool (true))]) (fun _ _ => True) (by kernel_rfl) (by decide) (by kernel_rfl) (by kernel_rfl) (by kernel_rfl)
        (Posts.stable_at _ (by repeat' (first | exact trivial | (refine And.intro ?_ ?_) | exact Posts.is_stable _ | exact Posts.on_stable _ _ | assumption))) trivial ?_ ?_)
      · refine ⟨?_, ?_, ?_, ?_, ?_, ?_, ?_, ?_, ?_, ?_, trivial⟩
        · intro a X hX hS hD hJ hU
          obtain ⟨y0, y1, y2, y3⟩ := cells4 ((Posts.Ext.blk hX _ (lt_of_block hq10)).trans hq10)
          have q1 := hcv1 X hX
          have q2 := hcv2 X hX
          have d6 := Posts.slot (show a.eval (.tmp 6) = .pointer (some ⟨V6, 0, none⟩) from hS.other 6 rfl)
          exact Posts.op_value (fun _ => trivial) rfl rfl (by intro c h; cases h) rfl (by rw [hS.size]; simp) (v := .agg #[.int .u8 o2, .int .u8 a2, .int .u16 b2, .int .u32 c2]) (by simp [execOp, d6,  go_sem, y0, y1, y2, y3, q1, q2, h8i, h8c, hc1, hci]) rfl (hE.refl _) trivial
        · intro a X hX hS hD hJ hU
          obtain ⟨y0, y1, y2, y3⟩ := cells4 ((Posts.Ext.blk hX _ (lt_of_block hq10)).trans hq10)
          have q1 := hcv1 X hX
          have q2 := hcv2 X hX
          have d46 := Posts.slot (show a.eval (.tmp 46) = .agg #[.int .u8 o2, .int .u8 a2, .int .u16 b2, .int .u32 c2] from hD.1)
          refine Posts.op_call (fun _ => trivial) rfl rfl rfl (by intro c h; cases h) rfl (by rw [hS.size]; simp) 11 #[.agg #[.int .u8 o2, .int .u8 a2, .int .u16 b2, .int .u32 c2]] (by simp [d46, go_sem]) ?_
          refine callsIn_wide.2 ((HMr.out X (HB10.trans (hX.mono hsV))).mono ?_)
          rintro e Y ⟨rfl, hbY⟩
          exact ⟨_, rfl, rfl, hbY, trivial⟩
        · intro a X hX hS hD hJ hU
          obtain ⟨y0, y1, y2, y3⟩ := cells4 ((Posts.Ext.blk hX _ (lt_of_block hq10)).trans hq10)
          have q1 := hcv1 X hX
          have q2 := hcv2 X hX
          have d47 := Posts.slot (show a.eval (.tmp 47) = .bool (true) from hD.1)
          exact Posts.op_value (fun _ => trivial) rfl rfl (by intro c h; cases h) rfl (by rw [hS.size]; simp) (v := .bool (true)) (by simp [execOp, d47,  go_sem, y0, y1, y2, y3, q1, q2, h8i, h8c, hc1, hci]) rfl (hE.refl _) trivial
        · intro a X hX hS hD hJ hU
          obtain ⟨y0, y1, y2, y3⟩ := cells4 ((Posts.Ext.blk hX _ (lt_of_block hq10)).trans hq10)
          have q1 := hcv1 X hX
          have q2 := hcv2 X hX
          have d8 := Posts.slot (show a.eval (.tmp 8) = .pointer (some ⟨V8, 0, none⟩) from hS.other 8 rfl)
          exact Posts.op_value (fun _ => trivial) rfl (Posts.wanted_yes rfl rfl rfl (show a.eval (.tmp 48) = .bool true from hD.1)) (by intro c h; cases h) rfl (by rw [hS.size]; simp) (v := .slice (some ⟨V8, 0, none⟩) 8 8) (by simp [execOp, d8,  go_sem, y0, y1, y2, y3, q1, q2, h8i, h8c, hc1, hci]) rfl (hE.refl _) trivial
        · intro a X hX hS hD hJ hU
          obtain ⟨y0, y1, y2, y3⟩ := cells4 ((Posts.Ext.blk hX _ (lt_of_block hq10)).trans hq10)
          have q1 := hcv1 X hX
          have q2 := hcv2 X hX
          have d49 := Posts.slot (show a.eval (.tmp 49) = .slice (some ⟨V8, 0, none⟩) 8 8 from hD.1)
          exact Posts.op_value (fun _ => trivial) rfl (Posts.wanted_yes rfl rfl rfl (show a.eval (.tmp 48) = .bool true from hD.2.1)) (by intro c h; cases h) rfl (by rw [hS.size]; simp) (v := .string S) (by simp [execOp, d49,  go_sem, y0, y1, y2, y3, q1, q2, h8i, h8c, hc1, hci]) rfl (hE.refl _) trivial
        · intro a X hX hS hD hJ hU
          obtain ⟨y0, y1, y2, y3⟩ := cells4 ((Posts.Ext.blk hX _ (lt_of_block hq10)).trans hq10)
          have q1 := hcv1 X hX
          have q2 := hcv2 X hX
          have d1 := Posts.slot (show a.eval (.tmp 1) = .slice (some ⟨p, off, none⟩) n c from hS.other 1 rfl)
          exact Posts.op_value (fun _ => trivial) rfl (Posts.wanted_yes rfl rfl rfl (show a.eval (.tmp 48) = .bool true from hD.1)) (by intro c h; cases h) rfl (by rw [hS.size]; simp) (v := .slice (some ⟨p, off, none⟩) n c) (by simp [execOp, d1,  go_sem, y0, y1, y2, y3, q1, q2, h8i, h8c, hc1, hci]) rfl (hE.refl _) trivial
        · intro a X hX hS hD hJ hU
          obtain ⟨y0, y1, y2, y3⟩ := cells4 ((Posts.Ext.blk hX _ (lt_of_block hq10)).trans hq10)
          have q1 := hcv1 X hX
          have q2 := hcv2 X hX
          have d51 := Posts.slot (show a.eval (.tmp 51) = .slice (some ⟨p, off, none⟩) n c from hD.1)
          exact Posts.op_value (fun _ => trivial) rfl (Posts.wanted_yes rfl rfl rfl (show a.eval (.tmp 48) = .bool true from hD.2.1)) (by intro c h; cases h) rfl (by rw [hS.size]; simp) (v := .slice (some ⟨p, off, none⟩) 8 c) (by simp [execOp, d51,  go_sem, y0, y1, y2, y3, q1, q2, h8i, h8c, hc1, hci]) rfl (hE.refl _) trivial
        · intro a X hX hS hD hJ hU
          obtain ⟨y0, y1, y2, y3⟩ := cells4 ((Posts.Ext.blk hX _ (lt_of_block hq10)).trans hq10)
          have q1 := hcv1 X hX
          have q2 := hcv2 X hX
          have d52 := Posts.slot (show a.eval (.tmp 52) = .slice (some ⟨p, off, none⟩) 8 c from hD.1)
          exact Posts.op_value (fun _ => trivial) rfl (Posts.wanted_yes rfl rfl rfl (show a.eval (.tmp 48) = .bool true from hD.2.1)) (by intro c h; cases h) rfl (by rw [hS.size]; simp) (v := .string S) (by simp [execOp, d52,  go_sem, y0, y1, y2, y3, q1, q2, h8i, h8c, hc1, hci]) rfl (hE.refl _) trivial
        · intro a X hX hS hD hJ hU
          obtain ⟨y0, y1, y2, y3⟩ := cells4 ((Posts.Ext.blk hX _ (lt_of_block hq10)).trans hq10)
          have q1 := hcv1 X hX
          have q2 := hcv2 X hX
          have d50 := Posts.slot (show a.eval (.tmp 50) = .string S from hD.1)
          have d53 := Posts.slot (show a.eval (.tmp 53) = .string S from hD.2.1)
          exact Posts.op_value (fun _ => trivial) rfl (Posts.wanted_yes rfl rfl rfl (show a.eval (.tmp 48) = .bool true from hD.2.2.1)) (by intro c h; cases h) rfl (by rw [hS.size]; simp) (v := .bool (true)) (by simp [execOp, d50, d53,  go_sem, y0, y1, y2, y3, q1, q2, h8i, h8c, hc1, hci]) rfl (hE.refl _) trivial
        · intro a X hX hS hD hJ hU
          obtain ⟨y0, y1, y2, y3⟩ := cells4 ((Posts.Ext.blk hX _ (lt_of_block hq10)).trans hq10)
          have q1 := hcv1 X hX
          have q2 := hcv2 X hX
          have dc := Posts.slot (show a.eval (.tmp 48) = .bool (true) from hD.1)
          rcases Bool.eq_false_or_eq_true (true) with hg | hg
          · have dx := Posts.slot (show a.eval (.tmp 54) = .bool (true) from hD.2.1)
            exact Posts.op_value (fun _ => trivial) rfl rfl (by intro c h; cases h) rfl (by rw [hS.size]; simp) (v := .bool (true)) (by simp [execOp, dc, hg, dx,  go_sem, y0, y1, y2, y3, q1, q2, h8i, h8c, hc1, hci]) rfl (hE.refl _) trivial
          · cases hg
      · intro a0 Y hY hS hJt hL
        have p46 := Posts.slot (show a0.eval (.tmp 46) = .agg #[.int .u8 o2, .int .u8 a2, .int .u16 b2, .int .u32 c2] from hL.1)
        have p47 := Posts.slot (show a0.eval (.tmp 47) = .bool (true) from hL.2.1)
        have p48 := Posts.slot (show a0.eval (.tmp 48) = .bool (true) from hL.2.2.1)
        have p49 := Posts.slot (show a0.eval (.tmp 49) = .slice (some ⟨V8, 0, none⟩) 8 8 from hL.2.2.2.1)
        have p50 := Posts.slot (show a0.eval (.tmp 50) = .string S from hL.2.2.2.2.1)
        have p51 := Posts.slot (show a0.eval (.tmp 51) = .slice (some ⟨p, off, none⟩) n c from hL.2.2.2.2.2.1)
        have p52 := Posts.slot (show a0.eval (.tmp 52) = .slice (some ⟨p, off, none⟩) 8 c from hL.2.2.2.2.2.2.1)
        have p53 := Posts.slot (show a0.eval (.tmp 53) = .string S from hL.2.2.2.2.2.2.2.1)
        have p54 := Posts.slot (show a0.eval (.tmp 54) = .bool (true) from hL.2.2.2.2.2.2.2.2.1)
        have p55 := Posts.slot (show a0.eval (.tmp 55) = .bool (true) from hL.2.2.2.2.2.2.2.2.2.1)
        have hfr := hS.frame [46, 47, 48, 49, 50, 51, 52, 53, 54, 55, 4] (fun t ht => by simp [Posts.isDst] at ht; first | (rcases ht with h | h | h | h | h | h | h | h | h | h | h <;> subst h <;> simp) | (subst ht; simp))
        simp only [List.foldl_cons, List.foldl_nil] at hfr
        have hdf := hS.defers
        simp only [Array.getD_eq_getD_getElem?] at hfr
        clear hL hS
        generalize a0.tmps[46]?.getD undef = v46 at *
        generalize a0.tmps[47]?.getD undef = v47 at *
        generalize a0.tmps[48]?.getD undef = v48 at *
        generalize a0.tmps[49]?.getD undef = v49 at *
        generalize a0.tmps[50]?.getD undef = v50 at *
        generalize a0.tmps[51]?.getD undef = v51 at *
        generalize a0.tmps[52]?.getD undef = v52 at *
        generalize a0.tmps[53]?.getD undef = v53 at *
        generalize a0.tmps[54]?.getD undef = v54 at *
        generalize a0.tmps[55]?.getD undef = v55 at *
        generalize a0.tmps[4]?.getD undef = v4 at *
        obtain rfl := p46
        obtain rfl := p47
        obtain rfl := p48
        obtain rfl := p49
        obtain rfl := p50
        obtain rfl := p51
        obtain rfl := p52
        obtain rfl := p53
        obtain rfl := p54
        obtain rfl := p55
        obtain ⟨tm, df⟩ := a0
        simp only [List.setIfInBounds_toArray, List.set_cons_succ, List.set_cons_zero] at hfr hdf
        subst hfr
        subst hdf
        refine Posts.tail_op 10 (by kernel_rfl) (Posts.op_val (fun _ => trivial) rfl rfl (by intro c h; cases h) (v := .bool true) (Y := Y) (by simp [execOp, Act.eval, go_sem]) ?_)
        refine ⟨by kernel_rfl, ?_⟩
        simp only [Exit.inBlock, Exit.then]
        rename_i hK
        refine hK _ _ ?_
        go_wp2_with fail
        go_ret
        exact ⟨rfl, by rw [HV.out]; exact HB10.trans (hY.mono hsV)⟩
    · have hI2 := HZ.out hE2
      simp only [Iv.mk.injEq] at hI2
      obtain ⟨rfl, rfl, rfl, rfl⟩ := hI2
      have hne0 : (E2 != 0) = true := by simpa using hE2
      clear HZ HQ hE2
      go_wp2_with (first | simp only [hf] | simp only [HEz, Result.andThen_ok])
      go_ret
      exact ⟨rfl, by rw [HV.out]; exact (((HB8.setCell (p := ⟨V6, 0, none⟩) hVle _).setCell (p := ⟨V6, 1, none⟩) hVle _).setCell (p := ⟨V6, 2, none⟩) hVle _).setCell (p := ⟨V6, 3, none⟩) hVle _⟩
/-- what the walk gives, for every argument, in every world that holds the tables -/
theorem contract (H : Type) (enc : TypeId × Value → H) (W : World) (base : Nat) (args : Array Value) (ds gs : List (DataW H)) (before : List MemPlace)
    (hval : ∀ (j : Nat) t v, Tryd.f6.params[j]? = some t → args[j]? = some v → Value.okWide Tryd.prog W .any base t v)
    (hW : DataW.Whole enc Tryd.prog Tryd.f6.params.toList Rows.isaBackSpec.vars false W args.toList ds gs before) (hsz : (DataW.weightsEach Tryd.prog (Tryd.f6.params.toList ++ (OpenSpec.ofChange Rows.isaBackSpec).bare.plain.varTypes Tryd.prog) (ds ++ gs)).all (· ≤ reachBytes) = true) (hL : laidMetH Tryd.prog Rows.isaBackRow.laid W) :
    Calls Tryd.prog 6 args W fun e W' => ∃ v, e = .returned v ∧ Rows.isaBackSpec.post enc Tryd.prog Tryd.f6 false true false false W args v W' := by
  have hW' := hW
  obtain ⟨p, q, hA0, hV, rfl, hfz, hnd⟩ := hW
  have hA : DataW.TrodAll enc Tryd.prog W 0 (fun _ => true) true Tryd.f6.params.toList args.toList ds p := hA0
  rw [Tryd.params6] at hA hval hsz
  obtain ⟨v0, vs0, d0, ds0, p0, q0, hargs, rfl, rfl, h0, r0⟩ := trodAll_cons hA
  obtain ⟨v1, vs1, d1, ds1, p1, q1, rfl, rfl, rfl, h1, r1⟩ := trodAll_cons r0
  obtain ⟨rfl, rfl, rfl⟩ := trodAll_nil r1
  obtain rfl : args = #[v0, v1] := by cases args; simp_all
  obtain ⟨rfl, rfl⟩ := trodVars_none hV
  have k0 := h0
  have lt0 : ∀ x ∈ p0, x.block < W.heap.size := by obtain ⟨m, hm⟩ := k0; exact DataW.trod_lt m _ _ _ hm
  obtain ⟨c0, rfl, _⟩ := okWide_struct Tryd.underlying25 (hval 0 25 v0 rfl rfl)
  obtain ⟨z0, rfl, w0⟩ : ∃ i : Iv, c0 = #[.int .u8 i.op, .int .u8 i.a, .int .u16 i.b, .int .u32 i.c] ∧ i.wf := by
    obtain ⟨fuel, hf⟩ := h0
    obtain ⟨i, hcs, h1⟩ := open_instr hf
    simp [Value.cells] at hcs
    exact ⟨i, by cases c0; simp_all, h1⟩
  have k1 := h1
  have lt1 : ∀ x ∈ p1, x.block < W.heap.size := by obtain ⟨m, hm⟩ := k1; exact DataW.trod_lt m _ _ _ hm
  obtain ⟨a1, len1, cap1, rfl⟩ := okWide_slice Tryd.underlying29 (hval 1 29 v1 rfl rfl)
  obtain ⟨z1, w1, nc1⟩ : ∃ l, Row W a1 len1 l ∧ len1 ≤ cap1 ∧ cap1 ≤ 9223372036854775807 ∧ len1 ≤ 140737488351232 := by
    obtain ⟨fuel, hf⟩ := h1
    have hf2 := hf
    obtain ⟨a, n, c, l, hcs, h1, h2, h3, h4⟩ := open_bytes hf
    simp [Value.cells] at hcs
    obtain ⟨rfl, rfl, rfl⟩ := hcs
    refine ⟨l, h3, h1, h2, ?_⟩
    rcases open_ints Tryd.underlying29 Tryd.underlying5 (by kernel_rfl) hf2 with ⟨hcs, _⟩ | ⟨x, l', c', zs, hcs, _, hl, hm, hz, hx, _, _⟩
    · simp [Value.cells] at hcs
      omega
    · simp [Value.cells] at hcs
      obtain ⟨rfl, rfl, rfl⟩ := hcs
      have hd := (Prod.mk.inj hx).1
      have hmem : cap1 * Tryd.prog.bytesOf 5 ∈ d1.weights Tryd.prog 29 := by
        rw [hd]
        simp only [DataW.weights, Tryd.underlying29]
        refine List.mem_cons.2 (Or.inl ?_)
        rw [len_lits, hz]
        simp
      have hin := DataW.weights_mem_each (P := Tryd.prog) (ts := [25, 29] ++ (OpenSpec.ofChange Rows.isaBackSpec).bare.plain.varTypes Tryd.prog) (ds := [d0, d1] ++ []) (j := 1) (t := 29) (d := d1) rfl rfl _ hmem
      have hle := List.all_eq_true.1 hsz _ (by simpa using hin)
      have hb5 : Tryd.prog.bytesOf 5 = 1 := by kernel_rfl
      rw [hb5, Nat.mul_one] at hle
      have hle2 := of_decide_eq_true hle
      unfold reachBytes at hle2
      omega
  clear hA0
  refine (walk W (tabs hL) z0 w0 a1 len1 cap1 z1 w1 nc1).mono fun e W' ⟨he, bel⟩ => ?_
  subst he
  exact ⟨_, rfl, _, _, _, [], _, [], hW', trodAll_mk1 (shut_bool Tryd.underlying4 _), (trodAll_cons_mk (Below.trod laidOut (by kernel_rfl) (of_decide_eq_true (by kernel_rfl)) k0 bel lt0) (trodAll_cons_mk (Below.trod laidOut (by kernel_rfl) (of_decide_eq_true (by kernel_rfl)) k1 bel lt1) trodAll_mk0)), rfl, bel.frame _, fun h => by cases h⟩

theorem reads (os : Os) {H : Type} (enc : TypeId × Value → H) : ∃ places, DataW.whole enc Tryd.prog ((laidWorld os).forCall (fun _ _ => 0) ⟨#[], (#[Value.agg #[.int .u8 0, .int .u8 0, .int .u16 0, .int .u32 0], Value.slice none 0 0] : Array Value), []⟩).memory Tryd.f6.params.toList Rows.isaBackSpec.vars false (#[Value.agg #[.int .u8 0, .int .u8 0, .int .u16 0, .int .u32 0], Value.slice none 0 0] : Array Value).toList 8 = some ([.agg [.lit (.int .u8 0), .lit (.int .u8 0), .lit (.int .u16 0), .lit (.int .u32 0)], .nil], [], places) :=
  ⟨[], by kernel_rfl⟩

set_option maxRecDepth 100000 in
theorem lifted (os : Os) (started : os.Started) (H : Type) (enc : TypeId × Value → H) (F : Stop.Interp) :
    ReturnsInHanded {} Tryd.checked os 6 .any ((OpenSpec.ofChange Rows.isaBackSpec).preRow enc Tryd.prog Tryd.f6 Rows.isaBackRow.domain false Rows.isaBackRow.laid) (((OpenSpec.ofChange Rows.isaBackSpec).at F).post enc Tryd.prog Tryd.f6 false true false false) := by
  obtain ⟨places, hx⟩ := reads os enc
  refine returnsInHanded_of_row (C := Tryd.checked) (s := OpenSpec.ofChange Rows.isaBackSpec) own started (by kernel_rfl) Tryd.func6
    (witness_row_at (enc := enc) (C := Tryd.checked) false (laidWorld os) (#[Value.agg #[.int .u8 0, .int .u8 0, .int .u16 0, .int .u32 0], Value.slice none 0 0] : Array Value) rfl (by kernel_rfl) (by kernel_rfl) (by kernel_rfl)
      (OpenSpec.preRow_of_cond 8 hx (by kernel_rfl) (fun k hk => by cases hk) (by kernel_rfl) (laid_met os _))) ?_
  intro W base args ds gs before hval hW _ _ hsz hL _ _
  exact contract H enc W base args ds gs before hval hW hsz hL

theorem said : Rows.IsaBackSaid :=
  OpenClaim.holds_of_cond 6 Tryd.f6 rfl rfl rfl rfl rfl rfl rfl ⟨rfl, rfl, rfl, rfl, rfl⟩ rfl rfl rfl rfl rfl (by kernel_rfl) Tryd.func6 (by kernel_rfl)
    (of_decide_eq_true (by kernel_rfl)) (by unfold Func.isWrapper; first | (rw [if_pos (by decide +kernel)]; kernel_rfl) | (rw [if_neg (by decide +kernel)]; exact ⟨rfl, rfl⟩))
    (fun os started H enc _ F => by rw [OpenClaim.pre_eq_preRow]; exact lifted os started H enc F)

theorem plain (f : FuncId) (fn : Func) (hf : Tryd.pinned.checked.prog.funcNamed "tappet/tappetlaw09.IsaBack" = some f) (hfn : Tryd.pinned.checked.prog.funcs[f]? = some fn) :
    false = Tryd.pinned.checked.prog.looks [] ∧ ∀ (j : Nat) t, fn.params[j]? = some t → Tryd.pinned.checked.prog.wantsStandIn t = false := by
  obtain rfl : f = 6 := Option.some.inj ((show Tryd.prog.funcNamed "tappet/tappetlaw09.IsaBack" = some 6 by kernel_rfl).symm.trans hf) |>.symm
  obtain rfl : fn = Tryd.f6 := (Option.some.inj (Tryd.func6.symm.trans hfn)).symm
  refine ⟨by kernel_rfl, fun j t ht => ?_⟩
  rw [Tryd.params6] at ht
  have hm := Array.mem_of_getElem? ht
  simp at hm
  rcases hm with rfl | rfl
  · exact (show Tryd.prog.wantsStandIn 25 = false by kernel_rfl)
  · exact (show Tryd.prog.wantsStandIn 29 = false by kernel_rfl)

theorem proved : Rows.IsaBackCardSaid :=
  Claim7.holds_tied_plain_at .later [] _ _ _ _ said (fun _ h => by cases h) (by kernel_rfl) (fun _ h => by cases h) isaBack_row_tie rfl ⟨rfl, rfl⟩ (by kernel_rfl) rfl plain (by kernel_rfl)
#print axioms proved
end Go.Proofs.YtnaefpjbeidkgaaDoor.isaBack
