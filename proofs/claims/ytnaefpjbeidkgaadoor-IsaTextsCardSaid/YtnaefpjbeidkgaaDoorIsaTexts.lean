/- The statement IsaTexts holds: two instructions have the same text just if they are the same, and a text begins with the name of its Op; the chapter's small test is answered. Under the statement's own reading alone: the tables of the kinds and of the powers of ten are as the program's text lays them. -/
import Derived.Test.YtnaefpjbeidkgaaDoorIsaFrame
import Derived.Test.YtnaefpjbeidkgaaDoorRightsTmps
namespace Go.Proofs.YtnaefpjbeidkgaaDoor.isaTexts
open Go.ChangeShapes Go.WideShapes Go.ChangeAt Go.RowKit Isa
open Go.ChangeMaps (open_string shut_string)
set_option linter.unusedVariables false
set_option linter.unusedSimpArgs false
/-- a letter of a string -/
theorem letter (l : List UInt8) (k : Nat) (hk : k < l.length) (W : World) : (Instr.index 9 (.string (sB l)) (.int .i64 (k : Int))).run Tryd.prog W = .ok (.int .u8 ((l.getD k 0).toNat : Int)) W := by
  rw [run_index_string W 9 (sB l) .i64 k Tryd.underlying9]
  have h1 : (0 : Int) ≤ k ∧ (k : Int) < (sB l).size := ⟨by omega, by rw [sB_size]; omega⟩
  rw [dif_pos h1]
  have e : (sB l)[(k : Int).toNat]'(by have := h1.2; omega) = l.getD k 0 := by
    simp [sB, List.getD, hk]
    rfl
  rw [e]
theorem extract_take (l : List UInt8) (k : Nat) : (sB l).extract 0 k = sB (l.take k) := by
  apply sB_of
  simp [sB]
theorem walk_no : True := trivial
set_option maxHeartbeats 6400000 in
theorem walk (w : World) (hT : Tabs w) (i : Iv) (hi : i.wf) (j : Iv) (hj : j.wf) :
    Calls Tryd.prog 7 #[.agg #[.int .u8 i.op, .int .u8 i.a, .int .u16 i.b, .int .u32 i.c], .agg #[.int .u8 j.op, .int .u8 j.a, .int .u16 j.b, .int .u32 j.c]] w fun e w' => e = .returned (.bool true) ∧ Below w.heap.size w w' := by
  have HK := Lib.hid (fun W (hb : Below w.heap.size w W) => known_any W (hT.below hb (Nat.le_refl _)))
  have HM1 := Lib.hid (fun W (hb : Below w.heap.size w W) => may_any i hi W (hT.below hb (Nat.le_refl _)))
  have HM2 := Lib.hid (fun W (hb : Below w.heap.size w W) => may_any j hj W (hT.below hb (Nat.le_refl _)))
  have HT1 := Lib.hid (fun W (hb : Below w.heap.size w W) => text_any i hi W (hT.below hb (Nat.le_refl _)))
  have HT2 := Lib.hid (fun W (hb : Below w.heap.size w W) => text_any j hj W (hT.below hb (Nat.le_refl _)))
  have HO := Lib.hid (fun W (hb : Below w.heap.size w W) => op_any (nm i.op) W (hT.below hb (Nat.le_refl _)))
  have HE : Hid (∀ W, (Op.equalIn 10000 25 (.agg #[.int .u8 i.op, .int .u8 i.a, .int .u16 i.b, .int .u32 i.c]) (.agg #[.int .u8 j.op, .int .u8 j.a, .int .u16 j.b, .int .u32 j.c])).run Tryd.prog W = .ok (decide (i = j)) W) := fun W => eqIn i j W
  have HN : Hid (mayI i = false → txt i = []) := fun h => txt_none h
  have HY : Hid (mayI i = true → mayI j = true → (((sB (txt i)).toList == (sB (txt j)).toList) = decide (i = j)) ∧ opI (nm i.op) = i.op ∧ (nm i.op).length ≤ (txt i).length ∧ (txt i).take (nm i.op).length = nm i.op ∧
      (∀ k, k < (nm i.op).length → 97 ≤ ((txt i).getD k 0).toNat ∧ ((txt i).getD k 0).toNat ≤ 122) ∧ ((nm i.op).length = (txt i).length ∨ ((txt i).getD (nm i.op).length 0).toNat < 97) ∧ (txt i).length ≤ 1000) := fun h1 h2 => by
    refine ⟨?_, opI_nm (mayI_op h1), txt_len h1, txt_take h1, fun k hk => txt_low h1 hk, txt_stop h1, ?_⟩
    · rw [sB_eq]
      rw [Bool.eq_iff_iff]
      simp only [decide_eq_true_eq]
      exact ⟨fun e => txt_inj hi hj h1 h2 e, fun e => by rw [e]⟩
    · rw [txt_may h1]
      have l1 := (nm_len (mayI_op h1)).2
      have d1 : (dd i.a).length ≤ 10 := decDigits_len 9 _ (by have := hi.a.2; omega)
      have d2 : (dd i.b).length ≤ 10 := decDigits_len 9 _ (by have := hi.b.2; omega)
      have d3 : (dd i.c).length ≤ 10 := decDigits_len 9 _ (by have := hi.c.2; omega)
      unfold rest
      simp only [List.length_append]
      split
      · simp; omega
      · split
        · simp; omega
        · split
          · simp; omega
          · split <;> simp <;> omega
  clear hT hi hj
  generalize mayI i = m1 at *
  generalize mayI j = m2 at *
  generalize decide (i = j) = E1 at *
  generalize txt i = L at *
  generalize txt j = M at *
  generalize opI (nm i.op) = oi at *
  generalize nm i.op = NM at *
  obtain ⟨o1, a1, b1, c1⟩ := i
  obtain ⟨o2, a2, b2, c2⟩ := j
  unfold iv at HM1 HM2 HT1 HT2
  simp only at *
  go_enter Tryd.func7, Tryd.ntmps7
  go_wp2_with fail
  have HB0 : Below w.heap.size w ((w.alloc (.cells #[.int .u8 o1, .int .u8 a1, .int .u16 b1, .int .u32 c1] 25)).alloc (.cells #[.int .u8 o2, .int .u8 a2, .int .u16 b2, .int .u32 c2] 25)) := by go_grown
  have hx0 : ((w.alloc (.cells #[.int .u8 o1, .int .u8 a1, .int .u16 b1, .int .u32 c1] 25)).alloc (.cells #[.int .u8 o2, .int .u8 a2, .int .u16 b2, .int .u32 c2] 25)).heap[w.heap.size]? = some (.cells #[.int .u8 o1, .int .u8 a1, .int .u16 b1, .int .u32 c1] 25) := (Below.heap_alloc _ _ _ (by simp)).trans (alloc_new _ _)
  have hy0 : ((w.alloc (.cells #[.int .u8 o1, .int .u8 a1, .int .u16 b1, .int .u32 c1] 25)).alloc (.cells #[.int .u8 o2, .int .u8 a2, .int .u16 b2, .int .u32 c2] 25)).heap[w.heap.size + 1]? = some (.cells #[.int .u8 o2, .int .u8 a2, .int .u16 b2, .int .u32 c2] 25) := by have := alloc_new (w.alloc (.cells #[.int .u8 o1, .int .u8 a1, .int .u16 b1, .int .u32 c1] 25)) (.cells #[.int .u8 o2, .int .u8 a2, .int .u16 b2, .int .u32 c2] 25); rwa [World.size_alloc] at this
  refine (HK.out _ HB0).mono ?_
  rintro e w1 ⟨rfl, hb1⟩
  have HB1 : Below w.heap.size w w1 := HB0.trans (hb1.mono HB0.size)
  have hx1 := (hb1.block _ (lt_of_block hx0)).trans hx0
  have hy1 := (hb1.block _ (lt_of_block hy0)).trans hy0
  clear HB0 hx0 hy0 hb1
  obtain ⟨V, hV⟩ : ∃ V, w.heap.size = V := ⟨_, rfl⟩
  rw [hV] at hx1 hy1 HB1 HM1 HM2 HT1 HT2 HO ⊢
  obtain ⟨x0, x1, x2, x3⟩ := cells4 hx1
  obtain ⟨y0, y1, y2, y3⟩ := cells4 hy1
  clear HK
  go_wp2_with fail
  refine (HM1.out _ HB1).mono ?_
  rintro e w2 ⟨rfl, hb2⟩
  have HB2 : Below V w w2 := HB1.trans (hb2.mono (by have := HB1.size; omega))
  have hx2 := (hb2.block _ (lt_of_block hx1)).trans hx1
  have hy2 := (hb2.block _ (lt_of_block hy1)).trans hy1
  clear HB1 hx1 hy1 hb2 x0 x1 x2 x3 y0 y1 y2 y3
  obtain ⟨x0, x1, x2, x3⟩ := cells4 hx2
  obtain ⟨y0, y1, y2, y3⟩ := cells4 hy2
  cases m1
  · have hL := HN.out rfl
    subst hL
    go_wp2_with fail
    refine (HM1.out _ HB2).mono ?_
    rintro e w3 ⟨rfl, hb3⟩
    have HB3 : Below V w w3 := HB2.trans (hb3.mono (by have := HB2.size; omega))
    have hx3 := (hb3.block _ (lt_of_block hx2)).trans hx2
    clear x0 x1 x2 x3 y0 y1 y2 y3
    obtain ⟨x0, x1, x2, x3⟩ := cells4 hx3
    go_wp2_with fail
    refine (HT1.out _ HB3).mono ?_
    rintro e w4 ⟨rfl, hb4⟩
    have HB4 : Below V w w4 := HB3.trans (hb4.mono (by have := HB3.size; omega))
    go_wp2_with fail
    go_ret
    exact ⟨ret_bool (by rw [Lib.toList_data, sB_list]; rfl), by rw [hV]; exact HB4⟩
  go_wp2_with fail
  refine (HM2.out _ HB2).mono ?_
  rintro e w3 ⟨rfl, hb3⟩
  have HB3 : Below V w w3 := HB2.trans (hb3.mono (by have := HB2.size; omega))
  have hx3 := (hb3.block _ (lt_of_block hx2)).trans hx2
  have hy3 := (hb3.block _ (lt_of_block hy2)).trans hy2
  clear HB2 hx2 hy2 hb3 x0 x1 x2 x3 y0 y1 y2 y3
  obtain ⟨x0, x1, x2, x3⟩ := cells4 hx3
  obtain ⟨y0, y1, y2, y3⟩ := cells4 hy3
  cases m2
  · go_wp2_with fail
    refine (HM1.out _ HB3).mono ?_
    rintro e w4 ⟨rfl, hb4⟩
    have HB4 : Below V w w4 := HB3.trans (hb4.mono (by have := HB3.size; omega))
    go_wp2_with fail
    go_ret
    exact ⟨rfl, by rw [hV]; exact HB4⟩
  obtain ⟨hE1, ho, hlen, htk, hlow, hstop, hmax⟩ := HY.out (by first | rfl | trivial) (by first | rfl | trivial)
  have ho := ho.symm
  subst ho
  have HLow := Lib.hid hlow
  have HLen := Lib.hid hlen
  have HStop := Lib.hid hstop
  have hix := Lib.hid (fun k (hk : k < L.length) => letter L k hk)
  have hsl : ∀ W, (Instr.slice 9 (.string (sB L)) none (some (.int .i64 (NM.length : Int))) none).run Tryd.prog W = .ok (.string (sB NM)) W := fun W => by
    rw [run_slice_string_h W 9 (sB L) Tryd.underlying9 .i64 NM.length (by omega) (by rw [sB_size]; omega), Int.toNat_natCast, extract_take, htk]
  have hsz : ((sB L).size : Int) = L.length := by rw [sB_size]
  have HSz := Lib.hid hsz
  clear HY HN hlow hlen hstop htk HM1 HM2 hsz
  generalize sB M = T at *
  go_wp2_with fail
  refine (HT1.out _ HB3).mono ?_
  rintro e w4 ⟨rfl, hb4⟩
  have HB4 : Below V w w4 := HB3.trans (hb4.mono (by have := HB3.size; omega))
  have hx4 := (hb4.block _ (lt_of_block hx3)).trans hx3
  have hy4 := (hb4.block _ (lt_of_block hy3)).trans hy3
  clear HB3 hx3 hy3 hb4 x0 x1 x2 x3 y0 y1 y2 y3 HT1
  have HE1 := Lib.hid hE1
  have HSL := Lib.hid hsl
  clear hE1 hsl
  go_wp2_with fail
  go_loopw [6] (fun i wr => ∃ k : Nat, k ≤ NM.length ∧ i = .int .i64 k ∧ wr = w4) (fun i _ => NM.length - (intOf i).toNat)
  case atStart => exact ⟨0, by omega, rfl, rfl⟩
  case round =>
    obtain ⟨k, hk, rfl, rfl⟩ := hrel
    by_cases hlt : k < NM.length
    · have hkl : k < L.length := Nat.lt_of_lt_of_le hlt HLen.out
      obtain ⟨g1, g2⟩ := HLow.out k hlt
      have hi := hix.out k hkl
      have hsz : (sB L).size = L.length := sB_size L
      have hd : decide ((k : Int) < (L.length : Int)) = true := decide_eq_true (by omega)
      generalize (L.getD k 0).toNat = z at *
      have hd1 : decide ((97 : Int) ≤ (z : Int)) = true := decide_eq_true (by omega)
      have hd2 : decide ((z : Int) ≤ 122) = true := decide_eq_true (by omega)
      clear g1 g2
      generalize L.length = LL at *
      generalize sB L = S at *
      go_wp2_with fail
      refine ⟨⟨k + 1, by omega, by simp, trivial⟩, by simp [intOf]; omega⟩
    · obtain rfl : k = NM.length := by omega
      have hE := Posts.ext_rel
      have hsV : V ≤ wr.heap.size := by have := HB4.size; omega
      have hE1 := HE1.out
      have hEQ := HE.out
      have hsl := HSL.out
      have hgd : ∀ (op : BinOp) (x y : Operand) (xs ys : Array Value) (W : World), (eqGuard op 25 x y (.agg xs) (.agg ys)).run Tryd.prog W = .ok () W := fun op x y xs ys W => run_eqGuard_agg W op 25 x y xs ys (by kernel_rfl)
      have hsz : (sB L).size = L.length := sB_size L
      rcases Nat.lt_or_ge NM.length L.length with hlt2 | hge2
      · have hz := (HStop.out.resolve_left (by omega))
        have hi := hix.out NM.length hlt2
        have hd : decide ((NM.length : Int) < (L.length : Int)) = true := decide_eq_true (by omega)
        have hd1 : decide ((97 : Int) ≤ ((L.getD NM.length 0).toNat : Int)) = false := decide_eq_false (by omega)
        clear hz
        generalize (L.getD NM.length 0).toNat = z at *
        go_wp2_with fail
        refine (wpIn_wide (n := 0)).1 (Posts.wpIn_region_tail hE 17 1 (Posts.At [Posts.is (.string (sB L)), Posts.is (.agg #[.int .u8 o2, .int .u8 a2, .int .u16 b2, .int .u32 c2]), Posts.is (.string T), Posts.is (.bool (E1)), Posts.is (.agg #[.int .u8 o1, .int .u8 a1, .int .u16 b1, .int .u32 c1]), Posts.is (.agg #[.int .u8 o2, .int .u8 a2, .int .u16 b2, .int .u32 c2]), Posts.is (.bool (E1)), Posts.is (.bool (true)), Posts.is (.bool (true)), Posts.is (.string (sB L)), Posts.is (.int .i64 (NM.length : Int)), Posts.is (.string (sB NM)), Posts.is (.int .u8 o1), Posts.is (.pointer (some ⟨V, 0, none⟩)), Posts.is (.int .u8 o1), Posts.is (.bool (true)), Posts.is (.bool (true))]) (fun _ _ => True) (by kernel_rfl) (by decide) (by kernel_rfl) (by kernel_rfl) (by kernel_rfl)
          (Posts.stable_at _ (by repeat' (first | exact trivial | (refine And.intro ?_ ?_) | exact Posts.is_stable _ | exact Posts.on_stable _ _ | assumption))) trivial ?_ ?_)
        · refine ⟨?_, ?_, ?_, ?_, ?_, ?_, ?_, ?_, ?_, ?_, ?_, ?_, ?_, ?_, ?_, ?_, ?_, trivial⟩
          · intro a X hX hS hD hJ hU
            obtain ⟨x0, x1, x2, x3⟩ := cells4 ((Posts.Ext.blk hX _ (lt_of_block hx4)).trans hx4)
            obtain ⟨y0, y1, y2, y3⟩ := cells4 ((Posts.Ext.blk hX _ (lt_of_block hy4)).trans hy4)
            have d5 := Posts.slot (show a.eval (.tmp 5) = .string (sB L) from hS.other 5 rfl)
            exact Posts.op_value (fun _ => trivial) rfl rfl (by intro c h; cases h) rfl (by rw [hS.size]; simp) (v := .string (sB L)) (by simp [execOp, d5,  go_sem, x0, x1, x2, x3, y0, y1, y2, y3, hE1, hEQ, hgd, hsl]) rfl (hE.refl _) trivial
          · intro a X hX hS hD hJ hU
            obtain ⟨x0, x1, x2, x3⟩ := cells4 ((Posts.Ext.blk hX _ (lt_of_block hx4)).trans hx4)
            obtain ⟨y0, y1, y2, y3⟩ := cells4 ((Posts.Ext.blk hX _ (lt_of_block hy4)).trans hy4)
            have d3 := Posts.slot (show a.eval (.tmp 3) = .pointer (some ⟨V + 1, 0, none⟩) from hS.other 3 rfl)
            exact Posts.op_value (fun _ => trivial) rfl rfl (by intro c h; cases h) rfl (by rw [hS.size]; simp) (v := .agg #[.int .u8 o2, .int .u8 a2, .int .u16 b2, .int .u32 c2]) (by simp [execOp, d3,  go_sem, x0, x1, x2, x3, y0, y1, y2, y3, hE1, hEQ, hgd, hsl]) rfl (hE.refl _) trivial
          · intro a X hX hS hD hJ hU
            obtain ⟨x0, x1, x2, x3⟩ := cells4 ((Posts.Ext.blk hX _ (lt_of_block hx4)).trans hx4)
            obtain ⟨y0, y1, y2, y3⟩ := cells4 ((Posts.Ext.blk hX _ (lt_of_block hy4)).trans hy4)
            have d45 := Posts.slot (show a.eval (.tmp 45) = .agg #[.int .u8 o2, .int .u8 a2, .int .u16 b2, .int .u32 c2] from hD.1)
            refine Posts.op_call (fun _ => trivial) rfl rfl rfl (by intro c h; cases h) rfl (by rw [hS.size]; simp) 13 #[.agg #[.int .u8 o2, .int .u8 a2, .int .u16 b2, .int .u32 c2]] (by simp [d45, go_sem]) ?_
            refine callsIn_wide.2 ((HT2.out X (HB4.trans (hX.mono hsV))).mono ?_)
            rintro e Y ⟨rfl, hbY⟩
            exact ⟨_, rfl, rfl, hbY, trivial⟩
          · intro a X hX hS hD hJ hU
            obtain ⟨x0, x1, x2, x3⟩ := cells4 ((Posts.Ext.blk hX _ (lt_of_block hx4)).trans hx4)
            obtain ⟨y0, y1, y2, y3⟩ := cells4 ((Posts.Ext.blk hX _ (lt_of_block hy4)).trans hy4)
            have d44 := Posts.slot (show a.eval (.tmp 44) = .string (sB L) from hD.1)
            have d46 := Posts.slot (show a.eval (.tmp 46) = .string T from hD.2.1)
            exact Posts.op_value (fun _ => trivial) rfl rfl (by intro c h; cases h) rfl (by rw [hS.size]; simp) (v := .bool (E1)) (by simp [execOp, d44, d46,  go_sem, x0, x1, x2, x3, y0, y1, y2, y3, hE1, hEQ, hgd, hsl]) rfl (hE.refl _) trivial
          · intro a X hX hS hD hJ hU
            obtain ⟨x0, x1, x2, x3⟩ := cells4 ((Posts.Ext.blk hX _ (lt_of_block hx4)).trans hx4)
            obtain ⟨y0, y1, y2, y3⟩ := cells4 ((Posts.Ext.blk hX _ (lt_of_block hy4)).trans hy4)
            have d2 := Posts.slot (show a.eval (.tmp 2) = .pointer (some ⟨V, 0, none⟩) from hS.other 2 rfl)
            exact Posts.op_value (fun _ => trivial) rfl rfl (by intro c h; cases h) rfl (by rw [hS.size]; simp) (v := .agg #[.int .u8 o1, .int .u8 a1, .int .u16 b1, .int .u32 c1]) (by simp [execOp, d2,  go_sem, x0, x1, x2, x3, y0, y1, y2, y3, hE1, hEQ, hgd, hsl]) rfl (hE.refl _) trivial
          · intro a X hX hS hD hJ hU
            obtain ⟨x0, x1, x2, x3⟩ := cells4 ((Posts.Ext.blk hX _ (lt_of_block hx4)).trans hx4)
            obtain ⟨y0, y1, y2, y3⟩ := cells4 ((Posts.Ext.blk hX _ (lt_of_block hy4)).trans hy4)
            have d3 := Posts.slot (show a.eval (.tmp 3) = .pointer (some ⟨V + 1, 0, none⟩) from hS.other 3 rfl)
            exact Posts.op_value (fun _ => trivial) rfl rfl (by intro c h; cases h) rfl (by rw [hS.size]; simp) (v := .agg #[.int .u8 o2, .int .u8 a2, .int .u16 b2, .int .u32 c2]) (by simp [execOp, d3,  go_sem, x0, x1, x2, x3, y0, y1, y2, y3, hE1, hEQ, hgd, hsl]) rfl (hE.refl _) trivial
          · intro a X hX hS hD hJ hU
            obtain ⟨x0, x1, x2, x3⟩ := cells4 ((Posts.Ext.blk hX _ (lt_of_block hx4)).trans hx4)
            obtain ⟨y0, y1, y2, y3⟩ := cells4 ((Posts.Ext.blk hX _ (lt_of_block hy4)).trans hy4)
            have d48 := Posts.slot (show a.eval (.tmp 48) = .agg #[.int .u8 o1, .int .u8 a1, .int .u16 b1, .int .u32 c1] from hD.1)
            have d49 := Posts.slot (show a.eval (.tmp 49) = .agg #[.int .u8 o2, .int .u8 a2, .int .u16 b2, .int .u32 c2] from hD.2.1)
            exact Posts.op_value (fun _ => trivial) rfl rfl (by intro c h; cases h) rfl (by rw [hS.size]; simp) (v := .bool (E1)) (by simp [execOp, d48, d49,  go_sem, x0, x1, x2, x3, y0, y1, y2, y3, hE1, hEQ, hgd, hsl]) rfl (hE.refl _) trivial
          · intro a X hX hS hD hJ hU
            obtain ⟨x0, x1, x2, x3⟩ := cells4 ((Posts.Ext.blk hX _ (lt_of_block hx4)).trans hx4)
            obtain ⟨y0, y1, y2, y3⟩ := cells4 ((Posts.Ext.blk hX _ (lt_of_block hy4)).trans hy4)
            have d47 := Posts.slot (show a.eval (.tmp 47) = .bool (E1) from hD.1)
            have d50 := Posts.slot (show a.eval (.tmp 50) = .bool (E1) from hD.2.1)
            exact Posts.op_value (fun _ => trivial) rfl rfl (by intro c h; cases h) rfl (by rw [hS.size]; simp) (v := .bool (true)) (by simp [execOp, d47, d50,  go_sem, x0, x1, x2, x3, y0, y1, y2, y3, hE1, hEQ, hgd, hsl]) rfl (hE.refl _) trivial
          · intro a X hX hS hD hJ hU
            obtain ⟨x0, x1, x2, x3⟩ := cells4 ((Posts.Ext.blk hX _ (lt_of_block hx4)).trans hx4)
            obtain ⟨y0, y1, y2, y3⟩ := cells4 ((Posts.Ext.blk hX _ (lt_of_block hy4)).trans hy4)
            have d51 := Posts.slot (show a.eval (.tmp 51) = .bool (true) from hD.1)
            exact Posts.op_value (fun _ => trivial) rfl rfl (by intro c h; cases h) rfl (by rw [hS.size]; simp) (v := .bool (true)) (by simp [execOp, d51,  go_sem, x0, x1, x2, x3, y0, y1, y2, y3, hE1, hEQ, hgd, hsl]) rfl (hE.refl _) trivial
          · intro a X hX hS hD hJ hU
            obtain ⟨x0, x1, x2, x3⟩ := cells4 ((Posts.Ext.blk hX _ (lt_of_block hx4)).trans hx4)
            obtain ⟨y0, y1, y2, y3⟩ := cells4 ((Posts.Ext.blk hX _ (lt_of_block hy4)).trans hy4)
            have d5 := Posts.slot (show a.eval (.tmp 5) = .string (sB L) from hS.other 5 rfl)
            exact Posts.op_value (fun _ => trivial) rfl (Posts.wanted_yes rfl rfl rfl (show a.eval (.tmp 52) = .bool true from hD.1)) (by intro c h; cases h) rfl (by rw [hS.size]; simp) (v := .string (sB L)) (by simp [execOp, d5,  go_sem, x0, x1, x2, x3, y0, y1, y2, y3, hE1, hEQ, hgd, hsl]) rfl (hE.refl _) trivial
          · intro a X hX hS hD hJ hU
            obtain ⟨x0, x1, x2, x3⟩ := cells4 ((Posts.Ext.blk hX _ (lt_of_block hx4)).trans hx4)
            obtain ⟨y0, y1, y2, y3⟩ := cells4 ((Posts.Ext.blk hX _ (lt_of_block hy4)).trans hy4)
            have d6 := Posts.slot (show a.eval (.tmp 6) = .int .i64 (NM.length : Int) from hS.other 6 rfl)
            exact Posts.op_value (fun _ => trivial) rfl (Posts.wanted_yes rfl rfl rfl (show a.eval (.tmp 52) = .bool true from hD.1)) (by intro c h; cases h) rfl (by rw [hS.size]; simp) (v := .int .i64 (NM.length : Int)) (by simp [execOp, d6,  go_sem, x0, x1, x2, x3, y0, y1, y2, y3, hE1, hEQ, hgd, hsl]) rfl (hE.refl _) trivial
          · intro a X hX hS hD hJ hU
            obtain ⟨x0, x1, x2, x3⟩ := cells4 ((Posts.Ext.blk hX _ (lt_of_block hx4)).trans hx4)
            obtain ⟨y0, y1, y2, y3⟩ := cells4 ((Posts.Ext.blk hX _ (lt_of_block hy4)).trans hy4)
            have d53 := Posts.slot (show a.eval (.tmp 53) = .string (sB L) from hD.1)
            have d54 := Posts.slot (show a.eval (.tmp 54) = .int .i64 (NM.length : Int) from hD.2.1)
            exact Posts.op_value (fun _ => trivial) rfl (Posts.wanted_yes rfl rfl rfl (show a.eval (.tmp 52) = .bool true from hD.2.2.1)) (by intro c h; cases h) rfl (by rw [hS.size]; simp) (v := .string (sB NM)) (by simp [execOp, d53, d54,  go_sem, x0, x1, x2, x3, y0, y1, y2, y3, hE1, hEQ, hgd, hsl]) rfl (hE.refl _) trivial
          · intro a X hX hS hD hJ hU
            obtain ⟨x0, x1, x2, x3⟩ := cells4 ((Posts.Ext.blk hX _ (lt_of_block hx4)).trans hx4)
            obtain ⟨y0, y1, y2, y3⟩ := cells4 ((Posts.Ext.blk hX _ (lt_of_block hy4)).trans hy4)
            have d55 := Posts.slot (show a.eval (.tmp 55) = .string (sB NM) from hD.1)
            refine Posts.op_call (fun _ => trivial) rfl rfl (Posts.wanted_yes rfl rfl rfl (show a.eval (.tmp 52) = .bool true from hD.2.1)) (by intro c h; cases h) rfl (by rw [hS.size]; simp) 22 #[.string (sB NM)] (by simp [d55, go_sem]) ?_
            refine callsIn_wide.2 ((HO.out X (HB4.trans (hX.mono hsV))).mono ?_)
            rintro e Y ⟨rfl, hbY⟩
            exact ⟨_, rfl, rfl, hbY, trivial⟩
          · intro a X hX hS hD hJ hU
            obtain ⟨x0, x1, x2, x3⟩ := cells4 ((Posts.Ext.blk hX _ (lt_of_block hx4)).trans hx4)
            obtain ⟨y0, y1, y2, y3⟩ := cells4 ((Posts.Ext.blk hX _ (lt_of_block hy4)).trans hy4)
            have d2 := Posts.slot (show a.eval (.tmp 2) = .pointer (some ⟨V, 0, none⟩) from hS.other 2 rfl)
            exact Posts.op_value (fun _ => trivial) rfl (Posts.wanted_yes rfl rfl rfl (show a.eval (.tmp 52) = .bool true from hD.1)) (by intro c h; cases h) rfl (by rw [hS.size]; simp) (v := .pointer (some ⟨V, 0, none⟩)) (by simp [execOp, d2,  go_sem, x0, x1, x2, x3, y0, y1, y2, y3, hE1, hEQ, hgd, hsl]) rfl (hE.refl _) trivial
          · intro a X hX hS hD hJ hU
            obtain ⟨x0, x1, x2, x3⟩ := cells4 ((Posts.Ext.blk hX _ (lt_of_block hx4)).trans hx4)
            obtain ⟨y0, y1, y2, y3⟩ := cells4 ((Posts.Ext.blk hX _ (lt_of_block hy4)).trans hy4)
            have d57 := Posts.slot (show a.eval (.tmp 57) = .pointer (some ⟨V, 0, none⟩) from hD.1)
            exact Posts.op_value (fun _ => trivial) rfl (Posts.wanted_yes rfl rfl rfl (show a.eval (.tmp 52) = .bool true from hD.2.1)) (by intro c h; cases h) rfl (by rw [hS.size]; simp) (v := .int .u8 o1) (by simp [execOp, d57,  go_sem, x0, x1, x2, x3, y0, y1, y2, y3, hE1, hEQ, hgd, hsl]) rfl (hE.refl _) trivial
          · intro a X hX hS hD hJ hU
            obtain ⟨x0, x1, x2, x3⟩ := cells4 ((Posts.Ext.blk hX _ (lt_of_block hx4)).trans hx4)
            obtain ⟨y0, y1, y2, y3⟩ := cells4 ((Posts.Ext.blk hX _ (lt_of_block hy4)).trans hy4)
            have d56 := Posts.slot (show a.eval (.tmp 56) = .int .u8 o1 from hD.1)
            have d58 := Posts.slot (show a.eval (.tmp 58) = .int .u8 o1 from hD.2.1)
            exact Posts.op_value (fun _ => trivial) rfl (Posts.wanted_yes rfl rfl rfl (show a.eval (.tmp 52) = .bool true from hD.2.2.1)) (by intro c h; cases h) rfl (by rw [hS.size]; simp) (v := .bool (true)) (by simp [execOp, d56, d58,  go_sem, x0, x1, x2, x3, y0, y1, y2, y3, hE1, hEQ, hgd, hsl]) rfl (hE.refl _) trivial
          · intro a X hX hS hD hJ hU
            obtain ⟨x0, x1, x2, x3⟩ := cells4 ((Posts.Ext.blk hX _ (lt_of_block hx4)).trans hx4)
            obtain ⟨y0, y1, y2, y3⟩ := cells4 ((Posts.Ext.blk hX _ (lt_of_block hy4)).trans hy4)
            have dc := Posts.slot (show a.eval (.tmp 52) = .bool (true) from hD.1)
            rcases Bool.eq_false_or_eq_true (true) with hg | hg
            · have dx := Posts.slot (show a.eval (.tmp 59) = .bool (true) from hD.2.1)
              exact Posts.op_value (fun _ => trivial) rfl rfl (by intro c h; cases h) rfl (by rw [hS.size]; simp) (v := .bool (true)) (by simp [execOp, dc, hg, dx,  go_sem, x0, x1, x2, x3, y0, y1, y2, y3, hE1, hEQ, hgd, hsl]) rfl (hE.refl _) trivial
            · cases hg
        · intro a0 Y hY hS hJt hL
          have p44 := Posts.slot (show a0.eval (.tmp 44) = .string (sB L) from hL.1)
          have p45 := Posts.slot (show a0.eval (.tmp 45) = .agg #[.int .u8 o2, .int .u8 a2, .int .u16 b2, .int .u32 c2] from hL.2.1)
          have p46 := Posts.slot (show a0.eval (.tmp 46) = .string T from hL.2.2.1)
          have p47 := Posts.slot (show a0.eval (.tmp 47) = .bool (E1) from hL.2.2.2.1)
          have p48 := Posts.slot (show a0.eval (.tmp 48) = .agg #[.int .u8 o1, .int .u8 a1, .int .u16 b1, .int .u32 c1] from hL.2.2.2.2.1)
          have p49 := Posts.slot (show a0.eval (.tmp 49) = .agg #[.int .u8 o2, .int .u8 a2, .int .u16 b2, .int .u32 c2] from hL.2.2.2.2.2.1)
          have p50 := Posts.slot (show a0.eval (.tmp 50) = .bool (E1) from hL.2.2.2.2.2.2.1)
          have p51 := Posts.slot (show a0.eval (.tmp 51) = .bool (true) from hL.2.2.2.2.2.2.2.1)
          have p52 := Posts.slot (show a0.eval (.tmp 52) = .bool (true) from hL.2.2.2.2.2.2.2.2.1)
          have p53 := Posts.slot (show a0.eval (.tmp 53) = .string (sB L) from hL.2.2.2.2.2.2.2.2.2.1)
          have p54 := Posts.slot (show a0.eval (.tmp 54) = .int .i64 (NM.length : Int) from hL.2.2.2.2.2.2.2.2.2.2.1)
          have p55 := Posts.slot (show a0.eval (.tmp 55) = .string (sB NM) from hL.2.2.2.2.2.2.2.2.2.2.2.1)
          have p56 := Posts.slot (show a0.eval (.tmp 56) = .int .u8 o1 from hL.2.2.2.2.2.2.2.2.2.2.2.2.1)
          have p57 := Posts.slot (show a0.eval (.tmp 57) = .pointer (some ⟨V, 0, none⟩) from hL.2.2.2.2.2.2.2.2.2.2.2.2.2.1)
          have p58 := Posts.slot (show a0.eval (.tmp 58) = .int .u8 o1 from hL.2.2.2.2.2.2.2.2.2.2.2.2.2.2.1)
          have p59 := Posts.slot (show a0.eval (.tmp 59) = .bool (true) from hL.2.2.2.2.2.2.2.2.2.2.2.2.2.2.2.1)
          have p60 := Posts.slot (show a0.eval (.tmp 60) = .bool (true) from hL.2.2.2.2.2.2.2.2.2.2.2.2.2.2.2.2.1)
          have hfr := hS.frame [44, 45, 46, 47, 48, 49, 50, 51, 52, 53, 54, 55, 56, 57, 58, 59, 60, 4] (fun t ht => by simp [Posts.isDst] at ht; first | (rcases ht with h | h | h | h | h | h | h | h | h | h | h | h | h | h | h | h | h | h <;> subst h <;> simp) | (subst ht; simp))
          simp only [List.foldl_cons, List.foldl_nil] at hfr
          have hdf := hS.defers
          simp only [Array.getD_eq_getD_getElem?] at hfr
          clear hL hS
          generalize a0.tmps[44]?.getD undef = v44 at *
          generalize a0.tmps[45]?.getD undef = v45 at *
          generalize a0.tmps[46]?.getD undef = v46 at *
          generalize a0.tmps[47]?.getD undef = v47 at *
          generalize a0.tmps[48]?.getD undef = v48 at *
          generalize a0.tmps[49]?.getD undef = v49 at *
          generalize a0.tmps[50]?.getD undef = v50 at *
          generalize a0.tmps[51]?.getD undef = v51 at *
          generalize a0.tmps[52]?.getD undef = v52 at *
          generalize a0.tmps[53]?.getD undef = v53 at *
          generalize a0.tmps[54]?.getD undef = v54 at *
          generalize a0.tmps[55]?.getD undef = v55 at *
          generalize a0.tmps[56]?.getD undef = v56 at *
          generalize a0.tmps[57]?.getD undef = v57 at *
          generalize a0.tmps[58]?.getD undef = v58 at *
          generalize a0.tmps[59]?.getD undef = v59 at *
          generalize a0.tmps[60]?.getD undef = v60 at *
          generalize a0.tmps[4]?.getD undef = v4 at *
          obtain rfl := p44
          obtain rfl := p45
          obtain rfl := p46
          obtain rfl := p47
          obtain rfl := p48
          obtain rfl := p49
          obtain rfl := p50
          obtain rfl := p51
          obtain rfl := p52
          obtain rfl := p53
          obtain rfl := p54
          obtain rfl := p55
          obtain rfl := p56
          obtain rfl := p57
          obtain rfl := p58
          obtain rfl := p59
          obtain rfl := p60
          obtain ⟨tm, df⟩ := a0
          simp only [List.setIfInBounds_toArray, List.set_cons_succ, List.set_cons_zero] at hfr hdf
          subst hfr
          subst hdf
          refine Posts.tail_op 17 (by kernel_rfl) (Posts.op_val (fun _ => trivial) rfl rfl (by intro c h; cases h) (v := .bool true) (Y := Y) (by simp [execOp, Act.eval, go_sem]) ?_)
          refine ⟨by kernel_rfl, ?_⟩
          simp only [Exit.inBlock, Exit.then]
          rename_i hK
          refine hK _ _ ?_
          go_wp2_with fail
          go_ret
          exact ⟨rfl, by rw [hV]; exact HB4.trans (hY.mono hsV)⟩
      · have hd : decide ((NM.length : Int) < (L.length : Int)) = false := decide_eq_false (by omega)
        have hnl : ¬ NM.length < L.length := by omega
        go_wp2_with fail
        refine (wpIn_wide (n := 0)).1 (Posts.wpIn_region_tail hE 17 1 (Posts.At [Posts.is (.string (sB L)), Posts.is (.agg #[.int .u8 o2, .int .u8 a2, .int .u16 b2, .int .u32 c2]), Posts.is (.string T), Posts.is (.bool (E1)), Posts.is (.agg #[.int .u8 o1, .int .u8 a1, .int .u16 b1, .int .u32 c1]), Posts.is (.agg #[.int .u8 o2, .int .u8 a2, .int .u16 b2, .int .u32 c2]), Posts.is (.bool (E1)), Posts.is (.bool (true)), Posts.is (.bool (true)), Posts.is (.string (sB L)), Posts.is (.int .i64 (NM.length : Int)), Posts.is (.string (sB NM)), Posts.is (.int .u8 o1), Posts.is (.pointer (some ⟨V, 0, none⟩)), Posts.is (.int .u8 o1), Posts.is (.bool (true)), Posts.is (.bool (true))]) (fun _ _ => True) (by kernel_rfl) (by decide) (by kernel_rfl) (by kernel_rfl) (by kernel_rfl)
          (Posts.stable_at _ (by repeat' (first | exact trivial | (refine And.intro ?_ ?_) | exact Posts.is_stable _ | exact Posts.on_stable _ _ | assumption))) trivial ?_ ?_)
        · refine ⟨?_, ?_, ?_, ?_, ?_, ?_, ?_, ?_, ?_, ?_, ?_, ?_, ?_, ?_, ?_, ?_, ?_, trivial⟩
          · intro a X hX hS hD hJ hU
            obtain ⟨x0, x1, x2, x3⟩ := cells4 ((Posts.Ext.blk hX _ (lt_of_block hx4)).trans hx4)
            obtain ⟨y0, y1, y2, y3⟩ := cells4 ((Posts.Ext.blk hX _ (lt_of_block hy4)).trans hy4)
            have d5 := Posts.slot (show a.eval (.tmp 5) = .string (sB L) from hS.other 5 rfl)
            exact Posts.op_value (fun _ => trivial) rfl rfl (by intro c h; cases h) rfl (by rw [hS.size]; simp) (v := .string (sB L)) (by simp [execOp, d5,  go_sem, x0, x1, x2, x3, y0, y1, y2, y3, hE1, hEQ, hgd, hsl]) rfl (hE.refl _) trivial
          · intro a X hX hS hD hJ hU
            obtain ⟨x0, x1, x2, x3⟩ := cells4 ((Posts.Ext.blk hX _ (lt_of_block hx4)).trans hx4)
            obtain ⟨y0, y1, y2, y3⟩ := cells4 ((Posts.Ext.blk hX _ (lt_of_block hy4)).trans hy4)
            have d3 := Posts.slot (show a.eval (.tmp 3) = .pointer (some ⟨V + 1, 0, none⟩) from hS.other 3 rfl)
            exact Posts.op_value (fun _ => trivial) rfl rfl (by intro c h; cases h) rfl (by rw [hS.size]; simp) (v := .agg #[.int .u8 o2, .int .u8 a2, .int .u16 b2, .int .u32 c2]) (by simp [execOp, d3,  go_sem, x0, x1, x2, x3, y0, y1, y2, y3, hE1, hEQ, hgd, hsl]) rfl (hE.refl _) trivial
          · intro a X hX hS hD hJ hU
            obtain ⟨x0, x1, x2, x3⟩ := cells4 ((Posts.Ext.blk hX _ (lt_of_block hx4)).trans hx4)
            obtain ⟨y0, y1, y2, y3⟩ := cells4 ((Posts.Ext.blk hX _ (lt_of_block hy4)).trans hy4)
            have d45 := Posts.slot (show a.eval (.tmp 45) = .agg #[.int .u8 o2, .int .u8 a2, .int .u16 b2, .int .u32 c2] from hD.1)
            refine Posts.op_call (fun _ => trivial) rfl rfl rfl (by intro c h; cases h) rfl (by rw [hS.size]; simp) 13 #[.agg #[.int .u8 o2, .int .u8 a2, .int .u16 b2, .int .u32 c2]] (by simp [d45, go_sem]) ?_
            refine callsIn_wide.2 ((HT2.out X (HB4.trans (hX.mono hsV))).mono ?_)
            rintro e Y ⟨rfl, hbY⟩
            exact ⟨_, rfl, rfl, hbY, trivial⟩
          · intro a X hX hS hD hJ hU
            obtain ⟨x0, x1, x2, x3⟩ := cells4 ((Posts.Ext.blk hX _ (lt_of_block hx4)).trans hx4)
            obtain ⟨y0, y1, y2, y3⟩ := cells4 ((Posts.Ext.blk hX _ (lt_of_block hy4)).trans hy4)
            have d44 := Posts.slot (show a.eval (.tmp 44) = .string (sB L) from hD.1)
            have d46 := Posts.slot (show a.eval (.tmp 46) = .string T from hD.2.1)
            exact Posts.op_value (fun _ => trivial) rfl rfl (by intro c h; cases h) rfl (by rw [hS.size]; simp) (v := .bool (E1)) (by simp [execOp, d44, d46,  go_sem, x0, x1, x2, x3, y0, y1, y2, y3, hE1, hEQ, hgd, hsl]) rfl (hE.refl _) trivial
          · intro a X hX hS hD hJ hU
            obtain ⟨x0, x1, x2, x3⟩ := cells4 ((Posts.Ext.blk hX _ (lt_of_block hx4)).trans hx4)
            obtain ⟨y0, y1, y2, y3⟩ := cells4 ((Posts.Ext.blk hX _ (lt_of_block hy4)).trans hy4)
            have d2 := Posts.slot (show a.eval (.tmp 2) = .pointer (some ⟨V, 0, none⟩) from hS.other 2 rfl)
            exact Posts.op_value (fun _ => trivial) rfl rfl (by intro c h; cases h) rfl (by rw [hS.size]; simp) (v := .agg #[.int .u8 o1, .int .u8 a1, .int .u16 b1, .int .u32 c1]) (by simp [execOp, d2,  go_sem, x0, x1, x2, x3, y0, y1, y2, y3, hE1, hEQ, hgd, hsl]) rfl (hE.refl _) trivial
          · intro a X hX hS hD hJ hU
            obtain ⟨x0, x1, x2, x3⟩ := cells4 ((Posts.Ext.blk hX _ (lt_of_block hx4)).trans hx4)
            obtain ⟨y0, y1, y2, y3⟩ := cells4 ((Posts.Ext.blk hX _ (lt_of_block hy4)).trans hy4)
            have d3 := Posts.slot (show a.eval (.tmp 3) = .pointer (some ⟨V + 1, 0, none⟩) from hS.other 3 rfl)
            exact Posts.op_value (fun _ => trivial) rfl rfl (by intro c h; cases h) rfl (by rw [hS.size]; simp) (v := .agg #[.int .u8 o2, .int .u8 a2, .int .u16 b2, .int .u32 c2]) (by simp [execOp, d3,  go_sem, x0, x1, x2, x3, y0, y1, y2, y3, hE1, hEQ, hgd, hsl]) rfl (hE.refl _) trivial
          · intro a X hX hS hD hJ hU
            obtain ⟨x0, x1, x2, x3⟩ := cells4 ((Posts.Ext.blk hX _ (lt_of_block hx4)).trans hx4)
            obtain ⟨y0, y1, y2, y3⟩ := cells4 ((Posts.Ext.blk hX _ (lt_of_block hy4)).trans hy4)
            have d48 := Posts.slot (show a.eval (.tmp 48) = .agg #[.int .u8 o1, .int .u8 a1, .int .u16 b1, .int .u32 c1] from hD.1)
            have d49 := Posts.slot (show a.eval (.tmp 49) = .agg #[.int .u8 o2, .int .u8 a2, .int .u16 b2, .int .u32 c2] from hD.2.1)
            exact Posts.op_value (fun _ => trivial) rfl rfl (by intro c h; cases h) rfl (by rw [hS.size]; simp) (v := .bool (E1)) (by simp [execOp, d48, d49,  go_sem, x0, x1, x2, x3, y0, y1, y2, y3, hE1, hEQ, hgd, hsl]) rfl (hE.refl _) trivial
          · intro a X hX hS hD hJ hU
            obtain ⟨x0, x1, x2, x3⟩ := cells4 ((Posts.Ext.blk hX _ (lt_of_block hx4)).trans hx4)
            obtain ⟨y0, y1, y2, y3⟩ := cells4 ((Posts.Ext.blk hX _ (lt_of_block hy4)).trans hy4)
            have d47 := Posts.slot (show a.eval (.tmp 47) = .bool (E1) from hD.1)
            have d50 := Posts.slot (show a.eval (.tmp 50) = .bool (E1) from hD.2.1)
            exact Posts.op_value (fun _ => trivial) rfl rfl (by intro c h; cases h) rfl (by rw [hS.size]; simp) (v := .bool (true)) (by simp [execOp, d47, d50,  go_sem, x0, x1, x2, x3, y0, y1, y2, y3, hE1, hEQ, hgd, hsl]) rfl (hE.refl _) trivial
          · intro a X hX hS hD hJ hU
            obtain ⟨x0, x1, x2, x3⟩ := cells4 ((Posts.Ext.blk hX _ (lt_of_block hx4)).trans hx4)
            obtain ⟨y0, y1, y2, y3⟩ := cells4 ((Posts.Ext.blk hX _ (lt_of_block hy4)).trans hy4)
            have d51 := Posts.slot (show a.eval (.tmp 51) = .bool (true) from hD.1)
            exact Posts.op_value (fun _ => trivial) rfl rfl (by intro c h; cases h) rfl (by rw [hS.size]; simp) (v := .bool (true)) (by simp [execOp, d51,  go_sem, x0, x1, x2, x3, y0, y1, y2, y3, hE1, hEQ, hgd, hsl]) rfl (hE.refl _) trivial
          · intro a X hX hS hD hJ hU
            obtain ⟨x0, x1, x2, x3⟩ := cells4 ((Posts.Ext.blk hX _ (lt_of_block hx4)).trans hx4)
            obtain ⟨y0, y1, y2, y3⟩ := cells4 ((Posts.Ext.blk hX _ (lt_of_block hy4)).trans hy4)
            have d5 := Posts.slot (show a.eval (.tmp 5) = .string (sB L) from hS.other 5 rfl)
            exact Posts.op_value (fun _ => trivial) rfl (Posts.wanted_yes rfl rfl rfl (show a.eval (.tmp 52) = .bool true from hD.1)) (by intro c h; cases h) rfl (by rw [hS.size]; simp) (v := .string (sB L)) (by simp [execOp, d5,  go_sem, x0, x1, x2, x3, y0, y1, y2, y3, hE1, hEQ, hgd, hsl]) rfl (hE.refl _) trivial
          · intro a X hX hS hD hJ hU
            obtain ⟨x0, x1, x2, x3⟩ := cells4 ((Posts.Ext.blk hX _ (lt_of_block hx4)).trans hx4)
            obtain ⟨y0, y1, y2, y3⟩ := cells4 ((Posts.Ext.blk hX _ (lt_of_block hy4)).trans hy4)
            have d6 := Posts.slot (show a.eval (.tmp 6) = .int .i64 (NM.length : Int) from hS.other 6 rfl)
            exact Posts.op_value (fun _ => trivial) rfl (Posts.wanted_yes rfl rfl rfl (show a.eval (.tmp 52) = .bool true from hD.1)) (by intro c h; cases h) rfl (by rw [hS.size]; simp) (v := .int .i64 (NM.length : Int)) (by simp [execOp, d6,  go_sem, x0, x1, x2, x3, y0, y1, y2, y3, hE1, hEQ, hgd, hsl]) rfl (hE.refl _) trivial
          · intro a X hX hS hD hJ hU
            obtain ⟨x0, x1, x2, x3⟩ := cells4 ((Posts.Ext.blk hX _ (lt_of_block hx4)).trans hx4)
            obtain ⟨y0, y1, y2, y3⟩ := cells4 ((Posts.Ext.blk hX _ (lt_of_block hy4)).trans hy4)
            have d53 := Posts.slot (show a.eval (.tmp 53) = .string (sB L) from hD.1)
            have d54 := Posts.slot (show a.eval (.tmp 54) = .int .i64 (NM.length : Int) from hD.2.1)
            exact Posts.op_value (fun _ => trivial) rfl (Posts.wanted_yes rfl rfl rfl (show a.eval (.tmp 52) = .bool true from hD.2.2.1)) (by intro c h; cases h) rfl (by rw [hS.size]; simp) (v := .string (sB NM)) (by simp [execOp, d53, d54,  go_sem, x0, x1, x2, x3, y0, y1, y2, y3, hE1, hEQ, hgd, hsl]) rfl (hE.refl _) trivial
          · intro a X hX hS hD hJ hU
            obtain ⟨x0, x1, x2, x3⟩ := cells4 ((Posts.Ext.blk hX _ (lt_of_block hx4)).trans hx4)
            obtain ⟨y0, y1, y2, y3⟩ := cells4 ((Posts.Ext.blk hX _ (lt_of_block hy4)).trans hy4)
            have d55 := Posts.slot (show a.eval (.tmp 55) = .string (sB NM) from hD.1)
            refine Posts.op_call (fun _ => trivial) rfl rfl (Posts.wanted_yes rfl rfl rfl (show a.eval (.tmp 52) = .bool true from hD.2.1)) (by intro c h; cases h) rfl (by rw [hS.size]; simp) 22 #[.string (sB NM)] (by simp [d55, go_sem]) ?_
            refine callsIn_wide.2 ((HO.out X (HB4.trans (hX.mono hsV))).mono ?_)
            rintro e Y ⟨rfl, hbY⟩
            exact ⟨_, rfl, rfl, hbY, trivial⟩
          · intro a X hX hS hD hJ hU
            obtain ⟨x0, x1, x2, x3⟩ := cells4 ((Posts.Ext.blk hX _ (lt_of_block hx4)).trans hx4)
            obtain ⟨y0, y1, y2, y3⟩ := cells4 ((Posts.Ext.blk hX _ (lt_of_block hy4)).trans hy4)
            have d2 := Posts.slot (show a.eval (.tmp 2) = .pointer (some ⟨V, 0, none⟩) from hS.other 2 rfl)
            exact Posts.op_value (fun _ => trivial) rfl (Posts.wanted_yes rfl rfl rfl (show a.eval (.tmp 52) = .bool true from hD.1)) (by intro c h; cases h) rfl (by rw [hS.size]; simp) (v := .pointer (some ⟨V, 0, none⟩)) (by simp [execOp, d2,  go_sem, x0, x1, x2, x3, y0, y1, y2, y3, hE1, hEQ, hgd, hsl]) rfl (hE.refl _) trivial
          · intro a X hX hS hD hJ hU
            obtain ⟨x0, x1, x2, x3⟩ := cells4 ((Posts.Ext.blk hX _ (lt_of_block hx4)).trans hx4)
            obtain ⟨y0, y1, y2, y3⟩ := cells4 ((Posts.Ext.blk hX _ (lt_of_block hy4)).trans hy4)
            have d57 := Posts.slot (show a.eval (.tmp 57) = .pointer (some ⟨V, 0, none⟩) from hD.1)
            exact Posts.op_value (fun _ => trivial) rfl (Posts.wanted_yes rfl rfl rfl (show a.eval (.tmp 52) = .bool true from hD.2.1)) (by intro c h; cases h) rfl (by rw [hS.size]; simp) (v := .int .u8 o1) (by simp [execOp, d57,  go_sem, x0, x1, x2, x3, y0, y1, y2, y3, hE1, hEQ, hgd, hsl]) rfl (hE.refl _) trivial
          · intro a X hX hS hD hJ hU
            obtain ⟨x0, x1, x2, x3⟩ := cells4 ((Posts.Ext.blk hX _ (lt_of_block hx4)).trans hx4)
            obtain ⟨y0, y1, y2, y3⟩ := cells4 ((Posts.Ext.blk hX _ (lt_of_block hy4)).trans hy4)
            have d56 := Posts.slot (show a.eval (.tmp 56) = .int .u8 o1 from hD.1)
            have d58 := Posts.slot (show a.eval (.tmp 58) = .int .u8 o1 from hD.2.1)
            exact Posts.op_value (fun _ => trivial) rfl (Posts.wanted_yes rfl rfl rfl (show a.eval (.tmp 52) = .bool true from hD.2.2.1)) (by intro c h; cases h) rfl (by rw [hS.size]; simp) (v := .bool (true)) (by simp [execOp, d56, d58,  go_sem, x0, x1, x2, x3, y0, y1, y2, y3, hE1, hEQ, hgd, hsl]) rfl (hE.refl _) trivial
          · intro a X hX hS hD hJ hU
            obtain ⟨x0, x1, x2, x3⟩ := cells4 ((Posts.Ext.blk hX _ (lt_of_block hx4)).trans hx4)
            obtain ⟨y0, y1, y2, y3⟩ := cells4 ((Posts.Ext.blk hX _ (lt_of_block hy4)).trans hy4)
            have dc := Posts.slot (show a.eval (.tmp 52) = .bool (true) from hD.1)
            rcases Bool.eq_false_or_eq_true (true) with hg | hg
            · have dx := Posts.slot (show a.eval (.tmp 59) = .bool (true) from hD.2.1)
              exact Posts.op_value (fun _ => trivial) rfl rfl (by intro c h; cases h) rfl (by rw [hS.size]; simp) (v := .bool (true)) (by simp [execOp, dc, hg, dx,  go_sem, x0, x1, x2, x3, y0, y1, y2, y3, hE1, hEQ, hgd, hsl]) rfl (hE.refl _) trivial
            · cases hg
        · intro a0 Y hY hS hJt hL
          have p44 := Posts.slot (show a0.eval (.tmp 44) = .string (sB L) from hL.1)
          have p45 := Posts.slot (show a0.eval (.tmp 45) = .agg #[.int .u8 o2, .int .u8 a2, .int .u16 b2, .int .u32 c2] from hL.2.1)
          have p46 := Posts.slot (show a0.eval (.tmp 46) = .string T from hL.2.2.1)
          have p47 := Posts.slot (show a0.eval (.tmp 47) = .bool (E1) from hL.2.2.2.1)
          have p48 := Posts.slot (show a0.eval (.tmp 48) = .agg #[.int .u8 o1, .int .u8 a1, .int .u16 b1, .int .u32 c1] from hL.2.2.2.2.1)
          have p49 := Posts.slot (show a0.eval (.tmp 49) = .agg #[.int .u8 o2, .int .u8 a2, .int .u16 b2, .int .u32 c2] from hL.2.2.2.2.2.1)
          have p50 := Posts.slot (show a0.eval (.tmp 50) = .bool (E1) from hL.2.2.2.2.2.2.1)
          have p51 := Posts.slot (show a0.eval (.tmp 51) = .bool (true) from hL.2.2.2.2.2.2.2.1)
          have p52 := Posts.slot (show a0.eval (.tmp 52) = .bool (true) from hL.2.2.2.2.2.2.2.2.1)
          have p53 := Posts.slot (show a0.eval (.tmp 53) = .string (sB L) from hL.2.2.2.2.2.2.2.2.2.1)
          have p54 := Posts.slot (show a0.eval (.tmp 54) = .int .i64 (NM.length : Int) from hL.2.2.2.2.2.2.2.2.2.2.1)
          have p55 := Posts.slot (show a0.eval (.tmp 55) = .string (sB NM) from hL.2.2.2.2.2.2.2.2.2.2.2.1)
          have p56 := Posts.slot (show a0.eval (.tmp 56) = .int .u8 o1 from hL.2.2.2.2.2.2.2.2.2.2.2.2.1)
          have p57 := Posts.slot (show a0.eval (.tmp 57) = .pointer (some ⟨V, 0, none⟩) from hL.2.2.2.2.2.2.2.2.2.2.2.2.2.1)
          have p58 := Posts.slot (show a0.eval (.tmp 58) = .int .u8 o1 from hL.2.2.2.2.2.2.2.2.2.2.2.2.2.2.1)
          have p59 := Posts.slot (show a0.eval (.tmp 59) = .bool (true) from hL.2.2.2.2.2.2.2.2.2.2.2.2.2.2.2.1)
          have p60 := Posts.slot (show a0.eval (.tmp 60) = .bool (true) from hL.2.2.2.2.2.2.2.2.2.2.2.2.2.2.2.2.1)
          have hfr := hS.frame [44, 45, 46, 47, 48, 49, 50, 51, 52, 53, 54, 55, 56, 57, 58, 59, 60, 4] (fun t ht => by simp [Posts.isDst] at ht; first | (rcases ht with h | h | h | h | h | h | h | h | h | h | h | h | h | h | h | h | h | h <;> subst h <;> simp) | (subst ht; simp))
          simp only [List.foldl_cons, List.foldl_nil] at hfr
          have hdf := hS.defers
          simp only [Array.getD_eq_getD_getElem?] at hfr
          clear hL hS
          generalize a0.tmps[44]?.getD undef = v44 at *
          generalize a0.tmps[45]?.getD undef = v45 at *
          generalize a0.tmps[46]?.getD undef = v46 at *
          generalize a0.tmps[47]?.getD undef = v47 at *
          generalize a0.tmps[48]?.getD undef = v48 at *
          generalize a0.tmps[49]?.getD undef = v49 at *
          generalize a0.tmps[50]?.getD undef = v50 at *
          generalize a0.tmps[51]?.getD undef = v51 at *
          generalize a0.tmps[52]?.getD undef = v52 at *
          generalize a0.tmps[53]?.getD undef = v53 at *
          generalize a0.tmps[54]?.getD undef = v54 at *
          generalize a0.tmps[55]?.getD undef = v55 at *
          generalize a0.tmps[56]?.getD undef = v56 at *
          generalize a0.tmps[57]?.getD undef = v57 at *
          generalize a0.tmps[58]?.getD undef = v58 at *
          generalize a0.tmps[59]?.getD undef = v59 at *
          generalize a0.tmps[60]?.getD undef = v60 at *
          generalize a0.tmps[4]?.getD undef = v4 at *
          obtain rfl := p44
          obtain rfl := p45
          obtain rfl := p46
          obtain rfl := p47
          obtain rfl := p48
          obtain rfl := p49
          obtain rfl := p50
          obtain rfl := p51
          obtain rfl := p52
          obtain rfl := p53
          obtain rfl := p54
          obtain rfl := p55
          obtain rfl := p56
          obtain rfl := p57
          obtain rfl := p58
          obtain rfl := p59
          obtain rfl := p60
          obtain ⟨tm, df⟩ := a0
          simp only [List.setIfInBounds_toArray, List.set_cons_succ, List.set_cons_zero] at hfr hdf
          subst hfr
          subst hdf
          refine Posts.tail_op 17 (by kernel_rfl) (Posts.op_val (fun _ => trivial) rfl rfl (by intro c h; cases h) (v := .bool true) (Y := Y) (by simp [execOp, Act.eval, go_sem]) ?_)
          refine ⟨by kernel_rfl, ?_⟩
          simp only [Exit.inBlock, Exit.then]
          rename_i hK
          refine hK _ _ ?_
          go_wp2_with fail
          go_ret
          exact ⟨rfl, by rw [hV]; exact HB4.trans (hY.mono hsV)⟩
/-- what the walk gives, for every argument, in every world that holds the tables -/
theorem contract (H : Type) (enc : TypeId × Value → H) (W : World) (base : Nat) (args : Array Value) (ds gs : List (DataW H)) (before : List MemPlace)
    (hval : ∀ (j : Nat) t v, Tryd.f7.params[j]? = some t → args[j]? = some v → Value.okWide Tryd.prog W .any base t v)
    (hW : DataW.Whole enc Tryd.prog Tryd.f7.params.toList Rows.isaTextsSpec.vars false W args.toList ds gs before) (hL : laidMetH Tryd.prog Rows.isaTextsRow.laid W) :
    Calls Tryd.prog 7 args W fun e W' => ∃ v, e = .returned v ∧ Rows.isaTextsSpec.post enc Tryd.prog Tryd.f7 false true false false W args v W' := by
  have hW' := hW
  obtain ⟨p, q, hA0, hV, rfl, hfz, hnd⟩ := hW
  have hA : DataW.TrodAll enc Tryd.prog W 0 (fun _ => true) true Tryd.f7.params.toList args.toList ds p := hA0
  rw [Tryd.params7] at hA hval
  obtain ⟨v0, vs0, d0, ds0, p0, q0, hargs, rfl, rfl, h0, r0⟩ := trodAll_cons hA
  obtain ⟨v1, vs1, d1, ds1, p1, q1, rfl, rfl, rfl, h1, r1⟩ := trodAll_cons r0
  obtain ⟨rfl, rfl, rfl⟩ := trodAll_nil r1
  obtain rfl : args = #[v0, v1] := by cases args; simp_all
  obtain ⟨rfl, rfl⟩ := trodVars_none hV
  have k0 := h0
  have lt0 : ∀ x ∈ p0, x.block < W.heap.size := by obtain ⟨m, hm⟩ := k0; exact DataW.trod_lt m _ _ _ hm
  obtain ⟨c0, rfl, _⟩ := okWide_struct Tryd.underlying25 (hval 0 25 v0 rfl rfl)
  obtain ⟨z0, rfl, w0⟩ : ∃ i : Iv, c0 = #[.int .u8 i.op, .int .u8 i.a, .int .u16 i.b, .int .u32 i.c] ∧ i.wf := by
    obtain ⟨fuel, hf⟩ := h0
    obtain ⟨i, hcs, h1⟩ := open_instr hf
    simp [Value.cells] at hcs
    exact ⟨i, by cases c0; simp_all, h1⟩
  have k1 := h1
  have lt1 : ∀ x ∈ p1, x.block < W.heap.size := by obtain ⟨m, hm⟩ := k1; exact DataW.trod_lt m _ _ _ hm
  obtain ⟨c1, rfl, _⟩ := okWide_struct Tryd.underlying25 (hval 1 25 v1 rfl rfl)
  obtain ⟨z1, rfl, w1⟩ : ∃ i : Iv, c1 = #[.int .u8 i.op, .int .u8 i.a, .int .u16 i.b, .int .u32 i.c] ∧ i.wf := by
    obtain ⟨fuel, hf⟩ := h1
    obtain ⟨i, hcs, h1⟩ := open_instr hf
    simp [Value.cells] at hcs
    exact ⟨i, by cases c1; simp_all, h1⟩
  clear hA0
  refine (walk W (tabs hL) z0 w0 z1 w1).mono fun e W' ⟨he, bel⟩ => ?_
  subst he
  exact ⟨_, rfl, _, _, _, [], _, [], hW', trodAll_mk1 (shut_bool Tryd.underlying4 _), (trodAll_cons_mk (Below.trod laidOut (by kernel_rfl) (of_decide_eq_true (by kernel_rfl)) k0 bel lt0) (trodAll_cons_mk (Below.trod laidOut (by kernel_rfl) (of_decide_eq_true (by kernel_rfl)) k1 bel lt1) trodAll_mk0)), rfl, bel.frame _, fun h => by cases h⟩

theorem reads (os : Os) {H : Type} (enc : TypeId × Value → H) : ∃ places, DataW.whole enc Tryd.prog ((laidWorld os).forCall (fun _ _ => 0) ⟨#[], (#[Value.agg #[.int .u8 0, .int .u8 0, .int .u16 0, .int .u32 0], Value.agg #[.int .u8 0, .int .u8 0, .int .u16 0, .int .u32 0]] : Array Value), []⟩).memory Tryd.f7.params.toList Rows.isaTextsSpec.vars false (#[Value.agg #[.int .u8 0, .int .u8 0, .int .u16 0, .int .u32 0], Value.agg #[.int .u8 0, .int .u8 0, .int .u16 0, .int .u32 0]] : Array Value).toList 8 = some ([.agg [.lit (.int .u8 0), .lit (.int .u8 0), .lit (.int .u16 0), .lit (.int .u32 0)], .agg [.lit (.int .u8 0), .lit (.int .u8 0), .lit (.int .u16 0), .lit (.int .u32 0)]], [], places) :=
  ⟨[], by kernel_rfl⟩

set_option maxRecDepth 100000 in
theorem lifted (os : Os) (started : os.Started) (H : Type) (enc : TypeId × Value → H) (F : Stop.Interp) :
    ReturnsInHanded {} Tryd.checked os 7 .any ((OpenSpec.ofChange Rows.isaTextsSpec).preRow enc Tryd.prog Tryd.f7 Rows.isaTextsRow.domain false Rows.isaTextsRow.laid) (((OpenSpec.ofChange Rows.isaTextsSpec).at F).post enc Tryd.prog Tryd.f7 false true false false) := by
  obtain ⟨places, hx⟩ := reads os enc
  refine returnsInHanded_of_row (C := Tryd.checked) (s := OpenSpec.ofChange Rows.isaTextsSpec) own started (by kernel_rfl) Tryd.func7
    (witness_row_at (enc := enc) (C := Tryd.checked) false (laidWorld os) (#[Value.agg #[.int .u8 0, .int .u8 0, .int .u16 0, .int .u32 0], Value.agg #[.int .u8 0, .int .u8 0, .int .u16 0, .int .u32 0]] : Array Value) rfl (by kernel_rfl) (by kernel_rfl) (by kernel_rfl)
      (OpenSpec.preRow_of_cond 8 hx (by kernel_rfl) (fun k hk => by cases hk) (by kernel_rfl) (laid_met os _))) ?_
  intro W base args ds gs before hval hW _ _ _ hL _ _
  exact contract H enc W base args ds gs before hval hW hL

theorem said : Rows.IsaTextsSaid :=
  OpenClaim.holds_of_cond 7 Tryd.f7 rfl rfl rfl rfl rfl rfl rfl ⟨rfl, rfl, rfl, rfl, rfl⟩ rfl rfl rfl rfl rfl (by kernel_rfl) Tryd.func7 (by kernel_rfl)
    (of_decide_eq_true (by kernel_rfl)) (by unfold Func.isWrapper; first | (rw [if_pos (by decide +kernel)]; kernel_rfl) | (rw [if_neg (by decide +kernel)]; exact ⟨rfl, rfl⟩))
    (fun os started H enc _ F => by rw [OpenClaim.pre_eq_preRow]; exact lifted os started H enc F)

theorem plain (f : FuncId) (fn : Func) (hf : Tryd.pinned.checked.prog.funcNamed "tappet/tappetlaw09.IsaTexts" = some f) (hfn : Tryd.pinned.checked.prog.funcs[f]? = some fn) :
    false = Tryd.pinned.checked.prog.looks [] ∧ ∀ (j : Nat) t, fn.params[j]? = some t → Tryd.pinned.checked.prog.wantsStandIn t = false := by
  obtain rfl : f = 7 := Option.some.inj ((show Tryd.prog.funcNamed "tappet/tappetlaw09.IsaTexts" = some 7 by kernel_rfl).symm.trans hf) |>.symm
  obtain rfl : fn = Tryd.f7 := (Option.some.inj (Tryd.func7.symm.trans hfn)).symm
  refine ⟨by kernel_rfl, fun j t ht => ?_⟩
  rw [Tryd.params7] at ht
  have hm := Array.mem_of_getElem? ht
  simp at hm
  subst hm
  · exact (show Tryd.prog.wantsStandIn 25 = false by kernel_rfl)

theorem proved : Rows.IsaTextsCardSaid :=
  Claim7.holds_tied_plain_at .later [] _ _ _ _ said (fun _ h => by cases h) (by kernel_rfl) (fun _ h => by cases h) isaTexts_row_tie rfl ⟨rfl, rfl⟩ (by kernel_rfl) rfl plain (by kernel_rfl)
#print axioms proved
end Go.Proofs.YtnaefpjbeidkgaaDoor.isaTexts
