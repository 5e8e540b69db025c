/- The law of labels: its walk. (Made by tools/gen_asmlabels.py.) -/
import Derived.Test.YtgiocecpkhmhhaaGreatDoorAsmP3
namespace Go.Proofs.YtgiocecpkhmhhaaGreatDoor
open Go.ChangeShapes Go.WideShapes Go.ChangeAt Go.RowKit
namespace Asm
open Isa
set_option linter.unusedVariables false
set_option linter.unusedSimpArgs false
theorem count_one32 (s : List UInt8) (c : UInt8) : Lib.countB (sB s) (sB [c]) = s.count c := by
  show Lib.count (sB s).data.toList (sB [c]).data.toList = _
  rw [sB_list, sB_list, Lib.count_one]
theorem rep_any (s : List UInt8) (c : UInt8) (new : List UInt8) (hne : ([c] == new) = false) (hm : s.length ≤ 1000000) (hn : new.length ≤ 1000) (w : World) (hT : TT w) : Calls Tryz.prog 24 #[.string (sB s), .string (sB [c]), .string (sB new)] w fun e w' =>
    e = .returned (.string (sB (s.flatMap fun y => if y = c then new else [y]))) ∧ Below w.heap.size w w' := by
  obtain ⟨m, hmx⟩ := hT.most
  have hc : s.count c ≤ s.length := List.count_le_length
  have hmul : s.count c * new.length ≤ 1000000 * 1000 := Nat.mul_le_mul (by omega) hn
  have h := replace_lib (sB s) (sB [c]) (sB new) m w (by rw [sB_size']; omega) hmx (by rw [sB_size']; simp) (by rw [count_one32, sB_size', sB_size']; omega)
  refine h.mono ?_
  rintro e w' ⟨rfl, hb⟩
  rw [sB_list, sB_list, sB_list, replace_is s c new hne]
  exact ⟨rfl, hb⟩
theorem len_sB (s : List UInt8) : ((sB s).size : Int) = s.length := by rw [sB_size]
set_option maxRecDepth 100000 in
set_option maxHeartbeats 12800000 in
theorem labels_walk (w : World) (hT : TT w) (a : Option Addr) (n c : Nat) (l : List Av) (h : ARow w a n l) (hc : n ≤ c ∧ c ≤ 9223372036854775807) :
    Calls Tryz.prog 7 #[.slice a n c] w fun e w' => e = .returned (.bool true) ∧ Below w.heap.size w w' := by
  have HTT := Lib.hid (fun W (hb : Below w.heap.size w W) => hT.below hb (Nat.le_refl _))
  have HRow := Lib.hid (fun W (hb : Below w.heap.size w W) => h.below hb (Nat.le_refl _))
  have HK := Lib.hid (known_any w hT)
  have HWf := Lib.hid h.2.1
  have HL := Lib.hid h.1
  have HG := Lib.hid (fun W (hb : Below w.heap.size w W) => great_any l a n c W (h.below hb (Nat.le_refl _)))
  clear h hT
  go_enter Tryz.func7, Tryz.ntmps7
  go_wp2_with fail
  refine HK.out.mono ?_
  rintro e1 w1 ⟨rfl, hb1⟩
  have HB1 := Lib.hid hb1
  clear hb1 HK
  go_wp2_with fail
  refine (HG.out w1 HB1.out).mono ?_
  rintro e2 w2 ⟨g, rfl, hg, hb2⟩
  have HB2 := Lib.hid (HB1.out.trans (hb2.mono HB1.out.size))
  clear hb2 HG HB1
  cases g with
  | true =>
    clear hg
    go_wp2_with fail
    go_ret
    exact ⟨rfl, HB2.out⟩
  | false =>
    have hn3 := hg rfl
    have HN3 := Lib.hid hn3
    clear hg hn3
    go_wp2_with fail
    go_loopw [3, 21] (fun m i wr => ∃ (k : Nat), k ≤ n ∧ i = .int .i64 k ∧ wr.ownsRow w.heap.size 34 6 m ((l.take k).map reA).length (encAs ((l.take k).map reA)) ∧ (∀ j, j < k → mayA (l.getD j av0) = true ∧ (l.getD j av0).lb.length ≤ 15 ∧ (l.getD j av0).tg.length ≤ 15) ∧ Below w.heap.size w wr) (fun _ i _ => n - (intOf i).toNat)
    case atStart => exact ⟨0, by omega, rfl, World.ownsRow_nil _ _ _ _, fun j hj => by omega, HB2.out⟩
    case round =>
      obtain ⟨k, hk, rfl, hown, hmay, hbel⟩ := hrel
      have HM := Lib.hid hmay
      have HB := Lib.hid hbel
      have HO := Lib.hid hown
      obtain ⟨va, vc, rfl, _, _⟩ := own_shape hown
      clear hmay hown
      by_cases hlt : k < n
      · have hd2 : decide ((k : Int) < (n : Int)) = true := decide_eq_true (by omega)
        obtain ⟨b, off, rfl, hcx, hw⟩ := (HRow.out wr hbel).at k hlt
        obtain ⟨c0, c1, c2, c3, c4, c5⟩ := hcx
        have HM1 := Lib.hid (fun W (hb : Below w.heap.size w W) => mayA_any (l.getD k av0) hw W (HTT.out W hb).tabs)
        have HM2 : Hid (mayA (l.getD k av0) = true → (l.getD k av0).lb.length ≤ 15 → (l.getD k av0).tg.length ≤ 15 → ∀ j, j < k + 1 → mayA (l.getD j av0) = true ∧ (l.getD j av0).lb.length ≤ 15 ∧ (l.getD j av0).tg.length ≤ 15) := fun h1 h2 h3 j hj => by
          by_cases e : j = k
          · rw [e]; exact ⟨h1, h2, h3⟩
          · exact HM.out j (by omega)
        have HTk : Hid ((l.take (k + 1)).map reA = (l.take k).map reA ++ [reA (l.getD k av0)]) := by
          show _ = _
          rw [List.take_add_one, List.getElem?_eq_getElem (by rw [HL.out]; exact hlt), List.getD_eq_getElem?_getD, List.getElem?_eq_getElem (by rw [HL.out]; exact hlt), List.map_append]
          rfl
        have hln : ((l.take k).map reA).length = k := by rw [List.length_map, List.length_take]; have := HL.out; omega
        rw [hln] at HO ⊢
        clear hbel hw hln
        generalize mayA (l.getD k av0) = M at *
        generalize l.getD k av0 = x at *
        obtain ⟨lb, ⟨op, ia, ib, ic⟩, tg⟩ := x
        unfold avV at HM1
        simp only at *
        have hx := alloc_new wr (.cells #[.string (sB lb), .int .u8 op, .int .u8 ia, .int .u16 ib, .int .u32 ic, .string (sB tg)] 34)
        have HB3 := Lib.hid (HB.out.alloc (o := .cells #[.string (sB lb), .int .u8 op, .int .u8 ia, .int .u16 ib, .int .u32 ic, .string (sB tg)] 34) HB.out.size)
        have HO3 := Lib.hid (own_below HO.out ((Below.refl wr.heap.size wr).alloc (Nat.le_refl _) (.cells #[.string (sB lb), .int .u8 op, .int .u8 ia, .int .u16 ib, .int .u32 ic, .string (sB tg)] 34)) (Nat.le_refl _))
        have HOl := Lib.hid (fun j hj => Nat.ne_of_lt (World.ownsRow.lt HO.out j hj).2)
        go_upto_region 9 with fail
        generalize wr.alloc (.cells #[.string (sB lb), .int .u8 op, .int .u8 ia, .int .u16 ib, .int .u32 ic, .string (sB tg)] 34) = X3 at *
        have HV : Hid (w.heap.size ≤ wr.heap.size) := HB.out.size
        generalize wr.heap.size = V at *
        clear c0 c1 c2 c3 c4 c5 HB
        obtain ⟨y0, y1, y2, y3, y4, y5⟩ := cells6 hx
        have HX := Lib.hid hx
        clear hx
        have hszl := len_sB lb
        have hszt := len_sB tg
        go_wp2_with fail
        refine (HM1.out X3 HB3.out).mono ?_
        rintro e4 w4 ⟨rfl, hb4⟩
        have HX4 := Lib.hid ((hb4.block _ (lt_of_block HX.out)).trans HX.out)
        have HO4 := Lib.hid (own_below HO3.out hb4 (Nat.le_refl _))
        have HB4 := Lib.hid (HB3.out.trans (hb4.mono HB3.out.size))
        clear hb4 HX HO3 HB3 HM1 y0 y1 y2 y3 y4 y5
        obtain ⟨y0, y1, y2, y3, y4, y5⟩ := cells6 HX4.out
        cases M with
        | false =>
          go_wp2_with fail
          go_ret
          exact ⟨rfl, HB4.out⟩
        | true =>
          by_cases h15 : lb.length ≤ 15
          case neg =>
            have hd15 : decide ((15 : Int) < (lb.length : Int)) = true := decide_eq_true (by omega)
            clear h15
            go_wp2_with fail
            go_ret
            exact ⟨rfl, HB4.out⟩
          by_cases h16 : tg.length ≤ 15
          case neg =>
            have hd15 : decide ((15 : Int) < (lb.length : Int)) = false := decide_eq_false (by omega)
            have hd16 : decide ((15 : Int) < (tg.length : Int)) = true := decide_eq_true (by omega)
            clear h15 h16
            go_wp2_with fail
            go_ret
            exact ⟨rfl, HB4.out⟩
          have hd15 : decide ((15 : Int) < (lb.length : Int)) = false := decide_eq_false (by omega)
          have hd16 : decide ((15 : Int) < (tg.length : Int)) = false := decide_eq_false (by omega)
          have HM3 := Lib.hid (HM2.out rfl h15 h16)
          have e1 := empty_is lb
          have e2 := empty_is tg
          clear HM2
          by_cases h1 : lb = []
          · by_cases h2 : tg = []
            · skip
              rw [decide_eq_true h1] at e1
              rw [decide_eq_true h2] at e2
              have hf := fun j => frozen_at HX4.out j
              have hfin : w4.heap[V]? = some (.cells #[.string (sB lb), .int .u8 op, .int .u8 ia, .int .u16 ib, .int .u32 ic, .string (sB tg)] 34 (0, 0)) := by
                have := HX4.out
                simpa using this
              have HOf : Hid (w4.ownsRow w.heap.size 34 6 (.slice va k vc) k (encAs ((l.take k).map reA))) := own_kept HO4.out (fun j hj => by
                have := HOl.out j hj
                rfl)
              have HBf := Lib.hid HB4.out
              have HRe : Hid (encA (reA ⟨lb, ⟨op, ia, ib, ic⟩, tg⟩) = [.string (sB lb), .int .u8 op, .int .u8 ia, .int .u16 ib, .int .u32 ic, .string (sB tg)]) := by
                show _ = _
                unfold reA ren encA
                rw [if_pos h1, if_pos h2]
                rw [h1, h2]
              clear h1 h2 h15 h16
              go_upto_region 15 with (simp only [hf])
              generalize w4 = X5 at *
              clear y0 y1 y2 y3 y4 y5 hf e1 e2 hszl hszt hd15 hd16 HO4 HB4 HX4
              obtain ⟨y0, y1, y2, y3, y4, y5⟩ := cells6 hfin
              obtain ⟨g9, cap, W9, hap, hown9, hb9⟩ := app_el Tryz.underlying22 infoA rfl (by decide) (by decide) HOf.out HBf.out.size (by have := HN3.out; omega) [.string (sB lb), .int .u8 op, .int .u8 ia, .int .u16 ib, .int .u32 ic, .string (sB tg)] rfl (by intro u hu; simp at hu; rcases hu with rfl | rfl | rfl | rfl | rfl | rfl <;> rfl) 22
              have HO9 : Hid (W9.ownsRow w.heap.size 34 6 (.slice (some ⟨g9, 0, none⟩) (k + 1 : Nat) cap) ((l.take (k + 1)).map reA).length (encAs ((l.take (k + 1)).map reA))) := by
                show World.ownsRow _ _ _ _ _ _ _
                have e0 : ((l.take (k + 1)).map reA).length = k + 1 := by rw [List.length_map, List.length_take]; have := HL.out; omega
                rw [e0, HTk.out]
                refine own_off hown9 ?_
                unfold encAs
                rw [List.flatMap_append]
                simp only [List.flatMap_cons, List.flatMap_nil, List.append_nil, HRe.out]
              have HB9 := Lib.hid (HBf.out.trans hb9)
              clear hown9 hb9 hfin HOf HBf HRe HTk
              go_wp2_with (at_builtin; refine wpList_append_run rfl (.tmp 54) (.tmp 56) 22 22 rfl _ _ _ W9 22 rfl rfl rfl hap ?_)
              exact ⟨⟨k + 1, by omega, by simp, HO9.out, HM3.out, HB9.out⟩, by simp [intOf]; omega⟩
            · skip
              rw [decide_eq_true h1] at e1
              rw [decide_eq_false h2] at e2
              have q1 := fun X => cat_run (s := tg) (t := [95]) (by simp; omega) rfl (show (⟨#[95]⟩ : ByteArray) = sB [95] from rfl) X
              have hf := fun j => frozen_at HX4.out j
              have hfin : (w4.setCell ⟨V, 5, none⟩ (.string (sB (tg ++ [95])))).heap[V]? = some (.cells #[.string (sB lb), .int .u8 op, .int .u8 ia, .int .u16 ib, .int .u32 ic, .string (sB (tg ++ [95]))] 34 (0, 0)) := by
                have := (row_set (j := 5) (u := .string (sB (tg ++ [95]))) HX4.out)
                simpa using this
              have HOf : Hid ((w4.setCell ⟨V, 5, none⟩ (.string (sB (tg ++ [95])))).ownsRow w.heap.size 34 6 (.slice va k vc) k (encAs ((l.take k).map reA))) := own_kept HO4.out (fun j hj => by
                have := HOl.out j hj
                rw [setCell_other _ _ _ (show j ≠ V from this)])
              have HBf := Lib.hid (HB4.out.setCell (p := ⟨V, 5, none⟩) HV.out (.string (sB (tg ++ [95]))))
              have HRe : Hid (encA (reA ⟨lb, ⟨op, ia, ib, ic⟩, tg⟩) = [.string (sB lb), .int .u8 op, .int .u8 ia, .int .u16 ib, .int .u32 ic, .string (sB (tg ++ [95]))]) := by
                show _ = _
                unfold reA ren encA
                rw [if_pos h1, if_neg h2]
                rw [h1]
              clear h1 h2 h15 h16
              go_upto_region 15 with (simp only [hf])
              generalize (w4.setCell ⟨V, 5, none⟩ (.string (sB (tg ++ [95])))) = X5 at *
              clear y0 y1 y2 y3 y4 y5 hf e1 e2 hszl hszt hd15 hd16 HO4 HB4 HX4 q1
              obtain ⟨y0, y1, y2, y3, y4, y5⟩ := cells6 hfin
              obtain ⟨g9, cap, W9, hap, hown9, hb9⟩ := app_el Tryz.underlying22 infoA rfl (by decide) (by decide) HOf.out HBf.out.size (by have := HN3.out; omega) [.string (sB lb), .int .u8 op, .int .u8 ia, .int .u16 ib, .int .u32 ic, .string (sB (tg ++ [95]))] rfl (by intro u hu; simp at hu; rcases hu with rfl | rfl | rfl | rfl | rfl | rfl <;> rfl) 22
              have HO9 : Hid (W9.ownsRow w.heap.size 34 6 (.slice (some ⟨g9, 0, none⟩) (k + 1 : Nat) cap) ((l.take (k + 1)).map reA).length (encAs ((l.take (k + 1)).map reA))) := by
                show World.ownsRow _ _ _ _ _ _ _
                have e0 : ((l.take (k + 1)).map reA).length = k + 1 := by rw [List.length_map, List.length_take]; have := HL.out; omega
                rw [e0, HTk.out]
                refine own_off hown9 ?_
                unfold encAs
                rw [List.flatMap_append]
                simp only [List.flatMap_cons, List.flatMap_nil, List.append_nil, HRe.out]
              have HB9 := Lib.hid (HBf.out.trans hb9)
              clear hown9 hb9 hfin HOf HBf HRe HTk
              go_wp2_with (at_builtin; refine wpList_append_run rfl (.tmp 54) (.tmp 56) 22 22 rfl _ _ _ W9 22 rfl rfl rfl hap ?_)
              exact ⟨⟨k + 1, by omega, by simp, HO9.out, HM3.out, HB9.out⟩, by simp [intOf]; omega⟩
          · by_cases h2 : tg = []
            · skip
              rw [decide_eq_false h1] at e1
              rw [decide_eq_true h2] at e2
              have q0 := fun X => cat_run (s := lb) (t := [95]) (by simp; omega) rfl (show (⟨#[95]⟩ : ByteArray) = sB [95] from rfl) X
              have hf := fun j => frozen_at HX4.out j
              have hf1 := fun j => frozen_at (row_set (j := 0) (u := .string (sB (lb ++ [95]))) HX4.out) j
              have hfin : (w4.setCell ⟨V, 0, none⟩ (.string (sB (lb ++ [95])))).heap[V]? = some (.cells #[.string (sB (lb ++ [95])), .int .u8 op, .int .u8 ia, .int .u16 ib, .int .u32 ic, .string (sB tg)] 34 (0, 0)) := by
                have := (row_set (j := 0) (u := .string (sB (lb ++ [95]))) HX4.out)
                simpa using this
              have HOf : Hid ((w4.setCell ⟨V, 0, none⟩ (.string (sB (lb ++ [95])))).ownsRow w.heap.size 34 6 (.slice va k vc) k (encAs ((l.take k).map reA))) := own_kept HO4.out (fun j hj => by
                have := HOl.out j hj
                rw [setCell_other _ _ _ (show j ≠ V from this)])
              have HBf := Lib.hid (HB4.out.setCell (p := ⟨V, 0, none⟩) HV.out (.string (sB (lb ++ [95]))))
              have HRe : Hid (encA (reA ⟨lb, ⟨op, ia, ib, ic⟩, tg⟩) = [.string (sB (lb ++ [95])), .int .u8 op, .int .u8 ia, .int .u16 ib, .int .u32 ic, .string (sB tg)]) := by
                show _ = _
                unfold reA ren encA
                rw [if_neg h1, if_pos h2]
                rw [h2]
              clear h1 h2 h15 h16
              go_upto_region 15 with (first | simp only [hf] | simp only [hf1])
              generalize (w4.setCell ⟨V, 0, none⟩ (.string (sB (lb ++ [95])))) = X5 at *
              clear y0 y1 y2 y3 y4 y5 hf e1 e2 hszl hszt hd15 hd16 HO4 HB4 HX4 q0 hf1
              obtain ⟨y0, y1, y2, y3, y4, y5⟩ := cells6 hfin
              obtain ⟨g9, cap, W9, hap, hown9, hb9⟩ := app_el Tryz.underlying22 infoA rfl (by decide) (by decide) HOf.out HBf.out.size (by have := HN3.out; omega) [.string (sB (lb ++ [95])), .int .u8 op, .int .u8 ia, .int .u16 ib, .int .u32 ic, .string (sB tg)] rfl (by intro u hu; simp at hu; rcases hu with rfl | rfl | rfl | rfl | rfl | rfl <;> rfl) 22
              have HO9 : Hid (W9.ownsRow w.heap.size 34 6 (.slice (some ⟨g9, 0, none⟩) (k + 1 : Nat) cap) ((l.take (k + 1)).map reA).length (encAs ((l.take (k + 1)).map reA))) := by
                show World.ownsRow _ _ _ _ _ _ _
                have e0 : ((l.take (k + 1)).map reA).length = k + 1 := by rw [List.length_map, List.length_take]; have := HL.out; omega
                rw [e0, HTk.out]
                refine own_off hown9 ?_
                unfold encAs
                rw [List.flatMap_append]
                simp only [List.flatMap_cons, List.flatMap_nil, List.append_nil, HRe.out]
              have HB9 := Lib.hid (HBf.out.trans hb9)
              clear hown9 hb9 hfin HOf HBf HRe HTk
              go_wp2_with (at_builtin; refine wpList_append_run rfl (.tmp 54) (.tmp 56) 22 22 rfl _ _ _ W9 22 rfl rfl rfl hap ?_)
              exact ⟨⟨k + 1, by omega, by simp, HO9.out, HM3.out, HB9.out⟩, by simp [intOf]; omega⟩
            · skip
              rw [decide_eq_false h1] at e1
              rw [decide_eq_false h2] at e2
              have q0 := fun X => cat_run (s := lb) (t := [95]) (by simp; omega) rfl (show (⟨#[95]⟩ : ByteArray) = sB [95] from rfl) X
              have q1 := fun X => cat_run (s := tg) (t := [95]) (by simp; omega) rfl (show (⟨#[95]⟩ : ByteArray) = sB [95] from rfl) X
              have hf := fun j => frozen_at HX4.out j
              have hf1 := fun j => frozen_at (row_set (j := 0) (u := .string (sB (lb ++ [95]))) HX4.out) j
              have hfin : ((w4.setCell ⟨V, 0, none⟩ (.string (sB (lb ++ [95])))).setCell ⟨V, 5, none⟩ (.string (sB (tg ++ [95])))).heap[V]? = some (.cells #[.string (sB (lb ++ [95])), .int .u8 op, .int .u8 ia, .int .u16 ib, .int .u32 ic, .string (sB (tg ++ [95]))] 34 (0, 0)) := by
                have := (row_set (j := 5) (u := .string (sB (tg ++ [95]))) (row_set (j := 0) (u := .string (sB (lb ++ [95]))) HX4.out))
                simpa using this
              have HOf : Hid (((w4.setCell ⟨V, 0, none⟩ (.string (sB (lb ++ [95])))).setCell ⟨V, 5, none⟩ (.string (sB (tg ++ [95])))).ownsRow w.heap.size 34 6 (.slice va k vc) k (encAs ((l.take k).map reA))) := own_kept HO4.out (fun j hj => by
                have := HOl.out j hj
                rw [setCell_other _ _ _ (show j ≠ V from this), setCell_other _ _ _ (show j ≠ V from this)])
              have HBf := Lib.hid ((HB4.out.setCell (p := ⟨V, 0, none⟩) HV.out (.string (sB (lb ++ [95])))).setCell (p := ⟨V, 5, none⟩) HV.out (.string (sB (tg ++ [95]))))
              have HRe : Hid (encA (reA ⟨lb, ⟨op, ia, ib, ic⟩, tg⟩) = [.string (sB (lb ++ [95])), .int .u8 op, .int .u8 ia, .int .u16 ib, .int .u32 ic, .string (sB (tg ++ [95]))]) := by
                show _ = _
                unfold reA ren encA
                rw [if_neg h1, if_neg h2]
              clear h1 h2 h15 h16
              go_upto_region 15 with (first | simp only [hf] | simp only [hf1])
              generalize ((w4.setCell ⟨V, 0, none⟩ (.string (sB (lb ++ [95])))).setCell ⟨V, 5, none⟩ (.string (sB (tg ++ [95])))) = X5 at *
              clear y0 y1 y2 y3 y4 y5 hf e1 e2 hszl hszt hd15 hd16 HO4 HB4 HX4 q0 hf1 q1
              obtain ⟨y0, y1, y2, y3, y4, y5⟩ := cells6 hfin
              obtain ⟨g9, cap, W9, hap, hown9, hb9⟩ := app_el Tryz.underlying22 infoA rfl (by decide) (by decide) HOf.out HBf.out.size (by have := HN3.out; omega) [.string (sB (lb ++ [95])), .int .u8 op, .int .u8 ia, .int .u16 ib, .int .u32 ic, .string (sB (tg ++ [95]))] rfl (by intro u hu; simp at hu; rcases hu with rfl | rfl | rfl | rfl | rfl | rfl <;> rfl) 22
              have HO9 : Hid (W9.ownsRow w.heap.size 34 6 (.slice (some ⟨g9, 0, none⟩) (k + 1 : Nat) cap) ((l.take (k + 1)).map reA).length (encAs ((l.take (k + 1)).map reA))) := by
                show World.ownsRow _ _ _ _ _ _ _
                have e0 : ((l.take (k + 1)).map reA).length = k + 1 := by rw [List.length_map, List.length_take]; have := HL.out; omega
                rw [e0, HTk.out]
                refine own_off hown9 ?_
                unfold encAs
                rw [List.flatMap_append]
                simp only [List.flatMap_cons, List.flatMap_nil, List.append_nil, HRe.out]
              have HB9 := Lib.hid (HBf.out.trans hb9)
              clear hown9 hb9 hfin HOf HBf HRe HTk
              go_wp2_with (at_builtin; refine wpList_append_run rfl (.tmp 54) (.tmp 56) 22 22 rfl _ _ _ W9 22 rfl rfl rfl hap ?_)
              exact ⟨⟨k + 1, by omega, by simp, HO9.out, HM3.out, HB9.out⟩, by simp [intOf]; omega⟩
      · obtain rfl : k = n := by omega
        have hd2 : decide ((k : Int) < (k : Int)) = false := decide_eq_false (by omega)
        have htk : l.take k = l := List.take_of_length_le (by rw [HL.out]; omega)
        have hall : ∀ x ∈ l, mayA x = true ∧ x.lb.length ≤ 15 ∧ x.tg.length ≤ 15 := fun x hx => by
          obtain ⟨j, hj, rfl⟩ := List.getElem_of_mem hx
          have := HM.out j (by rw [← HL.out]; exact hj)
          rwa [List.getD_eq_getElem?_getD, List.getElem?_eq_getElem hj] at this
        have hok : Ok l := ⟨fun x hx => (hall x hx).1, fun x hx => (HWf.out x hx).i⟩
        have hl3 : l.length ≤ 3000 := by have := HL.out; have := HN3.out; omega
        have hk1 : k ≤ 1000000 := by have := HN3.out; omega
        obtain ⟨r1, r2, r3⟩ := asm_relabel hall
        have hwr : ∀ x ∈ l.map reA, x.wf := fun x hx => by
          obtain ⟨y, hy, rfl⟩ := List.mem_map.1 hx
          exact may_wf (re_may (hall y hy).1 (hall y hy).2.1 (hall y hy).2.2) (HWf.out y hy).i
        rw [htk] at HO ⊢
        obtain ⟨ar, cr, hve, _, _, hrr⟩ := own_arow HO.out hwr
        injection hve with hve1 hve2 hve3
        subst hve1 hve3
        have hlr : (l.map reA).length = k := by rw [List.length_map]; exact HL.out
        rw [hlr] at hrr ⊢
        have HA1 := Lib.hid (asm_any l a k c hk1 wr (HTT.out wr HB.out).tabs (HRow.out wr HB.out))
        have HA2 := Lib.hid (fun W (hb : Below wr.heap.size wr W) => asm_any (l.map reA) va k vc hk1 W (HTT.out W (HB.out.trans (hb.mono HB.out.size))).tabs (hrr.below hb (Nat.le_refl _)))
        unfold AsmP at HA1 HA2
        rw [r1, r2, r3] at HA2
        have hcl : (asmL l).length ≤ l.length := by
          unfold asmL
          split <;> simp
        have HWi := Lib.hid (asm_wf (l := l) hok.wf)
        have HSc := Lib.hid (fun W a1 c1 a2 c2 (hr : IRow W a1 (asmL l).length (asmL l)) (hr2 : IRow W a2 (asmL l).length (asmL l)) => sameCode_any (asmL l) (asmL l) a1 (asmL l).length c1 a2 (asmL l).length c2 (by omega) W hr hr2)
        rw [decide_eq_true (rfl : asmL l = asmL l)] at HSc
        have hT0 := text_len hok
        have hT1 := dbl_len (textA l)
        have HT1 := Lib.hid (fun W (hb : Below w.heap.size w W) => textA_any l a k c hk1 W (HTT.out W hb).tabs (HRow.out W hb))
        have HD1 := Lib.hid (fun W (hb : Below w.heap.size w W) => rep_any (textA l) 32 [32, 32] (by decide) (by omega) (by simp) W (HTT.out W hb))
        have HD2 := Lib.hid (fun W (hb : Below w.heap.size w W) => rep_any (dbl (textA l)) 10 (rmk ++ [10, 59, 10, 32, 10]) (by decide) (by omega) (by decide) W (HTT.out W hb))
        have hwl := wide_len2 hok
        have hpw := parse_wide hok (by omega) (by omega)
        have HPw := Lib.hid (fun W (hb : Below w.heap.size w W) => parse_any (rem (dbl (textA l))) (by omega) W (HTT.out W hb))
        rw [hpw] at HPw
        simp only at HPw
        have HSm := Lib.hid (fun W (hb : Below w.heap.size w W) a' c' (hr : ARow W a' l.length l) => same_any l l a' l.length c' a k c (by omega) W hr (HRow.out W hb))
        rw [decide_eq_true (rfl : l = l)] at HSm
        have hE1 : ((textA l).flatMap fun y => if y = 32 then [32, 32] else [y]) = dbl (textA l) := rfl
        have hE2 : ((dbl (textA l)).flatMap fun y => if y = 10 then rmk ++ [10, 59, 10, 32, 10] else [y]) = rem (dbl (textA l)) := rfl
        rw [hE1] at HD1
        rw [hE2] at HD2
        clear hall hok hl3 hk1 r1 r2 r3 hwr hcl hT0 hT1 hwl hpw hE1 hE2 htk HM HO hrr hbel hlr hve2
        generalize asmL l = CL at *
        generalize asmN l = NN at *
        generalize asmE l = EE at *
        generalize sB (rem (dbl (textA l))) = S3 at *
        generalize sB (dbl (textA l)) = S2 at *
        generalize sB (textA l) = S1 at *
        go_wp2_with fail
        refine HA1.out.mono ?_
        rintro e3 w3 ⟨v3, rfl, ho3, hb3⟩
        have HB3 := Lib.hid (HB.out.trans (hb3.mono HB.out.size))
        obtain ⟨a3, c3, rfl, _, _, hr3⟩ := own_irow ho3 HWi.out
        have HR3 := Lib.hid hr3
        have HA3 := Lib.hid (HA2.out w3 hb3)
        clear ho3 hb3 hr3 HA1 HA2 HB
        go_wp2_with fail
        refine HA3.out.mono ?_
        rintro e4 w4 ⟨v4, rfl, ho4, hb4⟩
        have HB4 := Lib.hid (HB3.out.trans (hb4.mono HB3.out.size))
        obtain ⟨a4, c4, rfl, _, _, hr4⟩ := own_irow ho4 HWi.out
        have HS4 := Lib.hid (HSc.out w4 a3 c3 a4 c4 (HR3.out.below hb4 (Nat.le_refl _)) hr4)
        clear ho4 hb4 hr4 HA3 HB3 HR3 HSc HWi
        go_wp2_with fail
        refine HS4.out.mono ?_
        rintro e5 w5 ⟨rfl, hb5⟩
        have HB5 := Lib.hid (HB4.out.trans (hb5.mono HB4.out.size))
        clear hb5 HB4 HS4
        go_wp2_with fail
        refine (HT1.out w5 HB5.out).mono ?_
        rintro e6 w6 ⟨rfl, hb6⟩
        have HB6 := Lib.hid (HB5.out.trans (hb6.mono HB5.out.size))
        clear hb6 HB5 HT1
        go_wp2_with fail
        refine (HD1.out w6 HB6.out).mono ?_
        rintro e7 w7 ⟨rfl, hb7⟩
        have HB7 := Lib.hid (HB6.out.trans (hb7.mono HB6.out.size))
        clear hb7 HB6 HD1
        go_wp2_with fail
        refine (HD2.out w7 HB7.out).mono ?_
        rintro e8 w8 ⟨rfl, hb8⟩
        have HB8 := Lib.hid (HB7.out.trans (hb8.mono HB7.out.size))
        clear hb8 HB7 HD2
        go_wp2_with fail
        refine (HPw.out w8 HB8.out).mono ?_
        rintro e9 w9 ⟨v9, rfl, ho9, hb9⟩
        have HB9 := Lib.hid (HB8.out.trans (hb9.mono HB8.out.size))
        obtain ⟨a9, c9, rfl, _, _, hr9⟩ := own_arow ho9 HWf.out
        have HS9 := Lib.hid (HSm.out w9 HB9.out a9 c9 hr9)
        clear ho9 hb9 hr9 HB8 HPw HSm
        go_wp2_with fail
        refine HS9.out.mono ?_
        rintro e10 w10 ⟨rfl, hb10⟩
        have HB10 := Lib.hid (HB9.out.trans (hb10.mono HB9.out.size))
        clear hb10 HB9 HS9
        go_wp2_with fail
        go_ret
        exact ⟨rfl, HB10.out⟩
end Asm
end Go.Proofs.YtgiocecpkhmhhaaGreatDoor
