/- The law of programs: its walk. (Made by tools/gen_asmprog.py.) -/
import Derived.Test.YtgiocecpkhmhhaaGreatDoorAsmP3
import Derived.Test.YtgiocecpkhmhhaaGreatDoorAsmR9
namespace Go.Proofs.YtgiocecpkhmhhaaGreatDoor
open Go.ChangeShapes Go.WideShapes Go.ChangeAt Go.RowKit
namespace Asm
open Isa
set_option linter.unusedVariables false
set_option linter.unusedSimpArgs false
set_option maxRecDepth 100000 in
set_option maxHeartbeats 12800000 in
theorem prog_walk (w : World) (hT : TT w) (a : Option Addr) (n c : Nat) (l : List Av) (h : ARow w a n l) (hc : n ≤ c ∧ c ≤ 9223372036854775807) :
    Calls Tryz.prog 3 #[.slice a n c] w fun e w' => e = .returned (.bool true) ∧ Below w.heap.size w w' := by
  have HTT := Lib.hid (fun W (hb : Below w.heap.size w W) => hT.below hb (Nat.le_refl _))
  have HRow := Lib.hid (fun W (hb : Below w.heap.size w W) => h.below hb (Nat.le_refl _))
  have HK := Lib.hid (known_any w hT)
  have HWi := Lib.hid (asm_wf (l := l) (fun x hx => (h.2.1 x hx).i))
  have HL := Lib.hid h.1
  have HG := Lib.hid (fun W (hb : Below w.heap.size w W) => great_any l a n c W (h.below hb (Nat.le_refl _)))
  clear h hT
  go_enter Tryz.func3, Tryz.ntmps3
  go_wp2_with fail
  refine HK.out.mono ?_
  rintro e1 w1 ⟨rfl, hb1⟩
  have HB1 := Lib.hid hb1
  clear hb1 HK
  go_wp2_with fail
  refine (HG.out w1 HB1.out).mono ?_
  rintro e2 w2 ⟨g, rfl, hg, hb2⟩
  have HB2 := Lib.hid (HB1.out.trans (hb2.mono HB1.out.size))
  clear hb2 HG HB1
  cases g with
  | true =>
    clear hg
    go_wp2_with fail
    go_ret
    exact ⟨rfl, HB2.out⟩
  | false =>
    have hn3 := hg rfl
    have hn1 : n ≤ 1000000 := by omega
    have HA1 := Lib.hid (asm_any l a n c hn1 w2 (HTT.out w2 HB2.out).tabs (HRow.out w2 HB2.out))
    have HA2 := Lib.hid (fun W (hb : Below w.heap.size w W) => rasm_any l a n c hn1 W (HRow.out W hb))
    unfold AsmP at HA1
    have HT1 := Lib.hid (fun W (hb : Below w.heap.size w W) => textA_any l a n c hn1 W (HTT.out W hb).tabs (HRow.out W hb))
    have HT2 := Lib.hid (fun W (hb : Below w.heap.size w W) => rtextA_any l a n c hn1 W (HRow.out W hb))
    have hcl : (asmL l).length ≤ l.length := by
      unfold asmL
      split
      · simp
      · simp
    have HSc := Lib.hid (fun W a1 c1 a2 c2 (hr : IRow W a1 (asmL l).length (asmL l)) (hr2 : IRow W a2 (asmL l).length (asmL l)) => sameCode_any (asmL l) (asmL l) a1 (asmL l).length c1 a2 (asmL l).length c2 (by have := HL.out; omega) W hr hr2)
    rw [decide_eq_true (rfl : asmL l = asmL l)] at HSc
    clear hg hn1 hn3 hcl
    generalize asmL l = CL at *
    generalize asmN l = NN at *
    generalize asmE l = EE at *
    generalize sB (textA l) = TX at *
    go_wp2_with fail
    refine HA1.out.mono ?_
    rintro e3 w3 ⟨v3, rfl, ho3, hb3⟩
    have HB3 := Lib.hid (HB2.out.trans (hb3.mono HB2.out.size))
    obtain ⟨a3, c3, rfl, _, _, hr3⟩ := own_irow ho3 HWi.out
    have HR3 := Lib.hid hr3
    clear ho3 hb3 hr3 HA1 HB2
    go_wp2_with fail
    refine (HA2.out w3 HB3.out).mono ?_
    rintro e4 w4 ⟨v4, rfl, ho4, hb4⟩
    have HB4 := Lib.hid (HB3.out.trans (hb4.mono HB3.out.size))
    obtain ⟨a4, c4, rfl, _, _, hr4⟩ := own_irow ho4 HWi.out
    have HR4 := Lib.hid (fun W (hb : Below w4.heap.size w4 W) => And.intro ((HR3.out.below hb4 (Nat.le_refl _)).below hb (Nat.le_refl _)) (hr4.below hb (Nat.le_refl _)))
    have HBx := Lib.hid (fun W (hb : Below w4.heap.size w4 W) => HB4.out.trans (hb.mono HB4.out.size))
    clear ho4 hb4 hr4 HA2 HB3 HR3 HWi
    go_wp2_with fail
    go_loopw [29] (fun i wr => ∃ k : Nat, k ≤ n ∧ i = .int .i64 k ∧ Below w4.heap.size w4 wr) (fun i _ => n - (intOf i).toNat)
    case atStart => exact ⟨0, by omega, rfl, Below.refl _ _⟩
    case round =>
      obtain ⟨k, hk, rfl, hbel⟩ := hrel
      have HB := Lib.hid hbel
      clear hbel
      by_cases hlt : k < n
      · have hd2 : decide ((k : Int) < (n : Int)) = true := decide_eq_true (by omega)
        obtain ⟨b, off, rfl, hcx, hw⟩ := (HRow.out wr (HBx.out wr HB.out)).at k hlt
        obtain ⟨c0, c1, c2, c3, c4, c5⟩ := hcx
        have HM1 := Lib.hid (fun W (hb : Below w4.heap.size w4 W) => mayA_any (l.getD k av0) hw W (HTT.out W (HBx.out W hb)).tabs)
        have HM2 := Lib.hid (fun W (hb : Below w4.heap.size w4 W) => rmayA_any (l.getD k av0) hw W)
        clear hw
        generalize mayA (l.getD k av0) = M at *
        generalize l.getD k av0 = x at *
        obtain ⟨lb, ⟨op, ia, ib, ic⟩, tg⟩ := x
        unfold avV at HM1 HM2
        simp only at *
        have hx := alloc_new wr (.cells #[.string (sB lb), .int .u8 op, .int .u8 ia, .int .u16 ib, .int .u32 ic, .string (sB tg)] 34)
        have HB3 := Lib.hid (HB.out.alloc (o := .cells #[.string (sB lb), .int .u8 op, .int .u8 ia, .int .u16 ib, .int .u32 ic, .string (sB tg)] 34) HB.out.size)
        have HV : Hid (w4.heap.size ≤ wr.heap.size) := HB.out.size
        go_upto_region 10 with fail
        generalize wr.alloc (.cells #[.string (sB lb), .int .u8 op, .int .u8 ia, .int .u16 ib, .int .u32 ic, .string (sB tg)] 34) = X3 at *
        generalize wr.heap.size = V at *
        clear c0 c1 c2 c3 c4 c5 HB
        have HX := Lib.hid hx
        clear hx
        have hE := ek_rel V (.cells #[.string (sB lb), .int .u8 op, .int .u8 ia, .int .u16 ib, .int .u32 ic, .string (sB tg)] 34 (0, 0))
        refine (wpIn_wide (n := 0)).1 (Posts.wpIn_region_tail hE 4 2 (Posts.At [Posts.is (.agg #[.string (sB lb), .int .u8 op, .int .u8 ia, .int .u16 ib, .int .u32 ic, .string (sB tg)]), Posts.is (.bool M), Posts.is (.agg #[.string (sB lb), .int .u8 op, .int .u8 ia, .int .u16 ib, .int .u32 ic, .string (sB tg)]), Posts.is (.bool M)]) (fun _ _ => True) (by kernel_rfl) (by decide) (by kernel_rfl) (by kernel_rfl) (by kernel_rfl)
          (Posts.stable_at _ (by repeat' (first | exact trivial | (refine And.intro ?_ ?_) | exact Posts.is_stable _ | exact Posts.on_stable _ _ | assumption))) trivial ?_ ?_)
        · refine ⟨?_, ?_, ?_, ?_, trivial⟩
          · intro a X hX hS hD hJ hU
            have hx' : X.heap[V]? = some (.cells #[.string (sB lb), .int .u8 op, .int .u8 ia, .int .u16 ib, .int .u32 ic, .string (sB tg)] 34 (0, 0)) := by
              rcases hX.own (lt_of_block HX.out) with e | e
              · exact e.trans HX.out
              · exact e
            obtain ⟨y0, y1, y2, y3, y4, y5⟩ := cells6 hx'
            have d10 := Posts.slot (show a.eval (.tmp 10) = .pointer (some ⟨V, 0, none⟩) from hS.other 10 rfl)
            exact Posts.op_value (fun _ => trivial) rfl rfl (by intro c h; cases h) rfl (by rw [hS.size]; simp) (v := .agg #[.string (sB lb), .int .u8 op, .int .u8 ia, .int .u16 ib, .int .u32 ic, .string (sB tg)]) (by simp [execOp, d10, y0, y1, y2, y3, y4, y5, go_sem]) rfl (hE.refl _) trivial
          · intro a X hX hS hD hJ hU
            have hx' : X.heap[V]? = some (.cells #[.string (sB lb), .int .u8 op, .int .u8 ia, .int .u16 ib, .int .u32 ic, .string (sB tg)] 34 (0, 0)) := by
              rcases hX.own (lt_of_block HX.out) with e | e
              · exact e.trans HX.out
              · exact e
            obtain ⟨y0, y1, y2, y3, y4, y5⟩ := cells6 hx'
            have d33 := Posts.slot (show a.eval (.tmp 33) = .agg #[.string (sB lb), .int .u8 op, .int .u8 ia, .int .u16 ib, .int .u32 ic, .string (sB tg)] from hD.1)
            refine Posts.op_call (fun _ => trivial) rfl rfl rfl (by intro c h; cases h) rfl (by rw [hS.size]; simp) 12 #[.agg #[.string (sB lb), .int .u8 op, .int .u8 ia, .int .u16 ib, .int .u32 ic, .string (sB tg)]] (by simp [execOp, d33, go_sem]) ?_
            refine callsIn_wide.2 ((HM1.out X (HB3.out.trans ((hX.below (Below.refl V X3) (Nat.le_of_lt (lt_of_block HX.out))).mono HV.out))).mono ?_)
            rintro e Y ⟨rfl, hb⟩
            exact ⟨_, rfl, rfl, EK.of hb, trivial⟩
          · intro a X hX hS hD hJ hU
            have hx' : X.heap[V]? = some (.cells #[.string (sB lb), .int .u8 op, .int .u8 ia, .int .u16 ib, .int .u32 ic, .string (sB tg)] 34 (0, 0)) := by
              rcases hX.own (lt_of_block HX.out) with e | e
              · exact e.trans HX.out
              · exact e
            obtain ⟨y0, y1, y2, y3, y4, y5⟩ := cells6 hx'
            have d10 := Posts.slot (show a.eval (.tmp 10) = .pointer (some ⟨V, 0, none⟩) from hS.other 10 rfl)
            exact Posts.op_value (fun _ => trivial) rfl rfl (by intro c h; cases h) rfl (by rw [hS.size]; simp) (v := .agg #[.string (sB lb), .int .u8 op, .int .u8 ia, .int .u16 ib, .int .u32 ic, .string (sB tg)]) (by simp [execOp, d10, y0, y1, y2, y3, y4, y5, go_sem]) rfl (hE.refl _) trivial
          · intro a X hX hS hD hJ hU
            have hx' : X.heap[V]? = some (.cells #[.string (sB lb), .int .u8 op, .int .u8 ia, .int .u16 ib, .int .u32 ic, .string (sB tg)] 34 (0, 0)) := by
              rcases hX.own (lt_of_block HX.out) with e | e
              · exact e.trans HX.out
              · exact e
            obtain ⟨y0, y1, y2, y3, y4, y5⟩ := cells6 hx'
            have d35 := Posts.slot (show a.eval (.tmp 35) = .agg #[.string (sB lb), .int .u8 op, .int .u8 ia, .int .u16 ib, .int .u32 ic, .string (sB tg)] from hD.1)
            refine Posts.op_call (fun _ => trivial) rfl rfl rfl (by intro c h; cases h) rfl (by rw [hS.size]; simp) 13 #[.agg #[.string (sB lb), .int .u8 op, .int .u8 ia, .int .u16 ib, .int .u32 ic, .string (sB tg)]] (by simp [execOp, d35, go_sem]) ?_
            refine callsIn_wide.2 ((HM2.out X (HB3.out.trans ((hX.below (Below.refl V X3) (Nat.le_of_lt (lt_of_block HX.out))).mono HV.out))).mono ?_)
            rintro e Y ⟨rfl, hb⟩
            exact ⟨_, rfl, rfl, EK.of hb, trivial⟩
        · intro a0 Y hY hS hJt hL
          have p33 := Posts.slot (show a0.eval (.tmp 33) = .agg #[.string (sB lb), .int .u8 op, .int .u8 ia, .int .u16 ib, .int .u32 ic, .string (sB tg)] from hL.1)
          have p34 := Posts.slot (show a0.eval (.tmp 34) = .bool M from hL.2.1)
          have p35 := Posts.slot (show a0.eval (.tmp 35) = .agg #[.string (sB lb), .int .u8 op, .int .u8 ia, .int .u16 ib, .int .u32 ic, .string (sB tg)] from hL.2.2.1)
          have p36 := Posts.slot (show a0.eval (.tmp 36) = .bool M from hL.2.2.2.1)
          have hfr := hS.frame [33, 34, 35, 36, 37] (fun t ht => by simp [Posts.isDst] at ht; first | (rcases ht with h | h | h | h | h <;> subst h <;> simp) | (subst ht; simp))
          simp only [List.foldl_cons, List.foldl_nil] at hfr
          have hdf := hS.defers
          simp only [Array.getD_eq_getD_getElem?] at hfr
          clear hL hS
          generalize a0.tmps[33]?.getD undef = v33 at *
          generalize a0.tmps[34]?.getD undef = v34 at *
          generalize a0.tmps[35]?.getD undef = v35 at *
          generalize a0.tmps[36]?.getD undef = v36 at *
          generalize a0.tmps[37]?.getD undef = v37 at *
          obtain rfl := p33
          obtain rfl := p34
          obtain rfl := p35
          obtain rfl := p36
          obtain ⟨tm, df⟩ := a0
          simp only [List.setIfInBounds_toArray, List.set_cons_succ, List.set_cons_zero] at hfr hdf
          subst hfr
          subst hdf
          refine Posts.tail_op 4 (by kernel_rfl) (Posts.op_val (fun _ => trivial) rfl rfl (by intro c h; cases h) (v := .bool false) (Y := Y) (by simp [execOp, Act.eval, go_sem]) ?_)
          refine ⟨by kernel_rfl, ?_⟩
          simp only [Exit.inBlock, Exit.then]
          rename_i hK
          refine hK _ _ ?_
          have HYb := Lib.hid (HB3.out.trans ((hY.below (Below.refl V X3) (Nat.le_of_lt (lt_of_block HX.out))).mono HV.out))
          clear hY HX HB3 HM1 HM2 hE
          go_wp2_with fail
          exact ⟨⟨k + 1, by omega, by simp, HYb.out⟩, by simp [intOf]; omega⟩
      · obtain rfl : k = n := by omega
        have hd2 : decide ((k : Int) < (k : Int)) = false := decide_eq_false (by omega)
        have HSs := Lib.hid (HSc.out wr a3 c3 a4 c4 (HR4.out wr HB.out).1 (HR4.out wr HB.out).2)
        have HBr := Lib.hid (HBx.out wr HB.out)
        clear HSc HR4 HBx HB
        go_wp2_with fail
        refine HSs.out.mono ?_
        rintro e5 w5 ⟨rfl, hb5⟩
        have HB5 := Lib.hid (HBr.out.trans (hb5.mono HBr.out.size))
        clear hb5 HBr HSs
        go_wp2_with fail
        refine (HT1.out w5 HB5.out).mono ?_
        rintro e6 w6 ⟨rfl, hb6⟩
        have HB6 := Lib.hid (HB5.out.trans (hb6.mono HB5.out.size))
        clear hb6 HB5 HT1
        go_wp2_with fail
        refine (HT2.out w6 HB6.out).mono ?_
        rintro e7 w7 ⟨rfl, hb7⟩
        have HB7 := Lib.hid (HB6.out.trans (hb7.mono HB6.out.size))
        clear hb7 HB6 HT2
        go_wp2_with fail
        go_ret
        exact ⟨rfl, HB7.out⟩
end Asm
end Go.Proofs.YtgiocecpkhmhhaaGreatDoor
