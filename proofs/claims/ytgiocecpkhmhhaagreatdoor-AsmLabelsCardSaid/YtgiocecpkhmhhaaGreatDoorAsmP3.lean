/- The law of going back: its walk. · The law of going back: its walk. -/
import Derived.Test.YtgiocecpkhmhhaaGreatDoorAsmFrame
import Derived.Test.YtgiocecpkhmhhaaGreatDoorAsmM
namespace Go.Proofs.YtgiocecpkhmhhaaGreatDoor
open Go.ChangeShapes Go.WideShapes Go.ChangeAt Go.RowKit
namespace Asm
open Isa
set_option linter.unusedVariables false
set_option linter.unusedSimpArgs false
theorem textA_bad {l : List Av} {k : Nat} (hk : k < l.length) (h : mayA (l.getD k av0) = false) : textA l = [] := by
  unfold textA
  rw [if_neg]
  intro e
  rw [List.all_eq_true] at e
  have := e _ (getD_mem av0 hk)
  rw [h] at this
  exact absurd this (by decide)
theorem asmE_may {l : List Av} (hl : l.length ≤ 3000) (h : ∀ x ∈ l, mayA x = true) (he : asmE l ≠ 0) : asmE l = 101 := by
  unfold asmE at he ⊢
  rw [if_neg (by omega), asmA_ok h, if_neg (by omega)] at he ⊢
  split
  · rfl
  · rename_i q
    rw [if_neg q] at he
    exact absurd rfl he
theorem own_row8 {w : World} {S : Nat} {v : Value} {l : List Int} (h : w.ownsRow S 5 1 v l.length (bv l)) (hb : ∀ z ∈ l, 0 ≤ z ∧ z ≤ 255) : ∃ a c, v = .slice a l.length c ∧ l.length ≤ c ∧ c ≤ maxLen ∧ Row w a l.length l := by
  obtain ⟨a, c, rfl, h1, h2⟩ := own_shape h
  refine ⟨a, c, rfl, h1, h2, rfl, hb, ?_⟩
  by_cases h0 : l.length = 0
  · exact .inl h0
  · right
    rcases h.2 with ⟨e, _⟩ | ⟨g, cap, cur, e, _⟩
    · injection e with e1 e2; exact absurd e2 h0
    · injection e with e1 e2 e3
      subst e1
      refine ⟨g, 0, rfl, fun j hj => ?_⟩
      have := World.ownsRow.cells h (g := g) rfl j (.int .u8 (l.getD j 0)) (by unfold bv; rw [List.getElem?_map, List.getD_eq_getElem?_getD, List.getElem?_eq_getElem hj]; rfl)
      rwa [Lib.add_plain] at this
theorem bytesL_byte {l : List Iv} (h : ∀ i ∈ l, i.wf) : ∀ z ∈ bytesL l, 0 ≤ z ∧ z ≤ 255 := by
  intro z hz
  obtain ⟨i, hi, hz⟩ := List.mem_flatMap.1 hz
  exact bytesI_byte (h i hi) z hz
end Asm
end Go.Proofs.YtgiocecpkhmhhaaGreatDoor
namespace Go.Proofs.YtgiocecpkhmhhaaGreatDoor
open Go.ChangeShapes Go.WideShapes Go.ChangeAt Go.RowKit
namespace Asm
open Isa
set_option linter.unusedVariables false
set_option linter.unusedSimpArgs false
set_option maxRecDepth 100000 in
set_option maxHeartbeats 12800000 in
theorem back_walk (w : World) (hT : TT w) (a : Option Addr) (n c : Nat) (l : List Av) (h : ARow w a n l) (hc : n ≤ c ∧ c ≤ 9223372036854775807) (s : ByteArray) (hs : s.size ≤ 9223372036854775807) :
    Calls Tryz.prog 6 #[.slice a n c, .string s] w fun e w' => e = .returned (.bool true) ∧ Below w.heap.size w w' := by
  obtain ⟨t, ht, hsz⟩ := sB_back s
  have hsz' : (s.size : Int) = t.length := by rw [hsz]
  have hln : l.length = n := h.1
  have hwf : ∀ x ∈ l, x.wf := h.2.1
  have HTT := Lib.hid (fun W (hb : Below w.heap.size w W) => hT.below hb (Nat.le_refl _))
  have HRow := Lib.hid (fun W (hb : Below w.heap.size w W) => h.below hb (Nat.le_refl _))
  have HK := Lib.hid (known_any w hT)
  have HL := Lib.hid hln
  have HWf := Lib.hid hwf
  have HG := Lib.hid (fun W (hb : Below w.heap.size w W) => great_any l a n c W (h.below hb (Nat.le_refl _)))
  have HPs := Lib.hid (fun (hle : t.length ≤ 20000) W (hb : Below w.heap.size w W) => parse_any t (by omega) W (hT.below hb (Nat.le_refl _)))
  have HPw := Lib.hid (fun (hle : t.length ≤ 20000) => And.intro (parse_wf t (by omega)) (parse_len t (by omega)))
  have HAg : Hid ((hle : t.length ≤ 20000) → (parseA t).2.2 = 0 → Ok (parseA t).1 ∧ (parseA t).1.length ≤ 16384 ∧ (textA (parseA t).1).length ≤ 500001 ∧ parseA (textA (parseA t).1) = ((parseA t).1, 0, 0)) := fun hle h0 => by
    have := parse_again (s := t) (by omega) h0
    exact ⟨this.1, this.2.2⟩
  rw [← ht] at HPs
  clear h hs hsz hln hwf hT ht
  generalize parseA t = PA at *
  obtain ⟨P, pn, pe⟩ := PA
  simp only at HPs HPw HAg
  go_enter Tryz.func6, Tryz.ntmps6
  go_wp2_with fail
  refine HK.out.mono ?_
  rintro e1 w1 ⟨rfl, hb1⟩
  have HB1 := Lib.hid hb1
  clear hb1 HK
  go_wp2_with fail
  refine (HG.out w1 HB1.out).mono ?_
  rintro e2 w2 ⟨g, rfl, hg, hb2⟩
  have HB2 := Lib.hid (HB1.out.trans (hb2.mono HB1.out.size))
  clear hb2 HG HB1
  cases g with
  | true =>
    clear hg
    go_wp2_with fail
    go_ret
    exact ⟨rfl, HB2.out⟩
  | false =>
    have hn3 := hg rfl
    have HN3 := Lib.hid hn3
    clear hg
    by_cases hle : t.length ≤ 20000
    case neg =>
      have hd : decide ((20000 : Int) < (t.length : Int)) = true := decide_eq_true (by omega)
      clear hle
      go_wp2_with fail
      go_ret
      exact ⟨rfl, HB2.out⟩
    have hd : decide ((20000 : Int) < (t.length : Int)) = false := decide_eq_false (by omega)
    have HLe := Lib.hid hle
    clear hle hn3
    go_wp2_with fail
    go_loopw [28] (fun i wr => ∃ k : Nat, k ≤ n ∧ i = .int .i64 k ∧ (∀ j, j < k → mayA (l.getD j av0) = true) ∧ Below w.heap.size w wr) (fun i _ => n - (intOf i).toNat)
    case atStart => exact ⟨0, by omega, rfl, fun j hj => by omega, HB2.out⟩
    case round =>
      obtain ⟨k, hk, rfl, hmay, hbel⟩ := hrel
      have HM := Lib.hid hmay
      have HB := Lib.hid hbel
      clear hmay
      by_cases hlt : k < n
      · have hd2 : decide ((k : Int) < (n : Int)) = true := decide_eq_true (by omega)
        obtain ⟨b, off, rfl, hcx, hw⟩ := (HRow.out wr hbel).at k hlt
        obtain ⟨c0, c1, c2, c3, c4, c5⟩ := hcx
        have HMx := Lib.hid (fun W (hb : Below w.heap.size w W) => mayA_any (l.getD k av0) hw W (HTT.out W hb).tabs)
        have HM2 : Hid (mayA (l.getD k av0) = true → ∀ j, j < k + 1 → mayA (l.getD j av0) = true) := fun hh j hj => by
          by_cases e : j = k
          · rw [e]; exact hh
          · exact HM.out j (by omega)
        have HBad : Hid (mayA (l.getD k av0) = false → textA l = []) := textA_bad (by rw [HL.out]; exact hlt)
        clear hbel hw
        generalize mayA (l.getD k av0) = M at *
        generalize l.getD k av0 = x at *
        obtain ⟨lb, ⟨op, ia, ib, ic⟩, tg⟩ := x
        unfold avV at HMx
        simp only at *
        have hx := alloc_new wr (.cells #[.string (sB lb), .int .u8 op, .int .u8 ia, .int .u16 ib, .int .u32 ic, .string (sB tg)] 34)
        have HB3 := Lib.hid (HB.out.alloc (o := .cells #[.string (sB lb), .int .u8 op, .int .u8 ia, .int .u16 ib, .int .u32 ic, .string (sB tg)] 34) HB.out.size)
        go_upto_region 8 with fail
        generalize wr.alloc (.cells #[.string (sB lb), .int .u8 op, .int .u8 ia, .int .u16 ib, .int .u32 ic, .string (sB tg)] 34) = X3 at *
        generalize wr.heap.size = V at *
        clear c0 c1 c2 c3 c4 c5
        obtain ⟨y0, y1, y2, y3, y4, y5⟩ := cells6 hx
        clear hx
        go_wp2_with fail
        refine (HMx.out X3 HB3.out).mono ?_
        rintro e4 w4 ⟨rfl, hb4⟩
        have HB4 := Lib.hid (HB3.out.trans (hb4.mono HB3.out.size))
        clear hb4 y0 y1 y2 y3 y4 y5 HMx HB3 HB
        cases M with
        | true =>
          have HM3 := Lib.hid (HM2.out rfl)
          clear HM2 HBad
          go_wp2_with fail
          exact ⟨⟨k + 1, by omega, by simp, HM3.out, HB4.out⟩, by simp [intOf]; omega⟩
        | false =>
          have hn1 : n ≤ 1000000 := by have := HN3.out; omega
          have hTx := textA_any l _ n c hn1 w4 (HTT.out w4 HB4.out).tabs (HRow.out w4 HB4.out)
          rw [HBad.out rfl, show sB [] = ⟨#[]⟩ from rfl] at hTx
          have HTx := Lib.hid hTx
          clear hTx HM2 HBad
          go_wp2_with fail
          refine HTx.out.mono ?_
          rintro e5 w5 ⟨rfl, hb5⟩
          have HB5 := Lib.hid (HB4.out.trans (hb5.mono HB4.out.size))
          clear hb5 HTx
          go_wp2_with fail
          go_ret
          exact ⟨rfl, HB5.out⟩
      · obtain rfl : k = n := by omega
        have hd2 : decide ((k : Int) < (k : Int)) = false := decide_eq_false (by omega)
        clear hbel
        have hall : ∀ x ∈ l, mayA x = true := fun x hx => by
          obtain ⟨j, hj, rfl⟩ := List.getElem_of_mem hx
          have := HM.out j (by rw [← HL.out]; exact hj)
          rwa [List.getD_eq_getElem?_getD, List.getElem?_eq_getElem hj] at this
        have hok : Ok l := ⟨hall, fun x hx => (HWf.out x hx).i⟩
        have hl3 : l.length ≤ 3000 := by have := HL.out; have := HN3.out; omega
        have hk1 : k ≤ 1000000 := by have := HN3.out; omega
        have hTl := text_len hok
        have hpt := parse_text hok (by omega) (by omega)
        have HT1 := Lib.hid (fun W (hb : Below w.heap.size w W) => textA_any l a k c hk1 W (HTT.out W hb).tabs (HRow.out W hb))
        have HP1 := Lib.hid (fun W (hb : Below w.heap.size w W) => parse_any (textA l) (by omega) W (HTT.out W hb))
        rw [hpt] at HP1
        simp only at HP1
        have HA1 := Lib.hid (fun W (hb : Below w.heap.size w W) => asm_any l a k c hk1 W (HTT.out W hb).tabs (HRow.out W hb))
        unfold AsmP at HA1
        have HS1 := Lib.hid (fun W (hb : Below w.heap.size w W) a' c' (hr : ARow W a' l.length l) => same_any l l a' l.length c' a k c (by omega) W hr (HRow.out W hb))
        rw [decide_eq_true (rfl : l = l)] at HS1
        have HOk := Lib.hid hok
        have HE1 := Lib.hid (fun he => asmE_may hl3 hall he)
        have HL3 := Lib.hid hl3
        have HK1 := Lib.hid hk1
        clear hall hTl hpt hok hl3 hk1 HM
        generalize sB (textA l) = TX at *
        go_wp2_with fail
        refine (HT1.out _ HB.out).mono ?_
        rintro e3 w3 ⟨rfl, hb3⟩
        have HB3 := Lib.hid (HB.out.trans (hb3.mono HB.out.size))
        clear hb3 HT1 HB
        go_wp2_with fail
        refine (HP1.out _ HB3.out).mono ?_
        rintro e4 w4 ⟨v4, rfl, ho4, hb4⟩
        obtain ⟨a4, c4, rfl, _, _, hr4⟩ := own_arow ho4 HWf.out
        have HB4 := Lib.hid (HB3.out.trans (hb4.mono HB3.out.size))
        have HR4 := Lib.hid hr4
        clear hb4 HP1 HB3 ho4 hr4
        go_wp2_with fail
        refine (HS1.out _ HB4.out a4 c4 HR4.out).mono ?_
        rintro e5 w5 ⟨rfl, hb5⟩
        have HB5 := Lib.hid (HB4.out.trans (hb5.mono HB4.out.size))
        clear hb5 HB4 HR4 HS1
        go_wp2_with fail
        refine (HPs.out HLe.out _ HB5.out).mono ?_
        rintro e6 w6 ⟨v6, rfl, ho6, hb6⟩
        obtain ⟨a6, c6, rfl, _, _, hr6⟩ := own_arow ho6 (HPw.out HLe.out).1
        have HB6 := Lib.hid (HB5.out.trans (hb6.mono HB5.out.size))
        have HR6 := Lib.hid hr6
        have HPl := Lib.hid (HPw.out HLe.out).2
        have HAg2 := Lib.hid (HAg.out HLe.out)
        clear hb6 HB5 ho6 hr6 HPs HPw HAg HLe
        by_cases he0 : pe = 0
        · have hag := HAg2.out he0
          have HT2 := Lib.hid (textA_any P a6 P.length c6 (by have := HPl.out; omega) w6 (HTT.out _ HB6.out).tabs HR6.out)
          have HP2 := Lib.hid (fun W (hb : Below w.heap.size w W) => parse_any (textA P) (by have := hag.2.2.1; omega) W (HTT.out W hb))
          rw [hag.2.2.2] at HP2
          simp only at HP2
          have HS2 := Lib.hid (fun W a' c' (hr : ARow W a' P.length P) (hr2 : ARow W a6 P.length P) => same_any P P a' P.length c' a6 P.length c6 (by have := HPl.out; omega) W hr hr2)
          rw [decide_eq_true (rfl : P = P)] at HS2
          have HWp : Hid (∀ x ∈ P, x.wf) := fun x hx => may_wf (hag.1.may x hx) (hag.1.wf x hx)
          clear hag HAg2 HPl
          subst he0
          generalize sB (textA P) = TY at *
          go_wp2_with fail
          refine HT2.out.mono ?_
          rintro e7 w7 ⟨rfl, hb7⟩
          have HB7 := Lib.hid (HB6.out.trans (hb7.mono HB6.out.size))
          have HR7 := Lib.hid (HR6.out.below hb7 (Nat.le_refl _))
          clear hb7 HT2 HB6 HR6
          go_wp2_with fail
          refine (HP2.out _ HB7.out).mono ?_
          rintro e8 w8 ⟨v8, rfl, ho8, hb8⟩
          obtain ⟨a8, c8, rfl, _, _, hr8⟩ := own_arow ho8 HWp.out
          have HB8 := Lib.hid (HB7.out.trans (hb8.mono HB7.out.size))
          have HR8 := Lib.hid (And.intro hr8 (HR7.out.below hb8 (Nat.le_refl _)))
          clear hb8 HP2 HB7 HR7 ho8 hr8
          go_wp2_with fail
          refine (HS2.out _ a8 c8 HR8.out.1 HR8.out.2).mono ?_
          rintro e9 w9 ⟨rfl, hb9⟩
          have HB9 := Lib.hid (HB8.out.trans (hb9.mono HB8.out.size))
          clear hb9 HB8 HR8 HS2 HWp
          go_wp2_with fail
          refine (HA1.out _ HB9.out).mono ?_
          rintro e10 w10 ⟨v10, rfl, ho10, hb10⟩
          have HB10 := Lib.hid (HB9.out.trans (hb10.mono HB9.out.size))
          obtain ⟨a10, c10, rfl, _, _, hr10⟩ := own_irow ho10 (asm_wf HOk.out.wf)
          have HR10 := Lib.hid hr10
          clear hb10 ho10 hr10 HA1 HB9
          by_cases hz : asmE l = 0
          · have hk2 := asm_ok hz
            have hlen : (asmL l).length = l.length := by rw [hk2.2.1, List.length_map]
            have hm2 := asm_may hz HOk.out.wf
            have hrd := read_bytes (l := asmL l) (fun i hi => (hm2 i hi).1) (by have := HL3.out; omega)
            have hby := bytesL_byte (l := asmL l) (fun i hi => (hm2 i hi).2)
            have HBy := Lib.hid (bytesLv_any (asmL l) a10 (asmL l).length c10 (by have := HL3.out; omega) w10 HR10.out)
            have HRd := Lib.hid (fun W (hb : Below w.heap.size w W) a' n' c' h1 h2 (hr : Row W a' n' (bytesL (asmL l))) => readL_any (bytesL (asmL l)) a' n' c' h1 h2 W (HTT.out W hb).tabs hr)
            rw [hrd.1, hrd.2.1, hrd.2.2] at HRd
            have hb8 := bytesL_len (asmL l)
            rw [← hb8] at HBy
            have HSc := Lib.hid (fun W a' c' (hr : IRow W a' (asmL l).length (asmL l)) (hr2 : IRow W a10 (asmL l).length (asmL l)) => sameCode_any (asmL l) (asmL l) a10 (asmL l).length c10 a' (asmL l).length c' (by have := HL3.out; omega) W hr2 hr)
            rw [decide_eq_true (rfl : asmL l = asmL l)] at HSc
            have HWc : Hid (∀ i ∈ asmL l, i.wf) := fun i hi => (hm2 i hi).2
            have HBb := Lib.hid hby
            have hke : (asmL l).length = k := by rw [hlen]; exact HL.out
            rw [hz]
            clear hk2 hlen hm2 hrd hby hb8 HE1 hz HL3 HOk
            generalize bytesL (asmL l) = BL at *
            generalize asmL l = CL at *
            subst hke
            go_wp2_with fail
            refine HBy.out.mono ?_
            rintro e11 w11 ⟨v11, rfl, ho11, hb11⟩
            have HB11 := Lib.hid (HB10.out.trans (hb11.mono HB10.out.size))
            have HR11 := Lib.hid (HR10.out.below hb11 (Nat.le_refl _))
            obtain ⟨a11, c11, rfl, h111, h112, hr11⟩ := own_row8 ho11 HBb.out
            have HRr := Lib.hid (HRd.out w11 HB11.out a11 BL.length c11 h111 (by unfold maxLen at h112; omega) hr11)
            clear hb11 ho11 hr11 h111 h112 HBy HB10 HR10 HRd HBb
            go_wp2_with fail
            refine HRr.out.mono ?_
            rintro e12 w12 ⟨v12, rfl, ho12, hb12⟩
            have HB12 := Lib.hid (HB11.out.trans (hb12.mono HB11.out.size))
            obtain ⟨a12, c12, rfl, _, _, hr12⟩ := own_irow ho12 HWc.out
            have HSs := Lib.hid (HSc.out w12 a12 c12 hr12 (HR11.out.below hb12 (Nat.le_refl _)))
            clear hb12 ho12 hr12 HSc HRr HB11 HR11 HWc
            go_wp2_with fail
            refine HSs.out.mono ?_
            rintro e13 w13 ⟨rfl, hb13⟩
            have HB13 := Lib.hid (HB12.out.trans (hb13.mono HB12.out.size))
            clear hb13 HB12 HSs
            go_wp2_with fail
            go_ret
            exact ⟨rfl, HB13.out⟩
          · have hz1 := HE1.out hz
            rw [hz1]
            clear hz hz1 HE1 HR10
            go_wp2_with fail
            go_ret
            exact ⟨rfl, HB10.out⟩
        · have hne1 : (pe == 0) = false := beq_eq_false_iff_ne.2 he0
          have HB9 := Lib.hid HB6.out
          clear HB6 HR6 HAg2 HPl he0
          go_wp2_with fail
          refine (HA1.out _ HB9.out).mono ?_
          rintro e10 w10 ⟨v10, rfl, ho10, hb10⟩
          have HB10 := Lib.hid (HB9.out.trans (hb10.mono HB9.out.size))
          obtain ⟨a10, c10, rfl, _, _, hr10⟩ := own_irow ho10 (asm_wf HOk.out.wf)
          have HR10 := Lib.hid hr10
          clear hb10 ho10 hr10 HA1 HB9
          by_cases hz : asmE l = 0
          · have hk2 := asm_ok hz
            have hlen : (asmL l).length = l.length := by rw [hk2.2.1, List.length_map]
            have hm2 := asm_may hz HOk.out.wf
            have hrd := read_bytes (l := asmL l) (fun i hi => (hm2 i hi).1) (by have := HL3.out; omega)
            have hby := bytesL_byte (l := asmL l) (fun i hi => (hm2 i hi).2)
            have HBy := Lib.hid (bytesLv_any (asmL l) a10 (asmL l).length c10 (by have := HL3.out; omega) w10 HR10.out)
            have HRd := Lib.hid (fun W (hb : Below w.heap.size w W) a' n' c' h1 h2 (hr : Row W a' n' (bytesL (asmL l))) => readL_any (bytesL (asmL l)) a' n' c' h1 h2 W (HTT.out W hb).tabs hr)
            rw [hrd.1, hrd.2.1, hrd.2.2] at HRd
            have hb8 := bytesL_len (asmL l)
            rw [← hb8] at HBy
            have HSc := Lib.hid (fun W a' c' (hr : IRow W a' (asmL l).length (asmL l)) (hr2 : IRow W a10 (asmL l).length (asmL l)) => sameCode_any (asmL l) (asmL l) a10 (asmL l).length c10 a' (asmL l).length c' (by have := HL3.out; omega) W hr2 hr)
            rw [decide_eq_true (rfl : asmL l = asmL l)] at HSc
            have HWc : Hid (∀ i ∈ asmL l, i.wf) := fun i hi => (hm2 i hi).2
            have HBb := Lib.hid hby
            have hke : (asmL l).length = k := by rw [hlen]; exact HL.out
            rw [hz]
            clear hk2 hlen hm2 hrd hby hb8 HE1 hz HL3 HOk
            generalize bytesL (asmL l) = BL at *
            generalize asmL l = CL at *
            subst hke
            go_wp2_with fail
            refine HBy.out.mono ?_
            rintro e11 w11 ⟨v11, rfl, ho11, hb11⟩
            have HB11 := Lib.hid (HB10.out.trans (hb11.mono HB10.out.size))
            have HR11 := Lib.hid (HR10.out.below hb11 (Nat.le_refl _))
            obtain ⟨a11, c11, rfl, h111, h112, hr11⟩ := own_row8 ho11 HBb.out
            have HRr := Lib.hid (HRd.out w11 HB11.out a11 BL.length c11 h111 (by unfold maxLen at h112; omega) hr11)
            clear hb11 ho11 hr11 h111 h112 HBy HB10 HR10 HRd HBb
            go_wp2_with fail
            refine HRr.out.mono ?_
            rintro e12 w12 ⟨v12, rfl, ho12, hb12⟩
            have HB12 := Lib.hid (HB11.out.trans (hb12.mono HB11.out.size))
            obtain ⟨a12, c12, rfl, _, _, hr12⟩ := own_irow ho12 HWc.out
            have HSs := Lib.hid (HSc.out w12 a12 c12 hr12 (HR11.out.below hb12 (Nat.le_refl _)))
            clear hb12 ho12 hr12 HSc HRr HB11 HR11 HWc
            go_wp2_with fail
            refine HSs.out.mono ?_
            rintro e13 w13 ⟨rfl, hb13⟩
            have HB13 := Lib.hid (HB12.out.trans (hb13.mono HB12.out.size))
            clear hb13 HB12 HSs
            go_wp2_with fail
            go_ret
            exact ⟨rfl, HB13.out⟩
          · have hz1 := HE1.out hz
            rw [hz1]
            clear hz hz1 HE1 HR10
            go_wp2_with fail
            go_ret
            exact ⟨rfl, HB10.out⟩
end Asm
end Go.Proofs.YtgiocecpkhmhhaaGreatDoor
