/- (Made by tools/gen_cways.py.) The walk of CostWays, over what the program's calls answer. -/
import Derived.Test.YtcmbkoghhhhmcaaDoorCostB
import Derived.Test.YtcmbkoghhhhmcaaDoorCostM
import Derived.Test.YtcmbkoghhhhmcaaDoorFlowInts
import Derived.Test.YtcmbkoghhhhmcaaDoorRightsPosts
import Derived.Test.YtcmbkoghhhhmcaaDoorRightsTmps
namespace Go.Proofs.YtcmbkoghhhhmcaaDoor
open Go.ChangeShapes Go.WideShapes Go.ChangeAt Go.RowKit
namespace Cst
open Isa Flw
set_option linter.unusedVariables false
set_option linter.unusedSimpArgs false
/-- what is known of a program without an error, in numbers -/
structure Nums (l : List Iv) (H P : List Nat) (n q : Nat) : Prop where
  at_ : ∀ k, Come l k → k < n ∧ wf H k = ws l k
  pos : ∀ k, k < n → wf H k ≠ 0 → Come l k
  le : ∀ k, k < n → wf H k ≤ n + 1
  beh : ∀ k, Come l k → ∀ m ∈ behL l k, Come l m ∧ ws l m + 1 ≤ ws l k
  last : ∀ k, Come l k → behL l k = [] → ws l k = 1
  q0 : wf H 0 = q
  qp : 0 < q
  p0 : P.getD 0 0 = 0
  path : ∀ i, i < q → PAt l P i
  plen : P.length = q
  len : H.length = n
theorem nums_of {l : List Iv} (hw : ∀ i ∈ l, i.wf) (h : frE l = 0) : Nums l (frW l) (pth l) l.length (ws l 0) := by
  obtain ⟨hf, hfr⟩ := fr_free h
  obtain ⟨p1, p2, p3⟩ := pth_at hw h
  have hat : ∀ k, Come l k → k < l.length ∧ wf (frW l) k = ws l k := fun k hk => by
    have hlt := come_lt hf hw hk
    exact ⟨hlt, by rw [frW_at h hlt, if_pos (comeB_iff.2 hk)]⟩
  refine ⟨hat, fun k hk hne => ?_, fun k hk => ?_, fun k hk m hm => ?_, fun k hk e => ?_, (hat 0 .zero).2, ws_pos l 0, p2, fun i hi => p3 i (by omega), p1, ?_⟩
  · cases hc : comeB l k with
    | true => exact comeB_iff.1 hc
    | false => rw [frW_at h hk, if_neg (by rw [hc]; simp)] at hne; exact absurd rfl hne
  · rw [frW_at h hk]
    split
    · rename_i e
      have := ws_le hf hw hfr (comeB_iff.1 e); omega
    · omega
  · have := ws_eq hf hw hfr hk
    have := maxL_ge (f := ws l) hm
    exact ⟨.step hk hm, by omega⟩
  · have := ws_eq hf hw hfr hk
    rw [e] at this
    exact this
  · unfold frW; rw [if_pos h]; simp
set_option maxRecDepth 100000 in
set_option maxHeartbeats 12800000 in
theorem ways_walk (w : World) (hT : Tabs w) (hKn : KnownC) (hF : FromC) (hP : PathC) (hB : BehindC) (a : Option Addr) (n c : Nat) (l : List Iv) (h : IRow w a n l) (hc : n ≤ c ∧ c ≤ 9223372036854775807) (fm : Int) (hfm : -9223372036854775808 ≤ fm ∧ fm ≤ 9223372036854775807)
    (a2 : Option Addr) (m2 c2 : Nat) (ch : List Bool) (h2 : CRow w a2 m2 ch) (hc2 : m2 ≤ c2 ∧ c2 ≤ 9223372036854775807) :
    Calls Tryd.prog 4 #[.slice a n c, .int .i64 fm, .slice a2 m2 c2] w fun e w' => e = .returned (.bool true) ∧ Below w.heap.size w w' := by
  have hln : l.length = n := h.1
  have HK := Lib.hid (hKn w hT)
  have HFr := Lib.hid (fun W (hb : Below w.heap.size w W) => hF l a n c W (hT.below hb (Nat.le_refl _)) hc.1 hc.2 (h.below hb (Nat.le_refl _)))
  have HPt := Lib.hid (fun W (hb : Below w.heap.size w W) => hP l a n c W (hT.below hb (Nat.le_refl _)) hc.1 hc.2 (h.below hb (Nat.le_refl _)))
  have HBh := Lib.hid (fun (k : Int) h1 h2 W (hb : Below w.heap.size w W) => hB l a n c k W (hT.below hb (Nat.le_refl _)) hc.1 hc.2 h1 h2 (h.below hb (Nat.le_refl _)))
  have HCh := Lib.hid (fun W (hb : Below w.heap.size w W) => h2.below hb (Nat.le_refl _))
  have HC2 : Hid (m2 ≤ 9223372036854775807) := by show _ ≤ _; omega
  have HW := Lib.hid h.2.1
  have HFm := Lib.hid hfm
  clear h hT hKn hF hP hB hc h2 hc2 hfm
  unfold fromP at HFr
  go_enter Tryd.func4, Tryd.ntmps4
  go_wp2_with fail
  refine HK.out.mono ?_
  rintro e1 w1 ⟨rfl, hb1⟩
  have HB1 := Lib.hid hb1
  clear hb1 HK
  by_cases h3 : 1000 < n
  · have e1 : decide ((1000 : Int) < (n : Int)) = true := decide_eq_true (by omega)
    clear h3
    go_wp2_with fail
    go_ret
    exact ⟨rfl, HB1.out⟩
  have hd1 : decide ((1000 : Int) < (n : Int)) = false := decide_eq_false (by omega)
  by_cases hE : frE l = 0
  case neg =>
    have hne : (frE l != 0) = true := by simpa using hE
    have heq : (frE l == frE l) = true := by simp
    have hH : frW l = [] := by unfold frW; rw [if_neg hE]
    rw [hH] at HFr
    have hPe := pth_err hE
    rw [hPe] at HPt
    clear h3 hE hH hPe
    generalize frE l = E at *
    generalize frN l = N at *
    go_wp2_with fail
    refine (HFr.out w1 HB1.out).mono ?_
    rintro e w2 ⟨⟨v, rfl, ho⟩, hb2⟩
    obtain ⟨va, vc, rfl, _, _⟩ := own_shape ho
    have HB2 := Lib.hid (HB1.out.trans (hb2.mono HB1.out.size))
    clear hb2 ho
    go_wp2_with fail
    refine (HPt.out w2 HB2.out).mono ?_
    rintro e w3 ⟨v, rfl, ho, hb3⟩
    obtain ⟨pa, pc, rfl, _, _, _, _⟩ := nums_row ho
    have HB3 := Lib.hid (HB2.out.trans (hb3.mono HB2.out.size))
    clear hb3 ho
    go_wp2_with fail
    go_ret
    exact ⟨rfl, HB3.out⟩
  have hN := nums_of HW.out hE
  have hfn : frN l = 0 := by obtain ⟨hf, hfr⟩ := fr_free hE; exact (fr_of hf hfr).2
  have hchk : chkE l = 0 := by
    apply Classical.byContradiction
    intro q
    unfold frE at hE
    rw [if_pos q] at hE
    exact q hE
  have HBin : Hid (∀ i, i < n → ∀ W, Below w.heap.size w W → Calls Tryd.prog 12 #[.slice a n c, .int .i64 (i : Int)] W fun e w' => ∃ v, e = .returned v ∧ numsP W.heap.size (behL l i) w' v ∧ Below W.heap.size W w') := fun i hi W hb => by
    have := HBh.out (i : Int) (by omega) (by omega) W hb
    rwa [behA_in hchk (by omega)] at this
  rw [hE, hfn, hN.len, hln] at HFr
  rw [hE] at HPt
  rw [hln] at hN
  clear hchk HBh hfn hE
  obtain ⟨q, hq⟩ : ∃ q, ws l 0 = q := ⟨_, rfl⟩
  rw [hq] at hN
  clear hq
  generalize frW l = H at *
  generalize pth l = P at *
  have HN := Lib.hid hN
  have hq0 := hN.qp
  have hqn : q ≤ n + 1 := by have := hN.le 0 (hN.at_ 0 .zero).1; rw [hN.q0] at this; exact this
  have hn0 : 0 < n := (hN.at_ 0 .zero).1
  clear hN
  go_wp2_with fail
  refine (HFr.out w1 HB1.out).mono ?_
  rintro e w2 ⟨⟨v, rfl, ho⟩, hb2⟩
  obtain ⟨g2, cap2, rfl, _, _⟩ := own_some ho hn0
  have HU2 : Hid (UO w1.heap.size g2 cap2 n H w2) := ho
  have HB2 := Lib.hid (HB1.out.trans (hb2.mono HB1.out.size))
  clear hb2 ho HFr
  go_wp2_with fail
  refine (HPt.out w2 HB2.out).mono ?_
  rintro e w3 ⟨v, rfl, ho, hb3⟩
  obtain ⟨pa, pc, e, _, _, hr, _⟩ := nums_row ho
  rw [HN.out.plen] at e hr
  subst e
  obtain ⟨pb, po, rfl, hpc⟩ := hr.at 0 hq0
  have HB3 := Lib.hid (HB2.out.trans (hb3.mono HB2.out.size))
  have HX := Lib.hid (fun X (hb : Below w3.heap.size w3 X) => And.intro ((HU2.out.below hb3 (Nat.le_refl _)).below hb (Nat.le_refl _)) (And.intro (hr.below hb (Nat.le_refl _)) ((HB3.out.trans (hb.mono HB3.out.size)))))
  have qw := (HX.out w3 (Below.refl _ _)).1.at hn0
  rw [HN.out.q0] at qw
  rw [HN.out.p0, Nat.add_zero] at hpc
  have hwq : IntKind.u32.wrap (q : Int) = (q : Int) := by simp [IntKind.wrap, IntKind.bits, IntKind.signed]; omega
  have hqq : ((q : Int) != (q : Int)) = false := by simp
  have hnn : ((n : Int) != (n : Int)) = false := by simp
  have q1 : (0 : Int) < q := by omega
  have n1 : (0 : Int) < n := by omega
  clear hb3 ho hr HU2 HPt HB1 HB2 hd1
  go_wp2_with fail
  have HPc : Hid (∀ X, Below w3.heap.size w3 X → ∀ k, k < q → X.cell? ⟨pb, po + k, none⟩ = some (.int .i64 ((P.getD k 0 : Nat) : Int))) := fun X hb k hk => by
    obtain ⟨b, off, e, hcv⟩ := (HX.out X hb).2.1.at k hk
    injection e with e
    injection e with e1 e2 e3
    rw [e1, e2]
    exact hcv
  obtain ⟨r, hr1⟩ : ∃ r, q = r + 1 := ⟨q - 1, by omega⟩
  have HR1 := Lib.hid hr1
  have hwr : IntKind.i64.wrap ((q : Int) - 1) = (r : Int) := by simp [IntKind.wrap, IntKind.bits, IntKind.signed]; omega
  clear hpc qw hwq hqq hnn hr1
  go_loopw [78] (fun x wr => ∃ i : Nat, i < q ∧ x = .int .i64 i ∧ Below w3.heap.size w3 wr) (fun x _ => n + 1 - (intOf x).toNat)
  case atStart => exact ⟨0, by omega, rfl, Below.refl _ _⟩
  case round =>
    obtain ⟨i, hi, rfl, hbel⟩ := hrel
    have HBw := Lib.hid hbel
    have HPA := Lib.hid (HN.out.path i hi)
    have hxn := (HN.out.at_ _ HPA.out.come).1
    have qp := HPc.out wr hbel i hi
    have hd : decide ((i : Int) < (q : Int)) = true := decide_eq_true (by omega)
    have i0 : (0 : Int) ≤ i := by omega
    have i1 : (i : Int) < q := by omega
    have HBx := Lib.hid (HBin.out _ hxn wr (HX.out wr hbel).2.2)
    have HPi := Lib.hid (HPc.out)
    clear hbel
    by_cases hl : i = r
    · have hbe := HPA.out.last (by rw [HN.out.plen]; have := HR1.out; omega)
      rw [hbe] at HBx
      subst hl
      have he : ((i : Int) == (i : Int)) = true := by simp
      clear HPA hbe
      generalize P.getD i 0 = x at *
      go_wp2_with fail
      refine HBx.out.mono ?_
      rintro e w6 ⟨v, rfl, ho, hb6⟩
      obtain ⟨a6, c6, rfl, _, _, _, _⟩ := nums_row ho
      have HB6 := Lib.hid (HBw.out.trans (hb6.mono HBw.out.size))
      clear hb6 ho HBx HPi HPc qp hd i0 i1 HBw hxn
      have HY := Lib.hid (fun X (hb : Below w6.heap.size w6 X) => HX.out X (HB6.out.trans (hb.mono HB6.out.size)))
      by_cases f0 : fm < 0
      · have g0 : decide (fm < 0) = true := decide_eq_true f0
        go_wp2_with fail
        go_ret
        exact ⟨rfl, (HY.out w6 (Below.refl _ _)).2.2⟩
      have g0 : decide (fm < 0) = false := decide_eq_false f0
      by_cases f1 : (n : Int) ≤ fm
      · have g1 : decide ((n : Int) ≤ fm) = true := decide_eq_true f1
        go_wp2_with fail
        go_ret
        exact ⟨rfl, (HY.out w6 (Below.refl _ _)).2.2⟩
      have g1 : decide ((n : Int) ≤ fm) = false := decide_eq_false f1
      obtain ⟨F, rfl⟩ : ∃ F : Nat, fm = F := ⟨fm.toNat, by omega⟩
      have hFn : F < n := by omega
      have g1N : (n ≤ F) = False := eq_false (by omega)
      have g1M : decide (n ≤ F) = false := decide_eq_false (by omega)
      have F0 : (0 : Int) ≤ F := by omega
      have F1 : (F : Int) < n := by omega
      have qF := (HY.out w6 (Below.refl _ _)).1.at hFn
      obtain ⟨z, hz⟩ : ∃ z, wf H F = z := ⟨_, rfl⟩
      rw [hz] at qF
      by_cases hz0 : z = 0
      · subst hz0
        clear hz f0 f1
        go_wp2_with fail
        go_ret
        exact ⟨rfl, (HY.out w6 (Below.refl _ _)).2.2⟩
      have hcF := HN.out.pos F hFn (by omega)
      have hzw : ws l F = z := by rw [← hz]; exact (HN.out.at_ F hcF).2.symm
      have hzn : z ≤ n + 1 := by rw [← hz]; exact HN.out.le F hFn
      have g2' : ((z : Int) == 0) = false := by simp; omega
      have HCF := Lib.hid hcF
      have HZw := Lib.hid hzw
      have HFz : Hid (∀ X, Below w6.heap.size w6 X → X.cell? ⟨g2, F, none⟩ = some (.int .u32 (z : Int))) := fun X hb => by
        have := (HY.out X hb).1.at hFn
        rwa [hz] at this
      clear hz f0 f1 hcF hzw he HFm
      go_wp2_with fail
      clear qF g2' g0 g1
      go_loopw [17, 18, 19] (fun s t x wr => ∃ (k sn tn : Nat), Come l k ∧ s = .int .u32 sn ∧ t = .int .i64 tn ∧ x = .int .i64 k ∧ sn + ws l k ≤ z + 1 ∧ tn < sn ∧ Below w6.heap.size w6 wr) (fun _ _ x _ => ws l (intOf x).toNat)
      case atStart => exact ⟨F, 1, 0, HCF.out, rfl, rfl, rfl, by rw [HZw.out]; omega, by omega, Below.refl _ _⟩
      case round =>
        obtain ⟨k, sn, tn, hk, rfl, rfl, rfl, hs, ht, hbel⟩ := hrel
        have hkn := (HN.out.at_ k hk).1
        have HBx := Lib.hid (HBin.out k hkn wr (HY.out wr hbel).2.2)
        have HBw := Lib.hid hbel
        have HBe := Lib.hid (fun m hm => HN.out.beh k hk m hm)
        have hsn : 0 < sn := by omega
        clear hbel
        by_cases hbe : behL l k = []
        · have hw1 := HN.out.last k hk hbe
          have g2' : decide ((sn : Int) ≤ (z : Int)) = true := decide_eq_true (by omega)
          rw [hbe] at HBx
          have hsz : sn ≤ z := by omega
          clear hbe HBe hk hs ht hw1
          go_wp2_with fail
          refine HBx.out.mono ?_
          rintro e w7 ⟨v, rfl, ho, hb7⟩
          obtain ⟨a7, c7, rfl, _, _, _, _⟩ := nums_row ho
          have HB7 := Lib.hid (HBw.out.trans (hb7.mono HBw.out.size))
          have qF := HFz.out w7 HB7.out
          clear hb7 ho HBx
          go_wp2_with fail
          go_ret
          exact ⟨by simp [hsz], (HY.out w7 HB7.out).2.2⟩
        · have hp0 : 0 < (behL l k).length := by
            cases hq : behL l k with
            | nil => exact absurd hq hbe
            | cons _ _ => simp
          have hpl := beh_len l k
          have HMem := Lib.hid (fun j (hj : j < (behL l k).length) => HBe.out _ (getD_mem 0 hj))
          have hws := (HMem.out 0 hp0).2
          have hwp := ws_pos l ((behL l k).getD 0 0)
          have g2' : decide ((z : Int) ≤ (sn : Int)) = false := decide_eq_false (by omega)
          have gN : decide (z ≤ sn) = false := decide_eq_false (by omega)
          have gM : (z ≤ sn) = False := eq_false (by omega)
          have HS := Lib.hid hs
          have HT := Lib.hid ht
          have HK := Lib.hid hk
          have hww : IntKind.u32.wrap ((sn : Int) + 1) = ((sn + 1 : Nat) : Int) := by simp [IntKind.wrap, IntKind.bits, IntKind.signed]; omega
          have htw : IntKind.i64.wrap ((tn : Int) + 1) = ((tn + 1 : Nat) : Int) := by simp [IntKind.wrap, IntKind.bits, IntKind.signed]; omega
          obtain ⟨sn1, hsn1⟩ : ∃ x, sn + 1 = x := ⟨_, rfl⟩
          obtain ⟨tn1, htn1⟩ : ∃ x, tn + 1 = x := ⟨_, rfl⟩
          rw [hsn1] at hww
          rw [htn1] at htw
          have HSn := Lib.hid hsn1
          have HTn := Lib.hid htn1
          clear hbe hs ht hk hws hwp hsn1 htn1 HBe
          generalize hL : behL l k = Lk at *
          obtain ⟨p, hp⟩ : ∃ p, Lk.length = p := ⟨_, rfl⟩
          rw [hp] at hp0 hpl HMem
          have HPl := Lib.hid hp
          clear hL hp
          go_wp2_with fail
          refine HBx.out.mono ?_
          rintro e w7 ⟨v, rfl, ho, hb7⟩
          obtain ⟨a7, c7, e, _, _, hr7, _⟩ := nums_row ho
          rw [HPl.out] at e hr7
          subst e
          have HB7 := Lib.hid (HBw.out.trans (hb7.mono HBw.out.size))
          have qF := HFz.out w7 HB7.out
          obtain ⟨b7, o7, rfl, q70⟩ := hr7.at 0 hp0
          rw [Nat.add_zero] at q70
          have hb0 := HMem.out 0 hp0
          have hp00 : ((p : Int) == 0) = false := by simp; omega
          have p1 : (0 : Int) < p := by omega
          clear hb7 ho HBx
          by_cases hp1 : p = 1
          · have d1 : decide ((1 : Int) < (p : Int)) = false := decide_eq_false (by omega)
            clear hr7 HMem hp1
            generalize Lk.getD 0 0 = y at *
            go_wp2_with fail
            refine ⟨?_, ?_⟩
            · exact ⟨y, sn1, tn, hb0.1, rfl, rfl, rfl, by have := HS.out; have := hb0.2; have := HSn.out; omega, by have := HT.out; have := HSn.out; omega, HB7.out⟩
            · show ws l (intOf (Value.int .i64 ((y : Nat) : Int))).toNat < ws l (intOf (Value.int .i64 ((k : Nat) : Int))).toNat
              simp [intOf]; have := hb0.2; omega
          · have d1 : decide ((1 : Int) < (p : Int)) = true := decide_eq_true (by omega)
            have hp2 : 1 < p := by omega
            have hb1 := HMem.out 1 hp2
            obtain ⟨b8, o8, e, q71⟩ := hr7.at 1 hp2
            injection e with e
            injection e with e1 e2 e3
            subst e1 e2
            have p2 : (1 : Int) < p := by omega
            clear hr7 HMem hp1 e3
            generalize Lk.getD 0 0 = y at *
            generalize Lk.getD 1 0 = y1 at *
            by_cases htm : tn < m2
            · have d2 : decide ((tn : Int) < (m2 : Int)) = true := decide_eq_true (by omega)
              obtain ⟨b9, o9, rfl, q9⟩ := (HCh.out w7 (HY.out w7 HB7.out).2.2).at tn htm
              have t0 : (0 : Int) ≤ tn := by omega
              have t1 : (tn : Int) < m2 := by omega
              cases hch : ch.getD tn false with
              | true =>
                rw [hch] at q9
                go_wp2_with fail
                refine ⟨?_, ?_⟩
                · exact ⟨y1, sn1, tn1, hb1.1, rfl, rfl, rfl, by have := HS.out; have := hb1.2; have := HSn.out; omega, by have := HT.out; have := HSn.out; have := HTn.out; omega, HB7.out⟩
                · show ws l (intOf (Value.int .i64 ((y1 : Nat) : Int))).toNat < ws l (intOf (Value.int .i64 ((k : Nat) : Int))).toNat
                  simp [intOf]; have := hb1.2; omega
              | false =>
                rw [hch] at q9
                go_wp2_with fail
                refine ⟨?_, ?_⟩
                · exact ⟨y, sn1, tn1, hb0.1, rfl, rfl, rfl, by have := HS.out; have := hb0.2; have := HSn.out; omega, by have := HT.out; have := HSn.out; have := HTn.out; omega, HB7.out⟩
                · show ws l (intOf (Value.int .i64 ((y : Nat) : Int))).toNat < ws l (intOf (Value.int .i64 ((k : Nat) : Int))).toNat
                  simp [intOf]; have := hb0.2; omega
            · have d2 : decide ((tn : Int) < (m2 : Int)) = false := decide_eq_false (by omega)
              go_wp2_with fail
              refine ⟨?_, ?_⟩
              · exact ⟨y, sn1, tn1, hb0.1, rfl, rfl, rfl, by have := HS.out; have := hb0.2; have := HSn.out; omega, by have := HT.out; have := HSn.out; have := HTn.out; omega, HB7.out⟩
              · show ws l (intOf (Value.int .i64 ((y : Nat) : Int))).toNat < ws l (intOf (Value.int .i64 ((k : Nat) : Int))).toNat
                simp [intOf]; have := hb0.2; omega
    · have he : ((i : Int) == (r : Int)) = false := by simp; omega
      have hi1 : i + 1 < q := by have := HR1.out; omega
      obtain ⟨z1, z2, z3, z4⟩ := HPA.out.more (by rw [HN.out.plen]; exact hi1)
      have hcy := (HN.out.beh _ HPA.out.come _ z2).1
      have hyn := (HN.out.at_ _ hcy).1
      have hyw := (HN.out.at_ _ hcy).2
      have hp0 : 0 < (behL l (P.getD i 0)).length := by
        cases hq : behL l (P.getD i 0) with
        | nil => exact absurd hq z1
        | cons _ _ => simp
      have hpl := beh_len l (P.getD i 0)
      have HMm : Hid (∀ j, j < (behL l (P.getD i 0)).length → (behL l (P.getD i 0)).getD j 0 < n ∧ wf H ((behL l (P.getD i 0)).getD j 0) ≤ wf H (P.getD (i + 1) 0)) := fun j hj => by
        have hm := getD_mem (l := behL l (P.getD i 0)) 0 hj
        have hcm := (HN.out.beh _ HPA.out.come _ hm).1
        obtain ⟨u1, u2⟩ := HN.out.at_ _ hcm
        refine ⟨u1, ?_⟩
        rw [u2, hyw, z3]
        exact maxL_ge hm
      have hhead : (behL l (P.getD i 0)).getD 0 0 = P.getD (i + 1) 0 ∨ wf H ((behL l (P.getD i 0)).getD 0 0) < wf H (P.getD (i + 1) 0) := by
        rcases z4 with e | e
        · exact .inl e
        · right
          have hcm := (HN.out.beh _ HPA.out.come _ (getD_mem (l := behL l (P.getD i 0)) 0 hp0)).1
          rw [(HN.out.at_ _ hcm).2, hyw]
          exact e
      have HHd := Lib.hid hhead
      have hw1 : IntKind.i64.wrap ((i : Int) + 1) = ((i + 1 : Nat) : Int) := by simp [IntKind.wrap, IntKind.bits, IntKind.signed]; omega
      have HPy := Lib.hid (fun X hb => HPi.out X hb (i + 1) hi1)
      obtain ⟨i2, hi2⟩ : ∃ x, i + 1 = x := ⟨_, rfl⟩
      rw [hi2] at hw1 HPy HMm HHd hi1 hyn
      have HI2 := Lib.hid hi2
      clear z1 z2 z3 z4 hcy hyw hhead hi2 HPA
      generalize P.getD i2 0 = y at *
      generalize P.getD i 0 = x at *
      generalize behL l x = Lx at *
      obtain ⟨p, hp⟩ : ∃ p, Lx.length = p := ⟨_, rfl⟩
      rw [hp] at hp0 hpl HMm
      have HPl := Lib.hid hp
      have y0 : (0 : Int) ≤ y := by omega
      have y1 : (y : Int) < n := by omega
      have i20 : (0 : Int) ≤ i2 := by omega
      have i21 : (i2 : Int) < q := by omega
      clear hp
      go_wp2_with fail
      refine HBx.out.mono ?_
      rintro e w6 ⟨v, rfl, ho, hb6⟩
      obtain ⟨a6, c6, e, _, _, hr6, _⟩ := nums_row ho
      rw [HPl.out] at e hr6
      subst e
      have HB6 := Lib.hid (HBw.out.trans (hb6.mono HBw.out.size))
      have HG6 := Lib.hid (fun X (hb : Below w6.heap.size w6 X) => And.intro (hr6.below hb (Nat.le_refl _)) (And.intro (HX.out X (HB6.out.trans (hb.mono HB6.out.size))) (HPy.out X (HB6.out.trans (hb.mono HB6.out.size)))))
      have hvu := HN.out.le y hyn
      clear hb6 ho HBx hr6 qp HPi HPc
      go_wp2_with fail
      go_loopw [96] (fun x wr => ∃ j : Nat, j ≤ p ∧ x = .int .i64 j ∧ Below w6.heap.size w6 wr) (fun x _ => p - (intOf x).toNat)
      case atStart => exact ⟨0, by omega, rfl, Below.refl _ _⟩
      case round =>
        obtain ⟨j, hj, rfl, hbel⟩ := hrel
        have HBr := Lib.hid hbel
        have qy := (HG6.out wr hbel).2.2
        have qwy := (HG6.out wr hbel).2.1.1.at hyn
        by_cases hjp : j < p
        · have hd2 : decide ((j : Int) < (p : Int)) = true := decide_eq_true (by omega)
          obtain ⟨b7, o7, rfl, q7⟩ := (HG6.out wr hbel).1.at j hjp
          obtain ⟨hmn, hml⟩ := HMm.out j hjp
          have qwm := (HG6.out wr hbel).2.1.1.at hmn
          have hmu := HN.out.le _ hmn
          have d3 : decide ((wf H y : Int) < (wf H (Lx.getD j 0) : Int)) = false := decide_eq_false (by omega)
          have d3N : (wf H y < wf H (Lx.getD j 0)) = False := eq_false (by omega)
          generalize Lx.getD j 0 = m at *
          have m0 : (0 : Int) ≤ m := by omega
          have m1 : (m : Int) < n := by omega
          have j0 : (0 : Int) ≤ j := by omega
          have j1 : (j : Int) < p := by omega
          generalize wf H y = wy at *
          generalize wf H m = wm at *
          clear hbel
          go_wp2_with fail
          have hE := Posts.ext_rel
          refine (wpIn_wide (n := 0)).1 (Posts.wpIn_region_tail hE 13 0 (Posts.At [Posts.is (.slice (some ⟨g2, 0, none⟩) n cap2), Posts.is (.int .i64 (m : Nat)), Posts.is (.pointer (some ⟨g2, m, none⟩)), Posts.is (.int .u32 (wm : Nat)), Posts.is (.slice (some ⟨g2, 0, none⟩) n cap2), Posts.is (.slice (some ⟨pb, po, none⟩) q pc), Posts.is (.int .i64 (i : Nat)), Posts.is (.int .i64 (i2 : Nat)), Posts.is (.pointer (some ⟨pb, po + i2, none⟩)), Posts.is (.int .i64 (y : Nat)), Posts.is (.pointer (some ⟨g2, y, none⟩)), Posts.is (.int .u32 (wy : Nat)), Posts.is (.bool false)]) (fun _ _ => True) (by kernel_rfl) (by decide) (by kernel_rfl) (by kernel_rfl) (by kernel_rfl)
            (Posts.stable_at _ (by repeat' (first | exact trivial | (refine And.intro ?_ ?_) | exact Posts.is_stable _ | exact Posts.on_stable _ _ | assumption))) trivial ?_ ?_)
          · refine ⟨?_, ?_, ?_, ?_, ?_, ?_, ?_, ?_, ?_, ?_, ?_, ?_, ?_, trivial⟩
            · intro a X hX hS hD hJ hU
              have x0 := (World.cell?_of_block (Posts.Ext.blk hX _ (World.block_lt_of_cell? _ _ qwm))).trans qwm
              have x1 := (World.cell?_of_block (Posts.Ext.blk hX _ (World.block_lt_of_cell? _ _ qy))).trans qy
              have x2 := (World.cell?_of_block (Posts.Ext.blk hX _ (World.block_lt_of_cell? _ _ qwy))).trans qwy
              have d7 := Posts.slot (show a.eval (.tmp 7) = .slice (some ⟨g2, 0, none⟩) n cap2 from hS.other 7 rfl)
              exact Posts.op_value (fun _ => trivial) rfl rfl (by intro c h; cases h) rfl (by rw [hS.size]; simp) (v := .slice (some ⟨g2, 0, none⟩) n cap2) (by simp [execOp, d7,  go_sem, x0, x1, x2, m0, m1, y0, y1, i20, i21, hw1, d3, d3N]) rfl (hE.refl _) trivial
            · intro a X hX hS hD hJ hU
              have x0 := (World.cell?_of_block (Posts.Ext.blk hX _ (World.block_lt_of_cell? _ _ qwm))).trans qwm
              have x1 := (World.cell?_of_block (Posts.Ext.blk hX _ (World.block_lt_of_cell? _ _ qy))).trans qy
              have x2 := (World.cell?_of_block (Posts.Ext.blk hX _ (World.block_lt_of_cell? _ _ qwy))).trans qwy
              have d16 := Posts.slot (show a.eval (.tmp 16) = .int .i64 (m : Nat) from hS.other 16 rfl)
              exact Posts.op_value (fun _ => trivial) rfl rfl (by intro c h; cases h) rfl (by rw [hS.size]; simp) (v := .int .i64 (m : Nat)) (by simp [execOp, d16,  go_sem, x0, x1, x2, m0, m1, y0, y1, i20, i21, hw1, d3, d3N]) rfl (hE.refl _) trivial
            · intro a X hX hS hD hJ hU
              have x0 := (World.cell?_of_block (Posts.Ext.blk hX _ (World.block_lt_of_cell? _ _ qwm))).trans qwm
              have x1 := (World.cell?_of_block (Posts.Ext.blk hX _ (World.block_lt_of_cell? _ _ qy))).trans qy
              have x2 := (World.cell?_of_block (Posts.Ext.blk hX _ (World.block_lt_of_cell? _ _ qwy))).trans qwy
              have d100 := Posts.slot (show a.eval (.tmp 100) = .slice (some ⟨g2, 0, none⟩) n cap2 from hD.1)
              have d101 := Posts.slot (show a.eval (.tmp 101) = .int .i64 (m : Nat) from hD.2.1)
              exact Posts.op_value (fun _ => trivial) rfl rfl (by intro c h; cases h) rfl (by rw [hS.size]; simp) (v := .pointer (some ⟨g2, m, none⟩)) (by simp [execOp, d100, d101,  go_sem, x0, x1, x2, m0, m1, y0, y1, i20, i21, hw1, d3, d3N]) rfl (hE.refl _) trivial
            · intro a X hX hS hD hJ hU
              have x0 := (World.cell?_of_block (Posts.Ext.blk hX _ (World.block_lt_of_cell? _ _ qwm))).trans qwm
              have x1 := (World.cell?_of_block (Posts.Ext.blk hX _ (World.block_lt_of_cell? _ _ qy))).trans qy
              have x2 := (World.cell?_of_block (Posts.Ext.blk hX _ (World.block_lt_of_cell? _ _ qwy))).trans qwy
              have d102 := Posts.slot (show a.eval (.tmp 102) = .pointer (some ⟨g2, m, none⟩) from hD.1)
              exact Posts.op_value (fun _ => trivial) rfl rfl (by intro c h; cases h) rfl (by rw [hS.size]; simp) (v := .int .u32 (wm : Nat)) (by simp [execOp, d102,  go_sem, x0, x1, x2, m0, m1, y0, y1, i20, i21, hw1, d3, d3N]) rfl (hE.refl _) trivial
            · intro a X hX hS hD hJ hU
              have x0 := (World.cell?_of_block (Posts.Ext.blk hX _ (World.block_lt_of_cell? _ _ qwm))).trans qwm
              have x1 := (World.cell?_of_block (Posts.Ext.blk hX _ (World.block_lt_of_cell? _ _ qy))).trans qy
              have x2 := (World.cell?_of_block (Posts.Ext.blk hX _ (World.block_lt_of_cell? _ _ qwy))).trans qwy
              have d7 := Posts.slot (show a.eval (.tmp 7) = .slice (some ⟨g2, 0, none⟩) n cap2 from hS.other 7 rfl)
              exact Posts.op_value (fun _ => trivial) rfl rfl (by intro c h; cases h) rfl (by rw [hS.size]; simp) (v := .slice (some ⟨g2, 0, none⟩) n cap2) (by simp [execOp, d7,  go_sem, x0, x1, x2, m0, m1, y0, y1, i20, i21, hw1, d3, d3N]) rfl (hE.refl _) trivial
            · intro a X hX hS hD hJ hU
              have x0 := (World.cell?_of_block (Posts.Ext.blk hX _ (World.block_lt_of_cell? _ _ qwm))).trans qwm
              have x1 := (World.cell?_of_block (Posts.Ext.blk hX _ (World.block_lt_of_cell? _ _ qy))).trans qy
              have x2 := (World.cell?_of_block (Posts.Ext.blk hX _ (World.block_lt_of_cell? _ _ qwy))).trans qwy
              have d10 := Posts.slot (show a.eval (.tmp 10) = .slice (some ⟨pb, po, none⟩) q pc from hS.other 10 rfl)
              exact Posts.op_value (fun _ => trivial) rfl rfl (by intro c h; cases h) rfl (by rw [hS.size]; simp) (v := .slice (some ⟨pb, po, none⟩) q pc) (by simp [execOp, d10,  go_sem, x0, x1, x2, m0, m1, y0, y1, i20, i21, hw1, d3, d3N]) rfl (hE.refl _) trivial
            · intro a X hX hS hD hJ hU
              have x0 := (World.cell?_of_block (Posts.Ext.blk hX _ (World.block_lt_of_cell? _ _ qwm))).trans qwm
              have x1 := (World.cell?_of_block (Posts.Ext.blk hX _ (World.block_lt_of_cell? _ _ qy))).trans qy
              have x2 := (World.cell?_of_block (Posts.Ext.blk hX _ (World.block_lt_of_cell? _ _ qwy))).trans qwy
              have d12 := Posts.slot (show a.eval (.tmp 12) = .int .i64 (i : Nat) from hS.other 12 rfl)
              exact Posts.op_value (fun _ => trivial) rfl rfl (by intro c h; cases h) rfl (by rw [hS.size]; simp) (v := .int .i64 (i : Nat)) (by simp [execOp, d12,  go_sem, x0, x1, x2, m0, m1, y0, y1, i20, i21, hw1, d3, d3N]) rfl (hE.refl _) trivial
            · intro a X hX hS hD hJ hU
              have x0 := (World.cell?_of_block (Posts.Ext.blk hX _ (World.block_lt_of_cell? _ _ qwm))).trans qwm
              have x1 := (World.cell?_of_block (Posts.Ext.blk hX _ (World.block_lt_of_cell? _ _ qy))).trans qy
              have x2 := (World.cell?_of_block (Posts.Ext.blk hX _ (World.block_lt_of_cell? _ _ qwy))).trans qwy
              have d106 := Posts.slot (show a.eval (.tmp 106) = .int .i64 (i : Nat) from hD.1)
              exact Posts.op_value (fun _ => trivial) rfl rfl (by intro c h; cases h) rfl (by rw [hS.size]; simp) (v := .int .i64 (i2 : Nat)) (by simp [execOp, d106,  go_sem, x0, x1, x2, m0, m1, y0, y1, i20, i21, hw1, d3, d3N]) rfl (hE.refl _) trivial
            · intro a X hX hS hD hJ hU
              have x0 := (World.cell?_of_block (Posts.Ext.blk hX _ (World.block_lt_of_cell? _ _ qwm))).trans qwm
              have x1 := (World.cell?_of_block (Posts.Ext.blk hX _ (World.block_lt_of_cell? _ _ qy))).trans qy
              have x2 := (World.cell?_of_block (Posts.Ext.blk hX _ (World.block_lt_of_cell? _ _ qwy))).trans qwy
              have d105 := Posts.slot (show a.eval (.tmp 105) = .slice (some ⟨pb, po, none⟩) q pc from hD.1)
              have d107 := Posts.slot (show a.eval (.tmp 107) = .int .i64 (i2 : Nat) from hD.2.1)
              exact Posts.op_value (fun _ => trivial) rfl rfl (by intro c h; cases h) rfl (by rw [hS.size]; simp) (v := .pointer (some ⟨pb, po + i2, none⟩)) (by simp [execOp, d105, d107,  go_sem, x0, x1, x2, m0, m1, y0, y1, i20, i21, hw1, d3, d3N]) rfl (hE.refl _) trivial
            · intro a X hX hS hD hJ hU
              have x0 := (World.cell?_of_block (Posts.Ext.blk hX _ (World.block_lt_of_cell? _ _ qwm))).trans qwm
              have x1 := (World.cell?_of_block (Posts.Ext.blk hX _ (World.block_lt_of_cell? _ _ qy))).trans qy
              have x2 := (World.cell?_of_block (Posts.Ext.blk hX _ (World.block_lt_of_cell? _ _ qwy))).trans qwy
              have d108 := Posts.slot (show a.eval (.tmp 108) = .pointer (some ⟨pb, po + i2, none⟩) from hD.1)
              exact Posts.op_value (fun _ => trivial) rfl rfl (by intro c h; cases h) rfl (by rw [hS.size]; simp) (v := .int .i64 (y : Nat)) (by simp [execOp, d108,  go_sem, x0, x1, x2, m0, m1, y0, y1, i20, i21, hw1, d3, d3N]) rfl (hE.refl _) trivial
            · intro a X hX hS hD hJ hU
              have x0 := (World.cell?_of_block (Posts.Ext.blk hX _ (World.block_lt_of_cell? _ _ qwm))).trans qwm
              have x1 := (World.cell?_of_block (Posts.Ext.blk hX _ (World.block_lt_of_cell? _ _ qy))).trans qy
              have x2 := (World.cell?_of_block (Posts.Ext.blk hX _ (World.block_lt_of_cell? _ _ qwy))).trans qwy
              have d104 := Posts.slot (show a.eval (.tmp 104) = .slice (some ⟨g2, 0, none⟩) n cap2 from hD.1)
              have d109 := Posts.slot (show a.eval (.tmp 109) = .int .i64 (y : Nat) from hD.2.1)
              exact Posts.op_value (fun _ => trivial) rfl rfl (by intro c h; cases h) rfl (by rw [hS.size]; simp) (v := .pointer (some ⟨g2, y, none⟩)) (by simp [execOp, d104, d109,  go_sem, x0, x1, x2, m0, m1, y0, y1, i20, i21, hw1, d3, d3N]) rfl (hE.refl _) trivial
            · intro a X hX hS hD hJ hU
              have x0 := (World.cell?_of_block (Posts.Ext.blk hX _ (World.block_lt_of_cell? _ _ qwm))).trans qwm
              have x1 := (World.cell?_of_block (Posts.Ext.blk hX _ (World.block_lt_of_cell? _ _ qy))).trans qy
              have x2 := (World.cell?_of_block (Posts.Ext.blk hX _ (World.block_lt_of_cell? _ _ qwy))).trans qwy
              have d110 := Posts.slot (show a.eval (.tmp 110) = .pointer (some ⟨g2, y, none⟩) from hD.1)
              exact Posts.op_value (fun _ => trivial) rfl rfl (by intro c h; cases h) rfl (by rw [hS.size]; simp) (v := .int .u32 (wy : Nat)) (by simp [execOp, d110,  go_sem, x0, x1, x2, m0, m1, y0, y1, i20, i21, hw1, d3, d3N]) rfl (hE.refl _) trivial
            · intro a X hX hS hD hJ hU
              have x0 := (World.cell?_of_block (Posts.Ext.blk hX _ (World.block_lt_of_cell? _ _ qwm))).trans qwm
              have x1 := (World.cell?_of_block (Posts.Ext.blk hX _ (World.block_lt_of_cell? _ _ qy))).trans qy
              have x2 := (World.cell?_of_block (Posts.Ext.blk hX _ (World.block_lt_of_cell? _ _ qwy))).trans qwy
              have d103 := Posts.slot (show a.eval (.tmp 103) = .int .u32 (wm : Nat) from hD.1)
              have d111 := Posts.slot (show a.eval (.tmp 111) = .int .u32 (wy : Nat) from hD.2.1)
              exact Posts.op_value (fun _ => trivial) rfl rfl (by intro c h; cases h) rfl (by rw [hS.size]; simp) (v := .bool false) (by simp [execOp, d103, d111,  go_sem, x0, x1, x2, m0, m1, y0, y1, i20, i21, hw1, d3, d3N]) rfl (hE.refl _) trivial
          · intro a0 Y hY hS hJt hL
            have p100 := Posts.slot (show a0.eval (.tmp 100) = .slice (some ⟨g2, 0, none⟩) n cap2 from hL.1)
            have p101 := Posts.slot (show a0.eval (.tmp 101) = .int .i64 (m : Nat) from hL.2.1)
            have p102 := Posts.slot (show a0.eval (.tmp 102) = .pointer (some ⟨g2, m, none⟩) from hL.2.2.1)
            have p103 := Posts.slot (show a0.eval (.tmp 103) = .int .u32 (wm : Nat) from hL.2.2.2.1)
            have p104 := Posts.slot (show a0.eval (.tmp 104) = .slice (some ⟨g2, 0, none⟩) n cap2 from hL.2.2.2.2.1)
            have p105 := Posts.slot (show a0.eval (.tmp 105) = .slice (some ⟨pb, po, none⟩) q pc from hL.2.2.2.2.2.1)
            have p106 := Posts.slot (show a0.eval (.tmp 106) = .int .i64 (i : Nat) from hL.2.2.2.2.2.2.1)
            have p107 := Posts.slot (show a0.eval (.tmp 107) = .int .i64 (i2 : Nat) from hL.2.2.2.2.2.2.2.1)
            have p108 := Posts.slot (show a0.eval (.tmp 108) = .pointer (some ⟨pb, po + i2, none⟩) from hL.2.2.2.2.2.2.2.2.1)
            have p109 := Posts.slot (show a0.eval (.tmp 109) = .int .i64 (y : Nat) from hL.2.2.2.2.2.2.2.2.2.1)
            have p110 := Posts.slot (show a0.eval (.tmp 110) = .pointer (some ⟨g2, y, none⟩) from hL.2.2.2.2.2.2.2.2.2.2.1)
            have p111 := Posts.slot (show a0.eval (.tmp 111) = .int .u32 (wy : Nat) from hL.2.2.2.2.2.2.2.2.2.2.2.1)
            have p112 := Posts.slot (show a0.eval (.tmp 112) = .bool false from hL.2.2.2.2.2.2.2.2.2.2.2.2.1)
            have hfr := hS.frame [100, 101, 102, 103, 104, 105, 106, 107, 108, 109, 110, 111, 112] (fun t ht => by simp [Posts.isDst] at ht; first | (rcases ht with h | h | h | h | h | h | h | h | h | h | h | h | h <;> subst h <;> simp) | (subst ht; simp))
            simp only [List.foldl_cons, List.foldl_nil] at hfr
            have hdf := hS.defers
            simp only [Array.getD_eq_getD_getElem?] at hfr
            clear hL hS
            generalize a0.tmps[100]?.getD undef = v100 at *
            generalize a0.tmps[101]?.getD undef = v101 at *
            generalize a0.tmps[102]?.getD undef = v102 at *
            generalize a0.tmps[103]?.getD undef = v103 at *
            generalize a0.tmps[104]?.getD undef = v104 at *
            generalize a0.tmps[105]?.getD undef = v105 at *
            generalize a0.tmps[106]?.getD undef = v106 at *
            generalize a0.tmps[107]?.getD undef = v107 at *
            generalize a0.tmps[108]?.getD undef = v108 at *
            generalize a0.tmps[109]?.getD undef = v109 at *
            generalize a0.tmps[110]?.getD undef = v110 at *
            generalize a0.tmps[111]?.getD undef = v111 at *
            generalize a0.tmps[112]?.getD undef = v112 at *
            obtain rfl := p100
            obtain rfl := p101
            obtain rfl := p102
            obtain rfl := p103
            obtain rfl := p104
            obtain rfl := p105
            obtain rfl := p106
            obtain rfl := p107
            obtain rfl := p108
            obtain rfl := p109
            obtain rfl := p110
            obtain rfl := p111
            obtain rfl := p112
            obtain ⟨tm, df⟩ := a0
            simp only [List.setIfInBounds_toArray, List.set_cons_succ, List.set_cons_zero] at hfr hdf
            subst hfr
            subst hdf
            refine ⟨by kernel_rfl, ?_⟩
            simp only [Exit.inBlock, Exit.then]
            first
              | (rename_i hK; refine hK _ _ ?_)
              | (rename_i hK _; refine hK _ _ ?_)
              | (rename_i hK _ _; refine hK _ _ ?_)
            have HBy := Lib.hid (HBr.out.trans (hY.mono HBr.out.size))
            clear hY hE hK
            go_wp2_with fail
            exact ⟨⟨j + 1, by omega, by simp, HBy.out⟩, by simp [intOf]; omega⟩
        · obtain rfl : j = p := by omega
          have hd2 : decide ((j : Int) < (j : Int)) = false := decide_eq_false (by omega)
          obtain ⟨b7, o7, rfl, q70⟩ := (HG6.out wr hbel).1.at 0 hp0
          rw [Nat.add_zero] at q70
          obtain ⟨hhn, hhl⟩ := HMm.out 0 hp0
          have qwh := (HG6.out wr hbel).2.1.1.at hhn
          have hhu := HN.out.le _ hhn
          have hh := HHd.out
          generalize Lx.getD 0 0 = h0 at *
          have h00 : (0 : Int) ≤ h0 := by omega
          have h01 : (h0 : Int) < n := by omega
          have j1 : (0 : Int) < j := by omega
          have dj : ((j : Int) == 0) = false := by simp; omega
          have jne : (j = 0) = False := eq_false (by omega)
          clear hbel
          go_wp2_with fail
          have hE := Posts.ext_rel
          by_cases hhy : h0 = y
          · have dn : ((h0 : Int) != (y : Int)) = false := by rw [hhy]; simp
            refine (wpIn_wide (n := 0)).1 (Posts.wpIn_region_tail hE 31 0 (Posts.At [Posts.is (.slice (some ⟨b7, o7, none⟩) j c6), Posts.is (.int .i64 (j : Nat)), Posts.is (.bool false), Posts.is (.bool false), Posts.is (.slice (some ⟨b7, o7, none⟩) j c6), Posts.is (.pointer (some ⟨b7, o7, none⟩)), Posts.is (.int .i64 (h0 : Nat)), Posts.is (.slice (some ⟨pb, po, none⟩) q pc), Posts.is (.int .i64 (i : Nat)), Posts.is (.int .i64 (i2 : Nat)), Posts.is (.pointer (some ⟨pb, po + i2, none⟩)), Posts.is (.int .i64 (y : Nat)), Posts.is (.bool false), Posts.is (.bool false), Posts.is (undef), Posts.is (undef), Posts.is (undef), Posts.is (undef), Posts.is (undef), Posts.is (undef), Posts.is (undef), Posts.is (undef), Posts.is (undef), Posts.is (undef), Posts.is (undef), Posts.is (undef), Posts.is (undef), Posts.is (undef), Posts.is (undef), Posts.is (.bool false), Posts.is (.bool false)]) (fun _ _ => True) (by kernel_rfl) (by decide) (by kernel_rfl) (by kernel_rfl) (by kernel_rfl)
              (Posts.stable_at _ (by repeat' (first | exact trivial | (refine And.intro ?_ ?_) | exact Posts.is_stable _ | exact Posts.on_stable _ _ | assumption))) trivial ?_ ?_)
            · refine ⟨?_, ?_, ?_, ?_, ?_, ?_, ?_, ?_, ?_, ?_, ?_, ?_, ?_, ?_, ?_, ?_, ?_, ?_, ?_, ?_, ?_, ?_, ?_, ?_, ?_, ?_, ?_, ?_, ?_, ?_, ?_, trivial⟩
              · intro a X hX hS hD hJ hU
                have x0 := (World.cell?_of_block (Posts.Ext.blk hX _ (World.block_lt_of_cell? _ _ q70))).trans q70
                have x1 := (World.cell?_of_block (Posts.Ext.blk hX _ (World.block_lt_of_cell? _ _ qy))).trans qy
                have x2 := (World.cell?_of_block (Posts.Ext.blk hX _ (World.block_lt_of_cell? _ _ qwy))).trans qwy
                have x3 := (World.cell?_of_block (Posts.Ext.blk hX _ (World.block_lt_of_cell? _ _ qwh))).trans qwh
                have d14 := Posts.slot (show a.eval (.tmp 14) = .slice (some ⟨b7, o7, none⟩) j c6 from hS.other 14 rfl)
                exact Posts.op_value (fun _ => trivial) rfl rfl (by intro c h; cases h) rfl (by rw [hS.size]; simp) (v := .slice (some ⟨b7, o7, none⟩) j c6) (by simp [execOp, d14,  go_sem, x0, x1, x2, x3, h00, h01, y0, y1, i20, i21, j1, dj, jne, hw1, dn]) rfl (hE.refl _) trivial
              · intro a X hX hS hD hJ hU
                have x0 := (World.cell?_of_block (Posts.Ext.blk hX _ (World.block_lt_of_cell? _ _ q70))).trans q70
                have x1 := (World.cell?_of_block (Posts.Ext.blk hX _ (World.block_lt_of_cell? _ _ qy))).trans qy
                have x2 := (World.cell?_of_block (Posts.Ext.blk hX _ (World.block_lt_of_cell? _ _ qwy))).trans qwy
                have x3 := (World.cell?_of_block (Posts.Ext.blk hX _ (World.block_lt_of_cell? _ _ qwh))).trans qwh
                have d114 := Posts.slot (show a.eval (.tmp 114) = .slice (some ⟨b7, o7, none⟩) j c6 from hD.1)
                exact Posts.op_value (fun _ => trivial) rfl rfl (by intro c h; cases h) rfl (by rw [hS.size]; simp) (v := .int .i64 (j : Nat)) (by simp [execOp, d114,  go_sem, x0, x1, x2, x3, h00, h01, y0, y1, i20, i21, j1, dj, jne, hw1, dn]) rfl (hE.refl _) trivial
              · intro a X hX hS hD hJ hU
                have x0 := (World.cell?_of_block (Posts.Ext.blk hX _ (World.block_lt_of_cell? _ _ q70))).trans q70
                have x1 := (World.cell?_of_block (Posts.Ext.blk hX _ (World.block_lt_of_cell? _ _ qy))).trans qy
                have x2 := (World.cell?_of_block (Posts.Ext.blk hX _ (World.block_lt_of_cell? _ _ qwy))).trans qwy
                have x3 := (World.cell?_of_block (Posts.Ext.blk hX _ (World.block_lt_of_cell? _ _ qwh))).trans qwh
                have d115 := Posts.slot (show a.eval (.tmp 115) = .int .i64 (j : Nat) from hD.1)
                exact Posts.op_value (fun _ => trivial) rfl rfl (by intro c h; cases h) rfl (by rw [hS.size]; simp) (v := .bool false) (by simp [execOp, d115,  go_sem, x0, x1, x2, x3, h00, h01, y0, y1, i20, i21, j1, dj, jne, hw1, dn]) rfl (hE.refl _) trivial
              · intro a X hX hS hD hJ hU
                have x0 := (World.cell?_of_block (Posts.Ext.blk hX _ (World.block_lt_of_cell? _ _ q70))).trans q70
                have x1 := (World.cell?_of_block (Posts.Ext.blk hX _ (World.block_lt_of_cell? _ _ qy))).trans qy
                have x2 := (World.cell?_of_block (Posts.Ext.blk hX _ (World.block_lt_of_cell? _ _ qwy))).trans qwy
                have x3 := (World.cell?_of_block (Posts.Ext.blk hX _ (World.block_lt_of_cell? _ _ qwh))).trans qwh
                have d116 := Posts.slot (show a.eval (.tmp 116) = .bool false from hD.1)
                exact Posts.op_value (fun _ => trivial) rfl rfl (by intro c h; cases h) rfl (by rw [hS.size]; simp) (v := .bool false) (by simp [execOp, d116,  go_sem, x0, x1, x2, x3, h00, h01, y0, y1, i20, i21, j1, dj, jne, hw1, dn]) rfl (hE.refl _) trivial
              · intro a X hX hS hD hJ hU
                have x0 := (World.cell?_of_block (Posts.Ext.blk hX _ (World.block_lt_of_cell? _ _ q70))).trans q70
                have x1 := (World.cell?_of_block (Posts.Ext.blk hX _ (World.block_lt_of_cell? _ _ qy))).trans qy
                have x2 := (World.cell?_of_block (Posts.Ext.blk hX _ (World.block_lt_of_cell? _ _ qwy))).trans qwy
                have x3 := (World.cell?_of_block (Posts.Ext.blk hX _ (World.block_lt_of_cell? _ _ qwh))).trans qwh
                have d14 := Posts.slot (show a.eval (.tmp 14) = .slice (some ⟨b7, o7, none⟩) j c6 from hS.other 14 rfl)
                exact Posts.op_value (fun _ => trivial) rfl (Posts.wanted_yes rfl rfl rfl (show a.eval (.tmp 117) = .bool false from hD.1)) (by intro c h; cases h) rfl (by rw [hS.size]; simp) (v := .slice (some ⟨b7, o7, none⟩) j c6) (by simp [execOp, d14,  go_sem, x0, x1, x2, x3, h00, h01, y0, y1, i20, i21, j1, dj, jne, hw1, dn]) rfl (hE.refl _) trivial
              · intro a X hX hS hD hJ hU
                have x0 := (World.cell?_of_block (Posts.Ext.blk hX _ (World.block_lt_of_cell? _ _ q70))).trans q70
                have x1 := (World.cell?_of_block (Posts.Ext.blk hX _ (World.block_lt_of_cell? _ _ qy))).trans qy
                have x2 := (World.cell?_of_block (Posts.Ext.blk hX _ (World.block_lt_of_cell? _ _ qwy))).trans qwy
                have x3 := (World.cell?_of_block (Posts.Ext.blk hX _ (World.block_lt_of_cell? _ _ qwh))).trans qwh
                have d118 := Posts.slot (show a.eval (.tmp 118) = .slice (some ⟨b7, o7, none⟩) j c6 from hD.1)
                exact Posts.op_value (fun _ => trivial) rfl (Posts.wanted_yes rfl rfl rfl (show a.eval (.tmp 117) = .bool false from hD.2.1)) (by intro c h; cases h) rfl (by rw [hS.size]; simp) (v := .pointer (some ⟨b7, o7, none⟩)) (by simp [execOp, d118,  go_sem, x0, x1, x2, x3, h00, h01, y0, y1, i20, i21, j1, dj, jne, hw1, dn]) rfl (hE.refl _) trivial
              · intro a X hX hS hD hJ hU
                have x0 := (World.cell?_of_block (Posts.Ext.blk hX _ (World.block_lt_of_cell? _ _ q70))).trans q70
                have x1 := (World.cell?_of_block (Posts.Ext.blk hX _ (World.block_lt_of_cell? _ _ qy))).trans qy
                have x2 := (World.cell?_of_block (Posts.Ext.blk hX _ (World.block_lt_of_cell? _ _ qwy))).trans qwy
                have x3 := (World.cell?_of_block (Posts.Ext.blk hX _ (World.block_lt_of_cell? _ _ qwh))).trans qwh
                have d119 := Posts.slot (show a.eval (.tmp 119) = .pointer (some ⟨b7, o7, none⟩) from hD.1)
                exact Posts.op_value (fun _ => trivial) rfl (Posts.wanted_yes rfl rfl rfl (show a.eval (.tmp 117) = .bool false from hD.2.1)) (by intro c h; cases h) rfl (by rw [hS.size]; simp) (v := .int .i64 (h0 : Nat)) (by simp [execOp, d119,  go_sem, x0, x1, x2, x3, h00, h01, y0, y1, i20, i21, j1, dj, jne, hw1, dn]) rfl (hE.refl _) trivial
              · intro a X hX hS hD hJ hU
                have x0 := (World.cell?_of_block (Posts.Ext.blk hX _ (World.block_lt_of_cell? _ _ q70))).trans q70
                have x1 := (World.cell?_of_block (Posts.Ext.blk hX _ (World.block_lt_of_cell? _ _ qy))).trans qy
                have x2 := (World.cell?_of_block (Posts.Ext.blk hX _ (World.block_lt_of_cell? _ _ qwy))).trans qwy
                have x3 := (World.cell?_of_block (Posts.Ext.blk hX _ (World.block_lt_of_cell? _ _ qwh))).trans qwh
                have d10 := Posts.slot (show a.eval (.tmp 10) = .slice (some ⟨pb, po, none⟩) q pc from hS.other 10 rfl)
                exact Posts.op_value (fun _ => trivial) rfl (Posts.wanted_yes rfl rfl rfl (show a.eval (.tmp 117) = .bool false from hD.1)) (by intro c h; cases h) rfl (by rw [hS.size]; simp) (v := .slice (some ⟨pb, po, none⟩) q pc) (by simp [execOp, d10,  go_sem, x0, x1, x2, x3, h00, h01, y0, y1, i20, i21, j1, dj, jne, hw1, dn]) rfl (hE.refl _) trivial
              · intro a X hX hS hD hJ hU
                have x0 := (World.cell?_of_block (Posts.Ext.blk hX _ (World.block_lt_of_cell? _ _ q70))).trans q70
                have x1 := (World.cell?_of_block (Posts.Ext.blk hX _ (World.block_lt_of_cell? _ _ qy))).trans qy
                have x2 := (World.cell?_of_block (Posts.Ext.blk hX _ (World.block_lt_of_cell? _ _ qwy))).trans qwy
                have x3 := (World.cell?_of_block (Posts.Ext.blk hX _ (World.block_lt_of_cell? _ _ qwh))).trans qwh
                have d12 := Posts.slot (show a.eval (.tmp 12) = .int .i64 (i : Nat) from hS.other 12 rfl)
                exact Posts.op_value (fun _ => trivial) rfl (Posts.wanted_yes rfl rfl rfl (show a.eval (.tmp 117) = .bool false from hD.1)) (by intro c h; cases h) rfl (by rw [hS.size]; simp) (v := .int .i64 (i : Nat)) (by simp [execOp, d12,  go_sem, x0, x1, x2, x3, h00, h01, y0, y1, i20, i21, j1, dj, jne, hw1, dn]) rfl (hE.refl _) trivial
              · intro a X hX hS hD hJ hU
                have x0 := (World.cell?_of_block (Posts.Ext.blk hX _ (World.block_lt_of_cell? _ _ q70))).trans q70
                have x1 := (World.cell?_of_block (Posts.Ext.blk hX _ (World.block_lt_of_cell? _ _ qy))).trans qy
                have x2 := (World.cell?_of_block (Posts.Ext.blk hX _ (World.block_lt_of_cell? _ _ qwy))).trans qwy
                have x3 := (World.cell?_of_block (Posts.Ext.blk hX _ (World.block_lt_of_cell? _ _ qwh))).trans qwh
                have d122 := Posts.slot (show a.eval (.tmp 122) = .int .i64 (i : Nat) from hD.1)
                exact Posts.op_value (fun _ => trivial) rfl (Posts.wanted_yes rfl rfl rfl (show a.eval (.tmp 117) = .bool false from hD.2.1)) (by intro c h; cases h) rfl (by rw [hS.size]; simp) (v := .int .i64 (i2 : Nat)) (by simp [execOp, d122,  go_sem, x0, x1, x2, x3, h00, h01, y0, y1, i20, i21, j1, dj, jne, hw1, dn]) rfl (hE.refl _) trivial
              · intro a X hX hS hD hJ hU
                have x0 := (World.cell?_of_block (Posts.Ext.blk hX _ (World.block_lt_of_cell? _ _ q70))).trans q70
                have x1 := (World.cell?_of_block (Posts.Ext.blk hX _ (World.block_lt_of_cell? _ _ qy))).trans qy
                have x2 := (World.cell?_of_block (Posts.Ext.blk hX _ (World.block_lt_of_cell? _ _ qwy))).trans qwy
                have x3 := (World.cell?_of_block (Posts.Ext.blk hX _ (World.block_lt_of_cell? _ _ qwh))).trans qwh
                have d121 := Posts.slot (show a.eval (.tmp 121) = .slice (some ⟨pb, po, none⟩) q pc from hD.1)
                have d123 := Posts.slot (show a.eval (.tmp 123) = .int .i64 (i2 : Nat) from hD.2.1)
                exact Posts.op_value (fun _ => trivial) rfl (Posts.wanted_yes rfl rfl rfl (show a.eval (.tmp 117) = .bool false from hD.2.2.1)) (by intro c h; cases h) rfl (by rw [hS.size]; simp) (v := .pointer (some ⟨pb, po + i2, none⟩)) (by simp [execOp, d121, d123,  go_sem, x0, x1, x2, x3, h00, h01, y0, y1, i20, i21, j1, dj, jne, hw1, dn]) rfl (hE.refl _) trivial
              · intro a X hX hS hD hJ hU
                have x0 := (World.cell?_of_block (Posts.Ext.blk hX _ (World.block_lt_of_cell? _ _ q70))).trans q70
                have x1 := (World.cell?_of_block (Posts.Ext.blk hX _ (World.block_lt_of_cell? _ _ qy))).trans qy
                have x2 := (World.cell?_of_block (Posts.Ext.blk hX _ (World.block_lt_of_cell? _ _ qwy))).trans qwy
                have x3 := (World.cell?_of_block (Posts.Ext.blk hX _ (World.block_lt_of_cell? _ _ qwh))).trans qwh
                have d124 := Posts.slot (show a.eval (.tmp 124) = .pointer (some ⟨pb, po + i2, none⟩) from hD.1)
                exact Posts.op_value (fun _ => trivial) rfl (Posts.wanted_yes rfl rfl rfl (show a.eval (.tmp 117) = .bool false from hD.2.1)) (by intro c h; cases h) rfl (by rw [hS.size]; simp) (v := .int .i64 (y : Nat)) (by simp [execOp, d124,  go_sem, x0, x1, x2, x3, h00, h01, y0, y1, i20, i21, j1, dj, jne, hw1, dn]) rfl (hE.refl _) trivial
              · intro a X hX hS hD hJ hU
                have x0 := (World.cell?_of_block (Posts.Ext.blk hX _ (World.block_lt_of_cell? _ _ q70))).trans q70
                have x1 := (World.cell?_of_block (Posts.Ext.blk hX _ (World.block_lt_of_cell? _ _ qy))).trans qy
                have x2 := (World.cell?_of_block (Posts.Ext.blk hX _ (World.block_lt_of_cell? _ _ qwy))).trans qwy
                have x3 := (World.cell?_of_block (Posts.Ext.blk hX _ (World.block_lt_of_cell? _ _ qwh))).trans qwh
                have d120 := Posts.slot (show a.eval (.tmp 120) = .int .i64 (h0 : Nat) from hD.1)
                have d125 := Posts.slot (show a.eval (.tmp 125) = .int .i64 (y : Nat) from hD.2.1)
                exact Posts.op_value (fun _ => trivial) rfl (Posts.wanted_yes rfl rfl rfl (show a.eval (.tmp 117) = .bool false from hD.2.2.1)) (by intro c h; cases h) rfl (by rw [hS.size]; simp) (v := .bool false) (by simp [execOp, d120, d125,  go_sem, x0, x1, x2, x3, h00, h01, y0, y1, i20, i21, j1, dj, jne, hw1, dn]) rfl (hE.refl _) trivial
              · intro a X hX hS hD hJ hU
                have x0 := (World.cell?_of_block (Posts.Ext.blk hX _ (World.block_lt_of_cell? _ _ q70))).trans q70
                have x1 := (World.cell?_of_block (Posts.Ext.blk hX _ (World.block_lt_of_cell? _ _ qy))).trans qy
                have x2 := (World.cell?_of_block (Posts.Ext.blk hX _ (World.block_lt_of_cell? _ _ qwy))).trans qwy
                have x3 := (World.cell?_of_block (Posts.Ext.blk hX _ (World.block_lt_of_cell? _ _ qwh))).trans qwh
                have d126 := Posts.slot (show a.eval (.tmp 126) = .bool false from hD.1)
                exact Posts.op_value (fun _ => trivial) rfl (Posts.wanted_yes rfl rfl rfl (show a.eval (.tmp 117) = .bool false from hD.2.1)) (by intro c h; cases h) rfl (by rw [hS.size]; simp) (v := .bool false) (by simp [execOp, d126,  go_sem, x0, x1, x2, x3, h00, h01, y0, y1, i20, i21, j1, dj, jne, hw1, dn]) rfl (hE.refl _) trivial
              · intro a X hX hS hD hJ hU
                exact Posts.op_skip hE (fun _ => trivial) rfl (Posts.wanted_no rfl rfl rfl (show a.eval (.tmp 127) = .bool !true from hD.1)) rfl (by rw [hS.size]; simp) rfl trivial
              · intro a X hX hS hD hJ hU
                exact Posts.op_skip hE (fun _ => trivial) rfl (Posts.wanted_no rfl rfl rfl (show a.eval (.tmp 127) = .bool !true from hD.1)) rfl (by rw [hS.size]; simp) rfl trivial
              · intro a X hX hS hD hJ hU
                exact Posts.op_skip hE (fun _ => trivial) rfl (Posts.wanted_no rfl rfl rfl (show a.eval (.tmp 127) = .bool !true from hD.2.1)) rfl (by rw [hS.size]; simp) rfl trivial
              · intro a X hX hS hD hJ hU
                exact Posts.op_skip hE (fun _ => trivial) rfl (Posts.wanted_no rfl rfl rfl (show a.eval (.tmp 127) = .bool !true from hD.2.1)) rfl (by rw [hS.size]; simp) rfl trivial
              · intro a X hX hS hD hJ hU
                exact Posts.op_skip hE (fun _ => trivial) rfl (Posts.wanted_no rfl rfl rfl (show a.eval (.tmp 127) = .bool !true from hD.2.2.1)) rfl (by rw [hS.size]; simp) rfl trivial
              · intro a X hX hS hD hJ hU
                exact Posts.op_skip hE (fun _ => trivial) rfl (Posts.wanted_no rfl rfl rfl (show a.eval (.tmp 127) = .bool !true from hD.2.1)) rfl (by rw [hS.size]; simp) rfl trivial
              · intro a X hX hS hD hJ hU
                exact Posts.op_skip hE (fun _ => trivial) rfl (Posts.wanted_no rfl rfl rfl (show a.eval (.tmp 127) = .bool !true from hD.1)) rfl (by rw [hS.size]; simp) rfl trivial
              · intro a X hX hS hD hJ hU
                exact Posts.op_skip hE (fun _ => trivial) rfl (Posts.wanted_no rfl rfl rfl (show a.eval (.tmp 127) = .bool !true from hD.1)) rfl (by rw [hS.size]; simp) rfl trivial
              · intro a X hX hS hD hJ hU
                exact Posts.op_skip hE (fun _ => trivial) rfl (Posts.wanted_no rfl rfl rfl (show a.eval (.tmp 127) = .bool !true from hD.1)) rfl (by rw [hS.size]; simp) rfl trivial
              · intro a X hX hS hD hJ hU
                exact Posts.op_skip hE (fun _ => trivial) rfl (Posts.wanted_no rfl rfl rfl (show a.eval (.tmp 127) = .bool !true from hD.2.1)) rfl (by rw [hS.size]; simp) rfl trivial
              · intro a X hX hS hD hJ hU
                exact Posts.op_skip hE (fun _ => trivial) rfl (Posts.wanted_no rfl rfl rfl (show a.eval (.tmp 127) = .bool !true from hD.2.2.1)) rfl (by rw [hS.size]; simp) rfl trivial
              · intro a X hX hS hD hJ hU
                exact Posts.op_skip hE (fun _ => trivial) rfl (Posts.wanted_no rfl rfl rfl (show a.eval (.tmp 127) = .bool !true from hD.2.1)) rfl (by rw [hS.size]; simp) rfl trivial
              · intro a X hX hS hD hJ hU
                exact Posts.op_skip hE (fun _ => trivial) rfl (Posts.wanted_no rfl rfl rfl (show a.eval (.tmp 127) = .bool !true from hD.2.2.1)) rfl (by rw [hS.size]; simp) rfl trivial
              · intro a X hX hS hD hJ hU
                exact Posts.op_skip hE (fun _ => trivial) rfl (Posts.wanted_no rfl rfl rfl (show a.eval (.tmp 127) = .bool !true from hD.2.1)) rfl (by rw [hS.size]; simp) rfl trivial
              · intro a X hX hS hD hJ hU
                exact Posts.op_skip hE (fun _ => trivial) rfl (Posts.wanted_no rfl rfl rfl (show a.eval (.tmp 127) = .bool !true from hD.2.2.1)) rfl (by rw [hS.size]; simp) rfl trivial
              · intro a X hX hS hD hJ hU
                have x0 := (World.cell?_of_block (Posts.Ext.blk hX _ (World.block_lt_of_cell? _ _ q70))).trans q70
                have x1 := (World.cell?_of_block (Posts.Ext.blk hX _ (World.block_lt_of_cell? _ _ qy))).trans qy
                have x2 := (World.cell?_of_block (Posts.Ext.blk hX _ (World.block_lt_of_cell? _ _ qwy))).trans qwy
                have x3 := (World.cell?_of_block (Posts.Ext.blk hX _ (World.block_lt_of_cell? _ _ qwh))).trans qwh
                have dc := Posts.slot (show a.eval (.tmp 127) = .bool false from hD.1)
                exact Posts.op_value (fun _ => trivial) rfl (Posts.wanted_yes rfl rfl rfl (show a.eval (.tmp 117) = .bool false from hD.2.2.1)) (by intro c h; cases h) rfl (by rw [hS.size]; simp) (v := .bool false) (by simp [execOp, dc, go_sem]) rfl (hE.refl _) trivial
              · intro a X hX hS hD hJ hU
                have x0 := (World.cell?_of_block (Posts.Ext.blk hX _ (World.block_lt_of_cell? _ _ q70))).trans q70
                have x1 := (World.cell?_of_block (Posts.Ext.blk hX _ (World.block_lt_of_cell? _ _ qy))).trans qy
                have x2 := (World.cell?_of_block (Posts.Ext.blk hX _ (World.block_lt_of_cell? _ _ qwy))).trans qwy
                have x3 := (World.cell?_of_block (Posts.Ext.blk hX _ (World.block_lt_of_cell? _ _ qwh))).trans qwh
                have dc := Posts.slot (show a.eval (.tmp 117) = .bool false from hD.1)
                have dx := Posts.slot (show a.eval (.tmp 143) = .bool false from hD.2.1)
                exact Posts.op_value (fun _ => trivial) rfl rfl (by intro c h; cases h) rfl (by rw [hS.size]; simp) (v := .bool false) (by simp [execOp, dc, dx, go_sem]) rfl (hE.refl _) trivial
            · intro a0 Y hY hS hJt hL
              have p114 := Posts.slot (show a0.eval (.tmp 114) = .slice (some ⟨b7, o7, none⟩) j c6 from hL.1)
              have p115 := Posts.slot (show a0.eval (.tmp 115) = .int .i64 (j : Nat) from hL.2.1)
              have p116 := Posts.slot (show a0.eval (.tmp 116) = .bool false from hL.2.2.1)
              have p117 := Posts.slot (show a0.eval (.tmp 117) = .bool false from hL.2.2.2.1)
              have p118 := Posts.slot (show a0.eval (.tmp 118) = .slice (some ⟨b7, o7, none⟩) j c6 from hL.2.2.2.2.1)
              have p119 := Posts.slot (show a0.eval (.tmp 119) = .pointer (some ⟨b7, o7, none⟩) from hL.2.2.2.2.2.1)
              have p120 := Posts.slot (show a0.eval (.tmp 120) = .int .i64 (h0 : Nat) from hL.2.2.2.2.2.2.1)
              have p121 := Posts.slot (show a0.eval (.tmp 121) = .slice (some ⟨pb, po, none⟩) q pc from hL.2.2.2.2.2.2.2.1)
              have p122 := Posts.slot (show a0.eval (.tmp 122) = .int .i64 (i : Nat) from hL.2.2.2.2.2.2.2.2.1)
              have p123 := Posts.slot (show a0.eval (.tmp 123) = .int .i64 (i2 : Nat) from hL.2.2.2.2.2.2.2.2.2.1)
              have p124 := Posts.slot (show a0.eval (.tmp 124) = .pointer (some ⟨pb, po + i2, none⟩) from hL.2.2.2.2.2.2.2.2.2.2.1)
              have p125 := Posts.slot (show a0.eval (.tmp 125) = .int .i64 (y : Nat) from hL.2.2.2.2.2.2.2.2.2.2.2.1)
              have p126 := Posts.slot (show a0.eval (.tmp 126) = .bool false from hL.2.2.2.2.2.2.2.2.2.2.2.2.1)
              have p127 := Posts.slot (show a0.eval (.tmp 127) = .bool false from hL.2.2.2.2.2.2.2.2.2.2.2.2.2.1)
              have p128 := Posts.slot (show a0.eval (.tmp 128) = undef from hL.2.2.2.2.2.2.2.2.2.2.2.2.2.2.1)
              have p129 := Posts.slot (show a0.eval (.tmp 129) = undef from hL.2.2.2.2.2.2.2.2.2.2.2.2.2.2.2.1)
              have p130 := Posts.slot (show a0.eval (.tmp 130) = undef from hL.2.2.2.2.2.2.2.2.2.2.2.2.2.2.2.2.1)
              have p131 := Posts.slot (show a0.eval (.tmp 131) = undef from hL.2.2.2.2.2.2.2.2.2.2.2.2.2.2.2.2.2.1)
              have p132 := Posts.slot (show a0.eval (.tmp 132) = undef from hL.2.2.2.2.2.2.2.2.2.2.2.2.2.2.2.2.2.2.1)
              have p133 := Posts.slot (show a0.eval (.tmp 133) = undef from hL.2.2.2.2.2.2.2.2.2.2.2.2.2.2.2.2.2.2.2.1)
              have p134 := Posts.slot (show a0.eval (.tmp 134) = undef from hL.2.2.2.2.2.2.2.2.2.2.2.2.2.2.2.2.2.2.2.2.1)
              have p135 := Posts.slot (show a0.eval (.tmp 135) = undef from hL.2.2.2.2.2.2.2.2.2.2.2.2.2.2.2.2.2.2.2.2.2.1)
              have p136 := Posts.slot (show a0.eval (.tmp 136) = undef from hL.2.2.2.2.2.2.2.2.2.2.2.2.2.2.2.2.2.2.2.2.2.2.1)
              have p137 := Posts.slot (show a0.eval (.tmp 137) = undef from hL.2.2.2.2.2.2.2.2.2.2.2.2.2.2.2.2.2.2.2.2.2.2.2.1)
              have p138 := Posts.slot (show a0.eval (.tmp 138) = undef from hL.2.2.2.2.2.2.2.2.2.2.2.2.2.2.2.2.2.2.2.2.2.2.2.2.1)
              have p139 := Posts.slot (show a0.eval (.tmp 139) = undef from hL.2.2.2.2.2.2.2.2.2.2.2.2.2.2.2.2.2.2.2.2.2.2.2.2.2.1)
              have p140 := Posts.slot (show a0.eval (.tmp 140) = undef from hL.2.2.2.2.2.2.2.2.2.2.2.2.2.2.2.2.2.2.2.2.2.2.2.2.2.2.1)
              have p141 := Posts.slot (show a0.eval (.tmp 141) = undef from hL.2.2.2.2.2.2.2.2.2.2.2.2.2.2.2.2.2.2.2.2.2.2.2.2.2.2.2.1)
              have p142 := Posts.slot (show a0.eval (.tmp 142) = undef from hL.2.2.2.2.2.2.2.2.2.2.2.2.2.2.2.2.2.2.2.2.2.2.2.2.2.2.2.2.1)
              have p143 := Posts.slot (show a0.eval (.tmp 143) = .bool false from hL.2.2.2.2.2.2.2.2.2.2.2.2.2.2.2.2.2.2.2.2.2.2.2.2.2.2.2.2.2.1)
              have p144 := Posts.slot (show a0.eval (.tmp 144) = .bool false from hL.2.2.2.2.2.2.2.2.2.2.2.2.2.2.2.2.2.2.2.2.2.2.2.2.2.2.2.2.2.2.1)
              have hfr := hS.frame [114, 115, 116, 117, 118, 119, 120, 121, 122, 123, 124, 125, 126, 127, 128, 129, 130, 131, 132, 133, 134, 135, 136, 137, 138, 139, 140, 141, 142, 143, 144] (fun t ht => by simp [Posts.isDst] at ht; first | (rcases ht with h | h | h | h | h | h | h | h | h | h | h | h | h | h | h | h | h | h | h | h | h | h | h | h | h | h | h | h | h | h | h <;> subst h <;> simp) | (subst ht; simp))
              simp only [List.foldl_cons, List.foldl_nil] at hfr
              have hdf := hS.defers
              simp only [Array.getD_eq_getD_getElem?] at hfr
              clear hL hS
              generalize a0.tmps[114]?.getD undef = v114 at *
              generalize a0.tmps[115]?.getD undef = v115 at *
              generalize a0.tmps[116]?.getD undef = v116 at *
              generalize a0.tmps[117]?.getD undef = v117 at *
              generalize a0.tmps[118]?.getD undef = v118 at *
              generalize a0.tmps[119]?.getD undef = v119 at *
              generalize a0.tmps[120]?.getD undef = v120 at *
              generalize a0.tmps[121]?.getD undef = v121 at *
              generalize a0.tmps[122]?.getD undef = v122 at *
              generalize a0.tmps[123]?.getD undef = v123 at *
              generalize a0.tmps[124]?.getD undef = v124 at *
              generalize a0.tmps[125]?.getD undef = v125 at *
              generalize a0.tmps[126]?.getD undef = v126 at *
              generalize a0.tmps[127]?.getD undef = v127 at *
              generalize a0.tmps[128]?.getD undef = v128 at *
              generalize a0.tmps[129]?.getD undef = v129 at *
              generalize a0.tmps[130]?.getD undef = v130 at *
              generalize a0.tmps[131]?.getD undef = v131 at *
              generalize a0.tmps[132]?.getD undef = v132 at *
              generalize a0.tmps[133]?.getD undef = v133 at *
              generalize a0.tmps[134]?.getD undef = v134 at *
              generalize a0.tmps[135]?.getD undef = v135 at *
              generalize a0.tmps[136]?.getD undef = v136 at *
              generalize a0.tmps[137]?.getD undef = v137 at *
              generalize a0.tmps[138]?.getD undef = v138 at *
              generalize a0.tmps[139]?.getD undef = v139 at *
              generalize a0.tmps[140]?.getD undef = v140 at *
              generalize a0.tmps[141]?.getD undef = v141 at *
              generalize a0.tmps[142]?.getD undef = v142 at *
              generalize a0.tmps[143]?.getD undef = v143 at *
              generalize a0.tmps[144]?.getD undef = v144 at *
              obtain rfl := p114
              obtain rfl := p115
              obtain rfl := p116
              obtain rfl := p117
              obtain rfl := p118
              obtain rfl := p119
              obtain rfl := p120
              obtain rfl := p121
              obtain rfl := p122
              obtain rfl := p123
              obtain rfl := p124
              obtain rfl := p125
              obtain rfl := p126
              obtain rfl := p127
              obtain rfl := p128
              obtain rfl := p129
              obtain rfl := p130
              obtain rfl := p131
              obtain rfl := p132
              obtain rfl := p133
              obtain rfl := p134
              obtain rfl := p135
              obtain rfl := p136
              obtain rfl := p137
              obtain rfl := p138
              obtain rfl := p139
              obtain rfl := p140
              obtain rfl := p141
              obtain rfl := p142
              obtain rfl := p143
              obtain rfl := p144
              obtain ⟨tm, df⟩ := a0
              simp only [List.setIfInBounds_toArray, List.set_cons_succ, List.set_cons_zero] at hfr hdf
              subst hfr
              subst hdf
              refine ⟨by kernel_rfl, ?_⟩
              simp only [Exit.inBlock, Exit.then]
              first
                | (rename_i hK; refine hK _ _ ?_)
                | (rename_i hK _; refine hK _ _ ?_)
                | (rename_i hK _ _; refine hK _ _ ?_)
              have HBy := Lib.hid (HB6.out.trans ((HBr.out.trans (hY.mono HBr.out.size)).mono HB6.out.size))
              clear hY hE hK
              go_wp2_with fail
              exact ⟨⟨i2, by omega, rfl, HBy.out⟩, by simp [intOf]; have := HI2.out; omega⟩
          · have dn : ((h0 : Int) != (y : Int)) = true := by simp only [bne_iff_ne, ne_eq]; omega
            have dg : decide ((wf H y : Int) ≤ (wf H h0 : Int)) = false := decide_eq_false (by have := hh.resolve_left hhy; omega)
            have dgN : (wf H y ≤ wf H h0) = False := eq_false (by have := hh.resolve_left hhy; omega)
            generalize wf H y = wy at *
            generalize wf H h0 = wh at *
            refine (wpIn_wide (n := 0)).1 (Posts.wpIn_region_tail hE 31 0 (Posts.At [Posts.is (.slice (some ⟨b7, o7, none⟩) j c6), Posts.is (.int .i64 (j : Nat)), Posts.is (.bool false), Posts.is (.bool false), Posts.is (.slice (some ⟨b7, o7, none⟩) j c6), Posts.is (.pointer (some ⟨b7, o7, none⟩)), Posts.is (.int .i64 (h0 : Nat)), Posts.is (.slice (some ⟨pb, po, none⟩) q pc), Posts.is (.int .i64 (i : Nat)), Posts.is (.int .i64 (i2 : Nat)), Posts.is (.pointer (some ⟨pb, po + i2, none⟩)), Posts.is (.int .i64 (y : Nat)), Posts.is (.bool true), Posts.is (.bool true), Posts.is (.slice (some ⟨g2, 0, none⟩) n cap2), Posts.is (.slice (some ⟨b7, o7, none⟩) j c6), Posts.is (.pointer (some ⟨b7, o7, none⟩)), Posts.is (.int .i64 (h0 : Nat)), Posts.is (.pointer (some ⟨g2, h0, none⟩)), Posts.is (.int .u32 (wh : Nat)), Posts.is (.slice (some ⟨g2, 0, none⟩) n cap2), Posts.is (.slice (some ⟨pb, po, none⟩) q pc), Posts.is (.int .i64 (i : Nat)), Posts.is (.int .i64 (i2 : Nat)), Posts.is (.pointer (some ⟨pb, po + i2, none⟩)), Posts.is (.int .i64 (y : Nat)), Posts.is (.pointer (some ⟨g2, y, none⟩)), Posts.is (.int .u32 (wy : Nat)), Posts.is (.bool false), Posts.is (.bool false), Posts.is (.bool false)]) (fun _ _ => True) (by kernel_rfl) (by decide) (by kernel_rfl) (by kernel_rfl) (by kernel_rfl)
              (Posts.stable_at _ (by repeat' (first | exact trivial | (refine And.intro ?_ ?_) | exact Posts.is_stable _ | exact Posts.on_stable _ _ | assumption))) trivial ?_ ?_)
            · refine ⟨?_, ?_, ?_, ?_, ?_, ?_, ?_, ?_, ?_, ?_, ?_, ?_, ?_, ?_, ?_, ?_, ?_, ?_, ?_, ?_, ?_, ?_, ?_, ?_, ?_, ?_, ?_, ?_, ?_, ?_, ?_, trivial⟩
              · intro a X hX hS hD hJ hU
                have x0 := (World.cell?_of_block (Posts.Ext.blk hX _ (World.block_lt_of_cell? _ _ q70))).trans q70
                have x1 := (World.cell?_of_block (Posts.Ext.blk hX _ (World.block_lt_of_cell? _ _ qy))).trans qy
                have x2 := (World.cell?_of_block (Posts.Ext.blk hX _ (World.block_lt_of_cell? _ _ qwy))).trans qwy
                have x3 := (World.cell?_of_block (Posts.Ext.blk hX _ (World.block_lt_of_cell? _ _ qwh))).trans qwh
                have d14 := Posts.slot (show a.eval (.tmp 14) = .slice (some ⟨b7, o7, none⟩) j c6 from hS.other 14 rfl)
                exact Posts.op_value (fun _ => trivial) rfl rfl (by intro c h; cases h) rfl (by rw [hS.size]; simp) (v := .slice (some ⟨b7, o7, none⟩) j c6) (by simp [execOp, d14,  go_sem, x0, x1, x2, x3, h00, h01, y0, y1, i20, i21, j1, dj, jne, hw1, dn, dg, dgN]) rfl (hE.refl _) trivial
              · intro a X hX hS hD hJ hU
                have x0 := (World.cell?_of_block (Posts.Ext.blk hX _ (World.block_lt_of_cell? _ _ q70))).trans q70
                have x1 := (World.cell?_of_block (Posts.Ext.blk hX _ (World.block_lt_of_cell? _ _ qy))).trans qy
                have x2 := (World.cell?_of_block (Posts.Ext.blk hX _ (World.block_lt_of_cell? _ _ qwy))).trans qwy
                have x3 := (World.cell?_of_block (Posts.Ext.blk hX _ (World.block_lt_of_cell? _ _ qwh))).trans qwh
                have d114 := Posts.slot (show a.eval (.tmp 114) = .slice (some ⟨b7, o7, none⟩) j c6 from hD.1)
                exact Posts.op_value (fun _ => trivial) rfl rfl (by intro c h; cases h) rfl (by rw [hS.size]; simp) (v := .int .i64 (j : Nat)) (by simp [execOp, d114,  go_sem, x0, x1, x2, x3, h00, h01, y0, y1, i20, i21, j1, dj, jne, hw1, dn, dg, dgN]) rfl (hE.refl _) trivial
              · intro a X hX hS hD hJ hU
                have x0 := (World.cell?_of_block (Posts.Ext.blk hX _ (World.block_lt_of_cell? _ _ q70))).trans q70
                have x1 := (World.cell?_of_block (Posts.Ext.blk hX _ (World.block_lt_of_cell? _ _ qy))).trans qy
                have x2 := (World.cell?_of_block (Posts.Ext.blk hX _ (World.block_lt_of_cell? _ _ qwy))).trans qwy
                have x3 := (World.cell?_of_block (Posts.Ext.blk hX _ (World.block_lt_of_cell? _ _ qwh))).trans qwh
                have d115 := Posts.slot (show a.eval (.tmp 115) = .int .i64 (j : Nat) from hD.1)
                exact Posts.op_value (fun _ => trivial) rfl rfl (by intro c h; cases h) rfl (by rw [hS.size]; simp) (v := .bool false) (by simp [execOp, d115,  go_sem, x0, x1, x2, x3, h00, h01, y0, y1, i20, i21, j1, dj, jne, hw1, dn, dg, dgN]) rfl (hE.refl _) trivial
              · intro a X hX hS hD hJ hU
                have x0 := (World.cell?_of_block (Posts.Ext.blk hX _ (World.block_lt_of_cell? _ _ q70))).trans q70
                have x1 := (World.cell?_of_block (Posts.Ext.blk hX _ (World.block_lt_of_cell? _ _ qy))).trans qy
                have x2 := (World.cell?_of_block (Posts.Ext.blk hX _ (World.block_lt_of_cell? _ _ qwy))).trans qwy
                have x3 := (World.cell?_of_block (Posts.Ext.blk hX _ (World.block_lt_of_cell? _ _ qwh))).trans qwh
                have d116 := Posts.slot (show a.eval (.tmp 116) = .bool false from hD.1)
                exact Posts.op_value (fun _ => trivial) rfl rfl (by intro c h; cases h) rfl (by rw [hS.size]; simp) (v := .bool false) (by simp [execOp, d116,  go_sem, x0, x1, x2, x3, h00, h01, y0, y1, i20, i21, j1, dj, jne, hw1, dn, dg, dgN]) rfl (hE.refl _) trivial
              · intro a X hX hS hD hJ hU
                have x0 := (World.cell?_of_block (Posts.Ext.blk hX _ (World.block_lt_of_cell? _ _ q70))).trans q70
                have x1 := (World.cell?_of_block (Posts.Ext.blk hX _ (World.block_lt_of_cell? _ _ qy))).trans qy
                have x2 := (World.cell?_of_block (Posts.Ext.blk hX _ (World.block_lt_of_cell? _ _ qwy))).trans qwy
                have x3 := (World.cell?_of_block (Posts.Ext.blk hX _ (World.block_lt_of_cell? _ _ qwh))).trans qwh
                have d14 := Posts.slot (show a.eval (.tmp 14) = .slice (some ⟨b7, o7, none⟩) j c6 from hS.other 14 rfl)
                exact Posts.op_value (fun _ => trivial) rfl (Posts.wanted_yes rfl rfl rfl (show a.eval (.tmp 117) = .bool false from hD.1)) (by intro c h; cases h) rfl (by rw [hS.size]; simp) (v := .slice (some ⟨b7, o7, none⟩) j c6) (by simp [execOp, d14,  go_sem, x0, x1, x2, x3, h00, h01, y0, y1, i20, i21, j1, dj, jne, hw1, dn, dg, dgN]) rfl (hE.refl _) trivial
              · intro a X hX hS hD hJ hU
                have x0 := (World.cell?_of_block (Posts.Ext.blk hX _ (World.block_lt_of_cell? _ _ q70))).trans q70
                have x1 := (World.cell?_of_block (Posts.Ext.blk hX _ (World.block_lt_of_cell? _ _ qy))).trans qy
                have x2 := (World.cell?_of_block (Posts.Ext.blk hX _ (World.block_lt_of_cell? _ _ qwy))).trans qwy
                have x3 := (World.cell?_of_block (Posts.Ext.blk hX _ (World.block_lt_of_cell? _ _ qwh))).trans qwh
                have d118 := Posts.slot (show a.eval (.tmp 118) = .slice (some ⟨b7, o7, none⟩) j c6 from hD.1)
                exact Posts.op_value (fun _ => trivial) rfl (Posts.wanted_yes rfl rfl rfl (show a.eval (.tmp 117) = .bool false from hD.2.1)) (by intro c h; cases h) rfl (by rw [hS.size]; simp) (v := .pointer (some ⟨b7, o7, none⟩)) (by simp [execOp, d118,  go_sem, x0, x1, x2, x3, h00, h01, y0, y1, i20, i21, j1, dj, jne, hw1, dn, dg, dgN]) rfl (hE.refl _) trivial
              · intro a X hX hS hD hJ hU
                have x0 := (World.cell?_of_block (Posts.Ext.blk hX _ (World.block_lt_of_cell? _ _ q70))).trans q70
                have x1 := (World.cell?_of_block (Posts.Ext.blk hX _ (World.block_lt_of_cell? _ _ qy))).trans qy
                have x2 := (World.cell?_of_block (Posts.Ext.blk hX _ (World.block_lt_of_cell? _ _ qwy))).trans qwy
                have x3 := (World.cell?_of_block (Posts.Ext.blk hX _ (World.block_lt_of_cell? _ _ qwh))).trans qwh
                have d119 := Posts.slot (show a.eval (.tmp 119) = .pointer (some ⟨b7, o7, none⟩) from hD.1)
                exact Posts.op_value (fun _ => trivial) rfl (Posts.wanted_yes rfl rfl rfl (show a.eval (.tmp 117) = .bool false from hD.2.1)) (by intro c h; cases h) rfl (by rw [hS.size]; simp) (v := .int .i64 (h0 : Nat)) (by simp [execOp, d119,  go_sem, x0, x1, x2, x3, h00, h01, y0, y1, i20, i21, j1, dj, jne, hw1, dn, dg, dgN]) rfl (hE.refl _) trivial
              · intro a X hX hS hD hJ hU
                have x0 := (World.cell?_of_block (Posts.Ext.blk hX _ (World.block_lt_of_cell? _ _ q70))).trans q70
                have x1 := (World.cell?_of_block (Posts.Ext.blk hX _ (World.block_lt_of_cell? _ _ qy))).trans qy
                have x2 := (World.cell?_of_block (Posts.Ext.blk hX _ (World.block_lt_of_cell? _ _ qwy))).trans qwy
                have x3 := (World.cell?_of_block (Posts.Ext.blk hX _ (World.block_lt_of_cell? _ _ qwh))).trans qwh
                have d10 := Posts.slot (show a.eval (.tmp 10) = .slice (some ⟨pb, po, none⟩) q pc from hS.other 10 rfl)
                exact Posts.op_value (fun _ => trivial) rfl (Posts.wanted_yes rfl rfl rfl (show a.eval (.tmp 117) = .bool false from hD.1)) (by intro c h; cases h) rfl (by rw [hS.size]; simp) (v := .slice (some ⟨pb, po, none⟩) q pc) (by simp [execOp, d10,  go_sem, x0, x1, x2, x3, h00, h01, y0, y1, i20, i21, j1, dj, jne, hw1, dn, dg, dgN]) rfl (hE.refl _) trivial
              · intro a X hX hS hD hJ hU
                have x0 := (World.cell?_of_block (Posts.Ext.blk hX _ (World.block_lt_of_cell? _ _ q70))).trans q70
                have x1 := (World.cell?_of_block (Posts.Ext.blk hX _ (World.block_lt_of_cell? _ _ qy))).trans qy
                have x2 := (World.cell?_of_block (Posts.Ext.blk hX _ (World.block_lt_of_cell? _ _ qwy))).trans qwy
                have x3 := (World.cell?_of_block (Posts.Ext.blk hX _ (World.block_lt_of_cell? _ _ qwh))).trans qwh
                have d12 := Posts.slot (show a.eval (.tmp 12) = .int .i64 (i : Nat) from hS.other 12 rfl)
                exact Posts.op_value (fun _ => trivial) rfl (Posts.wanted_yes rfl rfl rfl (show a.eval (.tmp 117) = .bool false from hD.1)) (by intro c h; cases h) rfl (by rw [hS.size]; simp) (v := .int .i64 (i : Nat)) (by simp [execOp, d12,  go_sem, x0, x1, x2, x3, h00, h01, y0, y1, i20, i21, j1, dj, jne, hw1, dn, dg, dgN]) rfl (hE.refl _) trivial
              · intro a X hX hS hD hJ hU
                have x0 := (World.cell?_of_block (Posts.Ext.blk hX _ (World.block_lt_of_cell? _ _ q70))).trans q70
                have x1 := (World.cell?_of_block (Posts.Ext.blk hX _ (World.block_lt_of_cell? _ _ qy))).trans qy
                have x2 := (World.cell?_of_block (Posts.Ext.blk hX _ (World.block_lt_of_cell? _ _ qwy))).trans qwy
                have x3 := (World.cell?_of_block (Posts.Ext.blk hX _ (World.block_lt_of_cell? _ _ qwh))).trans qwh
                have d122 := Posts.slot (show a.eval (.tmp 122) = .int .i64 (i : Nat) from hD.1)
                exact Posts.op_value (fun _ => trivial) rfl (Posts.wanted_yes rfl rfl rfl (show a.eval (.tmp 117) = .bool false from hD.2.1)) (by intro c h; cases h) rfl (by rw [hS.size]; simp) (v := .int .i64 (i2 : Nat)) (by simp [execOp, d122,  go_sem, x0, x1, x2, x3, h00, h01, y0, y1, i20, i21, j1, dj, jne, hw1, dn, dg, dgN]) rfl (hE.refl _) trivial
              · intro a X hX hS hD hJ hU
                have x0 := (World.cell?_of_block (Posts.Ext.blk hX _ (World.block_lt_of_cell? _ _ q70))).trans q70
                have x1 := (World.cell?_of_block (Posts.Ext.blk hX _ (World.block_lt_of_cell? _ _ qy))).trans qy
                have x2 := (World.cell?_of_block (Posts.Ext.blk hX _ (World.block_lt_of_cell? _ _ qwy))).trans qwy
                have x3 := (World.cell?_of_block (Posts.Ext.blk hX _ (World.block_lt_of_cell? _ _ qwh))).trans qwh
                have d121 := Posts.slot (show a.eval (.tmp 121) = .slice (some ⟨pb, po, none⟩) q pc from hD.1)
                have d123 := Posts.slot (show a.eval (.tmp 123) = .int .i64 (i2 : Nat) from hD.2.1)
                exact Posts.op_value (fun _ => trivial) rfl (Posts.wanted_yes rfl rfl rfl (show a.eval (.tmp 117) = .bool false from hD.2.2.1)) (by intro c h; cases h) rfl (by rw [hS.size]; simp) (v := .pointer (some ⟨pb, po + i2, none⟩)) (by simp [execOp, d121, d123,  go_sem, x0, x1, x2, x3, h00, h01, y0, y1, i20, i21, j1, dj, jne, hw1, dn, dg, dgN]) rfl (hE.refl _) trivial
              · intro a X hX hS hD hJ hU
                have x0 := (World.cell?_of_block (Posts.Ext.blk hX _ (World.block_lt_of_cell? _ _ q70))).trans q70
                have x1 := (World.cell?_of_block (Posts.Ext.blk hX _ (World.block_lt_of_cell? _ _ qy))).trans qy
                have x2 := (World.cell?_of_block (Posts.Ext.blk hX _ (World.block_lt_of_cell? _ _ qwy))).trans qwy
                have x3 := (World.cell?_of_block (Posts.Ext.blk hX _ (World.block_lt_of_cell? _ _ qwh))).trans qwh
                have d124 := Posts.slot (show a.eval (.tmp 124) = .pointer (some ⟨pb, po + i2, none⟩) from hD.1)
                exact Posts.op_value (fun _ => trivial) rfl (Posts.wanted_yes rfl rfl rfl (show a.eval (.tmp 117) = .bool false from hD.2.1)) (by intro c h; cases h) rfl (by rw [hS.size]; simp) (v := .int .i64 (y : Nat)) (by simp [execOp, d124,  go_sem, x0, x1, x2, x3, h00, h01, y0, y1, i20, i21, j1, dj, jne, hw1, dn, dg, dgN]) rfl (hE.refl _) trivial
              · intro a X hX hS hD hJ hU
                have x0 := (World.cell?_of_block (Posts.Ext.blk hX _ (World.block_lt_of_cell? _ _ q70))).trans q70
                have x1 := (World.cell?_of_block (Posts.Ext.blk hX _ (World.block_lt_of_cell? _ _ qy))).trans qy
                have x2 := (World.cell?_of_block (Posts.Ext.blk hX _ (World.block_lt_of_cell? _ _ qwy))).trans qwy
                have x3 := (World.cell?_of_block (Posts.Ext.blk hX _ (World.block_lt_of_cell? _ _ qwh))).trans qwh
                have d120 := Posts.slot (show a.eval (.tmp 120) = .int .i64 (h0 : Nat) from hD.1)
                have d125 := Posts.slot (show a.eval (.tmp 125) = .int .i64 (y : Nat) from hD.2.1)
                exact Posts.op_value (fun _ => trivial) rfl (Posts.wanted_yes rfl rfl rfl (show a.eval (.tmp 117) = .bool false from hD.2.2.1)) (by intro c h; cases h) rfl (by rw [hS.size]; simp) (v := .bool true) (by simp [execOp, d120, d125,  go_sem, x0, x1, x2, x3, h00, h01, y0, y1, i20, i21, j1, dj, jne, hw1, dn, dg, dgN]) rfl (hE.refl _) trivial
              · intro a X hX hS hD hJ hU
                have x0 := (World.cell?_of_block (Posts.Ext.blk hX _ (World.block_lt_of_cell? _ _ q70))).trans q70
                have x1 := (World.cell?_of_block (Posts.Ext.blk hX _ (World.block_lt_of_cell? _ _ qy))).trans qy
                have x2 := (World.cell?_of_block (Posts.Ext.blk hX _ (World.block_lt_of_cell? _ _ qwy))).trans qwy
                have x3 := (World.cell?_of_block (Posts.Ext.blk hX _ (World.block_lt_of_cell? _ _ qwh))).trans qwh
                have d126 := Posts.slot (show a.eval (.tmp 126) = .bool true from hD.1)
                exact Posts.op_value (fun _ => trivial) rfl (Posts.wanted_yes rfl rfl rfl (show a.eval (.tmp 117) = .bool false from hD.2.1)) (by intro c h; cases h) rfl (by rw [hS.size]; simp) (v := .bool true) (by simp [execOp, d126,  go_sem, x0, x1, x2, x3, h00, h01, y0, y1, i20, i21, j1, dj, jne, hw1, dn, dg, dgN]) rfl (hE.refl _) trivial
              · intro a X hX hS hD hJ hU
                have x0 := (World.cell?_of_block (Posts.Ext.blk hX _ (World.block_lt_of_cell? _ _ q70))).trans q70
                have x1 := (World.cell?_of_block (Posts.Ext.blk hX _ (World.block_lt_of_cell? _ _ qy))).trans qy
                have x2 := (World.cell?_of_block (Posts.Ext.blk hX _ (World.block_lt_of_cell? _ _ qwy))).trans qwy
                have x3 := (World.cell?_of_block (Posts.Ext.blk hX _ (World.block_lt_of_cell? _ _ qwh))).trans qwh
                have d7 := Posts.slot (show a.eval (.tmp 7) = .slice (some ⟨g2, 0, none⟩) n cap2 from hS.other 7 rfl)
                exact Posts.op_value (fun _ => trivial) rfl (Posts.wanted_yes rfl rfl rfl (show a.eval (.tmp 127) = .bool true from hD.1)) (by intro c h; cases h) rfl (by rw [hS.size]; simp) (v := .slice (some ⟨g2, 0, none⟩) n cap2) (by simp [execOp, d7,  go_sem, x0, x1, x2, x3, h00, h01, y0, y1, i20, i21, j1, dj, jne, hw1, dn, dg, dgN]) rfl (hE.refl _) trivial
              · intro a X hX hS hD hJ hU
                have x0 := (World.cell?_of_block (Posts.Ext.blk hX _ (World.block_lt_of_cell? _ _ q70))).trans q70
                have x1 := (World.cell?_of_block (Posts.Ext.blk hX _ (World.block_lt_of_cell? _ _ qy))).trans qy
                have x2 := (World.cell?_of_block (Posts.Ext.blk hX _ (World.block_lt_of_cell? _ _ qwy))).trans qwy
                have x3 := (World.cell?_of_block (Posts.Ext.blk hX _ (World.block_lt_of_cell? _ _ qwh))).trans qwh
                have d14 := Posts.slot (show a.eval (.tmp 14) = .slice (some ⟨b7, o7, none⟩) j c6 from hS.other 14 rfl)
                exact Posts.op_value (fun _ => trivial) rfl (Posts.wanted_yes rfl rfl rfl (show a.eval (.tmp 127) = .bool true from hD.1)) (by intro c h; cases h) rfl (by rw [hS.size]; simp) (v := .slice (some ⟨b7, o7, none⟩) j c6) (by simp [execOp, d14,  go_sem, x0, x1, x2, x3, h00, h01, y0, y1, i20, i21, j1, dj, jne, hw1, dn, dg, dgN]) rfl (hE.refl _) trivial
              · intro a X hX hS hD hJ hU
                have x0 := (World.cell?_of_block (Posts.Ext.blk hX _ (World.block_lt_of_cell? _ _ q70))).trans q70
                have x1 := (World.cell?_of_block (Posts.Ext.blk hX _ (World.block_lt_of_cell? _ _ qy))).trans qy
                have x2 := (World.cell?_of_block (Posts.Ext.blk hX _ (World.block_lt_of_cell? _ _ qwy))).trans qwy
                have x3 := (World.cell?_of_block (Posts.Ext.blk hX _ (World.block_lt_of_cell? _ _ qwh))).trans qwh
                have d129 := Posts.slot (show a.eval (.tmp 129) = .slice (some ⟨b7, o7, none⟩) j c6 from hD.1)
                exact Posts.op_value (fun _ => trivial) rfl (Posts.wanted_yes rfl rfl rfl (show a.eval (.tmp 127) = .bool true from hD.2.1)) (by intro c h; cases h) rfl (by rw [hS.size]; simp) (v := .pointer (some ⟨b7, o7, none⟩)) (by simp [execOp, d129,  go_sem, x0, x1, x2, x3, h00, h01, y0, y1, i20, i21, j1, dj, jne, hw1, dn, dg, dgN]) rfl (hE.refl _) trivial
              · intro a X hX hS hD hJ hU
                have x0 := (World.cell?_of_block (Posts.Ext.blk hX _ (World.block_lt_of_cell? _ _ q70))).trans q70
                have x1 := (World.cell?_of_block (Posts.Ext.blk hX _ (World.block_lt_of_cell? _ _ qy))).trans qy
                have x2 := (World.cell?_of_block (Posts.Ext.blk hX _ (World.block_lt_of_cell? _ _ qwy))).trans qwy
                have x3 := (World.cell?_of_block (Posts.Ext.blk hX _ (World.block_lt_of_cell? _ _ qwh))).trans qwh
                have d130 := Posts.slot (show a.eval (.tmp 130) = .pointer (some ⟨b7, o7, none⟩) from hD.1)
                exact Posts.op_value (fun _ => trivial) rfl (Posts.wanted_yes rfl rfl rfl (show a.eval (.tmp 127) = .bool true from hD.2.1)) (by intro c h; cases h) rfl (by rw [hS.size]; simp) (v := .int .i64 (h0 : Nat)) (by simp [execOp, d130,  go_sem, x0, x1, x2, x3, h00, h01, y0, y1, i20, i21, j1, dj, jne, hw1, dn, dg, dgN]) rfl (hE.refl _) trivial
              · intro a X hX hS hD hJ hU
                have x0 := (World.cell?_of_block (Posts.Ext.blk hX _ (World.block_lt_of_cell? _ _ q70))).trans q70
                have x1 := (World.cell?_of_block (Posts.Ext.blk hX _ (World.block_lt_of_cell? _ _ qy))).trans qy
                have x2 := (World.cell?_of_block (Posts.Ext.blk hX _ (World.block_lt_of_cell? _ _ qwy))).trans qwy
                have x3 := (World.cell?_of_block (Posts.Ext.blk hX _ (World.block_lt_of_cell? _ _ qwh))).trans qwh
                have d128 := Posts.slot (show a.eval (.tmp 128) = .slice (some ⟨g2, 0, none⟩) n cap2 from hD.1)
                have d131 := Posts.slot (show a.eval (.tmp 131) = .int .i64 (h0 : Nat) from hD.2.1)
                exact Posts.op_value (fun _ => trivial) rfl (Posts.wanted_yes rfl rfl rfl (show a.eval (.tmp 127) = .bool true from hD.2.2.1)) (by intro c h; cases h) rfl (by rw [hS.size]; simp) (v := .pointer (some ⟨g2, h0, none⟩)) (by simp [execOp, d128, d131,  go_sem, x0, x1, x2, x3, h00, h01, y0, y1, i20, i21, j1, dj, jne, hw1, dn, dg, dgN]) rfl (hE.refl _) trivial
              · intro a X hX hS hD hJ hU
                have x0 := (World.cell?_of_block (Posts.Ext.blk hX _ (World.block_lt_of_cell? _ _ q70))).trans q70
                have x1 := (World.cell?_of_block (Posts.Ext.blk hX _ (World.block_lt_of_cell? _ _ qy))).trans qy
                have x2 := (World.cell?_of_block (Posts.Ext.blk hX _ (World.block_lt_of_cell? _ _ qwy))).trans qwy
                have x3 := (World.cell?_of_block (Posts.Ext.blk hX _ (World.block_lt_of_cell? _ _ qwh))).trans qwh
                have d132 := Posts.slot (show a.eval (.tmp 132) = .pointer (some ⟨g2, h0, none⟩) from hD.1)
                exact Posts.op_value (fun _ => trivial) rfl (Posts.wanted_yes rfl rfl rfl (show a.eval (.tmp 127) = .bool true from hD.2.1)) (by intro c h; cases h) rfl (by rw [hS.size]; simp) (v := .int .u32 (wh : Nat)) (by simp [execOp, d132,  go_sem, x0, x1, x2, x3, h00, h01, y0, y1, i20, i21, j1, dj, jne, hw1, dn, dg, dgN]) rfl (hE.refl _) trivial
              · intro a X hX hS hD hJ hU
                have x0 := (World.cell?_of_block (Posts.Ext.blk hX _ (World.block_lt_of_cell? _ _ q70))).trans q70
                have x1 := (World.cell?_of_block (Posts.Ext.blk hX _ (World.block_lt_of_cell? _ _ qy))).trans qy
                have x2 := (World.cell?_of_block (Posts.Ext.blk hX _ (World.block_lt_of_cell? _ _ qwy))).trans qwy
                have x3 := (World.cell?_of_block (Posts.Ext.blk hX _ (World.block_lt_of_cell? _ _ qwh))).trans qwh
                have d7 := Posts.slot (show a.eval (.tmp 7) = .slice (some ⟨g2, 0, none⟩) n cap2 from hS.other 7 rfl)
                exact Posts.op_value (fun _ => trivial) rfl (Posts.wanted_yes rfl rfl rfl (show a.eval (.tmp 127) = .bool true from hD.1)) (by intro c h; cases h) rfl (by rw [hS.size]; simp) (v := .slice (some ⟨g2, 0, none⟩) n cap2) (by simp [execOp, d7,  go_sem, x0, x1, x2, x3, h00, h01, y0, y1, i20, i21, j1, dj, jne, hw1, dn, dg, dgN]) rfl (hE.refl _) trivial
              · intro a X hX hS hD hJ hU
                have x0 := (World.cell?_of_block (Posts.Ext.blk hX _ (World.block_lt_of_cell? _ _ q70))).trans q70
                have x1 := (World.cell?_of_block (Posts.Ext.blk hX _ (World.block_lt_of_cell? _ _ qy))).trans qy
                have x2 := (World.cell?_of_block (Posts.Ext.blk hX _ (World.block_lt_of_cell? _ _ qwy))).trans qwy
                have x3 := (World.cell?_of_block (Posts.Ext.blk hX _ (World.block_lt_of_cell? _ _ qwh))).trans qwh
                have d10 := Posts.slot (show a.eval (.tmp 10) = .slice (some ⟨pb, po, none⟩) q pc from hS.other 10 rfl)
                exact Posts.op_value (fun _ => trivial) rfl (Posts.wanted_yes rfl rfl rfl (show a.eval (.tmp 127) = .bool true from hD.1)) (by intro c h; cases h) rfl (by rw [hS.size]; simp) (v := .slice (some ⟨pb, po, none⟩) q pc) (by simp [execOp, d10,  go_sem, x0, x1, x2, x3, h00, h01, y0, y1, i20, i21, j1, dj, jne, hw1, dn, dg, dgN]) rfl (hE.refl _) trivial
              · intro a X hX hS hD hJ hU
                have x0 := (World.cell?_of_block (Posts.Ext.blk hX _ (World.block_lt_of_cell? _ _ q70))).trans q70
                have x1 := (World.cell?_of_block (Posts.Ext.blk hX _ (World.block_lt_of_cell? _ _ qy))).trans qy
                have x2 := (World.cell?_of_block (Posts.Ext.blk hX _ (World.block_lt_of_cell? _ _ qwy))).trans qwy
                have x3 := (World.cell?_of_block (Posts.Ext.blk hX _ (World.block_lt_of_cell? _ _ qwh))).trans qwh
                have d12 := Posts.slot (show a.eval (.tmp 12) = .int .i64 (i : Nat) from hS.other 12 rfl)
                exact Posts.op_value (fun _ => trivial) rfl (Posts.wanted_yes rfl rfl rfl (show a.eval (.tmp 127) = .bool true from hD.1)) (by intro c h; cases h) rfl (by rw [hS.size]; simp) (v := .int .i64 (i : Nat)) (by simp [execOp, d12,  go_sem, x0, x1, x2, x3, h00, h01, y0, y1, i20, i21, j1, dj, jne, hw1, dn, dg, dgN]) rfl (hE.refl _) trivial
              · intro a X hX hS hD hJ hU
                have x0 := (World.cell?_of_block (Posts.Ext.blk hX _ (World.block_lt_of_cell? _ _ q70))).trans q70
                have x1 := (World.cell?_of_block (Posts.Ext.blk hX _ (World.block_lt_of_cell? _ _ qy))).trans qy
                have x2 := (World.cell?_of_block (Posts.Ext.blk hX _ (World.block_lt_of_cell? _ _ qwy))).trans qwy
                have x3 := (World.cell?_of_block (Posts.Ext.blk hX _ (World.block_lt_of_cell? _ _ qwh))).trans qwh
                have d136 := Posts.slot (show a.eval (.tmp 136) = .int .i64 (i : Nat) from hD.1)
                exact Posts.op_value (fun _ => trivial) rfl (Posts.wanted_yes rfl rfl rfl (show a.eval (.tmp 127) = .bool true from hD.2.1)) (by intro c h; cases h) rfl (by rw [hS.size]; simp) (v := .int .i64 (i2 : Nat)) (by simp [execOp, d136,  go_sem, x0, x1, x2, x3, h00, h01, y0, y1, i20, i21, j1, dj, jne, hw1, dn, dg, dgN]) rfl (hE.refl _) trivial
              · intro a X hX hS hD hJ hU
                have x0 := (World.cell?_of_block (Posts.Ext.blk hX _ (World.block_lt_of_cell? _ _ q70))).trans q70
                have x1 := (World.cell?_of_block (Posts.Ext.blk hX _ (World.block_lt_of_cell? _ _ qy))).trans qy
                have x2 := (World.cell?_of_block (Posts.Ext.blk hX _ (World.block_lt_of_cell? _ _ qwy))).trans qwy
                have x3 := (World.cell?_of_block (Posts.Ext.blk hX _ (World.block_lt_of_cell? _ _ qwh))).trans qwh
                have d135 := Posts.slot (show a.eval (.tmp 135) = .slice (some ⟨pb, po, none⟩) q pc from hD.1)
                have d137 := Posts.slot (show a.eval (.tmp 137) = .int .i64 (i2 : Nat) from hD.2.1)
                exact Posts.op_value (fun _ => trivial) rfl (Posts.wanted_yes rfl rfl rfl (show a.eval (.tmp 127) = .bool true from hD.2.2.1)) (by intro c h; cases h) rfl (by rw [hS.size]; simp) (v := .pointer (some ⟨pb, po + i2, none⟩)) (by simp [execOp, d135, d137,  go_sem, x0, x1, x2, x3, h00, h01, y0, y1, i20, i21, j1, dj, jne, hw1, dn, dg, dgN]) rfl (hE.refl _) trivial
              · intro a X hX hS hD hJ hU
                have x0 := (World.cell?_of_block (Posts.Ext.blk hX _ (World.block_lt_of_cell? _ _ q70))).trans q70
                have x1 := (World.cell?_of_block (Posts.Ext.blk hX _ (World.block_lt_of_cell? _ _ qy))).trans qy
                have x2 := (World.cell?_of_block (Posts.Ext.blk hX _ (World.block_lt_of_cell? _ _ qwy))).trans qwy
                have x3 := (World.cell?_of_block (Posts.Ext.blk hX _ (World.block_lt_of_cell? _ _ qwh))).trans qwh
                have d138 := Posts.slot (show a.eval (.tmp 138) = .pointer (some ⟨pb, po + i2, none⟩) from hD.1)
                exact Posts.op_value (fun _ => trivial) rfl (Posts.wanted_yes rfl rfl rfl (show a.eval (.tmp 127) = .bool true from hD.2.1)) (by intro c h; cases h) rfl (by rw [hS.size]; simp) (v := .int .i64 (y : Nat)) (by simp [execOp, d138,  go_sem, x0, x1, x2, x3, h00, h01, y0, y1, i20, i21, j1, dj, jne, hw1, dn, dg, dgN]) rfl (hE.refl _) trivial
              · intro a X hX hS hD hJ hU
                have x0 := (World.cell?_of_block (Posts.Ext.blk hX _ (World.block_lt_of_cell? _ _ q70))).trans q70
                have x1 := (World.cell?_of_block (Posts.Ext.blk hX _ (World.block_lt_of_cell? _ _ qy))).trans qy
                have x2 := (World.cell?_of_block (Posts.Ext.blk hX _ (World.block_lt_of_cell? _ _ qwy))).trans qwy
                have x3 := (World.cell?_of_block (Posts.Ext.blk hX _ (World.block_lt_of_cell? _ _ qwh))).trans qwh
                have d134 := Posts.slot (show a.eval (.tmp 134) = .slice (some ⟨g2, 0, none⟩) n cap2 from hD.1)
                have d139 := Posts.slot (show a.eval (.tmp 139) = .int .i64 (y : Nat) from hD.2.1)
                exact Posts.op_value (fun _ => trivial) rfl (Posts.wanted_yes rfl rfl rfl (show a.eval (.tmp 127) = .bool true from hD.2.2.1)) (by intro c h; cases h) rfl (by rw [hS.size]; simp) (v := .pointer (some ⟨g2, y, none⟩)) (by simp [execOp, d134, d139,  go_sem, x0, x1, x2, x3, h00, h01, y0, y1, i20, i21, j1, dj, jne, hw1, dn, dg, dgN]) rfl (hE.refl _) trivial
              · intro a X hX hS hD hJ hU
                have x0 := (World.cell?_of_block (Posts.Ext.blk hX _ (World.block_lt_of_cell? _ _ q70))).trans q70
                have x1 := (World.cell?_of_block (Posts.Ext.blk hX _ (World.block_lt_of_cell? _ _ qy))).trans qy
                have x2 := (World.cell?_of_block (Posts.Ext.blk hX _ (World.block_lt_of_cell? _ _ qwy))).trans qwy
                have x3 := (World.cell?_of_block (Posts.Ext.blk hX _ (World.block_lt_of_cell? _ _ qwh))).trans qwh
                have d140 := Posts.slot (show a.eval (.tmp 140) = .pointer (some ⟨g2, y, none⟩) from hD.1)
                exact Posts.op_value (fun _ => trivial) rfl (Posts.wanted_yes rfl rfl rfl (show a.eval (.tmp 127) = .bool true from hD.2.1)) (by intro c h; cases h) rfl (by rw [hS.size]; simp) (v := .int .u32 (wy : Nat)) (by simp [execOp, d140,  go_sem, x0, x1, x2, x3, h00, h01, y0, y1, i20, i21, j1, dj, jne, hw1, dn, dg, dgN]) rfl (hE.refl _) trivial
              · intro a X hX hS hD hJ hU
                have x0 := (World.cell?_of_block (Posts.Ext.blk hX _ (World.block_lt_of_cell? _ _ q70))).trans q70
                have x1 := (World.cell?_of_block (Posts.Ext.blk hX _ (World.block_lt_of_cell? _ _ qy))).trans qy
                have x2 := (World.cell?_of_block (Posts.Ext.blk hX _ (World.block_lt_of_cell? _ _ qwy))).trans qwy
                have x3 := (World.cell?_of_block (Posts.Ext.blk hX _ (World.block_lt_of_cell? _ _ qwh))).trans qwh
                have d133 := Posts.slot (show a.eval (.tmp 133) = .int .u32 (wh : Nat) from hD.1)
                have d141 := Posts.slot (show a.eval (.tmp 141) = .int .u32 (wy : Nat) from hD.2.1)
                exact Posts.op_value (fun _ => trivial) rfl (Posts.wanted_yes rfl rfl rfl (show a.eval (.tmp 127) = .bool true from hD.2.2.1)) (by intro c h; cases h) rfl (by rw [hS.size]; simp) (v := .bool false) (by simp [execOp, d133, d141,  go_sem, x0, x1, x2, x3, h00, h01, y0, y1, i20, i21, j1, dj, jne, hw1, dn, dg, dgN]) rfl (hE.refl _) trivial
              · intro a X hX hS hD hJ hU
                have x0 := (World.cell?_of_block (Posts.Ext.blk hX _ (World.block_lt_of_cell? _ _ q70))).trans q70
                have x1 := (World.cell?_of_block (Posts.Ext.blk hX _ (World.block_lt_of_cell? _ _ qy))).trans qy
                have x2 := (World.cell?_of_block (Posts.Ext.blk hX _ (World.block_lt_of_cell? _ _ qwy))).trans qwy
                have x3 := (World.cell?_of_block (Posts.Ext.blk hX _ (World.block_lt_of_cell? _ _ qwh))).trans qwh
                have dc := Posts.slot (show a.eval (.tmp 127) = .bool true from hD.1)
                have dx := Posts.slot (show a.eval (.tmp 142) = .bool false from hD.2.1)
                exact Posts.op_value (fun _ => trivial) rfl (Posts.wanted_yes rfl rfl rfl (show a.eval (.tmp 117) = .bool false from hD.2.2.1)) (by intro c h; cases h) rfl (by rw [hS.size]; simp) (v := .bool false) (by simp [execOp, dc, dx, go_sem]) rfl (hE.refl _) trivial
              · intro a X hX hS hD hJ hU
                have x0 := (World.cell?_of_block (Posts.Ext.blk hX _ (World.block_lt_of_cell? _ _ q70))).trans q70
                have x1 := (World.cell?_of_block (Posts.Ext.blk hX _ (World.block_lt_of_cell? _ _ qy))).trans qy
                have x2 := (World.cell?_of_block (Posts.Ext.blk hX _ (World.block_lt_of_cell? _ _ qwy))).trans qwy
                have x3 := (World.cell?_of_block (Posts.Ext.blk hX _ (World.block_lt_of_cell? _ _ qwh))).trans qwh
                have dc := Posts.slot (show a.eval (.tmp 117) = .bool false from hD.1)
                have dx := Posts.slot (show a.eval (.tmp 143) = .bool false from hD.2.1)
                exact Posts.op_value (fun _ => trivial) rfl rfl (by intro c h; cases h) rfl (by rw [hS.size]; simp) (v := .bool false) (by simp [execOp, dc, dx, go_sem]) rfl (hE.refl _) trivial
            · intro a0 Y hY hS hJt hL
              have p114 := Posts.slot (show a0.eval (.tmp 114) = .slice (some ⟨b7, o7, none⟩) j c6 from hL.1)
              have p115 := Posts.slot (show a0.eval (.tmp 115) = .int .i64 (j : Nat) from hL.2.1)
              have p116 := Posts.slot (show a0.eval (.tmp 116) = .bool false from hL.2.2.1)
              have p117 := Posts.slot (show a0.eval (.tmp 117) = .bool false from hL.2.2.2.1)
              have p118 := Posts.slot (show a0.eval (.tmp 118) = .slice (some ⟨b7, o7, none⟩) j c6 from hL.2.2.2.2.1)
              have p119 := Posts.slot (show a0.eval (.tmp 119) = .pointer (some ⟨b7, o7, none⟩) from hL.2.2.2.2.2.1)
              have p120 := Posts.slot (show a0.eval (.tmp 120) = .int .i64 (h0 : Nat) from hL.2.2.2.2.2.2.1)
              have p121 := Posts.slot (show a0.eval (.tmp 121) = .slice (some ⟨pb, po, none⟩) q pc from hL.2.2.2.2.2.2.2.1)
              have p122 := Posts.slot (show a0.eval (.tmp 122) = .int .i64 (i : Nat) from hL.2.2.2.2.2.2.2.2.1)
              have p123 := Posts.slot (show a0.eval (.tmp 123) = .int .i64 (i2 : Nat) from hL.2.2.2.2.2.2.2.2.2.1)
              have p124 := Posts.slot (show a0.eval (.tmp 124) = .pointer (some ⟨pb, po + i2, none⟩) from hL.2.2.2.2.2.2.2.2.2.2.1)
              have p125 := Posts.slot (show a0.eval (.tmp 125) = .int .i64 (y : Nat) from hL.2.2.2.2.2.2.2.2.2.2.2.1)
              have p126 := Posts.slot (show a0.eval (.tmp 126) = .bool true from hL.2.2.2.2.2.2.2.2.2.2.2.2.1)
              have p127 := Posts.slot (show a0.eval (.tmp 127) = .bool true from hL.2.2.2.2.2.2.2.2.2.2.2.2.2.1)
              have p128 := Posts.slot (show a0.eval (.tmp 128) = .slice (some ⟨g2, 0, none⟩) n cap2 from hL.2.2.2.2.2.2.2.2.2.2.2.2.2.2.1)
              have p129 := Posts.slot (show a0.eval (.tmp 129) = .slice (some ⟨b7, o7, none⟩) j c6 from hL.2.2.2.2.2.2.2.2.2.2.2.2.2.2.2.1)
              have p130 := Posts.slot (show a0.eval (.tmp 130) = .pointer (some ⟨b7, o7, none⟩) from hL.2.2.2.2.2.2.2.2.2.2.2.2.2.2.2.2.1)
              have p131 := Posts.slot (show a0.eval (.tmp 131) = .int .i64 (h0 : Nat) from hL.2.2.2.2.2.2.2.2.2.2.2.2.2.2.2.2.2.1)
              have p132 := Posts.slot (show a0.eval (.tmp 132) = .pointer (some ⟨g2, h0, none⟩) from hL.2.2.2.2.2.2.2.2.2.2.2.2.2.2.2.2.2.2.1)
              have p133 := Posts.slot (show a0.eval (.tmp 133) = .int .u32 (wh : Nat) from hL.2.2.2.2.2.2.2.2.2.2.2.2.2.2.2.2.2.2.2.1)
              have p134 := Posts.slot (show a0.eval (.tmp 134) = .slice (some ⟨g2, 0, none⟩) n cap2 from hL.2.2.2.2.2.2.2.2.2.2.2.2.2.2.2.2.2.2.2.2.1)
              have p135 := Posts.slot (show a0.eval (.tmp 135) = .slice (some ⟨pb, po, none⟩) q pc from hL.2.2.2.2.2.2.2.2.2.2.2.2.2.2.2.2.2.2.2.2.2.1)
              have p136 := Posts.slot (show a0.eval (.tmp 136) = .int .i64 (i : Nat) from hL.2.2.2.2.2.2.2.2.2.2.2.2.2.2.2.2.2.2.2.2.2.2.1)
              have p137 := Posts.slot (show a0.eval (.tmp 137) = .int .i64 (i2 : Nat) from hL.2.2.2.2.2.2.2.2.2.2.2.2.2.2.2.2.2.2.2.2.2.2.2.1)
              have p138 := Posts.slot (show a0.eval (.tmp 138) = .pointer (some ⟨pb, po + i2, none⟩) from hL.2.2.2.2.2.2.2.2.2.2.2.2.2.2.2.2.2.2.2.2.2.2.2.2.1)
              have p139 := Posts.slot (show a0.eval (.tmp 139) = .int .i64 (y : Nat) from hL.2.2.2.2.2.2.2.2.2.2.2.2.2.2.2.2.2.2.2.2.2.2.2.2.2.1)
              have p140 := Posts.slot (show a0.eval (.tmp 140) = .pointer (some ⟨g2, y, none⟩) from hL.2.2.2.2.2.2.2.2.2.2.2.2.2.2.2.2.2.2.2.2.2.2.2.2.2.2.1)
              have p141 := Posts.slot (show a0.eval (.tmp 141) = .int .u32 (wy : Nat) from hL.2.2.2.2.2.2.2.2.2.2.2.2.2.2.2.2.2.2.2.2.2.2.2.2.2.2.2.1)
              have p142 := Posts.slot (show a0.eval (.tmp 142) = .bool false from hL.2.2.2.2.2.2.2.2.2.2.2.2.2.2.2.2.2.2.2.2.2.2.2.2.2.2.2.2.1)
              have p143 := Posts.slot (show a0.eval (.tmp 143) = .bool false from hL.2.2.2.2.2.2.2.2.2.2.2.2.2.2.2.2.2.2.2.2.2.2.2.2.2.2.2.2.2.1)
              have p144 := Posts.slot (show a0.eval (.tmp 144) = .bool false from hL.2.2.2.2.2.2.2.2.2.2.2.2.2.2.2.2.2.2.2.2.2.2.2.2.2.2.2.2.2.2.1)
              have hfr := hS.frame [114, 115, 116, 117, 118, 119, 120, 121, 122, 123, 124, 125, 126, 127, 128, 129, 130, 131, 132, 133, 134, 135, 136, 137, 138, 139, 140, 141, 142, 143, 144] (fun t ht => by simp [Posts.isDst] at ht; first | (rcases ht with h | h | h | h | h | h | h | h | h | h | h | h | h | h | h | h | h | h | h | h | h | h | h | h | h | h | h | h | h | h | h <;> subst h <;> simp) | (subst ht; simp))
              simp only [List.foldl_cons, List.foldl_nil] at hfr
              have hdf := hS.defers
              simp only [Array.getD_eq_getD_getElem?] at hfr
              clear hL hS
              generalize a0.tmps[114]?.getD undef = v114 at *
              generalize a0.tmps[115]?.getD undef = v115 at *
              generalize a0.tmps[116]?.getD undef = v116 at *
              generalize a0.tmps[117]?.getD undef = v117 at *
              generalize a0.tmps[118]?.getD undef = v118 at *
              generalize a0.tmps[119]?.getD undef = v119 at *
              generalize a0.tmps[120]?.getD undef = v120 at *
              generalize a0.tmps[121]?.getD undef = v121 at *
              generalize a0.tmps[122]?.getD undef = v122 at *
              generalize a0.tmps[123]?.getD undef = v123 at *
              generalize a0.tmps[124]?.getD undef = v124 at *
              generalize a0.tmps[125]?.getD undef = v125 at *
              generalize a0.tmps[126]?.getD undef = v126 at *
              generalize a0.tmps[127]?.getD undef = v127 at *
              generalize a0.tmps[128]?.getD undef = v128 at *
              generalize a0.tmps[129]?.getD undef = v129 at *
              generalize a0.tmps[130]?.getD undef = v130 at *
              generalize a0.tmps[131]?.getD undef = v131 at *
              generalize a0.tmps[132]?.getD undef = v132 at *
              generalize a0.tmps[133]?.getD undef = v133 at *
              generalize a0.tmps[134]?.getD undef = v134 at *
              generalize a0.tmps[135]?.getD undef = v135 at *
              generalize a0.tmps[136]?.getD undef = v136 at *
              generalize a0.tmps[137]?.getD undef = v137 at *
              generalize a0.tmps[138]?.getD undef = v138 at *
              generalize a0.tmps[139]?.getD undef = v139 at *
              generalize a0.tmps[140]?.getD undef = v140 at *
              generalize a0.tmps[141]?.getD undef = v141 at *
              generalize a0.tmps[142]?.getD undef = v142 at *
              generalize a0.tmps[143]?.getD undef = v143 at *
              generalize a0.tmps[144]?.getD undef = v144 at *
              obtain rfl := p114
              obtain rfl := p115
              obtain rfl := p116
              obtain rfl := p117
              obtain rfl := p118
              obtain rfl := p119
              obtain rfl := p120
              obtain rfl := p121
              obtain rfl := p122
              obtain rfl := p123
              obtain rfl := p124
              obtain rfl := p125
              obtain rfl := p126
              obtain rfl := p127
              obtain rfl := p128
              obtain rfl := p129
              obtain rfl := p130
              obtain rfl := p131
              obtain rfl := p132
              obtain rfl := p133
              obtain rfl := p134
              obtain rfl := p135
              obtain rfl := p136
              obtain rfl := p137
              obtain rfl := p138
              obtain rfl := p139
              obtain rfl := p140
              obtain rfl := p141
              obtain rfl := p142
              obtain rfl := p143
              obtain rfl := p144
              obtain ⟨tm, df⟩ := a0
              simp only [List.setIfInBounds_toArray, List.set_cons_succ, List.set_cons_zero] at hfr hdf
              subst hfr
              subst hdf
              refine ⟨by kernel_rfl, ?_⟩
              simp only [Exit.inBlock, Exit.then]
              first
                | (rename_i hK; refine hK _ _ ?_)
                | (rename_i hK _; refine hK _ _ ?_)
                | (rename_i hK _ _; refine hK _ _ ?_)
              have HBy := Lib.hid (HB6.out.trans ((HBr.out.trans (hY.mono HBr.out.size)).mono HB6.out.size))
              clear hY hE hK
              go_wp2_with fail
              exact ⟨⟨i2, by omega, rfl, HBy.out⟩, by simp [intOf]; have := HI2.out; omega⟩
end Cst
end Go.Proofs.YtcmbkoghhhhmcaaDoor
