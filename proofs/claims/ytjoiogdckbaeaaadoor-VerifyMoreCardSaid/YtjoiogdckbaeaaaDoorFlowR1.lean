/- The document's own answers: what is amiss first with a program. -/
import Derived.Test.YtjoiogdckbaeaaaDoorCodeRMay
import Derived.Test.YtjoiogdckbaeaaaDoorCodeOwn
namespace Go.Proofs.YtjoiogdckbaeaaaDoor
open Go.ChangeShapes Go.WideShapes Go.ChangeAt Go.RowKit
namespace Flw
open Isa
set_option linter.unusedVariables false
set_option linter.unusedSimpArgs false
set_option maxHeartbeats 3200000 in
theorem rcheck_any (l : List Iv) (a : Option Addr) (n c : Nat) (w : World) (h : IRow w a n l) : Calls Tryd.prog 37 #[.slice a n c] w fun e w' =>
    e = .returned (.tuple #[.int .i64 (chkN l : Nat), .int .i64 (chkE l)]) ∧ Below w.heap.size w w' := by
  have HA := Lib.hid (fun W (hb : Below w.heap.size w W) k (hk : k < n) => (h.below hb (Nat.le_refl _)).at k hk)
  have hln : l.length = n := h.1
  have HL := Lib.hid hln
  clear h
  by_cases h1 : 16384 < n
  · have hd : decide ((16384 : Int) < (n : Int)) = true := decide_eq_true (by omega)
    have HR := Lib.hid (chk_long (l := l) (by omega))
    clear hln h1
    go_enter Tryd.func37, Tryd.ntmps37
    go_wp2_with fail
    refine bodyPost_ret (v := .tuple #[.int .i64 0, .int .i64 3]) (by simp [results, Tryd.f37, go_sem]) rfl ?_
    exact ⟨tup_eq (b := 0) HR.out, Below.refl _ _⟩
  have hd : decide ((16384 : Int) < (n : Int)) = false := decide_eq_false (by omega)
  have HN := Lib.hid h1
  have hn16 : n ≤ 16384 := by omega
  have HCa := Lib.hid (fun k => chk_a (l := l) (k := k) (by omega))
  have HCb := Lib.hid (fun k hA => chk_b (l := l) (k := k) (by omega) hA)
  have HCc := Lib.hid (chk_c (l := l) (by omega))
  clear hln h1
  go_enter Tryd.func37, Tryd.ntmps37
  go_wp2_with fail
  clear hd
  go_loopw [4] (fun i wr => ∃ k : Nat, k ≤ n ∧ i = .int .i64 k ∧ (∀ t, t < k → badA l t = false) ∧ Below w.heap.size w wr) (fun i _ => n - (intOf i).toNat)
  case atStart => exact ⟨0, by omega, rfl, fun t ht => by omega, Below.refl _ _⟩
  case round =>
    obtain ⟨k, hk, rfl, hno, hbel⟩ := hrel
    have HNo := Lib.hid hno
    have HB := Lib.hid hbel
    clear hno hbel
    by_cases hlt : k < n
    · have hd : decide ((k : Int) < (n : Int)) = true := decide_eq_true (by omega)
      have k0 : (0 : Int) ≤ k := by omega
      have k1 : (k : Int) < n := by omega
      obtain ⟨b, off, rfl, hc, hw⟩ := HA.out wr HB.out k hlt
      obtain ⟨c0, c1, c2, c3⟩ := hc
      have HM := Lib.hid (rmay_any (l.getD k iz) hw wr)
      have HBad : Hid (badA l k = !mayI (l.getD k iz)) := rfl
      have HCk := Lib.hid (HCa.out k (by have := HL.out; omega) HNo.out)
      clear hw
      generalize mayI (l.getD k iz) = M at *
      generalize l.getD k iz = x at *
      obtain ⟨op, ia, ib, ic⟩ := x
      unfold iv at HM
      simp only at *
      go_wp2_with fail
      refine HM.out.mono ?_
      rintro e w2 ⟨rfl, hb2⟩
      have HB2 := Lib.hid (HB.out.trans (hb2.mono HB.out.size))
      clear hb2 c0 c1 c2 c3
      cases M with
      | false =>
        have HR := Lib.hid (HCk.out HBad.out)
        go_wp2_with fail
        refine bodyPost_ret (v := .tuple #[.int .i64 (k : Int), .int .i64 90]) (by simp [results, Tryd.f37, go_sem]) rfl ?_
        exact ⟨tup_eq HR.out, HB2.out⟩
      | true =>
        go_wp2_with fail
        refine ⟨⟨k + 1, by omega, by simp, fun t ht => ?_, HB2.out⟩, by simp [intOf]; omega⟩
        by_cases e : t = k
        · rw [e]; exact HBad.out
        · exact HNo.out t (by omega)
    · obtain rfl : k = n := by omega
      have hd : decide ((k : Int) < (k : Int)) = false := decide_eq_false (by omega)
      have HAll : Hid (∀ t, t < l.length → badA l t = false) := fun t ht => HNo.out t (by have := HL.out; omega)
      have HCb2 := Lib.hid (fun j => HCb.out j HAll.out)
      have HCc2 := Lib.hid (HCc.out HAll.out)
      clear HNo HAll HCa HCb HCc
      go_wp2_with fail
      obtain ⟨wo, hwo⟩ : ∃ wo : World, wo = wr := ⟨_, rfl⟩
      subst hwo
      clear hd
      go_loopw [5] (fun i wr => ∃ j : Nat, j ≤ k ∧ i = .int .i64 j ∧ (∀ t, t < j → badB l t = false) ∧ Below w.heap.size w wr) (fun i _ => k - (intOf i).toNat)
      case atStart => exact ⟨0, by omega, rfl, fun t ht => by omega, HB.out⟩
      case round =>
        obtain ⟨j, hj, rfl, hno, hbel⟩ := hrel
        have HNo := Lib.hid hno
        have HB := Lib.hid hbel
        clear hno hbel
        by_cases hlt : j < k
        · have hd : decide ((j : Int) < (k : Int)) = true := decide_eq_true (by omega)
          have k0 : (0 : Int) ≤ j := by omega
          have k1 : (j : Int) < k := by omega
          obtain ⟨b, off, rfl, hc, hw⟩ := HA.out wr HB.out j hlt
          obtain ⟨c0, c1, c2, c3⟩ := hc
          have hcc := hw.c
          have hwn : IntKind.u64.wrap (k : Int) = (k : Int) := by
            have := HN.out
            simp [IntKind.wrap, IntKind.bits, IntKind.signed]; omega
          have HBad : Hid (badB l j = (((l.getD j iz).op == 19 || (l.getD j iz).op == 20) && decide ((k : Int) ≤ (l.getD j iz).c))) := by
            show _ = _
            unfold badB
            rw [HL.out]
          have HCk := Lib.hid (HCb2.out j (by have := HL.out; omega) HNo.out)
          clear hw
          generalize l.getD j iz = x at *
          obtain ⟨op, ia, ib, ic⟩ := x
          simp only at *
          have hwc : IntKind.u64.wrap ic = ic := by
            simp [IntKind.wrap, IntKind.bits, IntKind.signed]; omega
          clear hcc
          generalize e19 : (op == 19) = b19 at *
          generalize e20 : (op == 20) = b20 at *
          generalize eC : decide ((k : Int) ≤ ic) = bC at *
          cases b19 with
          | true =>
            cases bC with
            | true =>
              have HR := Lib.hid (HCk.out HBad.out)
              clear HBad HCk
              go_wp2_with fail
              refine bodyPost_ret (v := .tuple #[.int .i64 (j : Int), .int .i64 110]) (by simp [results, Tryd.f37, go_sem]) rfl ?_
              exact ⟨tup_eq HR.out, HB.out⟩
            | false =>
              have HBd := Lib.hid HBad.out
              clear HBad HCk
              go_wp2_with fail
              refine ⟨⟨j + 1, by omega, by simp, fun t ht => ?_, HB.out⟩, by simp [intOf]; omega⟩
              by_cases e : t = j
              · rw [e]; exact HBd.out
              · exact HNo.out t (by omega)
          | false =>
            cases b20 with
            | true =>
              cases bC with
              | true =>
                have HR := Lib.hid (HCk.out HBad.out)
                clear HBad HCk
                go_wp2_with fail
                refine bodyPost_ret (v := .tuple #[.int .i64 (j : Int), .int .i64 110]) (by simp [results, Tryd.f37, go_sem]) rfl ?_
                exact ⟨tup_eq HR.out, HB.out⟩
              | false =>
                have HBd := Lib.hid HBad.out
                clear HBad HCk
                go_wp2_with fail
                refine ⟨⟨j + 1, by omega, by simp, fun t ht => ?_, HB.out⟩, by simp [intOf]; omega⟩
                by_cases e : t = j
                · rw [e]; exact HBd.out
                · exact HNo.out t (by omega)
            | false =>
              have HBd := Lib.hid HBad.out
              clear HBad HCk
              go_wp2_with fail
              refine ⟨⟨j + 1, by omega, by simp, fun t ht => ?_, HB.out⟩, by simp [intOf]; omega⟩
              by_cases e : t = j
              · rw [e]; exact HBd.out
              · exact HNo.out t (by omega)
        · obtain rfl : j = k := by omega
          have hd : decide ((j : Int) < (j : Int)) = false := decide_eq_false (by omega)
          have HR := Lib.hid (HCc2.out (fun t ht => HNo.out t (by have := HL.out; omega)))
          clear HNo HCb2 HCc2
          by_cases h0 : j = 0
          · subst h0
            have HR2 : Hid (chkE l = 111 ∧ chkN l = 0) := by
              have := HR.out
              rw [if_pos HL.out, if_pos HL.out] at this
              exact this
            clear HR
            go_wp2_with fail
            refine bodyPost_ret (v := .tuple #[.int .i64 0, .int .i64 111]) (by simp [results, Tryd.f37, go_sem]) rfl ?_
            exact ⟨tup_eq (b := 0) HR2.out, HB.out⟩
          · have HR2 : Hid (chkE l = (if lastBad l then 111 else 0) ∧ chkN l = (if lastBad l then j - 1 else 0)) := by
              have := HR.out
              have hl0 : ¬ l.length = 0 := by rw [HL.out]; exact h0
              rw [if_neg hl0, if_neg hl0, HL.out] at this
              exact this
            have HLb : Hid (lastBad l = (!((l.getD (j - 1) iz).op == 19) && !((l.getD (j - 1) iz).op == 27))) := by
              show _ = _
              unfold lastBad
              rw [HL.out]
            obtain ⟨b, off, rfl, hc, hw⟩ := HA.out wr HB.out (j - 1) (by omega)
            obtain ⟨c0, c1, c2, c3⟩ := hc
            have hz : ((j : Int) == 0) = false := by simpa using h0
            have hs : (j : Int) - 1 = ((j - 1 : Nat) : Int) := by omega
            have k0 : (0 : Int) ≤ ((j - 1 : Nat) : Int) := by omega
            have k1 : ((j - 1 : Nat) : Int) < j := by omega
            have hws : IntKind.i64.wrap ((j : Int) - 1) = ((j - 1 : Nat) : Int) := by
              have := HN.out
              simp [IntKind.wrap, IntKind.bits, IntKind.signed]; omega
            clear HR hw h0
            generalize l.getD (j - 1) iz = x at *
            obtain ⟨op, ia, ib, ic⟩ := x
            simp only at *
            generalize e19 : (op == 19) = b19 at *
            generalize e27 : (op == 27) = b27 at *
            have n19 : (op != 19) = !b19 := by rw [← e19]; rfl
            have n27 : (op != 27) = !b27 := by rw [← e27]; rfl
            cases b19 with
            | true =>
              have HR3 : Hid (chkE l = 0 ∧ chkN l = 0) := by
                have := HR2.out
                rw [HLb.out] at this
                exact this
              clear HR2 HLb
              go_wp2_with fail
              refine bodyPost_ret (v := .tuple #[.int .i64 0, .int .i64 0]) (by simp [results, Tryd.f37, go_sem]) rfl ?_
              exact ⟨tup_eq (b := 0) HR3.out, HB.out⟩
            | false =>
              cases b27 with
              | true =>
                have HR3 : Hid (chkE l = 0 ∧ chkN l = 0) := by
                  have := HR2.out
                  rw [HLb.out] at this
                  exact this
                clear HR2 HLb
                go_wp2_with fail
                refine bodyPost_ret (v := .tuple #[.int .i64 0, .int .i64 0]) (by simp [results, Tryd.f37, go_sem]) rfl ?_
                exact ⟨tup_eq (b := 0) HR3.out, HB.out⟩
              | false =>
                have HR3 : Hid (chkE l = 111 ∧ chkN l = j - 1) := by
                  have := HR2.out
                  rw [HLb.out] at this
                  exact this
                clear HR2 HLb
                go_wp2_with fail
                refine bodyPost_ret (v := .tuple #[.int .i64 ((j - 1 : Nat) : Int), .int .i64 111]) (by simp [results, Tryd.f37, go_sem]) rfl ?_
                exact ⟨tup_eq HR3.out, HB.out⟩
end Flw
end Go.Proofs.YtjoiogdckbaeaaaDoor
