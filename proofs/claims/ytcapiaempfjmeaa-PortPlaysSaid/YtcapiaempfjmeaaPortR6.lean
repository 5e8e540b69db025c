/- alike: the ports and the document's, the same messages. -/
import Derived.Test.YtcapiaempfjmeaaPortR2
namespace Go.Proofs.Ytcapiaempfjmeaa
open Go.ChangeShapes Go.WideShapes Go.ChangeAt Go.RowKit
namespace Prt
set_option linter.unusedVariables false
set_option linter.unusedSimpArgs false
section
variable {A : RA} {n : Nat} {a0 : Option Addr} {c0 : Nat} {l : List Bx} {T : Nat → Option Nat} {V : World} {g : Nat}
theorem Rf.mrow (h : Rf A n a0 c0 l T V) {i : Nat} (hi : i < n) : NRow (fun _ => False) V (some ⟨A.wb i, 0, none⟩) (wd l[i]!) (msgB l[i]!) := by
  have hok := h.at hi
  refine ⟨by unfold msgB wd; rw [List.length_take, hok.m]; have := hok.w; omega, .inr ⟨_, _, rfl, id, fun j hj => ?_⟩⟩
  have := (h.cM i hi j hj).1
  have hj' : j < (l[i]!).d.w.toNat := hj
  rw [Nat.zero_add, this]
  unfold msgB
  generalize (l[i]!).m = mm at *
  generalize (l[i]!).d.w.toNat = q at *
  simp [List.getD, List.getElem?_take, hj']
set_option maxHeartbeats 2000000 in
theorem alike_any (hp : Pt V g l) (h : Rf A n a0 c0 l T V) :
    Calls Try.prog 26 #[.pointer (some ⟨g, 0, none⟩), .pointer (some ⟨A.r, 0, none⟩)] V (fun e w' => e = .returned (.bool true) ∧ Below V.heap.size V w') := by
  have HL : Hid (l.length = n) := h.len
  have HR := Lib.hid h
  have HP := Lib.hid hp
  have hn16 := h.n16
  obtain ⟨o0, o1, o2, o3, o4⟩ := h.five
  clear h hp
  go_enter Try.func26, Try.ntmps26
  go_wp2_with fail
  clear o0 o1 o2 o3 o4
  go_loopw [17] (fun i wr => ∃ (k : Nat), k ≤ n ∧ i = .int .i64 k ∧ Below V.heap.size V wr) (fun i _ => n - (intOf i).toNat)
  case atStart => exact ⟨0, by omega, rfl, Below.refl _ _⟩
  case round =>
    obtain ⟨k, hk, rfl, hb⟩ := hrel
    have HB := Lib.hid hb
    have HR1 : Hid (Rf A n a0 c0 l T wr) := HR.out.below hb
    have HP1 : Hid (Pt wr g l) := HP.out.below hb (Nat.le_refl _)
    clear hb
    by_cases hlt : k < n
    · have k0 : (0 : Int) ≤ k := by omega
      have k1 : (k : Int) < n := by omega
      have hdd : decide ((k : Int) < (n : Int)) = true := decide_eq_true (by omega)
      have hd2 : decide (k < n) = true := decide_eq_true hlt
      have hkl : k < l.length := by rw [HL.out]; exact hlt
      obtain ⟨hxw, hxa, hxd, hxs⟩ := HR1.out.hx (by omega)
      obtain ⟨N, hN⟩ : ∃ N, wd l[k]! = N := ⟨_, rfl⟩
      obtain ⟨M, hM⟩ : ∃ M, msgB l[k]! = M := ⟨_, rfl⟩
      obtain ⟨ag, ha⟩ : ∃ ag, (l[k]!).age = ag := ⟨_, rfl⟩
      have HQ := Lib.hid (message_q HP1.out hkl (show (l[k]!).d.w.toNat = N from hN) hM ha)
      have HrF := Lib.hid HR1.out.five
      have HgA := Lib.hid ((HR1.out.cA k hlt).1)
      have HgW := Lib.hid ((HR1.out.cW k hlt).1)
      have HMr := Lib.hid (HR1.out.mrow hlt)
      rw [ha] at HgA
      rw [hN] at HgW HMr
      rw [hM] at HMr
      clear hN hM ha hkl
      generalize A.wb k = wb at *
      generalize A.wc k = wc at *
      go_wp2_with (go_at_call 28; refine HQ.out.mono ?_; rintro e w1 ⟨ma, cap, rfl, hN16, hMr, hb1⟩; have HB1 := Lib.hid hb1; have HM1 := Lib.hid hMr; clear hb1 hMr; obtain ⟨o0, o1, o2, o3, o4⟩ := HrF.out; have hkb := Kept.of_below (p := fun _ => False) HB1.out; replace o1 := hkb.cell o1 id; replace o2 := hkb.cell o2 id; have g1 := hkb.cell HgA.out id; have g2 := hkb.cell HgW.out id; clear o0 o3 o4 hkb; rw [hxw] at o1; rw [hxa] at o2)
      refine (same_any HM1.out (HMr.out.below HB1.out (Nat.le_refl _)) (by omega)).mono ?_
      rintro e w2 ⟨rfl, hb2⟩
      have HB2 := Lib.hid hb2
      clear hb2
      go_wp2_with fail
      go_roundw
      case rel => exact ⟨k + 1, by omega, by go_num, HB.out.trans ((HB1.out.mono HB.out.size).trans (HB2.out.mono (Nat.le_trans HB.out.size HB1.out.size)))⟩
      case measure => simp [intOf]; omega
    · have hdd : decide ((k : Int) < (n : Int)) = false := decide_eq_false (by omega)
      have hd2 : decide (k < n) = false := decide_eq_false hlt
      obtain rfl : k = n := by omega
      obtain ⟨o0, o1, o2, o3, o4⟩ := HR1.out.five
      clear o1 o2 o3 o4
      have HN1 := Lib.hid (message_no HP1.out (k : Int) (by rw [HL.out]; omega))
      have HN2 := Lib.hid (message_no HP1.out (-1 : Int) (by omega))
      go_wp2_with fail
      refine HN1.out.mono ?_
      rintro e w1 ⟨rfl, rfl⟩
      go_wp2_with fail
      refine HN2.out.mono ?_
      rintro e w1 ⟨rfl, rfl⟩
      clear HN1 HN2
      go_wp2_with fail
      go_ret
      exact ⟨rfl, HB.out⟩
end
end Prt
end Go.Proofs.Ytcapiaempfjmeaa
