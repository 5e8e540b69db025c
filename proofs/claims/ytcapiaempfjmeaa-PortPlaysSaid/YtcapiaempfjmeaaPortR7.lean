/- The document's May. -/
import Derived.Test.YtcapiaempfjmeaaPortR2
namespace Go.Proofs.Ytcapiaempfjmeaa
open Go.ChangeShapes Go.WideShapes Go.ChangeAt Go.RowKit
namespace Prt
set_option linter.unusedVariables false
set_option linter.unusedSimpArgs false
def mayD (a b c : Int) : Bool := decide (1 ≤ a) && decide (a ≤ 16) && decide (0 ≤ b) && decide (b ≤ 7) && decide (c ≤ 255) && !bit c b
theorem mayL_no {l : List Df} {k : Nat} (hk : k < l.length) (h : (l[k]!).may = false) : mayL l = false := by
  unfold mayL
  rw [Bool.and_eq_false_iff]
  right
  rw [List.all_eq_false]
  refine ⟨l[k], List.getElem_mem hk, ?_⟩
  rw [getElem!_pos l k hk] at h
  rw [h]; simp
theorem mayL_yes {l : List Df} (hk : l.length ≤ 16) (h : ∀ j, j < l.length → (l[j]!).may = true) : mayL l = true := by
  unfold mayL
  rw [decide_eq_true hk, Bool.true_and, List.all_eq_true]
  intro d hd
  obtain ⟨i, hi, rfl⟩ := List.mem_iff_getElem.1 hd
  have := h i hi
  rwa [getElem!_pos l i hi] at this
set_option maxHeartbeats 2000000 in
theorem May_any {p : Nat → Prop} {a : Option Addr} {n c : Nat} {l : List Df} {w : World} (h : FRow p w a n l) (hn : n ≤ 1000) :
    Calls Try.prog 8 #[.slice a n c] w fun e w' => e = .returned (.bool (mayL l)) ∧ Below w.heap.size w w' := by
  have HR := Lib.hid h
  have HL : Hid (l.length = n) := h.1
  clear h
  go_enter Try.func8, Try.ntmps8
  go_wp2_with fail
  go_loopw [3] (fun i wr => ∃ k : Nat, k ≤ n ∧ k ≤ 16 ∧ i = .int .i64 k ∧ (∀ j, j < k → (l[j]!).may = true) ∧ Below w.heap.size w wr) (fun i _ => n - (intOf i).toNat)
  case atStart => exact ⟨0, by omega, by omega, rfl, fun j hj => by omega, Below.refl _ _⟩
  case round =>
    obtain ⟨k, hk, hk16, rfl, hyes, hbel⟩ := hrel
    have HY := Lib.hid hyes
    have HB := Lib.hid hbel
    clear hyes hbel
    by_cases hlt : k < n
    · have k0 : (0 : Int) ≤ k := by omega
      have k1 : (k : Int) < n := by omega
      have hd : decide ((k : Int) < (n : Int)) = true := decide_eq_true (by omega)
      have hd2 : decide (k < n) = true := decide_eq_true hlt
      have hrd := HR.out.rd hlt
      have hkl : k < l.length := by rw [HL.out]; exact hlt
      obtain ⟨b, off, rfl, _, hc⟩ := (HR.out.below HB.out (Nat.le_refl _)).2.2.resolve_left (by omega)
      by_cases h16 : 16 ≤ k
      · have g0 : decide ((16 : Int) ≤ (k : Int)) = true := decide_eq_true (by omega)
        have g1 : decide (16 ≤ k) = true := decide_eq_true h16
        obtain ⟨c0, c1, c2⟩ := hc k hlt
        clear hc hrd hkl
        generalize (l[k]!).w = z0 at *
        generalize (l[k]!).wr = z1 at *
        generalize (l[k]!).rd = z2 at *
        go_wp2_with fail
        go_ret
        refine ⟨?_, HB.out.trans ((show Below wr.heap.size wr _ from by go_grown).mono HB.out.size)⟩
        unfold mayL
        rw [decide_eq_false (by have := HL.out; omega)]; rfl
      have g0 : decide ((16 : Int) ≤ (k : Int)) = false := decide_eq_false (by omega)
      have g1 : decide (16 ≤ k) = false := decide_eq_false h16
      obtain ⟨c0, c1, c2⟩ := hc k hlt
      have HW : Hid ((-9223372036854775808 ≤ (l[k]!).wr ∧ (l[k]!).wr ≤ 9223372036854775807) → ∀ W, Calls Try.prog 30 #[.int .u32 (l[k]!).rd, .int .i64 (l[k]!).wr] W fun e w' => e = .returned (.bool (bit (l[k]!).rd (l[k]!).wr)) ∧ w' = W) := fun hp W => Bit_any _ _ hrd hp W
      obtain ⟨z, hz⟩ : ∃ z, (l[k]!).may = z := ⟨_, rfl⟩
      have HZ := Lib.hid hz
      have HV : Hid (mayD (l[k]!).w (l[k]!).wr (l[k]!).rd = z) := hz
      clear hc hz
      generalize (l[k]!).w = z0 at *
      generalize (l[k]!).wr = z1 at *
      generalize (l[k]!).rd = z2 at *
      by_cases q0 : z0 < 1
      · have e0 := decide_eq_true q0
        have hzf : z = false := by rw [← HV.out]; unfold mayD; rw [show decide (1 ≤ z0) = false from decide_eq_false (by omega)]; simp
        clear HW
        go_wp2_with fail
        go_ret
        exact ⟨by rw [mayL_no hkl (HZ.out.trans hzf)]; rfl, HB.out.trans ((show Below wr.heap.size wr _ from by go_grown).mono HB.out.size)⟩
      have e0 := decide_eq_false q0
      by_cases q1 : 16 < z0
      · have e1 := decide_eq_true q1
        have hzf : z = false := by rw [← HV.out]; unfold mayD; rw [show decide (z0 ≤ 16) = false from decide_eq_false (by omega)]; simp
        clear HW
        go_wp2_with fail
        go_ret
        exact ⟨by rw [mayL_no hkl (HZ.out.trans hzf)]; rfl, HB.out.trans ((show Below wr.heap.size wr _ from by go_grown).mono HB.out.size)⟩
      have e1 := decide_eq_false q1
      by_cases q2 : z1 < 0
      · have e2 := decide_eq_true q2
        have hzf : z = false := by rw [← HV.out]; unfold mayD; rw [show decide (0 ≤ z1) = false from decide_eq_false (by omega)]; simp
        clear HW
        go_wp2_with fail
        go_ret
        exact ⟨by rw [mayL_no hkl (HZ.out.trans hzf)]; rfl, HB.out.trans ((show Below wr.heap.size wr _ from by go_grown).mono HB.out.size)⟩
      have e2 := decide_eq_false q2
      by_cases q3 : 7 < z1
      · have e3 := decide_eq_true q3
        have hzf : z = false := by rw [← HV.out]; unfold mayD; rw [show decide (z1 ≤ 7) = false from decide_eq_false (by omega)]; simp
        clear HW
        go_wp2_with fail
        go_ret
        exact ⟨by rw [mayL_no hkl (HZ.out.trans hzf)]; rfl, HB.out.trans ((show Below wr.heap.size wr _ from by go_grown).mono HB.out.size)⟩
      have e3 := decide_eq_false q3
      by_cases q4 : 255 < z2
      · have e4 := decide_eq_true q4
        have hzf : z = false := by rw [← HV.out]; unfold mayD; rw [show decide (z2 ≤ 255) = false from decide_eq_false (by omega)]; simp
        clear HW
        go_wp2_with fail
        go_ret
        exact ⟨by rw [mayL_no hkl (HZ.out.trans hzf)]; rfl, HB.out.trans ((show Below wr.heap.size wr _ from by go_grown).mono HB.out.size)⟩
      have e4 := decide_eq_false q4
      obtain ⟨bt, hbt⟩ : ∃ b, bit z2 z1 = b := ⟨_, rfl⟩
      have HW2 := Lib.hid (HW.out (by omega))
      rw [hbt] at HW2
      have hzf : z = !bt := by rw [← HV.out, ← hbt]; unfold mayD; simp; omega
      clear hbt HW
      cases bt with
      | true =>
        go_wp2_with (go_at_call 30; refine (HW2.out _).mono ?_; rintro e w1 ⟨rfl, rfl⟩)
        go_ret
        exact ⟨by rw [mayL_no hkl (HZ.out.trans hzf)]; rfl, HB.out.trans ((show Below wr.heap.size wr _ from by go_grown).mono HB.out.size)⟩
      | false =>
        go_wp2_with (go_at_call 30; refine (HW2.out _).mono ?_; rintro e w1 ⟨rfl, rfl⟩)
        go_roundw
        case rel =>
          refine ⟨k + 1, by omega, by omega, by go_num, fun j hj => ?_, HB.out.trans ((show Below wr.heap.size wr _ from by go_grown).mono HB.out.size)⟩
          by_cases e : j = k
          · rw [e]; exact HZ.out.trans hzf
          · exact HY.out j (by omega)
        case measure => simp [intOf]; omega
    · have hd : decide ((k : Int) < (n : Int)) = false := decide_eq_false (by omega)
      have hd2 : decide (k < n) = false := decide_eq_false hlt
      go_wp2_with fail
      go_ret
      exact ⟨by rw [mayL_yes (by have := HL.out; omega) (fun j hj => HY.out j (by have := HL.out; omega))]; rfl, HB.out⟩
end Prt
end Go.Proofs.Ytcapiaempfjmeaa
