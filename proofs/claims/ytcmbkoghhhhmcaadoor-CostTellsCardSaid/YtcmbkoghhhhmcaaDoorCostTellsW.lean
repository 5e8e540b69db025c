/- The walk of CostTells: what the program's calls answer is what the document's do. -/
import Derived.Test.YtcmbkoghhhhmcaaDoorCostB
namespace Go.Proofs.YtcmbkoghhhhmcaaDoor
open Go.ChangeShapes Go.WideShapes Go.ChangeAt Go.RowKit
namespace Cst
open Isa Flw
set_option linter.unusedVariables false
set_option linter.unusedSimpArgs false
theorem frW_le (l : List Iv) : (frW l).length ≤ l.length := by
  unfold frW; split <;> simp
theorem frW_zero {l : List Iv} (h : frE l = 0) : wz l = wf (frW l) 0 ∧ 0 < (frW l).length := by
  obtain ⟨hf, hfr⟩ := fr_free h
  have h0 := hf.some
  refine ⟨?_, ?_⟩
  · rw [frW_at h h0, if_pos (comeB_iff.2 .zero)]
    unfold wz; rw [if_pos h]
  · unfold frW; rw [if_pos h]; simp; omega
theorem frE_most {l : List Iv} (h : frE l = 0) : l.length ≤ 16384 := (fr_free h).1.most
set_option maxRecDepth 100000 in
set_option maxHeartbeats 6400000 in
theorem tells_walk (w : World) (hT : Tabs w) (hKn : KnownC) (hF : FromC) (hWo : WorstC) (a : Option Addr) (n c : Nat) (l : List Iv) (h : IRow w a n l) (hc : n ≤ c ∧ c ≤ 9223372036854775807) :
    Calls Tryd.prog 3 #[.slice a n c] w fun e w' => e = .returned (.bool true) ∧ Below w.heap.size w w' := by
  have hln : l.length = n := h.1
  have HK := Lib.hid (hKn w hT)
  have HFr := Lib.hid (fun W (hb : Below w.heap.size w W) => hF l a n c W (hT.below hb (Nat.le_refl _)) hc.1 hc.2 (h.below hb (Nat.le_refl _)))
  have HRf := Lib.hid (fun W (hb : Below w.heap.size w W) => rfrom_any l a n c W (h.below hb (Nat.le_refl _)))
  have HWo := Lib.hid (fun W (hb : Below w.heap.size w W) => hWo l a n c W (hT.below hb (Nat.le_refl _)) hc.1 hc.2 (h.below hb (Nat.le_refl _)))
  have HZ := Lib.hid (fun e => frW_zero (l := l) e)
  have HNz : Hid (frE l ≠ 0 → wz l = 0) := fun e => by unfold wz; rw [if_neg e]
  have hlen : (frW l).length ≤ 1000000 := by
    by_cases e0 : frE l = 0
    · have := frW_le l; have := frE_most e0; omega
    · unfold frW; rw [if_neg e0]; simp
  unfold fromP at HFr HRf
  clear h hT hc hF hWo hKn
  generalize frW l = H at *
  generalize frN l = N at *
  generalize frE l = E at *
  generalize wz l = Z at *
  obtain ⟨m, hm⟩ : ∃ m, H.length = m := ⟨_, rfl⟩
  have HMl := Lib.hid hm
  rw [hm] at HFr HRf hlen HZ
  clear hm
  go_enter Tryd.func3, Tryd.ntmps3
  go_wp2_with fail
  refine HK.out.mono ?_
  rintro e1 w1 ⟨rfl, hb1⟩
  have HB1 := Lib.hid hb1
  clear hb1 HK
  by_cases h3 : 200 < n ∧ n ≤ 16384
  · have e1 : decide ((200 : Int) < (n : Int)) = true := decide_eq_true (by omega)
    have e2 : decide ((n : Int) ≤ (16384 : Int)) = true := decide_eq_true (by omega)
    clear h3
    go_wp2_with fail
    go_ret
    exact ⟨rfl, HB1.out⟩
  have hcase : (decide ((200 : Int) < (n : Int)) = false) ∨ (decide ((200 : Int) < (n : Int)) = true ∧ decide ((n : Int) ≤ (16384 : Int)) = false) := by
    by_cases q : 200 < n
    · exact .inr ⟨decide_eq_true (by omega), decide_eq_false (by omega)⟩
    · exact .inl (decide_eq_false (by omega))
  clear h3 hln
  rcases hcase with e1 | ⟨e1, e2⟩
  all_goals
    go_wp2_with fail
    refine (HFr.out w1 HB1.out).mono ?_
    rintro e w2 ⟨⟨v, rfl, ho⟩, hb2⟩
    rw [← HMl.out] at ho
    obtain ⟨va, vc, rfl, _, _, hz⟩ := own_ur ho
    rw [HMl.out] at hz ⊢
    have HB2 := Lib.hid (HB1.out.trans (hb2.mono HB1.out.size))
    have HZ2 := Lib.hid hz
    clear hb2 ho hz
    go_wp2_with fail
    refine (HRf.out w2 HB2.out).mono ?_
    rintro e w3 ⟨⟨v, rfl, ho⟩, hb3⟩
    rw [← HMl.out] at ho
    obtain ⟨va', vc', rfl, _, _, hz⟩ := own_ur ho
    rw [HMl.out] at hz ⊢
    have HB3 := Lib.hid (HB2.out.trans (hb3.mono HB2.out.size))
    have HZ3 := Lib.hid (HZ2.out.below hb3 (Nat.le_refl _))
    have HY3 := Lib.hid hz
    clear hb3 ho hz HZ2
    go_wp2_with fail
    refine (HWo.out w3 HB3.out).mono ?_
    rintro e w4 ⟨rfl, hb4⟩
    have HB4 := Lib.hid (HB3.out.trans (hb4.mono HB3.out.size))
    have HZ4 := Lib.hid (HZ3.out.below hb4 (Nat.le_refl _))
    have HY4 := Lib.hid (HY3.out.below hb4 (Nat.le_refl _))
    have HSa := Lib.hid (same_any H H va m vc va' m vc' (by omega) w4 HZ4.out HY4.out)
    have hs := HSa.out
    rw [decide_eq_true (rfl : H = H)] at hs
    have HSb := Lib.hid hs
    clear hb4 hs HSa HZ3 HY3 HZ4
    by_cases hE : E = 0
    · obtain ⟨z1, z2⟩ := HZ.out hE
      obtain ⟨b, off, rfl, qc⟩ := HY4.out.at 0 z2
      subst hE
      have z1' : Z = H.getD 0 0 := z1
      rw [← z1'] at qc
      rw [Nat.add_zero] at qc
      have g1 : (Z : Int) == (Z : Int) := by simp
      have j1 : (0 : Int) < m := by omega
      have hN : ((N : Int) != (N : Int)) = false := by simp
      clear z1 z1' HZ HNz HY4
      go_wp2_with fail
      refine HSb.out.mono ?_
      rintro e w6 ⟨rfl, hw6⟩
      subst w6
      clear HSb
      go_wp2_with fail
      go_ret
      exact ⟨rfl, HB4.out⟩
    · have hz0 := HNz.out hE
      have hne : (E != 0) = true := by simpa using hE
      have heq : (E == 0) = false := by simpa using hE
      have hEE : (E != E) = false := by simp
      have hN : ((N : Int) != (N : Int)) = false := by simp
      subst hz0
      clear HZ HNz HY4
      go_wp2_with fail
      refine HSb.out.mono ?_
      rintro e w6 ⟨rfl, hw6⟩
      subst w6
      clear HSb
      go_wp2_with fail
      go_ret
      exact ⟨rfl, HB4.out⟩
end Cst
end Go.Proofs.YtcmbkoghhhhmcaaDoor
