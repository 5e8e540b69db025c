/- The walk of HeightTells: what the program's calls answer is what the document's do. -/
import Derived.Test.YteingehdkpfpcaaDoorHeightKnown
import Derived.Test.YteingehdkpfpcaaDoorHeightR2
namespace Go.Proofs.YteingehdkpfpcaaDoor
open Go.ChangeShapes Go.WideShapes Go.ChangeAt Go.RowKit
namespace Hgt
open Isa Flw
set_option linter.unusedVariables false
set_option linter.unusedSimpArgs false
set_option maxRecDepth 100000 in
set_option maxHeartbeats 3200000 in
theorem tells_walk (w : World) (hT : Tabs w) (a : Option Addr) (n c : Nat) (l : List Iv) (h : IRow w a n l) (hc : n ≤ c ∧ c ≤ 9223372036854775807) (most : Int) (hmo : -9223372036854775808 ≤ most ∧ most ≤ 9223372036854775807) :
    Calls Tryd.prog 6 #[.slice a n c, .int .i64 most] w fun e w' => e = .returned (.bool true) ∧ Below w.heap.size w w' := by
  have hln : l.length = n := h.1
  have HK := Lib.hid (known_any w hT)
  have HH := Lib.hid (fun W (hb : Below w.heap.size w W) => heights_any l a n c most W (hT.below hb (Nat.le_refl _)) hc.1 hc.2 hmo.1 hmo.2 (h.below hb (Nat.le_refl _)))
  have HM := Lib.hid (fun W (hb : Below w.heap.size w W) => most_any l a n c most W (hT.below hb (Nat.le_refl _)) hc.1 hc.2 hmo.1 hmo.2 (h.below hb (Nat.le_refl _)))
  have HRh := Lib.hid (fun W (hb : Below w.heap.size w W) => rheights_any l a n c most W (h.below hb (Nat.le_refl _)))
  have HRm := Lib.hid (fun W (hb : Below w.heap.size w W) => rmost_any l a n c most W (h.below hb (Nat.le_refl _)))
  have HLen : Hid ((htA l most).1.length ≤ 1000000) := by
    show _ ≤ _
    by_cases e0 : (htA l most).2.2 = 0
    · have hw := htA_well h.2.1 e0
      have hg := htA_go e0
      have := hw.1.len
      have := hg.2.2.1.most
      omega
    · rw [htA_err e0]
      simp
  clear h hT hc
  generalize (htA l most).1 = H at *
  generalize (htA l most).2.1 = N at *
  generalize (htA l most).2.2 = E at *
  generalize (mostA l most).1 = M at *
  generalize (mostA l most).2 = F at *
  obtain ⟨m, hm⟩ : ∃ m, H.length = m := ⟨_, rfl⟩
  have HMl := Lib.hid hm
  have hlen := HLen.out
  rw [hm] at HH HRh hlen
  clear hm HLen
  go_enter Tryd.func6, Tryd.ntmps6
  go_wp2_with fail
  refine HK.out.mono ?_
  rintro e1 w1 ⟨rfl, hb1⟩
  have HB1 := Lib.hid hb1
  clear hb1 HK
  by_cases h3 : 300 < n ∧ n ≤ 16384
  · have e1 : decide ((300 : Int) < (n : Int)) = true := decide_eq_true (by omega)
    have e2 : decide ((n : Int) ≤ (16384 : Int)) = true := decide_eq_true (by omega)
    clear h3
    go_wp2_with fail
    go_ret
    exact ⟨rfl, HB1.out⟩
  have hcase : (decide ((300 : Int) < (n : Int)) = false) ∨ (decide ((300 : Int) < (n : Int)) = true ∧ decide ((n : Int) ≤ (16384 : Int)) = false) := by
    by_cases q : 300 < n
    · exact .inr ⟨decide_eq_true (by omega), decide_eq_false (by omega)⟩
    · exact .inl (decide_eq_false (by omega))
  clear h3 hln
  rcases hcase with e1 | ⟨e1, e2⟩
  all_goals
    go_wp2_with fail
    refine (HH.out w1 HB1.out).mono ?_
    rintro e w2 ⟨v, rfl, ho, hb2⟩
    rw [← HMl.out] at ho
    obtain ⟨va, vc, rfl, _, _, hz⟩ := own_zrow ho
    rw [HMl.out] at hz ⊢
    have HB2 := Lib.hid (HB1.out.trans (hb2.mono HB1.out.size))
    have HZ2 := Lib.hid hz
    clear hb2 ho hz
    go_wp2_with fail
    refine (HRh.out w2 HB2.out).mono ?_
    rintro e w3 ⟨v, rfl, ho, hb3⟩
    rw [← HMl.out] at ho
    obtain ⟨va', vc', rfl, _, _, hz⟩ := own_zrow ho
    rw [HMl.out] at hz ⊢
    have HB3 := Lib.hid (HB2.out.trans (hb3.mono HB2.out.size))
    have HZ3 := Lib.hid (HZ2.out.below hb3 (Nat.le_refl _))
    have HY3 := Lib.hid hz
    clear hb3 ho hz HZ2
    go_wp2_with fail
    refine (HM.out w3 HB3.out).mono ?_
    rintro e w4 ⟨rfl, hb4⟩
    have HB4 := Lib.hid (HB3.out.trans (hb4.mono HB3.out.size))
    have HZ4 := Lib.hid (HZ3.out.below hb4 (Nat.le_refl _))
    have HY4 := Lib.hid (HY3.out.below hb4 (Nat.le_refl _))
    clear hb4 HZ3 HY3
    go_wp2_with fail
    refine (HRm.out w4 HB4.out).mono ?_
    rintro e w5 ⟨rfl, hb5⟩
    have HB5 := Lib.hid (HB4.out.trans (hb5.mono HB4.out.size))
    have HSa := Lib.hid (same_any H H va m vc va' m vc' (by omega) w5 (HZ4.out.below hb5 (Nat.le_refl _)) (HY4.out.below hb5 (Nat.le_refl _)))
    have hs := HSa.out
    rw [decide_eq_true (rfl : H = H)] at hs
    have HSb := Lib.hid hs
    have g1 : (N : Int) == (N : Int) := by simp
    clear hb5 HZ4 HY4 hs HSa
    go_wp2_with fail
    refine HSb.out.mono ?_
    rintro e w6 ⟨rfl, hw6⟩
    subst w6
    clear HSb
    go_wp2_with fail
    go_ret
    exact ⟨rfl, HB5.out⟩
end Hgt
end Go.Proofs.YteingehdkpfpcaaDoor
