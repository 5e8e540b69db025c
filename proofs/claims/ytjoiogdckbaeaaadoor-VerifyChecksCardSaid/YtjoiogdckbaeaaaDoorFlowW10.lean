/- slices.Max on numbers. -/
import Derived.Test.YtjoiogdckbaeaaaDoorFlowInts
namespace Go.Proofs.YtjoiogdckbaeaaaDoor
open Go.ChangeShapes Go.WideShapes Go.ChangeAt Go.RowKit
namespace Flw
open Isa
set_option linter.unusedVariables false
set_option linter.unusedSimpArgs false
set_option maxHeartbeats 1600000 in
theorem max_any (A : List Int) (O n : Nat) (hn : A.length = n) (h0 : 0 < n) (hm : n ≤ 1000000) (w : World) (h : PRow w O A) :
    Calls Tryd.prog 62 #[.slice (some ⟨O, 0, none⟩) n n] w fun e w' => ∃ v : Int, e = .returned (.int .i64 v) ∧ (∀ x, x < n → A.getD x 0 ≤ v) ∧ (∃ x, x < n ∧ v = A.getD x 0) ∧ w' = w := by
  have HA := Lib.hid (fun k (hk : k < n) => h.at (k := k) (by omega))
  have q0 := HA.out 0 h0
  have hd1 : decide ((n : Int) < 1) = false := decide_eq_false (by omega)
  have k0 : (0 : Int) < n := by omega
  clear h
  generalize hz : A.getD 0 0 = z at *
  have HZ := Lib.hid hz
  clear hz
  go_enter Tryd.func62, Tryd.ntmps62
  go_wp2_with fail
  clear q0 hd1
  go_loopw [3, 4] (fun s3 s4 wr => ∃ (k : Nat) (v : Int), 1 ≤ k ∧ k ≤ n ∧ s3 = .int .i64 v ∧ s4 = .int .i64 k ∧ (∀ x, x < k → A.getD x 0 ≤ v) ∧ (∃ x, x < k ∧ v = A.getD x 0) ∧ wr = w) (fun _ s4 _ => n - (intOf s4).toNat)
  case atStart => exact ⟨1, z, Nat.le_refl _, by omega, rfl, rfl, fun x hx => by rw [show x = 0 from by omega, HZ.out]; exact Int.le_refl _, ⟨0, by omega, HZ.out.symm⟩, rfl⟩
  case round =>
    obtain ⟨k, v, hk1, hk, rfl, rfl, h1, h2, rfl⟩ := hrel
    have H1 := Lib.hid h1
    have H2 := Lib.hid h2
    clear h1 h2
    by_cases hlt : k < n
    · have qk := HA.out k hlt
      have hd : decide ((k : Int) < (n : Int)) = true := decide_eq_true (by omega)
      have t0 : (0 : Int) ≤ k := by omega
      have t1 : (k : Int) < n := by omega
      generalize hy : A.getD k 0 = y at *
      have HY := Lib.hid hy
      clear hy
      have H3 : Hid ((∀ x, x < k + 1 → A.getD x 0 ≤ max v y) ∧ ∃ x, x < k + 1 ∧ max v y = A.getD x 0) := by
        refine ⟨fun x hx => ?_, ?_⟩
        · by_cases q : x = k
          · rw [q, HY.out]; omega
          · have := H1.out x (by omega); omega
        · by_cases q : y ≤ v
          · obtain ⟨x, hx, e⟩ := H2.out
            exact ⟨x, by omega, by rw [← e]; omega⟩
          · exact ⟨k, by omega, by rw [HY.out]; omega⟩
      go_wp2_with fail
      exact ⟨⟨k + 1, max v y, by omega, by omega, by (congr 1; split <;> omega), by simp, H3.out.1, H3.out.2, by first | trivial | rfl⟩, by simp [intOf]; omega⟩
    · obtain rfl : k = n := by omega
      have hd : decide ((k : Int) < (k : Int)) = false := decide_eq_false (by omega)
      go_wp2_with fail
      go_ret
      exact ⟨v, rfl, H1.out, H2.out, rfl⟩
end Flw
end Go.Proofs.YtjoiogdckbaeaaaDoor
