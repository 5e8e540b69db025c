/- heavy: a script that is gone through has at most 200 calls. -/
import Derived.Test.YthpimoinognkhaaMemOpen
namespace Go.Proofs.Ythpimoinognkhaa
open Go.ChangeShapes Go.WideShapes Go.ChangeAt Go.RowKit
namespace Ram
set_option linter.unusedVariables false
set_option linter.unusedSimpArgs false
theorem DRow.at {p : Nat → Prop} {w : World} {a : Option Addr} {n : Nat} {l : List Dv} (h : DRow p w a n l) {j : Nat} (hj : j < n) : ∃ b off, a = some ⟨b, off, none⟩ ∧ DAt p w b (off + j * 5) l[j]! := by
  obtain ⟨b, off, e, _, hd⟩ := h.2.resolve_left (by omega)
  exact ⟨b, off, e, hd j hj⟩
def HeavyP (n : Nat) (w : World) (e : Ending) (w' : World) : Prop := ∃ b, e = .returned (.bool b) ∧ (b = false → n ≤ 200) ∧ Below w.heap.size w w'
set_option maxHeartbeats 1000000 in
theorem heavy_any {a : Option Addr} {n c : Nat} {l : List Dv} {w : World} (h : DRow (fun k => w.heap.size ≤ k) w a n l) (hn : n ≤ 9223372036854775807) :
    Calls Try.prog 7 #[.slice a n c] w (HeavyP n w) := by
  have HR := Lib.hid h
  clear h
  go_enter Try.func7, Try.ntmps7
  go_wp2_with fail
  go_loopw [3, 8] (fun v i wr => ∃ (k : Nat) (z : Int), k ≤ n ∧ i = .int .i64 k ∧ v = .int .i64 z ∧ 0 ≤ z ∧ z ≤ 2000 ∧ Below w.heap.size w wr) (fun _ i _ => n - (intOf i).toNat)
  case atStart => exact ⟨0, 0, by omega, rfl, rfl, by omega, by omega, Below.refl _ _⟩
  case round =>
    obtain ⟨k, z, hk, rfl, rfl, z0, z1, hbel⟩ := hrel
    have HB := Lib.hid hbel
    clear hbel
    by_cases hlt : k < n
    · have k0 : (0 : Int) ≤ k := by omega
      have k1 : (k : Int) < n := by omega
      have hd : decide ((k : Int) < (n : Int)) = true := by simp; omega
      obtain ⟨b, off, rfl, c0, c1, c2, c3, ba, bn, bc, c4, h5, h6, _⟩ := (HR.out.kept (Kept.below HB.out)).at hlt
      generalize l[k]! = y at *
      have HB2 := Lib.hid (HB.out.alloc HB.out.size (.cells #[.int .i64 y.k, .int .u32 y.a, .int .u32 y.n, .int .u32 y.x, .slice ba bn bc] 37))
      by_cases hq : (bn : Int) ≤ 65536
      · have hq1 : ¬ ((65536 : Int) < bn) := by omega
        have s0 : 0 ≤ (bn : Int) / 64 := by omega
        have s1 : (bn : Int) / 64 ≤ 1024 := by omega
        by_cases h2 : 2000 < z + (1 + (bn : Int) / 64)
        · have d2 : decide (2000 < z + (1 + (bn : Int) / 64)) = true := by simpa using h2
          go_wp2_with fail
          go_ret
          exact ⟨true, rfl, (fun h => by cases h), HB2.out⟩
        · have d2 : decide (2000 < z + (1 + (bn : Int) / 64)) = false := by simpa using h2
          go_wp2_with fail
          go_roundw
          case rel => exact ⟨k + 1, z + (1 + (bn : Int) / 64), by omega, by go_num, by first | rfl | (congr 1; split <;> omega), by omega, by omega, HB2.out⟩
          case measure => simp [intOf]; omega
      · have hq1 : (65536 : Int) < bn := by omega
        by_cases h2 : 2000 < z + 1025
        · have d2 : decide (2000 < z + 1025) = true := by simpa using h2
          go_wp2_with fail
          go_ret
          exact ⟨true, rfl, (fun h => by cases h), HB2.out⟩
        · have d2 : decide (2000 < z + 1025) = false := by simpa using h2
          go_wp2_with fail
          go_roundw
          case rel => exact ⟨k + 1, z + 1025, by omega, by go_num, by first | rfl | (congr 1; split <;> omega), by omega, by omega, HB2.out⟩
          case measure => simp [intOf]; omega
    · have hd : decide ((k : Int) < (n : Int)) = false := by simp; omega
      go_wp2_with fail
      go_ret
      exact ⟨_, rfl, (fun h => by simp at h; omega), HB.out⟩
end Ram
end Go.Proofs.Ythpimoinognkhaa
