/- heavy: a script that is gone through has at most 500 calls, of at most 1000 words each. -/
import Derived.Test.YtoighaicdakbkaaFieldOpen
namespace Go.Proofs.Ytoighaicdakbkaa
open Go.ChangeShapes Go.WideShapes Go.ChangeAt Go.RowKit
namespace Fld
set_option linter.unusedVariables false
set_option linter.unusedSimpArgs false
theorem DRow.at {p : Nat → Prop} {w : World} {a : Option Addr} {n : Nat} {l : List Dv} (h : DRow p w a n l) {j : Nat} (hj : j < n) : ∃ b off, a = some ⟨b, off, none⟩ ∧ DAt p w b (off + j * 5) l[j]! := by
  obtain ⟨b, off, e, _, hd⟩ := h.2.resolve_left (by omega)
  exact ⟨b, off, e, hd j hj⟩
def HeavyP (n : Nat) (w : World) (e : Ending) (w' : World) : Prop := ∃ b, e = .returned (.bool b) ∧ (b = false → n ≤ 500) ∧ Below w.heap.size w w'
set_option maxHeartbeats 1000000 in
theorem heavy_any {a : Option Addr} {n c B : Nat} {l : List Dv} {w : World} (h : DRow (fun k => B ≤ k) w a n l) (hB : B ≤ w.heap.size) (hn : n ≤ 9223372036854775807) :
    Calls Try.prog 6 #[.slice a n c] w (HeavyP n w) := by
  have HR := Lib.hid (fun W (hb : Below w.heap.size w W) => h.kept ((Kept.below hb).mono (fun k _ hk => Nat.le_trans hB hk)))
  clear h
  go_enter Try.func6, Try.ntmps6
  go_wp2_with fail
  go_loopw [7] (fun i wr => ∃ k : Nat, k ≤ n ∧ i = .int .i64 k ∧ Below w.heap.size w wr) (fun i _ => n - (intOf i).toNat)
  case atStart => exact ⟨0, by omega, rfl, Below.refl _ _⟩
  case round =>
    obtain ⟨k, hk, rfl, hbel⟩ := hrel
    have HB := Lib.hid hbel
    clear hbel
    by_cases hlt : k < n
    · have k0 : (0 : Int) ≤ k := by omega
      have k1 : (k : Int) < n := by omega
      have hd : decide ((k : Int) < (n : Int)) = true := by simp; omega
      obtain ⟨b, off, rfl, c0, c1, c2, c3, ba, bn, bc, c4, h5, h6, _⟩ := (HR.out _ HB.out).at hlt
      generalize l[k]! = y at *
      have HB2 := Lib.hid (HB.out.alloc HB.out.size (.cells #[.int .i64 y.k, .int .i64 y.part, .int .i64 y.n, .int .u32 y.x, .slice ba bn bc] 38))
      by_cases h2 : (1000 : Int) < (bn : Int)
      · have d2 : decide ((1000 : Int) < (bn : Int)) = true := decide_eq_true h2
        go_wp2_with fail
        go_ret
        exact ⟨true, rfl, (fun h => by cases h), HB2.out⟩
      · have d2 : decide ((1000 : Int) < (bn : Int)) = false := decide_eq_false h2
        go_wp2_with fail
        go_roundw
        case rel => exact ⟨k + 1, by omega, by go_num, HB2.out⟩
        case measure => simp [intOf]; omega
    · have hd : decide ((k : Int) < (n : Int)) = false := by simp; omega
      go_wp2_with fail
      go_ret
      exact ⟨_, rfl, (fun h => by simp at h; omega), HB.out⟩
end Fld
end Go.Proofs.Ytoighaicdakbkaa
