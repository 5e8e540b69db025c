/- The document's own answer: a number's bytes. -/
import Derived.Test.YtimhppgepiikbaaWireW7
namespace Go.Proofs.Ytimhppgepiikbaa
open Go.ChangeShapes Go.WideShapes Go.ChangeAt Go.RowKit
namespace Wire
set_option linter.unusedVariables false
theorem ediv_pow_step (n : Int) (k : Nat) : n / 256 ^ k / 256 = n / 256 ^ (k + 1) := by rw [Int.pow_succ, Int.ediv_ediv_of_nonneg (Int.pow_nonneg (by omega))]
theorem ediv_pow_range (n : Int) (k : Nat) (h0 : 0 ≤ n) (h1 : n ≤ 18446744073709551615) : 0 ≤ n / 256 ^ k ∧ n / 256 ^ k ≤ 18446744073709551615 := by
  have hp : (0 : Int) < 256 ^ k := Int.pow_pos (by omega)
  exact ⟨Int.ediv_nonneg h0 (by omega), by
    have := Int.ediv_le_self (a := n) (256 ^ k) h0
    omega⟩
theorem own_form {w : World} {base n : Nat} {v : Value} {xs : List Value} (ho : w.ownsRow base 5 1 v n xs) : ∃ va vc, v = .slice va n vc := by
  rcases ho.2 with ⟨h, h0⟩ | ⟨g, cap, cur, hv, _⟩
  · exact ⟨none, 0, by rw [h, h0]⟩
  · exact ⟨_, _, hv⟩
set_option maxHeartbeats 1000000 in
theorem low_any (w : World) (n : Int) (s : Nat) (h0 : 0 ≤ n) (h1 : n ≤ 18446744073709551615) (hs : s ≤ 8) :
    Calls Try.prog 30 #[.int .u64 n, .int .i64 s] w fun r w' => ∃ va vc, r = .returned (.slice va s vc) ∧ w'.ownsRow w.heap.size 5 1 (.slice va s vc) s (bv (le s n)) ∧ Below w.heap.size w w' := by
  obtain ⟨i0, hi, hz0, hz1, hz2⟩ := info_parts infoByte
  have HI := Lib.hid hi
  have HZ0 := Lib.hid hz0
  have HZ1 := Lib.hid hz1
  have HZ2 := Lib.hid hz2
  clear hi hz0 hz1 hz2
  go_enter Try.func30, Try.ntmps30
  go_wp2_with fail
  go_loopw [0, 5, 6] (fun m v i wr => ∃ (k : Nat) (va : Option Addr) (vc : Nat), k ≤ s ∧ i = .int .i64 k ∧ m = .int .u64 (n / 256 ^ k) ∧ v = .slice va k vc ∧ wr.ownsRow w.heap.size 5 1 (.slice va k vc) k (bv (le k n)) ∧ Below w.heap.size w wr) (fun _ _ i _ => s - (intOf i).toNat)
  case atStart => exact ⟨0, none, 0, by omega, rfl, by simp, rfl, World.ownsRow_nil _ _ _ _, Below.refl _ _⟩
  case round =>
    obtain ⟨k, va, vc, hk, rfl, rfl, rfl, hown, hbel⟩ := hrel
    have HO := Lib.hid hown
    have HB := Lib.hid hbel
    clear hown hbel
    obtain ⟨q0, q1⟩ := ediv_pow_range n k h0 h1
    have HQ : Hid (n / 256 ^ k / 256 = n / 256 ^ (k + 1)) := ediv_pow_step n k
    have HL : Hid (le (k + 1) n = le k n ++ [n / 256 ^ k % 256]) := le_snoc k n
    generalize n / 256 ^ k = q at *
    by_cases hlt : k < s
    · have k0 : (0 : Int) ≤ k := by omega
      have k1 : (k : Int) < s := by omega
      have hd : decide ((k : Int) < (s : Int)) = true := by simp; omega
      go_wp2_with (at_builtin; refine wpList_append_lies _ rfl (.tmp 12) (.tmp 16) 26 rfl w.heap.size 5 i0 (.int .u8 0) 1 1 Try.underlying26 HI.out HZ0.out HZ1.out HZ2.out rfl (by decide) (.slice va k vc) k (bv (le k n)) rfl (HO.out.alloc _) ⟨wr.heap.size, 0, none⟩ 1 1 _ rfl (by rfl) (World.news_of_block (heap_alloc_new _ _)) (by intro u hu; simp at hu; subst hu; rfl) (by omega) (by unfold maxLen; omega) (by omega) (by have := HB.out.size; simp; omega) _ rfl ?_; intro g2 cap2 w2 hown2 hgrow hat hlt2)
      have HO2 := Lib.hid hown2
      have HB2 := Lib.hid (Below.grown (HB.out.alloc HB.out.size _) hgrow (by simp; have := HB.out.size; omega) (fun j hj => (HO.out.lt j hj).1))
      clear hown2 hgrow hat hlt2
      go_wp2_with fail
      go_roundw
      case rel => exact ⟨k + 1, _, cap2, by omega, by go_num, by rw [HQ.out], rfl, by have := HO2.out; rw [HL.out, ← bv_append]; exact this, HB2.out⟩
      case measure => simp [intOf]; omega
    · have hd : decide ((k : Int) < (s : Int)) = false := by simp; omega
      obtain rfl : k = s := by omega
      go_wp2_with fail
      go_ret
      exact ⟨va, vc, rfl, HO.out, HB.out⟩
end Wire
end Go.Proofs.Ytimhppgepiikbaa
