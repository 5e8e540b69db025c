/- The document's own answers: what comes behind an instruction. -/
import Derived.Test.YtjoiogdckbaeaaaDoorCodeOwn
namespace Go.Proofs.YtjoiogdckbaeaaaDoor
open Go.ChangeShapes Go.WideShapes Go.ChangeAt Go.RowKit
namespace Flw
open Isa
set_option linter.unusedVariables false
set_option linter.unusedSimpArgs false
theorem lit1 (w : World) (S a : Nat) (hS : S ≤ w.heap.size) : numsP S [a] (w.alloc (.cells #[.int .i64 (a : Int)] 3)) (.slice (some ⟨w.heap.size, 0, none⟩) 1 1) :=
  World.ownsRow_lit w #[.int .i64 (a : Int)] 1 hS (by decide) rfl
theorem lit2 (w : World) (S a b : Nat) (hS : S ≤ w.heap.size) : numsP S [a, b] (w.alloc (.cells #[.int .i64 (a : Int), .int .i64 (b : Int)] 3)) (.slice (some ⟨w.heap.size, 0, none⟩) 2 2) :=
  World.ownsRow_lit w #[.int .i64 (a : Int), .int .i64 (b : Int)] 2 hS (by decide) rfl
set_option maxHeartbeats 1600000 in
theorem rbehind_any (l : List Iv) (a : Option Addr) (n c : Nat) (hm : n ≤ 1000000) (k : Nat) (hk : k < n) (w : World) (h : IRow w a n l) : Calls Tryd.prog 40 #[.slice a n c, .int .i64 (k : Int)] w fun e w' =>
    ∃ v, e = .returned v ∧ numsP w.heap.size (behL l k) w' v ∧ Below w.heap.size w w' := by
  obtain ⟨b, off, rfl, hc, hw⟩ := h.at k hk
  obtain ⟨c0, c1, c2, c3⟩ := hc
  have k0 : (0 : Int) ≤ k := by omega
  have k1 : (k : Int) < n := by omega
  have hcc := hw.c
  unfold behL
  clear h hw
  generalize l.getD k iz = x at *
  obtain ⟨op, ia, ib, ic⟩ := x
  simp only at *
  obtain ⟨m, rfl⟩ := Int.eq_ofNat_of_zero_le hcc.1
  have hwc : IntKind.i64.wrap (m : Int) = (m : Int) := by
    simp [IntKind.wrap, IntKind.bits, IntKind.signed]; omega
  have hw1 : IntKind.i64.wrap ((k : Int) + 1) = ((k + 1 : Nat) : Int) := by
    simp [IntKind.wrap, IntKind.bits, IntKind.signed]; omega
  have HB1 := Lib.hid (fun o => (Below.refl w.heap.size w).alloc (Nat.le_refl _) o)
  have HL1 := Lib.hid (fun a => lit1 w w.heap.size a (Nat.le_refl _))
  have HL2 := Lib.hid (fun a b => lit2 w w.heap.size a b (Nat.le_refl _))
  clear hcc
  unfold behI
  simp only
  by_cases h27 : op = 27
  · rw [if_pos h27]
    subst h27
    clear HB1 HL1 HL2
    go_enter Tryd.func40, Tryd.ntmps40
    go_wp2_with fail
    go_ret
    exact ⟨_, rfl, World.ownsRow_nil _ _ _ _, Below.refl _ _⟩
  rw [if_neg h27]
  have e27 : (op == 27) = false := by simpa using h27
  by_cases h19 : op = 19
  · rw [if_pos h19]
    subst h19
    have HR := Lib.hid (HL1.out m)
    clear HL1 HL2 h27 e27
    go_enter Tryd.func40, Tryd.ntmps40
    go_wp2_with fail
    go_ret
    exact ⟨_, rfl, HR.out, HB1.out _⟩
  rw [if_neg h19]
  have e19 : (op == 19) = false := by simpa using h19
  by_cases h20 : op = 20
  · rw [if_pos h20]
    subst h20
    clear h27 e27 h19 e19
    by_cases hq : m = k + 1
    · subst hq
      have HR := Lib.hid (HL1.out (k + 1))
      have hself : (((k + 1 : Nat) : Int) == ((k + 1 : Nat) : Int)) = true := by simp
      rw [if_pos rfl]
      clear HL1 HL2
      go_enter Tryd.func40, Tryd.ntmps40
      go_wp2_with fail
      go_ret
      exact ⟨_, rfl, HR.out, HB1.out _⟩
    · rw [if_neg (by omega)]
      have HR := Lib.hid (HL2.out (k + 1) m)
      have hself : ((m : Int) == ((k + 1 : Nat) : Int)) = false := by simp; omega
      clear HL1 HL2
      go_enter Tryd.func40, Tryd.ntmps40
      go_wp2_with fail
      go_ret
      exact ⟨_, rfl, HR.out, HB1.out _⟩
  rw [if_neg h20]
  have e20 : (op == 20) = false := by simpa using h20
  have HR := Lib.hid (HL1.out (k + 1))
  clear HL1 HL2
  go_enter Tryd.func40, Tryd.ntmps40
  go_wp2_with fail
  go_ret
  exact ⟨_, rfl, HR.out, HB1.out _⟩
end Flw
end Go.Proofs.YtjoiogdckbaeaaaDoor
