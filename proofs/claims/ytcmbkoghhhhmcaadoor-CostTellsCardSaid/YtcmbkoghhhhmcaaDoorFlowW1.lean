/- flow.Check: what it calls: whether one is no instruction, whether one jumps astray; the first of which something holds. -/
import Derived.Test.YtcmbkoghhhhmcaaDoorCodeJumps
import Derived.Test.YtcmbkoghhhhmcaaDoorCodeOwn
namespace Go.Proofs.YtcmbkoghhhhmcaaDoor
open Go.ChangeShapes Go.WideShapes Go.ChangeAt Go.RowKit
namespace Flw
open Isa
set_option linter.unusedVariables false
set_option linter.unusedSimpArgs false
theorem none_any (i : Iv) (h : i.wf) (w : World) (hT : Tabs w) : Calls Tryd.prog 25 #[iv i] w fun e w' => e = .returned (.bool (!mayI i)) ∧ Below w.heap.size w w' := by
  have HM := Lib.hid (fun W (hb : Below w.heap.size w W) => may_any i h W (hT.below hb (Nat.le_refl _)))
  clear hT h
  unfold iv at *
  generalize mayI i = m at *
  obtain ⟨op, a, b, c⟩ := i
  simp only at *
  go_enter Tryd.func25, Tryd.ntmps25
  go_wp2_with fail
  refine (HM.out _ (by go_grown)).mono ?_
  rintro e w1 ⟨rfl, hb⟩
  have HB : Hid (Below w.heap.size w w1) := ((Below.refl _ w).alloc (Nat.le_refl _) _).trans (hb.mono (by simp))
  clear hb
  go_wp2_with fail
  go_ret
  exact ⟨rfl, HB.out⟩
/-- a jump to nowhere -/
def astB (n : Nat) (i : Iv) : Bool := jumpsI i.op && decide ((n : Int) ≤ i.c)
theorem astray_any (i : Iv) (h : i.wf) (w : World) (hT : Tabs w) (L : Nat) (a : Option Addr) (n c : Nat) (hn : n ≤ 16384) (hL : w.cell? ⟨L, 0, none⟩ = some (.slice a n c)) :
    Calls Tryd.prog 26 #[iv i, .pointer (some ⟨L, 0, none⟩)] w fun e w' => e = .returned (.bool (astB n i)) ∧ Below w.heap.size w w' := by
  have HJ := Lib.hid (fun W (hb : Below w.heap.size w W) => jumps_any i.op h.op.1 h.op.2 W (hT.below hb (Nat.le_refl _)))
  have hc := h.c
  clear hT h
  unfold iv astB at *
  generalize jumpsI i.op = j at *
  obtain ⟨op, ia, ib, ic⟩ := i
  simp only at *
  have hwn : IntKind.u64.wrap (n : Int) = (n : Int) := by simp [IntKind.wrap, IntKind.bits, IntKind.signed]; omega
  have hwc : IntKind.u64.wrap ic = ic := by simp [IntKind.wrap, IntKind.bits, IntKind.signed]; omega
  go_enter Tryd.func26, Tryd.ntmps26
  have HL := Lib.hid hL
  have HLt := Lib.hid (World.block_lt_of_cell? _ _ hL)
  clear hL hc
  go_wp2_with fail
  refine (HJ.out _ (by go_grown)).mono ?_
  rintro e w1 ⟨rfl, hb⟩
  have hi := (hb.block _ (by simp)).trans (alloc_new w (.cells #[.int .u8 op, .int .u8 ia, .int .u16 ib, .int .u32 ic] 46))
  obtain ⟨q0, q1, q2, q3⟩ := cells4 hi
  have qL : w1.cell? ⟨L, 0, none⟩ = some (.slice a n c) := (World.cell?_of_block (hb.block _ (by have := HLt.out; simp at this ⊢; omega))).trans ((World.cell?_of_block (Below.heap_alloc _ _ _ HLt.out)).trans HL.out)
  have HB : Hid (Below w.heap.size w w1) := ((Below.refl _ w).alloc (Nat.le_refl _) _).trans (hb.mono (by simp))
  clear hb hi HJ
  generalize hd : decide ((n : Int) ≤ ic) = d at *
  cases j with
  | false =>
    go_wp2_with fail
    go_ret
    exact ⟨rfl, HB.out⟩
  | true =>
    go_wp2_with fail
    go_ret
    exact ⟨ret_bool (by simp [hd]), HB.out⟩
/-- the number of the first, or -1 -/
def idxA (p : Nat → Bool) (n : Nat) : Int := if first p n < n then (first p n : Nat) else -1
set_option maxHeartbeats 1600000 in
theorem indexFunc_any (l : List Iv) (a : Option Addr) (n c : Nat) (hn : n ≤ 9223372036854775807) (g : Nat) (lb : Array Value) (eg : ∀ args w, (callFunc g args).run Tryd.prog w = .ok (.enter g args) w) (p : Nat → Bool) (w : World) (h : IRow w a n l)
    (hp : ∀ k, k < n → ∀ W, Below w.heap.size w W → Calls Tryd.prog g (#[iv (l.getD k iz)] ++ lb) W fun e W' => e = .returned (.bool (p k)) ∧ Below W.heap.size W W') :
    Calls Tryd.prog 24 #[.slice a n c, .func (.func g) #[] lb] w fun e w' => e = .returned (.int .i64 (idxA p n)) ∧ Below w.heap.size w w' := by
  have HA := Lib.hid (fun W (hb : Below w.heap.size w W) k (hk : k < n) => (h.below hb (Nat.le_refl _)).at k hk)
  have HP := Lib.hid hp
  clear h hp
  go_enter Tryd.func24, Tryd.ntmps24
  go_wp2_with fail
  go_loopw [8] (fun i wr => ∃ k : Nat, k ≤ n ∧ i = .int .i64 k ∧ (∀ t, t < k → p t = false) ∧ Below w.heap.size w wr) (fun i _ => n - (intOf i).toNat)
  case atStart => exact ⟨0, by omega, rfl, fun t ht => by omega, Below.refl _ _⟩
  case round =>
    obtain ⟨k, hk, rfl, hno, hbel⟩ := hrel
    have HNo := Lib.hid hno
    have HB := Lib.hid hbel
    clear hno hbel
    by_cases hlt : k < n
    · have hd : decide ((k : Int) < (n : Int)) = true := decide_eq_true (by omega)
      have k0 : (0 : Int) ≤ k := by omega
      have k1 : (k : Int) < n := by omega
      obtain ⟨b, off, rfl, hc, hw⟩ := HA.out wr HB.out k hlt
      obtain ⟨c0, c1, c2, c3⟩ := hc
      have HPk := Lib.hid (HP.out k hlt wr HB.out)
      clear hw
      generalize l.getD k iz = x at *
      obtain ⟨op, ia, ib, ic⟩ := x
      unfold iv at HPk
      simp only at *
      go_wp2_with fail
      refine HPk.out.mono ?_
      rintro e w2 ⟨rfl, hb2⟩
      have HB2 := Lib.hid (HB.out.trans (hb2.mono HB.out.size))
      clear hb2 c0 c1 c2 c3 HPk
      generalize hpk : p k = b2 at *
      have HK := Lib.hid hpk
      clear hpk
      cases b2 with
      | true =>
        have HR : Hid (idxA p n = (k : Nat)) := by
          show _ = _
          unfold idxA
          rw [first_at hlt HNo.out HK.out, if_pos hlt]
        go_wp2_with fail
        go_ret
        exact ⟨ret_int HR.out.symm, HB2.out⟩
      | false =>
        go_wp2_with fail
        refine ⟨⟨k + 1, by omega, by simp, fun t ht => ?_, HB2.out⟩, by simp [intOf]; omega⟩
        by_cases e : t = k
        · rw [e]; exact HK.out
        · exact HNo.out t (by omega)
    · obtain rfl : k = n := by omega
      have hd : decide ((k : Int) < (k : Int)) = false := decide_eq_false (by omega)
      have HR : Hid (idxA p k = -1) := by
        show _ = _
        unfold idxA
        rw [first_none HNo.out, if_neg (Nat.lt_irrefl _)]
      go_wp2_with fail
      go_ret
      exact ⟨ret_int HR.out.symm, HB.out⟩
end Flw
end Go.Proofs.YtcmbkoghhhhmcaaDoor
