/- Lines held against each other. -/
import Derived.Test.YtgiocecpkhmhhaaGreatDoorAsmRow
import Derived.Test.YtgiocecpkhmhhaaGreatDoorAsmR4
import Derived.Test.YtgiocecpkhmhhaaGreatDoorIsaEq
import Derived.Deep.QuietTactic
import Derived.BigQuiet
namespace Go.Proofs.YtgiocecpkhmhhaaGreatDoor
open Go.ChangeShapes Go.WideShapes Go.ChangeAt Go.RowKit
namespace Asm
open Isa
set_option linter.unusedVariables false
set_option linter.unusedSimpArgs false
theorem below_drewN {B : Nat} {w w' : World} (h : RowKit.Below B w w') (q : Nat) : RowKit.Below B w (w'.drewN q) := ⟨h.os, h.tape, h.output, h.size, h.block⟩
theorem eqIv (n : Nat) (x y : Iv) (w : World) : (Op.equalIn (n + 2) 32 (.agg #[.int .u8 x.op, .int .u8 x.a, .int .u16 x.b, .int .u32 x.c]) (.agg #[.int .u8 y.op, .int .u8 y.a, .int .u16 y.b, .int .u32 y.c])).run Tryz.prog w = .ok (decide (x = y)) w := by
  have u1 := Tryz.underlying5
  have a1 := Tryz.isAgg5
  have z1 := Tryz.sizeOf5
  have u2 := Tryz.underlying29
  have a2 := Tryz.isAgg29
  have z2 := Tryz.sizeOf29
  have u3 := Tryz.underlying30
  have a3 := Tryz.isAgg30
  have z3 := Tryz.sizeOf30
  have hS : Tryz.prog.underlying 32 = some (.struct (Tryz.prog.fieldsOf 32)) := by kernel_rfl
  have hp : Tryz.prog.stoodInHeld 32 = false := by kernel_rfl
  have hxy : decide (x = y) = (x.op == y.op && (x.a == y.a && (x.b == y.b && x.c == y.c))) := by
    rw [Bool.eq_iff_iff]
    simp only [decide_eq_true_eq, Bool.and_eq_true, beq_iff_eq]
    exact ⟨fun h => by subst h; simp, fun h => Iv.eq_of h.1 h.2.1 h.2.2.1 h.2.2.2⟩
  rw [hxy, run_equalIn_agg w (n + 1) 32 _ _ hS hp]
  simp only [Program.fieldsOf, Tryz.underlying32]
  go_simp
  by_cases h1 : x.op = y.op <;> by_cases h2 : x.a = y.a <;> by_cases h3 : x.b = y.b <;> by_cases h4 : x.c = y.c <;> simp [h1, h2, h3, h4]
set_option maxRecDepth 20000 in
theorem eqAv (n : Nat) (x y : Av) (w : World) : (Op.equalIn (n + 3) 34 (avV x) (avV y)).run Tryz.prog w = .ok (decide (x = y)) w := by
  have us := Tryz.underlying9
  have as1 := Tryz.isAgg9
  have zs := Tryz.sizeOf9
  have ai := Tryz.isAgg32
  have zi := Tryz.sizeOf32
  have hS : Tryz.prog.underlying 34 = some (.struct (Tryz.prog.fieldsOf 34)) := by kernel_rfl
  have hp : Tryz.prog.stoodInHeld 34 = false := by kernel_rfl
  have e0 := eqIv n x.i y.i w
  have e1 := sB_eq x.lb y.lb
  have e2 := sB_eq x.tg y.tg
  unfold avV
  rw [run_equalIn_agg w (n + 2) 34 _ _ hS hp]
  simp only [Program.fieldsOf, Tryz.underlying34]
  go_simp
  by_cases h : x = y
  · subst h; simp
  · rw [decide_eq_false h]
    repeat' split
    all_goals first
      | rfl
      | (exfalso; exact h (Av.eq_of (by assumption) (Iv.eq_of (by assumption) (by assumption) (by assumption) (by assumption)) (by assumption)))
set_option maxHeartbeats 3200000 in
theorem same_any (l m : List Av) (a : Option Addr) (n c : Nat) (a' : Option Addr) (n' c' : Nat) (hm : n ≤ 1000000000) (w : World) (h : ARow w a n l) (h2 : ARow w a' n' m) :
    Calls Tryz.prog 23 #[.slice a n c, .slice a' n' c'] w fun e w' => e = .returned (.bool (decide (l = m))) ∧ Below w.heap.size w w' := by
  have HA := Lib.hid (fun W (hb : Below w.heap.size w W) k (hk : k < n) => (h.below hb (Nat.le_refl _)).at k hk)
  have HB := Lib.hid (fun W (hb : Below w.heap.size w W) k (hk : k < n') => (h2.below hb (Nat.le_refl _)).at k hk)
  have hln : l.length = n := h.1
  have hmn : m.length = n' := h2.1
  have HL := Lib.hid hln
  have HM := Lib.hid hmn
  clear h h2
  by_cases hnn : n = n'
  case neg =>
    have HR : Hid (decide (l = m) = false) := decide_eq_false (fun e => hnn (by rw [← hln, ← hmn, e]))
    have hd : ((n : Int) != (n' : Int)) = true := by simp; omega
    generalize decide (l = m) = R at *
    go_enter Tryz.func23, Tryz.ntmps23
    go_wp2_with fail
    go_ret
    exact ⟨ret_bool HR.out.symm, by go_grown⟩
  subst hnn
  go_enter Tryz.func23, Tryz.ntmps23
  go_wp2_with fail
  go_loopw [5] (fun i wr => ∃ k : Nat, k ≤ n ∧ i = .int .i64 k ∧ (∀ t, t < k → l.getD t av0 = m.getD t av0) ∧ Below w.heap.size w wr) (fun i _ => n - (intOf i).toNat)
  case atStart => exact ⟨0, by omega, rfl, fun t ht => by omega, Below.refl _ _⟩
  case round =>
    obtain ⟨k, hk, rfl, hno, hbel⟩ := hrel
    have HBl := Lib.hid hbel
    clear hbel
    have HO := Lib.hid hno
    clear hno
    by_cases hlt : k < n
    · have hd : decide ((k : Int) < (n : Int)) = true := decide_eq_true (by omega)
      have k0 : (0 : Int) ≤ k := by omega
      have k1 : (k : Int) < n := by omega
      obtain ⟨b, off, rfl, hc, _⟩ := HA.out wr HBl.out k hlt
      obtain ⟨b', off', rfl, hc', _⟩ := HB.out wr HBl.out k hlt
      obtain ⟨c0, c1, c2, c3, c4, c5⟩ := hc
      obtain ⟨e0, e1, e2, e3, e4, e5⟩ := hc'
      have he := fun W => eqAv 9997 (l.getD k av0) (m.getD k av0) W
      unfold avV at he
      by_cases hx : l.getD k av0 = m.getD k av0
      · have HX := Lib.hid hx
        simp only [decide_eq_true hx] at he
        clear hx
        have HO1 : Hid (∀ t, t < k + 1 → l.getD t av0 = m.getD t av0) := fun t ht => by
          by_cases e : t = k
          · rw [e]; exact HX.out
          · exact HO.out t (by omega)
        generalize l.getD k av0 = x at *
        generalize m.getD k av0 = y at *
        go_wp2_with fail
        go_quiet (simp only [he, Result.andThen_ok])
        go_wp2_with fail
        exact ⟨⟨k + 1, by omega, by simp, HO1.out, below_drewN HBl.out _⟩, by simp [intOf]; omega⟩
      · have HR : Hid (decide (l = m) = false) := decide_eq_false (fun e => hx (by rw [e]))
        simp only [decide_eq_false hx] at he
        clear hx
        generalize l.getD k av0 = x at *
        generalize m.getD k av0 = y at *
        go_wp2_with fail
        go_quiet (simp only [he, Result.andThen_ok])
        go_wp2_with fail
        go_ret
        exact ⟨ret_bool HR.out.symm, below_drewN HBl.out _⟩
    · obtain rfl : k = n := by omega
      have HR : Hid (decide (l = m) = true) := decide_eq_true (by
        apply List.ext_getElem
        · rw [HL.out, HM.out]
        · intro i h1 h2
          have := HO.out i (by rw [← HL.out]; exact h1)
          rw [List.getD_eq_getElem?_getD, List.getD_eq_getElem?_getD, List.getElem?_eq_getElem h1, List.getElem?_eq_getElem h2] at this
          exact this)
      have hd : decide ((k : Int) < (k : Int)) = false := decide_eq_false (by omega)
      go_wp2_with fail
      go_ret
      exact ⟨ret_bool HR.out.symm, HBl.out⟩
set_option maxHeartbeats 3200000 in
theorem sameCode_any (l m : List Iv) (a : Option Addr) (n c : Nat) (a' : Option Addr) (n' c' : Nat) (hm : n ≤ 1000000000) (w : World) (h : IRow w a n l) (h2 : IRow w a' n' m) :
    Calls Tryz.prog 14 #[.slice a n c, .slice a' n' c'] w fun e w' => e = .returned (.bool (decide (l = m))) ∧ Below w.heap.size w w' := by
  have HA := Lib.hid (fun W (hb : Below w.heap.size w W) k (hk : k < n) => (h.below hb (Nat.le_refl _)).at k hk)
  have HB := Lib.hid (fun W (hb : Below w.heap.size w W) k (hk : k < n') => (h2.below hb (Nat.le_refl _)).at k hk)
  have hln : l.length = n := h.1
  have hmn : m.length = n' := h2.1
  have HL := Lib.hid hln
  have HM := Lib.hid hmn
  clear h h2
  by_cases hnn : n = n'
  case neg =>
    have HR : Hid (decide (l = m) = false) := decide_eq_false (fun e => hnn (by rw [← hln, ← hmn, e]))
    have hd : ((n : Int) != (n' : Int)) = true := by simp; omega
    generalize decide (l = m) = R at *
    go_enter Tryz.func14, Tryz.ntmps14
    go_wp2_with fail
    go_ret
    exact ⟨ret_bool HR.out.symm, by go_grown⟩
  subst hnn
  go_enter Tryz.func14, Tryz.ntmps14
  go_wp2_with fail
  go_loopw [5] (fun i wr => ∃ k : Nat, k ≤ n ∧ i = .int .i64 k ∧ (∀ t, t < k → l.getD t iv0 = m.getD t iv0) ∧ Below w.heap.size w wr) (fun i _ => n - (intOf i).toNat)
  case atStart => exact ⟨0, by omega, rfl, fun t ht => by omega, Below.refl _ _⟩
  case round =>
    obtain ⟨k, hk, rfl, hno, hbel⟩ := hrel
    have HBl := Lib.hid hbel
    clear hbel
    have HO := Lib.hid hno
    clear hno
    by_cases hlt : k < n
    · have hd : decide ((k : Int) < (n : Int)) = true := decide_eq_true (by omega)
      have k0 : (0 : Int) ≤ k := by omega
      have k1 : (k : Int) < n := by omega
      obtain ⟨b, off, rfl, hc, _⟩ := HA.out wr HBl.out k hlt
      obtain ⟨b', off', rfl, hc', _⟩ := HB.out wr HBl.out k hlt
      obtain ⟨c0, c1, c2, c3⟩ := hc
      obtain ⟨e0, e1, e2, e3⟩ := hc'
      have he := fun W => eqIv 9998 (l.getD k iv0) (m.getD k iv0) W
      skip
      by_cases hx : l.getD k iv0 = m.getD k iv0
      · have HX := Lib.hid hx
        simp only [decide_eq_true hx] at he
        clear hx
        have HO1 : Hid (∀ t, t < k + 1 → l.getD t iv0 = m.getD t iv0) := fun t ht => by
          by_cases e : t = k
          · rw [e]; exact HX.out
          · exact HO.out t (by omega)
        generalize l.getD k iv0 = x at *
        generalize m.getD k iv0 = y at *
        go_wp2_with fail
        go_quiet (simp only [he, Result.andThen_ok])
        go_wp2_with fail
        exact ⟨⟨k + 1, by omega, by simp, HO1.out, below_drewN HBl.out _⟩, by simp [intOf]; omega⟩
      · have HR : Hid (decide (l = m) = false) := decide_eq_false (fun e => hx (by rw [e]))
        simp only [decide_eq_false hx] at he
        clear hx
        generalize l.getD k iv0 = x at *
        generalize m.getD k iv0 = y at *
        go_wp2_with fail
        go_quiet (simp only [he, Result.andThen_ok])
        go_wp2_with fail
        go_ret
        exact ⟨ret_bool HR.out.symm, below_drewN HBl.out _⟩
    · obtain rfl : k = n := by omega
      have HR : Hid (decide (l = m) = true) := decide_eq_true (by
        apply List.ext_getElem
        · rw [HL.out, HM.out]
        · intro i h1 h2
          have := HO.out i (by rw [← HL.out]; exact h1)
          rw [List.getD_eq_getElem?_getD, List.getD_eq_getElem?_getD, List.getElem?_eq_getElem h1, List.getElem?_eq_getElem h2] at this
          exact this)
      have hd : decide ((k : Int) < (k : Int)) = false := decide_eq_false (by omega)
      go_wp2_with fail
      go_ret
      exact ⟨ret_bool HR.out.symm, HBl.out⟩
end Asm
end Go.Proofs.YtgiocecpkhmhhaaGreatDoor
