/- The law's own comparison of two lists of numbers. -/
import Derived.Test.YteingehdkpfpcaaDoorFlowR2
namespace Go.Proofs.YteingehdkpfpcaaDoor
open Go.ChangeShapes Go.WideShapes Go.ChangeAt Go.RowKit
namespace Flw
open Isa
set_option linter.unusedVariables false
set_option linter.unusedSimpArgs false
theorem list_same {l m : List Nat} (h : l.length = m.length) (hs : ∀ t, t < l.length → l.getD t 0 = m.getD t 0) : l = m := by
  apply List.ext_getElem h
  intro i h1 h2
  have := hs i h1
  rwa [List.getD_eq_getElem?_getD, List.getD_eq_getElem?_getD, List.getElem?_eq_getElem h1, List.getElem?_eq_getElem h2] at this
set_option maxHeartbeats 1600000 in
theorem same_any (l m : List Nat) (a : Option Addr) (n c : Nat) (a' : Option Addr) (n' c' : Nat) (hm : n ≤ 1000000000) (w : World) (h : NRow w a n l) (h2 : NRow w a' n' m) :
    Calls Tryd.prog 17 #[.slice a n c, .slice a' n' c'] w fun e w' => e = .returned (.bool (decide (l = m))) ∧ w' = w := by
  have hln : l.length = n := h.1
  have hmn : m.length = n' := h2.1
  by_cases hne : n = n'
  case neg =>
    have hd : ((n : Int) != (n' : Int)) = true := by simp only [bne_iff_ne, ne_eq]; omega
    have HR : Hid (decide (l = m) = false) := decide_eq_false (fun e => by rw [e] at hln; omega)
    clear h h2 hln hmn hne
    go_enter Tryd.func17, Tryd.ntmps17
    go_wp2_with fail
    go_ret
    exact ⟨ret_bool HR.out.symm, rfl⟩
  subst hne
  have hd0 : ((n : Int) != (n : Int)) = false := by simp
  have HA := Lib.hid (fun k (hk : k < n) => h.at k hk)
  have HB := Lib.hid (fun k (hk : k < n) => h2.at k hk)
  have HEq := Lib.hid (fun hs => list_same (l := l) (m := m) (by omega) hs)
  have HL := Lib.hid hln
  clear h h2 hln hmn
  go_enter Tryd.func17, Tryd.ntmps17
  go_wp2_with fail
  clear hd0
  go_loopw [14] (fun i wr => ∃ k : Nat, k ≤ n ∧ i = .int .i64 k ∧ (∀ t, t < k → l.getD t 0 = m.getD t 0) ∧ wr = w) (fun i _ => n - (intOf i).toNat)
  case atStart => exact ⟨0, by omega, rfl, fun t ht => by omega, rfl⟩
  case round =>
    obtain ⟨k, hk, rfl, hno, rfl⟩ := hrel
    have HO := Lib.hid hno
    clear hno
    by_cases hlt : k < n
    · have hd : decide ((k : Int) < (n : Int)) = true := decide_eq_true (by omega)
      have k0 : (0 : Int) ≤ k := by omega
      have k1 : (k : Int) < n := by omega
      obtain ⟨b, off, rfl, hc⟩ := HA.out k hlt
      obtain ⟨b', off', rfl, hc'⟩ := HB.out k hlt
      by_cases hx : l.getD k 0 = m.getD k 0
      · have HO1 : Hid (∀ t, t < k + 1 → l.getD t 0 = m.getD t 0) := fun t ht => by
          by_cases e : t = k
          · rw [e]; exact hx
          · exact HO.out t (by omega)
        rw [← hx] at hc'
        clear hx
        generalize l.getD k 0 = x at *
        have he : ((x : Int) != (x : Int)) = false := by simp
        go_wp2_with fail
        exact ⟨⟨k + 1, by omega, by simp, HO1.out, trivial⟩, by simp [intOf]; omega⟩
      · have HR : Hid (decide (l = m) = false) := decide_eq_false (fun e => hx (by rw [e]))
        generalize l.getD k 0 = x at *
        generalize m.getD k 0 = y at *
        have he : ((x : Int) != (y : Int)) = true := by simp only [bne_iff_ne, ne_eq]; omega
        clear hx
        go_wp2_with fail
        go_ret
        exact ⟨ret_bool HR.out.symm, rfl⟩
    · obtain rfl : k = n := by omega
      have hd : decide ((k : Int) < (k : Int)) = false := decide_eq_false (by omega)
      have HR : Hid (decide (l = m) = true) := decide_eq_true (HEq.out (by rw [HL.out]; exact HO.out))
      go_wp2_with fail
      go_ret
      exact ⟨ret_bool HR.out.symm, rfl⟩
end Flw
end Go.Proofs.YteingehdkpfpcaaDoor
