/- isa.Op: the Op of a name. -/
import Derived.Test.YtgiocecpkhmhhaaGreatDoorIsaW4
namespace Go.Proofs.YtgiocecpkhmhhaaGreatDoor
open Go.ChangeShapes Go.WideShapes Go.ChangeAt Go.RowKit
namespace Isa
set_option linter.unusedVariables false
set_option linter.unusedSimpArgs false
theorem opI_nil : opI [] = 0 := by decide +kernel
theorem nm_ne_nil (t : Nat) (h : 1 ≤ t) (h2 : t < 28) : nm t ≠ [] := by
  intro e
  have := (nm_len (op := (t : Int)) (by omega)).1
  rw [e] at this
  simp at this
/-- found at k, none of those ahead: also at 0, the empty name -/
theorem opI_found (l : List UInt8) (k : Nat) (hk : k < 28) (hn : ∀ t, t < k → nm t ≠ l) (he : nm k = l) : opI l = k := by
  by_cases h0 : k = 0
  · subst h0
    have e : l = [] := by rw [← he]; rfl
    rw [e]; exact opI_nil
  · exact opI_at l k (by omega) hk (fun t _ ht => hn t ht) he
theorem sB_eq (l m : List UInt8) : ((sB l).toList == (sB m).toList) = decide (l = m) := by
  rw [Lib.toList_data, Lib.toList_data, sB_list, sB_list, Bool.eq_iff_iff]
  simp
set_option maxHeartbeats 3200000 in
theorem op_any (l : List UInt8) (w : World) (hT : Tabs w) : Calls Tryz.prog 97 #[.string (sB l)] w fun e w' => e = .returned (.int .u8 (opI l)) ∧ Below w.heap.size w w' := by
  have hK := Lib.hid (fun n (hn : n < 28) => (hT.kinds n hn).k0)
  clear hT
  go_enter Tryz.func97, Tryz.ntmps97
  go_wp2_with fail
  go_loopw [4] (fun i wr => ∃ k : Nat, k ≤ 28 ∧ i = .int .i64 k ∧ (∀ t, t < k → nm t ≠ l) ∧ wr = w) (fun i _ => 28 - (intOf i).toNat)
  case atStart => exact ⟨0, by omega, rfl, fun j hj => by omega, rfl⟩
  case round =>
    obtain ⟨k, hk, rfl, hno, rfl⟩ := hrel
    have HNo := Lib.hid hno
    clear hno
    by_cases hlt : k < 28
    · have k0 : (0 : Int) ≤ k := by omega
      have k1 : (k : Int) < 28 := by omega
      have hd : decide ((k : Int) < 28) = true := by simp; omega
      have hc := hK.out k hlt
      have he := sB_eq (nm k) l
      by_cases hx : nm k = l
      · rw [decide_eq_true hx] at he
        have HR : Hid (opI l = k) := opI_found l k hlt HNo.out hx
        clear hx
        generalize sB (nm k) = x at *
        generalize sB l = y at *
        go_wp2_with fail
        go_ret
        exact ⟨ret_int HR.out.symm, Below.refl _ _⟩
      · rw [decide_eq_false hx] at he
        have HX := Lib.hid hx
        clear hx
        generalize sB (nm k) = x at *
        generalize sB l = y at *
        go_wp2_with fail
        refine ⟨⟨k + 1, by omega, by simp, fun t ht => ?_, trivial⟩, by simp [intOf]; omega⟩
        by_cases e : t = k
        · subst e; exact HX.out
        · exact HNo.out t (by omega)
    · obtain rfl : k = 28 := by omega
      have HR : Hid (opI l = 0) := opI_none l (fun t _ ht => HNo.out t ht)
      go_wp2_with fail
      go_ret
      exact ⟨ret_int HR.out.symm, Below.refl _ _⟩
end Isa
end Go.Proofs.YtgiocecpkhmhhaaGreatDoor
