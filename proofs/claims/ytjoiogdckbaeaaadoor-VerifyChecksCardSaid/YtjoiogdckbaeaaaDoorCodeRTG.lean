/- The document's own answers: takes and gives. -/
import Derived.Test.YtjoiogdckbaeaaaDoorCodeBase
import Derived.Great.BuildSlice
namespace Go.Proofs.YtjoiogdckbaeaaaDoor
open Go.ChangeShapes Go.WideShapes Go.ChangeAt Go.RowKit
namespace Isa
set_option linter.unusedVariables false
set_option linter.unusedSimpArgs false
theorem takes_at (k : Nat) (h : k < 28) : ((takesL.map (Value.int .i64)).toArray)[k]? = some (.int .i64 (takesI k)) := by
  have e : takesL[k]? = some (takesL[k]'(by simpa [takesL] using h)) := List.getElem?_eq_getElem _
  unfold takesI
  rw [List.getElem?_toArray, List.getElem?_map, e, Int.toNat_natCast, List.getD_eq_getElem?_getD, e]
  rfl
theorem rtakes_any (op : Int) (h0 : 0 ≤ op) (h1 : op ≤ 255) (w : World) : Calls Tryd.prog 38 #[.int .u8 op] w fun e w' => e = .returned (.int .i64 (takesI op)) ∧ Below w.heap.size w w' := by
  obtain ⟨k, rfl⟩ := Int.eq_ofNat_of_zero_le h0
  by_cases hk : k < 28
  · have hd : decide ((28 : Int) ≤ (k : Int)) = false := decide_eq_false (by omega)
    have hc : (w.alloc (.cells (takesL.map (Value.int .i64)).toArray 3)).cell? ⟨w.heap.size, k, none⟩ = some (.int .i64 (takesI k)) := (cells_at (alloc_new _ _) k).trans (takes_at k hk)
    go_enter Tryd.func38, Tryd.ntmps38
    go_wp2_with ((with_reducible refine wpList_buildFlat rfl 58 3 28 _ rfl .i64 takesL Tryd.underlying58 (by kernel_rfl) (by kernel_rfl) (by kernel_rfl) (by decide) (by decide) (by kernel_rfl) ?_))
    go_ret
    exact ⟨rfl, (Below.refl _ _).alloc (Nat.le_refl _) _⟩
  · have hd : decide ((28 : Int) ≤ (k : Int)) = true := decide_eq_true (by omega)
    have HR : Hid (takesI k = 0) := getD_far _ _ _ (by simp [takesL]; omega)
    go_enter Tryd.func38, Tryd.ntmps38
    go_wp2_with ((with_reducible refine wpList_buildFlat rfl 58 3 28 _ rfl .i64 takesL Tryd.underlying58 (by kernel_rfl) (by kernel_rfl) (by kernel_rfl) (by decide) (by decide) (by kernel_rfl) ?_))
    go_ret
    exact ⟨ret_int HR.out.symm, (Below.refl _ _).alloc (Nat.le_refl _) _⟩
theorem gives_at (k : Nat) (h : k < 28) : ((givesL.map (Value.int .i64)).toArray)[k]? = some (.int .i64 (givesI k)) := by
  have e : givesL[k]? = some (givesL[k]'(by simpa [givesL] using h)) := List.getElem?_eq_getElem _
  unfold givesI
  rw [List.getElem?_toArray, List.getElem?_map, e, Int.toNat_natCast, List.getD_eq_getElem?_getD, e]
  rfl
theorem rgives_any (op : Int) (h0 : 0 ≤ op) (h1 : op ≤ 255) (w : World) : Calls Tryd.prog 39 #[.int .u8 op] w fun e w' => e = .returned (.int .i64 (givesI op)) ∧ Below w.heap.size w w' := by
  obtain ⟨k, rfl⟩ := Int.eq_ofNat_of_zero_le h0
  by_cases hk : k < 28
  · have hd : decide ((28 : Int) ≤ (k : Int)) = false := decide_eq_false (by omega)
    have hc : (w.alloc (.cells (givesL.map (Value.int .i64)).toArray 3)).cell? ⟨w.heap.size, k, none⟩ = some (.int .i64 (givesI k)) := (cells_at (alloc_new _ _) k).trans (gives_at k hk)
    go_enter Tryd.func39, Tryd.ntmps39
    go_wp2_with ((with_reducible refine wpList_buildFlat rfl 58 3 28 _ rfl .i64 givesL Tryd.underlying58 (by kernel_rfl) (by kernel_rfl) (by kernel_rfl) (by decide) (by decide) (by kernel_rfl) ?_))
    go_ret
    exact ⟨rfl, (Below.refl _ _).alloc (Nat.le_refl _) _⟩
  · have hd : decide ((28 : Int) ≤ (k : Int)) = true := decide_eq_true (by omega)
    have HR : Hid (givesI k = 0) := getD_far _ _ _ (by simp [givesL]; omega)
    go_enter Tryd.func39, Tryd.ntmps39
    go_wp2_with ((with_reducible refine wpList_buildFlat rfl 58 3 28 _ rfl .i64 givesL Tryd.underlying58 (by kernel_rfl) (by kernel_rfl) (by kernel_rfl) (by decide) (by decide) (by kernel_rfl) ?_))
    go_ret
    exact ⟨ret_int HR.out.symm, (Below.refl _ _).alloc (Nat.le_refl _) _⟩
end Isa
end Go.Proofs.YtjoiogdckbaeaaaDoor
