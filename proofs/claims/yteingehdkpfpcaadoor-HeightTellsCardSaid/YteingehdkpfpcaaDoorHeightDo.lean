/- The law's own small instruction; literal programs. -/
import Derived.Test.YteingehdkpfpcaaDoorHeightB
import Derived.Test.YteingehdkpfpcaaDoorHeightM
import Derived.Test.YteingehdkpfpcaaDoorRightsPosts
import Derived.Test.YteingehdkpfpcaaDoorRightsTmps
namespace Go.Proofs.YteingehdkpfpcaaDoor
open Go.ChangeShapes Go.WideShapes Go.ChangeAt Go.RowKit
namespace Hgt
open Isa Flw
set_option linter.unusedVariables false
set_option linter.unusedSimpArgs false
theorem do_any (op c : Int) (w : World) : Calls Tryd.prog 41 #[.int .u8 op, .int .u32 c] w fun e w' =>
    e = .returned (.agg #[.int .u8 op, .int .u8 0, .int .u16 0, .int .u32 c]) ∧ Below w.heap.size w w' := by
  have hx := alloc_new w (.cells #[.int .u8 0, .int .u8 0, .int .u16 0, .int .u32 0] 38)
  have HB := Lib.hid ((Below.refl w.heap.size w).alloc (Nat.le_refl _) (.cells #[.int .u8 0, .int .u8 0, .int .u16 0, .int .u32 0] 38))
  obtain ⟨V, hV⟩ : ∃ V, w.heap.size = V := ⟨_, rfl⟩
  go_enter Tryd.func41, Tryd.ntmps41
  go_upto_region 1 with fail
  have HV := Lib.hid hV
  rw [hV] at hx HB
  clear hV
  generalize w.alloc (.cells #[.int .u8 0, .int .u8 0, .int .u16 0, .int .u32 0] 38) = X at *
  obtain ⟨y0, y1, y2, y3⟩ := cells4 hx
  have f0 : X.frozen? ⟨V, 0, none⟩ = false := by simp [World.frozen?, hx]
  have f1 : X.frozen? ⟨V, 1, none⟩ = false := by simp [World.frozen?, hx]
  have f2 : X.frozen? ⟨V, 2, none⟩ = false := by simp [World.frozen?, hx]
  have f3 : X.frozen? ⟨V, 3, none⟩ = false := by simp [World.frozen?, hx]
  go_wp2_with fail
  refine bodyPost_ret (v := .agg #[.int .u8 op, .int .u8 0, .int .u16 0, .int .u32 c]) (by simp [results, Tryd.f41, y0, y1, y2, y3, go_sem]) rfl ?_
  exact ⟨rfl, by rw [HV.out]; exact (((HB.out.setCell (p := ⟨V, 0, none⟩) (Nat.le_refl _) _).setCell (p := ⟨V, 1, none⟩) (Nat.le_refl _) _).setCell (p := ⟨V, 2, none⟩) (Nat.le_refl _) _).setCell (p := ⟨V, 3, none⟩) (Nat.le_refl _) _⟩
theorem encs_len : ∀ l : List Iv, (encs l).length = l.length * 4
  | [] => rfl
  | a :: r => by
    have := encs_len r
    unfold encs at this ⊢
    rw [List.flatMap_cons, List.length_append, this, List.length_cons]
    simp [encI]; omega
theorem lit_row (Y : World) (l : List Iv) (hw : ∀ i ∈ l, i.wf) (hm : l.length ≤ 100) : IRow (Y.alloc (.cells (encs l).toArray 38)) (some ⟨Y.heap.size, 0, none⟩) l.length l := by
  have h := World.ownsRow_lit (base := Y.heap.size) (size := 4) (e := 38) Y (encs l).toArray l.length (Nat.le_refl _) (by unfold maxLen; omega) (by rw [List.size_toArray, encs_len])
  rw [List.toList_toArray] at h
  obtain ⟨a, c, e, _, _, r⟩ := own_irow h hw
  injection e with e1 e2 e3
  rw [e1]
  exact r
theorem wf_all {l : List Iv} (h : l.all (fun i => decide (0 ≤ i.op ∧ i.op ≤ 255 ∧ 0 ≤ i.a ∧ i.a ≤ 255 ∧ 0 ≤ i.b ∧ i.b ≤ 65535 ∧ 0 ≤ i.c ∧ i.c ≤ 4294967295)) = true) : ∀ i ∈ l, i.wf := fun i hi => by
  rw [List.all_eq_true] at h
  have := h i hi
  simp only [decide_eq_true_eq] at this
  exact ⟨⟨this.1, this.2.1⟩, ⟨this.2.2.1, this.2.2.2.1⟩, ⟨this.2.2.2.2.1, this.2.2.2.2.2.1⟩, ⟨this.2.2.2.2.2.2.1, this.2.2.2.2.2.2.2⟩⟩
theorem wf_hA : ∀ i ∈ hA, i.wf := wf_all (by decide +kernel)
theorem wf_hB : ∀ i ∈ hB, i.wf := wf_all (by decide +kernel)
theorem wf_hC : ∀ i ∈ hC, i.wf := wf_all (by decide +kernel)
theorem wf_hD : ∀ i ∈ hD, i.wf := wf_all (by decide +kernel)
theorem zrow_lit (Y : World) (l : List Int) (hm : l.length ≤ 1000 := by decide) : ZRow (Y.alloc (.cells (ints l).toArray 3)) (some ⟨Y.heap.size, 0, none⟩) l.length l := by
  have h := World.ownsRow_lit (base := Y.heap.size) (size := 1) (e := 3) Y (ints l).toArray l.length (Nat.le_refl _) (by unfold maxLen; omega) (by unfold ints; simp)
  rw [List.toList_toArray] at h
  obtain ⟨a, c, e, _, _, r⟩ := own_zrow h
  injection e with e1 e2 e3
  rw [e1]
  exact r
end Hgt
end Go.Proofs.YteingehdkpfpcaaDoor
