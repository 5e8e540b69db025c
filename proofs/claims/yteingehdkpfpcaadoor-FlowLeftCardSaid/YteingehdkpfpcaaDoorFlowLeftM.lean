/- A program copied, and one instruction of the copy changed. -/
import Derived.Test.YteingehdkpfpcaaDoorCodeOwn
import Derived.Test.YteingehdkpfpcaaDoorFlowBox
namespace Go.Proofs.YteingehdkpfpcaaDoor
open Go.ChangeShapes Go.WideShapes Go.ChangeAt Go.RowKit
namespace Flw
open Isa
open Goes
open Rights (Kept)
set_option linter.unusedVariables false
set_option linter.unusedSimpArgs false
theorem infoI4 : (Tryd.prog.info? 38).map (fun i => (i.zero, i.size, i.bytes)) = some (some (.agg #[.int .u8 0, .int .u8 0, .int .u16 0, .int .u32 0]), 4, 8) := by kernel_rfl
theorem encs_len (l : List Iv) : (encs l).length = l.length * 4 := by
  induction l with
  | nil => rfl
  | cons x r ih =>
    have e : encs (x :: r) = encI x ++ encs r := by simp [encs]
    rw [e, List.length_append, ih]
    simp [encI]
    omega
theorem encs_cells {w : World} {a : Option Addr} {l : List Iv} (h : IRow w a l.length l) (h0 : 0 < l.length) : ∃ b off, a = some ⟨b, off, none⟩ ∧ ∀ j u, (encs l)[j]? = some u → w.cell? ((⟨b, off, none⟩ : Addr).add j) = some u := by
  obtain ⟨b, off, rfl, hc⟩ := h.2.2.resolve_left (by omega)
  refine ⟨b, off, rfl, fun j u hu => ?_⟩
  have hj := (List.getElem?_eq_some_iff.1 hu).1
  rw [encs_len] at hj
  have e : j = j / 4 * 4 + j % 4 := by omega
  rw [e, encs_at l (j / 4) (j % 4) (by omega) (by omega)] at hu
  have h4 := hc (j / 4) (by omega)
  have e2 : (⟨b, off, none⟩ : Addr).add j = ⟨b, off + j / 4 * 4 + j % 4, none⟩ := by rw [Addr.add_lit]; congr 1; omega
  rw [e2]
  have hm : j % 4 < 4 := by omega
  generalize j % 4 = t at *
  match t, hm with
  | 0, _ => simp [encI] at hu; subst hu; exact h4.c0
  | 1, _ => simp [encI] at hu; subst hu; exact h4.c1
  | 2, _ => simp [encI] at hu; subst hu; exact h4.c2
  | 3, _ => simp [encI] at hu; subst hu; exact h4.c3
theorem encs_one (l : List Iv) : ∀ u ∈ encs l, u.oneCell' = true := fun u hu => by
  obtain ⟨x, _, hx⟩ := List.mem_flatMap.1 hu
  simp [encI] at hx
  rcases hx with rfl | rfl | rfl | rfl <;> rfl
theorem encs_set : ∀ (l : List Iv) (k : Nat) (x : Iv), k < l.length → encs (l.set k x) = ((((encs l).set (k * 4) (.int .u8 x.op)).set (k * 4 + 1) (.int .u8 x.a)).set (k * 4 + 2) (.int .u16 x.b)).set (k * 4 + 3) (.int .u32 x.c)
  | [], k, x, h => by simp at h
  | y :: r, 0, x, _ => by simp [encs, encI]
  | y :: r, k + 1, x, h => by
    have e : ∀ z (q : List Iv), encs (z :: q) = encI z ++ encs q := fun z q => by simp [encs]
    rw [List.set_cons_succ, e, e, encs_set r k x (by simpa using h)]
    have l4 : (encI y).length = 4 := rfl
    rw [List.set_append_right _ _ (by rw [l4]; omega), List.set_append_right _ _ (by rw [l4]; omega), List.set_append_right _ _ (by rw [l4]; omega), List.set_append_right _ _ (by rw [l4]; omega)]
    rw [l4]
    congr 1
    rw [show (k + 1) * 4 - 4 = k * 4 from by omega, show (k + 1) * 4 + 1 - 4 = k * 4 + 1 from by omega, show (k + 1) * 4 + 2 - 4 = k * 4 + 2 from by omega, show (k + 1) * 4 + 3 - 4 = k * 4 + 3 from by omega]
/-- the run of 'append([]api.Instr{}, l...)' -/
theorem copy_code {w : World} {a : Option Addr} {n c : Nat} {l : List Iv} (h : IRow w a n l) (h0 : 0 < n) (hn : n ≤ 1000000) (ty : TypeId) :
    ∃ g cap w', (Builtin.append_ #[22, 22] ty #[.slice (some ⟨w.heap.size, 0, none⟩) 0 0, .slice a n c]).run Tryd.prog (w.alloc (.cells #[] 38)) = .ok (.slice (some ⟨g, 0, none⟩) n cap) w' ∧
      w'.ownsRow w.heap.size 38 4 (.slice (some ⟨g, 0, none⟩) n cap) n (encs l) ∧ Below w.heap.size w w' := by
  have hl := h.1
  subst hl
  obtain ⟨i0, hi, hz0, hz1, hz2⟩ := info_parts infoI4
  have h' := h.below ((Below.refl w.heap.size w).alloc (Nat.le_refl _) (.cells #[] 38)) (Nat.le_refl _)
  obtain ⟨b, off, rfl, hcell⟩ := encs_cells h' h0
  have hown : (w.alloc (.cells #[] 38)).ownsRow w.heap.size 38 4 (.slice (some ⟨w.heap.size, 0, none⟩) 0 0) 0 [] := World.ownsRow_lit w #[] 0 (Nat.le_refl _) (by decide) rfl
  obtain ⟨v', w', hr, ho, hg, _, hat⟩ := run_append_own_at (P := Tryd.prog) (w.alloc (.cells #[] 38)) w.heap.size 22 ty 38 i0 _ 4 8 Tryd.underlying22 hi hz0 hz1 hz2 rfl (by decide) _ 0 [] hown ⟨b, off, none⟩ l.length c (encs l) (by rw [encs_len]) hcell (encs_one l) (by unfold maxLen; omega) (by omega) (by simp)
  rw [Nat.zero_add, List.nil_append] at ho
  obtain ⟨g, cap, rfl, _, _⟩ := own_some ho h0
  refine ⟨g, cap, w', hr, ho, ((Below.refl w.heap.size w).alloc (Nat.le_refl _) _).grown hg (by simp) (fun j hj => ?_)⟩
  simp [Value.ownBlock] at hj
  omega
/-- an instruction of such a row is set -/
theorem set_code {w : World} {S g cap n : Nat} {l : List Iv} (h : w.ownsRow S 38 4 (.slice (some ⟨g, 0, none⟩) n cap) n (encs l)) (hl : l.length = n) (k : Nat) (hk : k < n) (x : Iv) (hx : x.wf) (hw : ∀ i ∈ l, i.wf) :
    IRow ((((w.setCell ⟨g, k * 4, none⟩ (.int .u8 x.op)).setCell ⟨g, k * 4 + 1, none⟩ (.int .u8 x.a)).setCell ⟨g, k * 4 + 2, none⟩ (.int .u16 x.b)).setCell ⟨g, k * 4 + 3, none⟩ (.int .u32 x.c)) (some ⟨g, 0, none⟩) n (l.set k x) ∧ n ≤ cap ∧ cap ≤ 9223372036854775807 := by
  have h4 := (World.ownsRow.stored (World.ownsRow.stored (World.ownsRow.stored (World.ownsRow.stored h (k * 4) (.int .u8 x.op)).1 (k * 4 + 1) (.int .u8 x.a)).1 (k * 4 + 2) (.int .u16 x.b)).1 (k * 4 + 3) (.int .u32 x.c)).1
  rw [← encs_set l k x (by omega)] at h4
  have hl2 : (l.set k x).length = n := by rw [List.length_set]; exact hl
  rw [← hl2] at h4
  obtain ⟨a, c, e, h5, h6, h7⟩ := own_irow h4 (fun i hi => by
    rcases List.mem_or_eq_of_mem_set hi with q | q
    · exact hw i q
    · rw [q]; exact hx)
  injection e with e1 e2 e3
  subst e1
  subst e3
  rw [hl2] at h5 h7
  exact ⟨h7, h5, by unfold maxLen at h6; omega⟩
end Flw
end Go.Proofs.YteingehdkpfpcaaDoor
