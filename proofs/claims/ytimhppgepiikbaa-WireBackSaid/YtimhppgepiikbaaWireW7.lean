/- A writer's answer. -/
import Derived.Test.YtimhppgepiikbaaWireW6
namespace Go.Proofs.Ytimhppgepiikbaa
open Go.ChangeShapes Go.WideShapes Go.ChangeAt Go.RowKit
namespace Wire
variable {gu : Option (Nat × Obj)}
set_option linter.unusedVariables false
/-- a slice of bytes in new memory -/
def NewRow (w w' : World) (l : List Int) (v : Value) : Prop := ∃ a n c, v = .slice a n c ∧ SRow (fun b => b < w.heap.size) w' a n l ∧ n ≤ c ∧ c ≤ maxLen ∧ (a = none → c = 0) ∧ Below w.heap.size w w'
def DonePost (w : World) (s : List Int × Int) (r : Ending) (w' : World) : Prop := ∃ v, r = .returned (.tuple #[v, .int .i64 s.2]) ∧ NewRow w w' s.1 v
theorem own_parts {w : World} {B n c : Nat} {a : Option Addr} {l : List Int} (ho : w.ownsRow B 5 1 (.slice a n c) n (bv l)) (hby : ∀ z ∈ l, 0 ≤ z ∧ z ≤ 255) : SRow (fun b => b < B) w a n l ∧ (a = none → n = 0 ∧ c = 0) ∧ n ≤ c ∧ c ≤ maxLen := by
  rcases ho.2 with ⟨h, h0⟩ | ⟨g, cap, cur, hv, hg, h1, hc, h3, h4, h5⟩
  · simp only [Value.slice.injEq] at h
    obtain ⟨rfl, _, rfl⟩ := h
    have := ho.1
    rw [bv_length] at this
    exact ⟨⟨by omega, hby, Or.inl h0⟩, (fun _ => ⟨h0, rfl⟩), by omega, by unfold maxLen; omega⟩
  · simp only [Value.slice.injEq] at hv
    obtain ⟨rfl, _, rfl⟩ := hv
    have h : Own w B g n c l := ho
    exact ⟨h.row hby, (fun h => by cases h), hc, h3⟩
theorem done_ok (B g : Nat) (w : World) (l : List Int) (h : WSt gu B g w (l, 0)) :
    Calls Try.prog 8 #[.pointer (some ⟨g, 0, none⟩)] w (DonePost w (l, 0)) := by
  obtain ⟨va, vn, vc, hg, hBg, hown, hn, hby, _⟩ := h
  obtain ⟨hs, hnil, hnc, hcm⟩ := own_parts hown hby
  have c0 : w.cell? ⟨g, 0, none⟩ = some (.slice va vn vc) := by rw [cell_of_row _ _ _ _ _ _ hg]; rfl
  have c1 : w.cell? ⟨g, 1, none⟩ = some (.int .i64 0) := by rw [cell_of_row _ _ _ _ _ _ hg]; rfl
  have HS := Lib.hid hs
  have HN := Lib.hid hnil
  clear hg hown hby hs hnil
  go_enter Try.func8, Try.ntmps8
  go_wp2_with fail
  refine (clone_any _ w va vn vc l HS.out (by omega) HN.out).mono ?_
  rintro r w1 ⟨a', c', rfl, h1, h2, h3, h4, h5⟩
  have H1 := Lib.hid h1
  have H4 := Lib.hid h4
  have H5 := Lib.hid h5
  clear h1 h4 h5
  go_wp2_with fail
  go_ret2
  exact ⟨_, rfl, a', vn, c', rfl, H1.out, h2, h3, H4.out, H5.out⟩
theorem done_no (B g : Nat) (w : World) (e : Int) (he : ¬ e = 0) (h : WSt gu B g w ([], e)) :
    Calls Try.prog 8 #[.pointer (some ⟨g, 0, none⟩)] w (DonePost w ([], e)) := by
  obtain ⟨va, vn, vc, hg, hBg, hown, hn, hby, ⟨e0, e1⟩, _⟩ := h
  have c1 : w.cell? ⟨g, 1, none⟩ = some (.int .i64 e) := by rw [cell_of_row _ _ _ _ _ _ hg]; rfl
  have hd : (e != 0) = true := by simpa using he
  clear hg hown hby he
  go_enter Try.func8, Try.ntmps8
  go_wp2_with fail
  go_quiet (fail)
  go_wp2_with fail
  go_ret2
  exact ⟨_, rfl, none, 0, 0, rfl, ⟨rfl, by simp, Or.inl rfl⟩, by omega, by unfold maxLen; omega, fun _ => rfl, ⟨rfl, rfl, rfl, Nat.le_refl _, fun _ _ => rfl⟩⟩
theorem done_any (B g : Nat) (w : World) (s : List Int × Int) (h : WSt gu B g w s) (hs : ¬ s.2 = 0 → s.1 = []) :
    Calls Try.prog 8 #[.pointer (some ⟨g, 0, none⟩)] w (DonePost w s) := by
  obtain ⟨l, e⟩ := s
  by_cases he : e = 0
  · subst he; exact done_ok B g w l h
  · obtain rfl : l = [] := hs he
    exact done_no B g w e he h
end Wire
end Go.Proofs.Ytimhppgepiikbaa
