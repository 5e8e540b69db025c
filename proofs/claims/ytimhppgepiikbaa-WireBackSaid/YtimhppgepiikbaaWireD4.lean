/- A reader in memory: its error, its place, its end; counts; bytes. -/
import Derived.Test.YtimhppgepiikbaaWireD3
import Derived.Test.YtimhppgepiikbaaWireR2
namespace Go.Proofs.Ytimhppgepiikbaa
open Go.ChangeShapes Go.WideShapes Go.ChangeAt Go.RowKit
namespace Wire
set_option linter.unusedVariables false
theorem rerr_any {q : Nat → Prop} (g : Nat) (w : World) (s : RS) (h : RSt q g w s) :
    Calls Try.prog 17 #[.pointer (some ⟨g, 0, none⟩)] w fun r w' => r = .returned (.int .i64 s.e) ∧ w = w' := by
  obtain ⟨v, hv⟩ := h.cells
  have h1 : w.cell? ⟨g, 2, none⟩ = some (.int .i64 s.e) := by rw [cell_of_row _ _ _ _ _ _ hv]; rfl
  clear hv h
  go_enter Try.func17, Try.ntmps17
  go_wp2_with fail
  go_ret
  exact ⟨rfl, rfl⟩
theorem rat_any {q : Nat → Prop} (g : Nat) (w : World) (s : RS) (h : RSt q g w s) :
    Calls Try.prog 16 #[.pointer (some ⟨g, 0, none⟩)] w fun r w' => r = .returned (.int .i64 (s.p : Int)) ∧ w = w' := by
  obtain ⟨v, hv⟩ := h.cells
  have h1 : w.cell? ⟨g, 1, none⟩ = some (.int .i64 (s.p : Int)) := by rw [cell_of_row _ _ _ _ _ _ hv]; rfl
  clear hv h
  go_enter Try.func16, Try.ntmps16
  go_wp2_with fail
  go_ret
  exact ⟨rfl, rfl⟩
theorem rerr_nil (w : World) : Calls Try.prog 17 #[.pointer none] w fun r w' => r = .returned (.int .i64 2) ∧ w = w' := by
  go_enter Try.func17, Try.ntmps17
  go_wp2_with fail
  go_ret
  exact ⟨rfl, rfl⟩
theorem rat_nil (w : World) : Calls Try.prog 16 #[.pointer none] w fun r w' => r = .returned (.int .i64 0) ∧ w = w' := by
  go_enter Try.func16, Try.ntmps16
  go_wp2_with fail
  go_ret
  exact ⟨rfl, rfl⟩
theorem rwell_nil (w : World) : Calls Try.prog 35 #[.pointer none] w fun r w' => r = .returned (.bool false) ∧ w = w' := by
  go_enter Try.func35, Try.ntmps35
  go_wp2_with fail
  go_ret
  exact ⟨rfl, rfl⟩
theorem rend_nil (w : World) : Calls Try.prog 15 #[.pointer none] w fun r w' => r = .returned (.int .i64 2) ∧ w = w' := by
  go_enter Try.func15, Try.ntmps15
  go_wp2_with fail
  refine (rwell_nil w).mono ?_
  rintro r w1 ⟨rfl, rfl⟩
  go_wp2_with fail
  refine (rerr_nil w).mono ?_
  rintro r w1 ⟨rfl, rfl⟩
  go_wp2_with fail
  go_ret
  exact ⟨rfl, rfl⟩
theorem rnum_nil (w : World) (m : Int) : Calls Try.prog 41 #[.pointer none, .int .i64 m] w fun r w' => r = .returned (.int .u64 0) ∧ w = w' := by
  go_enter Try.func41, Try.ntmps41
  go_wp2_with fail
  refine (rwell_nil w).mono ?_
  rintro r w1 ⟨rfl, rfl⟩
  go_wp2_with fail
  go_ret
  exact ⟨rfl, rfl⟩
theorem ru32_nil (w : World) : Calls Try.prog 27 #[.pointer none] w fun r w' => r = .returned (.int .u32 0) ∧ w = w' := by
  go_enter Try.func27, Try.ntmps27
  go_wp2_with fail
  refine (rnum_nil w 4).mono ?_
  rintro r w1 ⟨rfl, rfl⟩
  go_wp2_with fail
  go_ret
  exact ⟨rfl, rfl⟩
theorem rfail_nil (w : World) (e : Int) : Calls Try.prog 43 #[.pointer none, .int .i64 e] w fun r w' => r = .returned (.tuple #[]) ∧ w = w' := by
  go_enter Try.func43, Try.ntmps43
  go_wp2_with fail
  refine (rwell_nil w).mono ?_
  rintro r w1 ⟨rfl, rfl⟩
  go_wp2_with fail
  go_end0
  exact ⟨rfl, rfl⟩
theorem count_nil (w : World) : Calls Try.prog 42 #[.pointer none, .int .i64 1, .func (.func 27) #[] #[]] w fun r w' => r = .returned (.int .i64 0) ∧ w = w' := by
  go_enter Try.func42, Try.ntmps42
  go_wp2_with fail
  refine (ru32_nil w).mono ?_
  rintro r w1 ⟨rfl, rfl⟩
  go_wp2_with fail
  refine (rwell_nil w).mono ?_
  rintro r w1 ⟨rfl, rfl⟩
  go_wp2_with fail
  go_ret
  exact ⟨rfl, rfl⟩
/-- nothing is taken -/
theorem take_none (w : World) (r : Value) (fn : Value) : Calls Try.prog 44 #[r, .int .i64 0, fn] w fun e w' => e = .returned (.slice none 0 0) ∧ w = w' := by
  go_enter Try.func44, Try.ntmps44
  go_wp2_with fail
  refine wp_loop_rounds 1 ?_
  rw [rounds_succ]
  go_wp2_with fail
  go_ret
  exact ⟨rfl, rfl⟩
theorem rbytes_nil (w : World) : Calls Try.prog 23 #[.pointer none, .int .i64 1] w fun r w' => r = .returned (.slice none 0 0) ∧ w = w' := by
  go_enter Try.func23, Try.ntmps23
  go_wp2_with fail
  refine (rat_nil w).mono ?_
  rintro r w1 ⟨rfl, rfl⟩
  go_wp2_with fail
  refine (count_nil w).mono ?_
  rintro r w1 ⟨rfl, rfl⟩
  go_wp2_with fail
  refine (rwell_nil w).mono ?_
  rintro r w1 ⟨rfl, rfl⟩
  go_wp2_with fail
  refine (take_none w _ _).mono ?_
  rintro r w1 ⟨rfl, rfl⟩
  go_wp2_with fail
  go_ret
  exact ⟨rfl, rfl⟩
/-- what the end tells -/
def RS.theEnd (s : RS) : Int := if s.e = 0 then (if s.p < s.d.length then 41 else 0) else s.e
theorem rend_any {q : Nat → Prop} (g : Nat) (w : World) (s : RS) (h : RSt q g w s) :
    Calls Try.prog 15 #[.pointer (some ⟨g, 0, none⟩)] w fun r w' => r = .returned (.int .i64 s.theEnd) ∧ ∃ m, w' = w.drewN m := by
  have HR := Lib.hid h
  obtain ⟨D, p, e⟩ := s
  by_cases he : e = 0
  · subst he
    obtain ⟨v, hg, _, hp6, hd⟩ := h
    obtain ⟨a, n, c, rfl, hs, hpn, hnc, hcm, hn6⟩ := hd rfl
    simp only at hg hp6 hs hpn
    have HG := Lib.hid hg
    have hl : D.length = n := hs.1
    by_cases hlt : p < n
    · have HE : Hid (RS.theEnd ⟨D, p, 0⟩ = 41) := by show _ = _; simp only [RS.theEnd, if_true]; rw [if_pos (by omega)]
      have hd : decide (0 < (n : Int) - (p : Int)) = true := by simp; omega
      clear hg hs hd hl
      go_enter Try.func15, Try.ntmps15
      go_wp2_with fail
      refine (rwell_any g w _ _ 0 HG.out).mono ?_
      rintro r w1 ⟨rfl, rfl⟩
      go_wp2_with fail
      refine (left_any g w a n c p _ hpn hn6 HG.out).mono ?_
      rintro r w1 ⟨rfl, q1, rfl⟩
      go_wp2_with fail
      go_ret
      exact ⟨by rw [HE.out]; rfl, _, rfl⟩
    · have HE : Hid (RS.theEnd ⟨D, p, 0⟩ = 0) := by show _ = _; simp only [RS.theEnd, if_true]; rw [if_neg (by omega)]
      obtain rfl : p = n := by omega
      clear hg hs hd hl
      go_enter Try.func15, Try.ntmps15
      go_wp2_with fail
      refine (rwell_any g w _ _ 0 HG.out).mono ?_
      rintro r w1 ⟨rfl, rfl⟩
      go_wp2_with fail
      refine (left_any g w a p c p _ hpn hn6 HG.out).mono ?_
      rintro r w1 ⟨rfl, q1, rfl⟩
      go_wp2_with fail
      refine (rerr_any g _ ⟨D, p, 0⟩ (HR.out.kept (below_drewN (Below.refl _ _) q1))).mono ?_
      rintro r w1 ⟨rfl, rfl⟩
      go_wp2_with fail
      go_ret
      exact ⟨by rw [HE.out]; rfl, _, rfl⟩
  · obtain ⟨v, hv⟩ := h.cells
    have HV := Lib.hid hv
    have hd : decide (e = 0) = false := by simpa using he
    have HE : Hid (RS.theEnd ⟨D, p, e⟩ = e) := by show _ = _; simp only [RS.theEnd]; rw [if_neg he]
    clear hv h he
    go_enter Try.func15, Try.ntmps15
    go_wp2_with fail
    refine (rwell_any g w _ _ e HV.out).mono ?_
    rintro r w1 ⟨rfl, rfl⟩
    go_wp2_with fail
    refine (rerr_any g _ ⟨D, p, e⟩ HR.out).mono ?_
    rintro r w1 ⟨rfl, rfl⟩
    go_wp2_with fail
    go_ret
    exact ⟨by rw [HE.out]; rfl, 0, rfl⟩
end Wire
end Go.Proofs.Ytimhppgepiikbaa
