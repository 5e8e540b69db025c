/- A reader in memory: counts; bytes that are taken. -/
import Derived.Test.YtimhppgepiikbaaWireD4
namespace Go.Proofs.Ytimhppgepiikbaa
open Go.ChangeShapes Go.WideShapes Go.ChangeAt Go.RowKit
namespace Wire
set_option linter.unusedVariables false
/-- how many are said to come -/
def RS.count (s : RS) (most : Int) (m : Nat) : Int × RS :=
  if most < (s.num m).1 then (0, (s.num m).2.fail 42) else if (s.num m).2.e = 0 then s.num m else (0, (s.num m).2)
theorem fail_bad (s : RS) (e : Int) (he : ¬ e = 0) : ¬ (s.fail e).e = 0 := by
  unfold RS.fail
  split
  · exact he
  · assumption
theorem count32_any {q : Nat → Prop} (g : Nat) (w : World) (s : RS) (most : Int) (h : RSt q g w s) :
    Calls Try.prog 42 #[.pointer (some ⟨g, 0, none⟩), .int .i64 most, .func (.func 27) #[] #[]] w fun r w' => r = .returned (.int .i64 (s.count most 4).1) ∧ RSt q g w' (s.count most 4).2 ∧ Kept (· = g) w w' := by
  obtain ⟨r0, r1⟩ := h.range 4
  have HR := Lib.hid h
  generalize hx : (s.num 4).1 = x at *
  have HX := Lib.hid hx
  have hb : x ≤ 4294967295 := by omega
  have HN : Hid (∀ w1, RSt q g w1 (s.num 4).2 → RSt q g w1 (s.num 4).2) := fun _ h => h
  clear h hx r1
  by_cases hm : most < x
  · have hd : decide (most < x) = true := by simpa using hm
    have HC : Hid (s.count most 4 = (0, (s.num 4).2.fail 42)) := by show _ = _; unfold RS.count; rw [if_pos (by rw [HX.out]; exact hm)]
    clear hm
    go_enter Try.func42, Try.ntmps42
    go_wp2_with fail
    refine (ru32_any g w s HR.out).mono ?_
    rintro r w1 ⟨rfl, h1, h2⟩
    have H1 := Lib.hid h1
    rw [HX.out]
    clear h1
    go_wp2_with fail
    refine (rfail_any g w1 _ 42 (by omega) H1.out).mono ?_
    rintro r w2 ⟨rfl, h3, h4⟩
    have H3 := Lib.hid h3
    obtain ⟨v, hv⟩ := h3.cells
    have hne := fail_bad (s.num 4).2 42 (by decide)
    have HV := Lib.hid hv
    have hde : decide (((s.num 4).2.fail 42).e = 0) = false := by simpa using hne
    clear h3 hv hne
    generalize (s.num 4).2.fail 42 = S at *
    obtain ⟨D, p, e⟩ := S
    simp only at HV hde
    go_wp2_with fail
    refine (rwell_any g w2 _ _ e HV.out).mono ?_
    rintro r w3 ⟨rfl, rfl⟩
    go_wp2_with fail
    go_ret
    exact ⟨by rw [HC.out]; rfl, by rw [HC.out]; exact H3.out, h2.trans h4⟩
  · have hd : decide (most < x) = false := by simpa using hm
    obtain ⟨n, S⟩ : ∃ t : Int × RS, t = s.num 4 := ⟨_, rfl⟩
    by_cases he : (s.num 4).2.e = 0
    · have HC : Hid (s.count most 4 = s.num 4) := by show _ = _; unfold RS.count; rw [if_neg (by rw [HX.out]; exact hm), if_pos he]
      have HE := Lib.hid he
      clear hm he
      go_enter Try.func42, Try.ntmps42
      go_wp2_with fail
      refine (ru32_any g w s HR.out).mono ?_
      rintro r w1 ⟨rfl, h1, h2⟩
      have H1 := Lib.hid h1
      obtain ⟨v, hv⟩ := h1.cells
      rw [HE.out] at hv
      have HV := Lib.hid hv
      rw [HX.out]
      clear h1 hv
      go_wp2_with fail
      refine (rwell_any g w1 _ _ 0 HV.out).mono ?_
      rintro r w3 ⟨rfl, rfl⟩
      go_wp2_with fail
      go_ret
      exact ⟨by rw [HC.out, HX.out]; rfl, by rw [HC.out]; exact H1.out, h2⟩
    · have HC : Hid (s.count most 4 = (0, (s.num 4).2)) := by show _ = _; unfold RS.count; rw [if_neg (by rw [HX.out]; exact hm), if_neg he]
      have hde : decide ((s.num 4).2.e = 0) = false := by simpa using he
      clear hm he
      go_enter Try.func42, Try.ntmps42
      go_wp2_with fail
      refine (ru32_any g w s HR.out).mono ?_
      rintro r w1 ⟨rfl, h1, h2⟩
      have H1 := Lib.hid h1
      obtain ⟨v, hv⟩ := h1.cells
      have HV := Lib.hid hv
      rw [HX.out]
      clear h1 hv
      generalize (s.num 4).2.e = e at *
      go_wp2_with fail
      refine (rwell_any g w1 _ _ _ HV.out).mono ?_
      rintro r w3 ⟨rfl, rfl⟩
      go_wp2_with fail
      go_ret
      exact ⟨by rw [HC.out]; rfl, by rw [HC.out]; exact H1.out, h2⟩
theorem count16_any {q : Nat → Prop} (g : Nat) (w : World) (s : RS) (most : Int) (h : RSt q g w s) :
    Calls Try.prog 45 #[.pointer (some ⟨g, 0, none⟩), .int .i64 most, .func (.func 21) #[] #[]] w fun r w' => r = .returned (.int .i64 (s.count most 2).1) ∧ RSt q g w' (s.count most 2).2 ∧ Kept (· = g) w w' := by
  obtain ⟨r0, r1⟩ := h.range 2
  have HR := Lib.hid h
  generalize hx : (s.num 2).1 = x at *
  have HX := Lib.hid hx
  have hb : x ≤ 65535 := by omega
  have HN : Hid (∀ w1, RSt q g w1 (s.num 2).2 → RSt q g w1 (s.num 2).2) := fun _ h => h
  clear h hx r1
  by_cases hm : most < x
  · have hd : decide (most < x) = true := by simpa using hm
    have HC : Hid (s.count most 2 = (0, (s.num 2).2.fail 42)) := by show _ = _; unfold RS.count; rw [if_pos (by rw [HX.out]; exact hm)]
    clear hm
    go_enter Try.func45, Try.ntmps45
    go_wp2_with fail
    refine (ru16_any g w s HR.out).mono ?_
    rintro r w1 ⟨rfl, h1, h2⟩
    have H1 := Lib.hid h1
    rw [HX.out]
    clear h1
    go_wp2_with fail
    refine (rfail_any g w1 _ 42 (by omega) H1.out).mono ?_
    rintro r w2 ⟨rfl, h3, h4⟩
    have H3 := Lib.hid h3
    obtain ⟨v, hv⟩ := h3.cells
    have hne := fail_bad (s.num 2).2 42 (by decide)
    have HV := Lib.hid hv
    have hde : decide (((s.num 2).2.fail 42).e = 0) = false := by simpa using hne
    clear h3 hv hne
    generalize (s.num 2).2.fail 42 = S at *
    obtain ⟨D, p, e⟩ := S
    simp only at HV hde
    go_wp2_with fail
    refine (rwell_any g w2 _ _ e HV.out).mono ?_
    rintro r w3 ⟨rfl, rfl⟩
    go_wp2_with fail
    go_ret
    exact ⟨by rw [HC.out]; rfl, by rw [HC.out]; exact H3.out, h2.trans h4⟩
  · have hd : decide (most < x) = false := by simpa using hm
    obtain ⟨n, S⟩ : ∃ t : Int × RS, t = s.num 2 := ⟨_, rfl⟩
    by_cases he : (s.num 2).2.e = 0
    · have HC : Hid (s.count most 2 = s.num 2) := by show _ = _; unfold RS.count; rw [if_neg (by rw [HX.out]; exact hm), if_pos he]
      have HE := Lib.hid he
      clear hm he
      go_enter Try.func45, Try.ntmps45
      go_wp2_with fail
      refine (ru16_any g w s HR.out).mono ?_
      rintro r w1 ⟨rfl, h1, h2⟩
      have H1 := Lib.hid h1
      obtain ⟨v, hv⟩ := h1.cells
      rw [HE.out] at hv
      have HV := Lib.hid hv
      rw [HX.out]
      clear h1 hv
      go_wp2_with fail
      refine (rwell_any g w1 _ _ 0 HV.out).mono ?_
      rintro r w3 ⟨rfl, rfl⟩
      go_wp2_with fail
      go_ret
      exact ⟨by rw [HC.out, HX.out]; rfl, by rw [HC.out]; exact H1.out, h2⟩
    · have HC : Hid (s.count most 2 = (0, (s.num 2).2)) := by show _ = _; unfold RS.count; rw [if_neg (by rw [HX.out]; exact hm), if_neg he]
      have hde : decide ((s.num 2).2.e = 0) = false := by simpa using he
      clear hm he
      go_enter Try.func45, Try.ntmps45
      go_wp2_with fail
      refine (ru16_any g w s HR.out).mono ?_
      rintro r w1 ⟨rfl, h1, h2⟩
      have H1 := Lib.hid h1
      obtain ⟨v, hv⟩ := h1.cells
      have HV := Lib.hid hv
      rw [HX.out]
      clear h1 hv
      generalize (s.num 2).2.e = e at *
      go_wp2_with fail
      refine (rwell_any g w1 _ _ _ HV.out).mono ?_
      rintro r w3 ⟨rfl, rfl⟩
      go_wp2_with fail
      go_ret
      exact ⟨by rw [HC.out]; rfl, by rw [HC.out]; exact H1.out, h2⟩
end Wire
end Go.Proofs.Ytimhppgepiikbaa
