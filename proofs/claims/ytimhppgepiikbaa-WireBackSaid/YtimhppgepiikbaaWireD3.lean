/- A reader in memory: numbers, in whatever state. -/
import Derived.Test.YtimhppgepiikbaaWireD2
namespace Go.Proofs.Ytimhppgepiikbaa
open Go.ChangeShapes Go.WideShapes Go.ChangeAt Go.RowKit
namespace Wire
set_option linter.unusedVariables false
theorem rnum_short {q : Nat → Prop} (g : Nat) (w : World) (D : List Int) (p m : Nat) (hm : m ≤ 8) (h : RSt q g w ⟨D, p, 0⟩) (hfit : D.length < p + m) :
    Calls Try.prog 41 #[.pointer (some ⟨g, 0, none⟩), .int .i64 (m : Int)] w fun r w' => r = .returned (.int .u64 0) ∧ RSt q g w' ⟨D, p, 40⟩ ∧ Kept (· = g) w w' := by
  have HR := Lib.hid h
  obtain ⟨v, hg, _, hp6, hd⟩ := h
  obtain ⟨a, n, c, rfl, hs, hpn, hnc, hcm, hn6⟩ := hd rfl
  simp only at hp6 hpn hs hg
  have hl : D.length = n := hs.1
  have HG := Lib.hid hg
  have d1 : decide ((n : Int) - (p : Int) < (m : Int)) = true := by simp; omega
  clear hg hs hl hfit hd
  go_enter Try.func41, Try.ntmps41
  go_wp2_with fail
  refine (rwell_any g w _ _ 0 HG.out).mono ?_
  rintro r w1 ⟨rfl, rfl⟩
  go_wp2_with fail
  refine (left_any g w a n c p _ hpn hn6 HG.out).mono ?_
  rintro r w1 ⟨rfl, q1, rfl⟩
  have HR1 : Hid (RSt q g (w.drewN q1) ⟨D, p, 0⟩) := HR.out.kept (below_drewN (Below.refl _ _) q1)
  go_wp2_with fail
  refine (rfail_any g _ ⟨D, p, 0⟩ 40 (by omega) HR1.out).mono ?_
  rintro r w2 ⟨rfl, h1, h2⟩
  go_wp2_with fail
  go_ret
  exact ⟨rfl, h1, (Kept.of_below (below_drewN (Below.refl _ _) q1)).trans h2⟩
theorem rnum_no (g : Nat) (w : World) (v x : Value) (e m : Int) (he : ¬ e = 0) (h : w.heap[g]? = some (.cells #[v, x, .int .i64 e] 63 (0, 0))) :
    Calls Try.prog 41 #[.pointer (some ⟨g, 0, none⟩), .int .i64 m] w fun r w' => r = .returned (.int .u64 0) ∧ w = w' := by
  have HH := Lib.hid h
  have hd : decide (e = 0) = false := by simpa using he
  clear h he
  go_enter Try.func41, Try.ntmps41
  go_wp2_with fail
  refine (rwell_any g w v x e HH.out).mono ?_
  rintro r w1 ⟨rfl, rfl⟩
  go_wp2_with fail
  go_ret
  exact ⟨rfl, rfl⟩
theorem rnum_any {q : Nat → Prop} (g : Nat) (w : World) (s : RS) (m : Nat) (hm : m ≤ 8) (h : RSt q g w s) :
    Calls Try.prog 41 #[.pointer (some ⟨g, 0, none⟩), .int .i64 (m : Int)] w fun r w' => r = .returned (.int .u64 (s.num m).1) ∧ RSt q g w' (s.num m).2 ∧ Kept (· = g) w w' := by
  obtain ⟨D, p, e⟩ := s
  by_cases he : e = 0
  · subst he
    by_cases hf : D.length < p + m
    · refine (rnum_short g w D p m hm h hf).mono ?_
      rintro r w' ⟨rfl, h1, h2⟩
      have e : RS.num ⟨D, p, 0⟩ m = (0, ⟨D, p, 40⟩) := by simp only [RS.num, if_true]; rw [if_pos hf]
      rw [e]; exact ⟨rfl, h1, h2⟩
    · refine (rnum_ok g w D p m hm h (by omega)).mono ?_
      rintro r w' ⟨rfl, h1, h2⟩
      have e : RS.num ⟨D, p, 0⟩ m = (un ((D.drop p).take m), ⟨D, p + m, 0⟩) := by simp only [RS.num, if_true]; rw [if_neg hf]
      rw [e]; exact ⟨rfl, h1, h2⟩
  · obtain ⟨v, hv⟩ := h.cells
    refine (rnum_no g w v _ e m he hv).mono ?_
    rintro r w' ⟨rfl, rfl⟩
    have e : RS.num ⟨D, p, e⟩ m = (0, ⟨D, p, e⟩) := by simp only [RS.num]; rw [if_neg he]
    rw [e]; exact ⟨rfl, h, Kept.refl _ _⟩
/-- what is told is no more than so many bytes hold -/
theorem RSt.range {q : Nat → Prop} {g : Nat} {w : World} {s : RS} (h : RSt q g w s) (m : Nat) : 0 ≤ (s.num m).1 ∧ (s.num m).1 < 256 ^ m := by
  have hp : (0 : Int) < 256 ^ m := Int.pow_pos (by omega)
  unfold RS.num
  split
  · rename_i he
    split
    · exact ⟨by simp, hp⟩
    · obtain ⟨v, _, _, _, hd⟩ := h
      obtain ⟨a, n, c, rfl, hs, _⟩ := hd he
      have hr := un_range ((s.d.drop s.p).take m) (fun z hz => hs.2.1 z (List.mem_of_mem_drop (List.mem_of_mem_take hz)))
      rw [List.length_take, Nat.min_eq_left (by simp; omega)] at hr
      exact hr
  · exact ⟨by simp, hp⟩
theorem ru8_any {q : Nat → Prop} (g : Nat) (w : World) (s : RS) (h : RSt q g w s) :
    Calls Try.prog 22 #[.pointer (some ⟨g, 0, none⟩)] w fun r w' => r = .returned (.int .u8 (s.num 1).1) ∧ RSt q g w' (s.num 1).2 ∧ Kept (· = g) w w' := by
  obtain ⟨r0, r1⟩ := h.range 1
  have HR := Lib.hid h
  generalize hx : (s.num 1).1 = x at *
  have HX := Lib.hid hx
  have hb : x ≤ 255 := by omega
  clear h hx r1
  go_enter Try.func22, Try.ntmps22
  go_wp2_with fail
  refine (rnum_any g w s 1 (by omega) HR.out).mono ?_
  rintro r w1 ⟨rfl, h1, h2⟩
  have H1 := Lib.hid h1
  rw [HX.out]
  clear h1
  go_wp2_with fail
  go_ret
  exact ⟨rfl, H1.out, h2⟩
theorem ru16_any {q : Nat → Prop} (g : Nat) (w : World) (s : RS) (h : RSt q g w s) :
    Calls Try.prog 21 #[.pointer (some ⟨g, 0, none⟩)] w fun r w' => r = .returned (.int .u16 (s.num 2).1) ∧ RSt q g w' (s.num 2).2 ∧ Kept (· = g) w w' := by
  obtain ⟨r0, r1⟩ := h.range 2
  have HR := Lib.hid h
  generalize hx : (s.num 2).1 = x at *
  have HX := Lib.hid hx
  have hb : x ≤ 65535 := by omega
  clear h hx r1
  go_enter Try.func21, Try.ntmps21
  go_wp2_with fail
  refine (rnum_any g w s 2 (by omega) HR.out).mono ?_
  rintro r w1 ⟨rfl, h1, h2⟩
  have H1 := Lib.hid h1
  rw [HX.out]
  clear h1
  go_wp2_with fail
  go_ret
  exact ⟨rfl, H1.out, h2⟩
theorem ru32_any {q : Nat → Prop} (g : Nat) (w : World) (s : RS) (h : RSt q g w s) :
    Calls Try.prog 27 #[.pointer (some ⟨g, 0, none⟩)] w fun r w' => r = .returned (.int .u32 (s.num 4).1) ∧ RSt q g w' (s.num 4).2 ∧ Kept (· = g) w w' := by
  obtain ⟨r0, r1⟩ := h.range 4
  have HR := Lib.hid h
  generalize hx : (s.num 4).1 = x at *
  have HX := Lib.hid hx
  have hb : x ≤ 4294967295 := by omega
  clear h hx r1
  go_enter Try.func27, Try.ntmps27
  go_wp2_with fail
  refine (rnum_any g w s 4 (by omega) HR.out).mono ?_
  rintro r w1 ⟨rfl, h1, h2⟩
  have H1 := Lib.hid h1
  rw [HX.out]
  clear h1
  go_wp2_with fail
  go_ret
  exact ⟨rfl, H1.out, h2⟩
theorem ru64_any {q : Nat → Prop} (g : Nat) (w : World) (s : RS) (h : RSt q g w s) :
    Calls Try.prog 31 #[.pointer (some ⟨g, 0, none⟩)] w fun r w' => r = .returned (.int .u64 (s.num 8).1) ∧ RSt q g w' (s.num 8).2 ∧ Kept (· = g) w w' := by
  have HR := Lib.hid h
  clear h
  go_enter Try.func31, Try.ntmps31
  go_wp2_with fail
  refine (rnum_any g w s 8 (by omega) HR.out).mono ?_
  rintro r w1 ⟨rfl, h1, h2⟩
  go_wp2_with fail
  go_ret
  exact ⟨rfl, h1, h2⟩
/-- the number from -2^31 to 2^31 - 1 with these four bytes -/
def sg (n : Int) : Int := if 2147483647 < n then n - 4294967296 else n
theorem sg_wrap (x : Int) (h0 : 0 ≤ x) (h1 : x ≤ 4294967295) : IntKind.i32.wrap x = sg x := by
  unfold sg
  rw [IntKind.wrap_i32]
  split <;> omega
theorem ri32_any {q : Nat → Prop} (g : Nat) (w : World) (s : RS) (h : RSt q g w s) :
    Calls Try.prog 32 #[.pointer (some ⟨g, 0, none⟩)] w fun r w' => r = .returned (.int .i64 (sg (s.num 4).1)) ∧ RSt q g w' (s.num 4).2 ∧ Kept (· = g) w w' := by
  obtain ⟨r0, r1⟩ := h.range 4
  have HR := Lib.hid h
  generalize hx : (s.num 4).1 = x at *
  have HX := Lib.hid hx
  have hb : x ≤ 4294967295 := by omega
  have hw := sg_wrap x r0 hb
  have hs0 : -2147483648 ≤ sg x := by unfold sg; split <;> omega
  have hs1 : sg x ≤ 2147483647 := by unfold sg; split <;> omega
  generalize sg x = y at *
  clear h hx r1
  go_enter Try.func32, Try.ntmps32
  go_wp2_with fail
  refine (ru32_any g w s HR.out).mono ?_
  rintro r w1 ⟨rfl, h1, h2⟩
  have H1 := Lib.hid h1
  rw [HX.out]
  clear h1
  go_wp2_with fail
  go_ret
  exact ⟨rfl, H1.out, h2⟩
end Wire
end Go.Proofs.Ytimhppgepiikbaa
