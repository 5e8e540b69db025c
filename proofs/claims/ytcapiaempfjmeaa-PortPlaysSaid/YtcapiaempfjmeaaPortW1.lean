/- The small calls on one definition and one port: inSet, writes, reads, mayBe, has, at, allowed. -/
import Derived.Test.YtcapiaempfjmeaaPortMem
import Derived.Laws.ShiftsVarLaws
namespace Go.Proofs.Ytcapiaempfjmeaa
open Go.ChangeShapes Go.WideShapes Go.ChangeAt Go.RowKit
namespace Prt
set_option linter.unusedVariables false
set_option linter.unusedSimpArgs false
theorem ret_iff {a b : Bool} (h : a = true ↔ b = true) : Ending.returned (.bool a) = .returned (.bool b) := by rw [Bool.eq_iff_iff.2 h]
theorem ret_bool {a b : Bool} (h : a = b) : Ending.returned (.bool a) = .returned (.bool b) := by rw [h]
theorem and_one (x : Int) (hx : 0 ≤ x ∧ x ≤ 4294967295) : bits .and .u32 x 1 = x % 2 := by
  obtain ⟨X, rfl⟩ := Int.eq_ofNat_of_zero_le hx.1
  have hb := (bits_nat .u32 32 (by decide) (fun n h0 h1 => by simp only [IntKind.wrap, IntKind.bits, IntKind.signed]; exact Int.emod_eq_of_lt h0 h1) X 1 (by omega) (by omega)).1
  rw [show ((1 : Nat) : Int) = 1 from rfl] at hb
  rw [hb, Nat.and_one_is_mod]
  omega
/-- the bit, as the program asks for it -/
theorem bit_is (rd part : Int) (hr : 0 ≤ rd ∧ rd ≤ 4294967295) (hp : 0 ≤ part) : (bits .and .u32 (rd / 2 ^ min part.toNat 32) 1 == 1) = bit rd part := by
  have hpos : (0 : Int) < 2 ^ min part.toNat 32 := Int.pow_pos (by omega)
  have h1 : 0 ≤ rd / 2 ^ min part.toNat 32 := Int.ediv_nonneg hr.1 (by omega)
  have h2 : rd / 2 ^ min part.toNat 32 ≤ rd := Int.ediv_le_self _ hr.1
  rw [and_one _ ⟨h1, by omega⟩]
  have hs := u32_shr_var rd part hr.1 (by omega)
  unfold bit
  rw [hs, show decide ((0 : Int) ≤ part) = true from by simpa using hp, Bool.true_and]
  split
  · rename_i h
    have hbig : (2 : Int) ^ 32 ≤ 2 ^ part.toNat := by
      have := Nat.pow_le_pow_right (n := 2) (by omega) (show 32 ≤ part.toNat by omega)
      exact_mod_cast this
    have : rd / 2 ^ part.toNat = 0 := Int.ediv_eq_zero_of_lt hr.1 (by have : (2 : Int) ^ 32 = 4294967296 := by decide
                                                                      omega)
    rw [this]; decide
  · rw [Bool.eq_iff_iff]; simp
theorem inSet_any (rd part : Int) (hr : 0 ≤ rd ∧ rd ≤ 4294967295) (w : World) :
    Calls Try.prog 44 #[.int .u32 rd, .int .i64 part] w fun e w' => e = .returned (.bool (bit rd part)) ∧ w' = w := by
  by_cases h0 : 0 ≤ part
  · have e0 : decide ((0 : Int) ≤ part) = true := by simpa using h0
    have HB := Lib.hid (bit_is rd part hr h0)
    go_enter Try.func44, Try.ntmps44
    go_wp2_with fail
    go_ret
    exact ⟨ret_bool HB.out, rfl⟩
  · have e0 : decide ((0 : Int) ≤ part) = false := by simpa using h0
    have HB : Hid (bit rd part = false) := by show _ = _; unfold bit; rw [e0]; rfl
    go_enter Try.func44, Try.ntmps44
    go_wp2_with fail
    go_ret
    exact ⟨by rw [HB.out]; rfl, rfl⟩
theorem writes_any (d : Df) (part : Int) (w : World) :
    Calls Try.prog 38 #[.agg #[.int .i64 d.w, .int .i64 d.wr, .int .u32 d.rd], .int .i64 part] w fun e w' => e = .returned (.bool (wrt d part)) ∧ w' = w.alloc (.cells #[.int .i64 d.w, .int .i64 d.wr, .int .u32 d.rd] 44) := by
  unfold wrt
  generalize d.w = a at *
  generalize d.wr = b at *
  generalize d.rd = c at *
  go_enter Try.func38, Try.ntmps38
  go_wp2_with fail
  go_ret
  exact ⟨rfl, rfl⟩
theorem reads_any (d : Df) (hr : 0 ≤ d.rd ∧ d.rd ≤ 4294967295) (part : Int) (w : World) :
    Calls Try.prog 35 #[.agg #[.int .i64 d.w, .int .i64 d.wr, .int .u32 d.rd], .int .i64 part] w fun e w' => e = .returned (.bool (rds d part)) ∧ Below w.heap.size w w' := by
  have hw := fun W => writes_any d part W
  unfold rds
  cases hwr : wrt d part with
  | true =>
    rw [hwr] at hw
    generalize d.w = a at *
    generalize d.wr = b at *
    generalize d.rd = c at *
    go_enter Try.func35, Try.ntmps35
    go_wp2_with (go_at_call 38; refine (hw _).mono ?_; rintro e w1 ⟨rfl, rfl⟩)
    go_ret
    exact ⟨rfl, by go_grown⟩
  | false =>
    rw [hwr] at hw
    have hi := fun W => inSet_any d.rd part hr W
    generalize bit d.rd part = z at *
    generalize d.w = a at *
    generalize d.wr = b at *
    generalize d.rd = c at *
    go_enter Try.func35, Try.ntmps35
    go_wp2_with (first
      | (go_at_call 38; refine (hw _).mono ?_; rintro e w1 ⟨rfl, rfl⟩)
      | (go_at_call 44; refine (hi _).mono ?_; rintro e w1 ⟨rfl, rfl⟩))
    go_ret
    exact ⟨rfl, by go_grown⟩
theorem mayBe_any (d : Df) (hr : 0 ≤ d.rd ∧ d.rd ≤ 4294967295) (w : World) :
    Calls Try.prog 32 #[.agg #[.int .i64 d.w, .int .i64 d.wr, .int .u32 d.rd]] w fun e w' => e = .returned (.bool d.may) ∧ Below w.heap.size w w' := by
  have hi := fun W => inSet_any d.rd d.wr hr W
  obtain ⟨Q, hQ⟩ : ∃ Q, d.may = Q := ⟨_, rfl⟩
  rw [hQ]
  unfold Df.may at hQ
  generalize bit d.rd d.wr = z at *
  generalize d.w = a at *
  generalize d.wr = b at *
  generalize d.rd = c at *
  by_cases h1 : 1 ≤ a ∧ a ≤ 16 ∧ 0 ≤ b ∧ b ≤ 7
  · obtain ⟨h1, h2, h3, h4⟩ := h1
    have d1 : decide (a < 1) = false := decide_eq_false (by omega)
    have d2 : decide ((16 : Int) < a) = false := decide_eq_false (by omega)
    have d3 : decide (b < 0) = false := decide_eq_false (by omega)
    have d4 : decide ((8 : Int) ≤ b) = false := decide_eq_false (by omega)
    rw [decide_eq_true h1, decide_eq_true h2, decide_eq_true h3, decide_eq_true h4] at hQ
    simp only [Bool.true_and] at hQ
    by_cases h5 : c < 256
    · have d5 : decide (c < 256) = true := decide_eq_true h5
      rw [decide_eq_true (show c ≤ 255 by omega)] at hQ
      have HQ := Lib.hid hQ
      clear hQ h1 h2 h3 h4 h5
      go_enter Try.func32, Try.ntmps32
      go_wp2_with (go_at_call 44; refine (hi _).mono ?_; rintro e w1 ⟨rfl, rfl⟩)
      go_ret
      exact ⟨ret_bool HQ.out, by go_grown⟩
    · have d5 : decide (c < 256) = false := decide_eq_false h5
      rw [decide_eq_false (show ¬ c ≤ 255 by omega)] at hQ
      have HQ := Lib.hid hQ
      clear hQ h1 h2 h3 h4 h5
      go_enter Try.func32, Try.ntmps32
      go_wp2_with (go_at_call 44; refine (hi _).mono ?_; rintro e w1 ⟨rfl, rfl⟩)
      go_ret
      exact ⟨ret_bool HQ.out, by go_grown⟩
  · have HV : Hid (Q = false) := by
      show _ = _
      rw [← hQ, Bool.eq_false_iff]
      simp
      omega
    have HN := Lib.hid h1
    clear h1 hQ
    go_enter Try.func32, Try.ntmps32
    by_cases h1 : a < 1
    · have d1 : decide (a < 1) = true := decide_eq_true h1
      go_wp2_with fail
      go_ret
      exact ⟨by rw [HV.out]; rfl, by go_grown⟩
    have d1 : decide (a < 1) = false := decide_eq_false h1
    by_cases h2 : 16 < a
    · have d1 : decide (16 < a) = true := decide_eq_true h2
      go_wp2_with fail
      go_ret
      exact ⟨by rw [HV.out]; rfl, by go_grown⟩
    have d2 : decide (16 < a) = false := decide_eq_false h2
    by_cases h3 : b < 0
    · have d1 : decide (b < 0) = true := decide_eq_true h3
      go_wp2_with fail
      go_ret
      exact ⟨by rw [HV.out]; rfl, by go_grown⟩
    have d3 : decide (b < 0) = false := decide_eq_false h3
    have d4 : decide (8 ≤ b) = true := decide_eq_true (by have := HN.out; omega)
    go_wp2_with fail
    go_ret
    exact ⟨by rw [HV.out]; rfl, by go_grown⟩
section
variable {w : World} {g : Nat} {l : List Bx}
theorem has_any (h : Pt w g l) {k : Nat} (hk : k < l.length) (word : Int) :
    Calls Try.prog 36 #[.pointer (some ⟨g, k * 37, none⟩), .int .i64 word] w fun e w' => e = .returned (.bool (decide (0 ≤ word ∧ word < (l[k]!).d.w))) ∧ w' = w := by
  have c0 := h.cw hk
  clear h
  generalize (l[k]!).d.w = z at *
  by_cases h0 : 0 ≤ word
  · have e0 : decide ((0 : Int) ≤ word) = true := by simpa using h0
    have HB : Hid (decide (0 ≤ word ∧ word < z) = decide (word < z)) := by show _ = _; simp [h0]
    clear h0
    go_enter Try.func36, Try.ntmps36
    go_wp2_with fail
    go_ret
    exact ⟨by rw [HB.out]; rfl, rfl⟩
  · have e0 : decide ((0 : Int) ≤ word) = false := by simpa using h0
    have HB : Hid (decide (0 ≤ word ∧ word < z) = false) := by show _ = _; simp [h0]
    clear c0 h0
    go_enter Try.func36, Try.ntmps36
    go_wp2_with fail
    go_ret
    exact ⟨by rw [HB.out]; rfl, rfl⟩
theorem at_nil (port : Int) (w : World) : Calls Try.prog 42 #[.pointer none, .int .i64 port] w fun e w' => e = .returned (.tuple #[.pointer none, .int .i64 1]) ∧ w' = w := by
  go_enter Try.func42, Try.ntmps42
  go_wp2_with fail
  refine bodyPost_ret (v := .tuple #[.pointer none, .int .i64 1]) (by simp [results, Try.f42, go_sem]) rfl ⟨rfl, rfl⟩
theorem at_no (h : Pt w g l) (port : Int) (hp : ¬ (0 ≤ port ∧ port < l.length)) :
    Calls Try.prog 42 #[.pointer (some ⟨g, 0, none⟩), .int .i64 port] w fun e w' => e = .returned (.tuple #[.pointer none, .int .i64 4]) ∧ w' = w := by
  have c0 := h.count
  clear h
  by_cases h0 : port < 0
  · have e0 : decide (port < 0) = true := by simpa using h0
    clear c0 hp
    go_enter Try.func42, Try.ntmps42
    go_wp2_with fail
    refine bodyPost_ret (v := .tuple #[.pointer none, .int .i64 4]) (by simp [results, Try.f42, go_sem]) rfl ⟨rfl, rfl⟩
  · have e0 : decide (port < 0) = false := decide_eq_false (by omega)
    have e1 : decide ((l.length : Int) ≤ port) = true := decide_eq_true (by omega)
    clear hp h0
    go_enter Try.func42, Try.ntmps42
    go_wp2_with fail
    refine bodyPost_ret (v := .tuple #[.pointer none, .int .i64 4]) (by simp [results, Try.f42, go_sem]) rfl ⟨rfl, rfl⟩
theorem at_some (h : Pt w g l) {k : Nat} (hk : k < l.length) :
    Calls Try.prog 42 #[.pointer (some ⟨g, 0, none⟩), .int .i64 (k : Int)] w fun e w' => e = .returned (.tuple #[.pointer (some ⟨g, k * 37, none⟩), .int .i64 0]) ∧ w' = w := by
  have c0 := h.count
  have hl := h.len
  clear h
  have e0 : decide ((k : Int) < 0) = false := decide_eq_false (by omega)
  have e1 : decide ((l.length : Int) ≤ (k : Int)) = false := decide_eq_false (by omega)
  have e2 : decide (l.length ≤ k) = false := decide_eq_false (by omega)
  have b2 : k < 16 := by omega
  have b0 : (0 : Int) ≤ k := by omega
  have b1 : (k : Int) < 16 := by omega
  clear hk hl
  go_enter Try.func42, Try.ntmps42
  go_wp2_with fail
  refine bodyPost_ret (v := .tuple #[.pointer (some ⟨g, k * 37, none⟩), .int .i64 0]) (by simp [results, Try.f42, go_sem]) rfl ⟨rfl, rfl⟩
end
end Prt
end Go.Proofs.Ytcapiaempfjmeaa
