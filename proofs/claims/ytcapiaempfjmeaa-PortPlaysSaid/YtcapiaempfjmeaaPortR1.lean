/- The document's own: Bit, why not, Read, Age, Put, Send. (Made by tools/gen_portr1.py.) -/
import Derived.Test.YtcapiaempfjmeaaPortRef
namespace Go.Proofs.Ytcapiaempfjmeaa
open Go.ChangeShapes Go.WideShapes Go.ChangeAt Go.RowKit
namespace Prt
set_option linter.unusedVariables false
set_option linter.unusedSimpArgs false
theorem half (rd : Int) (k : Nat) : rd / 2 ^ k / 2 = rd / 2 ^ (k + 1) := by
  rw [Int.pow_succ, Int.ediv_ediv_of_nonneg (Int.pow_nonneg (by omega))]
theorem bit_big (rd part : Int) (h : 0 ≤ rd ∧ rd ≤ 255) (hp : 8 ≤ part) : bit rd part = false := by
  unfold bit
  have hbig : (2 : Int) ^ 8 ≤ 2 ^ part.toNat := by
    have := Nat.pow_le_pow_right (n := 2) (by omega) (show 8 ≤ part.toNat by omega)
    exact_mod_cast this
  have h8 : (2 : Int) ^ 8 = 256 := by decide
  rw [Int.ediv_eq_zero_of_lt h.1 (by omega)]
  simp
set_option maxHeartbeats 1000000 in
theorem Bit_any (rd part : Int) (hr : 0 ≤ rd ∧ rd ≤ 4294967295) (hp : -9223372036854775808 ≤ part ∧ part ≤ 9223372036854775807) (w : World) :
    Calls Try.prog 30 #[.int .u32 rd, .int .i64 part] w fun e w' => e = .returned (.bool (bit rd part)) ∧ w' = w := by
  by_cases h0 : part < 0
  · have e0 : decide ((0 : Int) < part) = false := decide_eq_false (by omega)
    have e1 : decide ((0 : Int) ≤ part) = false := decide_eq_false (by omega)
    have HB : Hid (bit rd part = false) := by show _ = _; unfold bit; rw [e1]; rfl
    go_enter Try.func30, Try.ntmps30
    go_wp2_with fail
    refine wp_loop_rounds 1 ?_
    rw [rounds_succ]
    go_wp2_with fail
    go_ret
    exact ⟨by rw [HB.out]; rfl, rfl⟩
  · obtain ⟨n, rfl⟩ := Int.eq_ofNat_of_zero_le (show 0 ≤ part by omega)
    have e1 : decide ((0 : Int) ≤ (n : Int)) = true := decide_eq_true (by omega)
    have HB : Hid (bit rd n = decide (rd / 2 ^ n % 2 = 1)) := by show _ = _; unfold bit; rw [e1, Int.toNat_natCast]; rfl
    go_enter Try.func30, Try.ntmps30
    go_wp2_with fail
    go_loopw [0, 5] (fun x i wr => ∃ k : Nat, k ≤ n ∧ i = .int .i64 k ∧ x = .int .u32 (rd / 2 ^ k) ∧ wr = w) (fun _ i _ => n - (intOf i).toNat)
    case atStart => exact ⟨0, by omega, rfl, by simp, rfl⟩
    case round =>
      obtain ⟨k, hk, rfl, rfl, rfl⟩ := hrel
      have HH := Lib.hid (half rd k)
      have hq : 0 ≤ rd / 2 ^ k := Int.ediv_nonneg hr.1 (Int.pow_nonneg (by omega))
      have hq2 : rd / 2 ^ k ≤ rd := Int.ediv_le_self _ hr.1
      by_cases hlt : k < n
      · have k0 : (0 : Int) ≤ k := by omega
        have k1 : (k : Int) < n := by omega
        have hd : decide ((k : Int) < (n : Int)) = true := decide_eq_true (by omega)
        have hd2 : decide (k < n) = true := decide_eq_true hlt
        obtain ⟨q, hqq⟩ : ∃ q, rd / 2 ^ k = q := ⟨_, rfl⟩
        rw [hqq] at hq hq2 HH ⊢
        clear hqq
        go_wp2_with fail
        go_roundw
        case rel => exact ⟨k + 1, by omega, by go_num, by rw [← HH.out], by first | trivial | rfl⟩
        case measure => simp [intOf]; omega
      · have hd : decide ((k : Int) < (n : Int)) = false := decide_eq_false (by omega)
        have hd2 : decide (k < n) = false := decide_eq_false hlt
        obtain rfl : k = n := by omega
        obtain ⟨q, hqq⟩ : ∃ q, rd / 2 ^ k = q := ⟨_, rfl⟩
        rw [hqq] at hq hq2 HB ⊢
        clear hqq HH
        go_wp2_with fail
        go_ret
        exact ⟨ret_bool (by rw [HB.out]; first | rfl | (rw [Bool.eq_iff_iff]; simp)), by first | trivial | rfl⟩
section
variable {A : RA} {n : Nat} {a0 : Option Addr} {c0 : Nat} {l : List Bx} {T : Nat → Option Nat} {V : World} {ds : List Df} {p : Nat → Prop}
theorem errW_in {f : Df → Int → Bool} {l : List Bx} {part word : Int} {k : Nat} (hk : k < l.length) : errW f l part k word = if f (l[k]!).d part = true then (if 0 ≤ word ∧ word < (l[k]!).d.w then 0 else 5) else 70 := by
  unfold errW
  rw [errA_in hk, Int.toNat_natCast]
  by_cases h : f (l[k]!).d part = true
  · rw [if_pos h, if_pos rfl, if_pos h]
  · rw [if_neg h, if_neg (by omega), if_neg h]
theorem errW_out {f : Df → Int → Bool} {l : List Bx} {part port word : Int} (h : ¬ (0 ≤ port ∧ port < l.length)) : errW f l part port word = 4 := by
  unfold errW
  rw [errA_out h, if_neg (by omega)]
set_option maxHeartbeats 2000000 in
theorem wrongR_any (h : Rf A n a0 c0 l T V) (hf : FRow p V a0 n ds) (hd : ∀ i, i < n → (l[i]!).d = ds[i]!) (part port word : Int) (hp : -9223372036854775808 ≤ part ∧ part ≤ 9223372036854775807) :
    Calls Try.prog 37 #[.pointer (some ⟨A.r, 0, none⟩), .int .i64 part, .int .i64 port, .int .i64 word, .bool false] V fun e w' => e = .returned (.int .i64 (errW rds l part port word)) ∧ Below V.heap.size V w' := by
  have hl := h.len
  have o0 : V.cell? ⟨A.r, 0, none⟩ = some (.slice a0 n c0) := by rw [cell_of_row _ _ _ _ _ _ h.obj]; rfl
  obtain ⟨E, hE⟩ : ∃ E, errW rds l part port word = E := ⟨_, rfl⟩
  rw [hE]
  by_cases hpo : 0 ≤ port ∧ port < n
  · obtain ⟨k, rfl⟩ := Int.eq_ofNat_of_zero_le hpo.1
    have hk : k < n := by omega
    have hok := h.at hk
    obtain ⟨b, off, rfl, _, hc⟩ := hf.2.2.resolve_left (by omega)
    obtain ⟨q0, q1, q2⟩ := hc k hk
    rw [errW_in (by omega), hd k hk] at hE
    have hw0 := hok.w
    have hrd := hok.rd
    rw [hd k hk] at hw0 hrd
    have k0 : (0 : Int) ≤ k := by omega
    have k1 : (k : Int) < n := by omega
    have e0 : decide ((k : Int) < 0) = false := decide_eq_false (by omega)
    have e1 : decide ((n : Int) ≤ (k : Int)) = false := decide_eq_false (by omega)
    have e2 : decide (n ≤ k) = false := decide_eq_false (by omega)
    have HBit := Lib.hid (fun W => Bit_any (ds[k]!).rd part ⟨hrd.1, by omega⟩ hp W)
    have HBig := Lib.hid (fun (h8 : 8 ≤ part) => bit_big (ds[k]!).rd part hrd h8)
    have HE := Lib.hid hE
    unfold rds wrt at HE
    clear h hf hd hc hok hE hl hpo
    generalize ds[k]! = d at *
    obtain ⟨z0, z1, z2⟩ := d
    simp only at q0 q1 q2 hw0 hrd HBit HBig HE
    obtain ⟨bt, hbt⟩ : ∃ b, bit z2 part = b := ⟨_, rfl⟩
    rw [hbt] at HBit HBig HE
    obtain ⟨x1, hx1⟩ : ∃ b, (part == z1) = b := ⟨_, rfl⟩
    rw [hx1] at HE
    clear hbt hrd
    obtain ⟨x2, hx2⟩ : ∃ b, decide (word < 0) = b := ⟨_, rfl⟩
    obtain ⟨x3, hx3⟩ : ∃ b, decide (z0 ≤ word) = b := ⟨_, rfl⟩
    have HX : Hid ((x2 = false ∧ x3 = false) ↔ (0 ≤ word ∧ word < z0)) := by
      show _ ↔ _
      rw [← hx2, ← hx3, decide_eq_false_iff_not, decide_eq_false_iff_not]; omega
    by_cases h8 : part < 8
    · have e8 : decide (part < 8) = true := decide_eq_true h8
      clear HBig
      cases x1 <;> cases bt <;> cases x2 <;> cases x3
      all_goals
        go_enter Try.func37, Try.ntmps37
        go_wp2_with (go_at_call 30; refine (HBit.out _).mono ?_; rintro e w1 ⟨rfl, rfl⟩)
        go_ret
        have hx := HX.out
        have he := HE.out
        simp only [Bool.false_eq_true, Bool.true_eq_false, if_true, if_false, and_true, and_false, true_and, false_and, true_iff, false_iff, Bool.or_false, Bool.or_true, Bool.false_or, Bool.true_or] at hx he
        first
          | (rw [if_pos hx] at he; subst he; exact ⟨rfl, by go_grown⟩)
          | (rw [if_neg hx] at he; subst he; exact ⟨rfl, by go_grown⟩)
          | (subst he; exact ⟨rfl, by go_grown⟩)
    · have e8 : decide (part < 8) = false := decide_eq_false h8
      obtain rfl : bt = false := HBig.out (by omega)
      clear HBig
      cases x1 <;> cases x2 <;> cases x3
      all_goals
        go_enter Try.func37, Try.ntmps37
        go_wp2_with fail
        go_ret
        have hx := HX.out
        have he := HE.out
        simp only [Bool.false_eq_true, Bool.true_eq_false, if_true, if_false, and_true, and_false, true_and, false_and, true_iff, false_iff, Bool.or_false, Bool.or_true, Bool.false_or, Bool.true_or] at hx he
        first
          | (rw [if_pos hx] at he; subst he; exact ⟨rfl, by go_grown⟩)
          | (rw [if_neg hx] at he; subst he; exact ⟨rfl, by go_grown⟩)
          | (subst he; exact ⟨rfl, by go_grown⟩)
  · rw [errW_out (by omega)] at hE
    subst hE
    clear h hf hd
    by_cases h0 : port < 0
    · have e0 : decide (port < 0) = true := decide_eq_true h0
      go_enter Try.func37, Try.ntmps37
      go_wp2_with fail
      go_ret
      exact ⟨rfl, Below.refl _ _⟩
    · have e0 : decide (port < 0) = false := decide_eq_false h0
      have e1 : decide ((n : Int) ≤ port) = true := decide_eq_true (by omega)
      go_enter Try.func37, Try.ntmps37
      go_wp2_with fail
      go_ret
      exact ⟨rfl, Below.refl _ _⟩
set_option maxHeartbeats 2000000 in
theorem wrongW_any (h : Rf A n a0 c0 l T V) (hf : FRow p V a0 n ds) (hd : ∀ i, i < n → (l[i]!).d = ds[i]!) (part port word : Int) (hp : -9223372036854775808 ≤ part ∧ part ≤ 9223372036854775807) :
    Calls Try.prog 37 #[.pointer (some ⟨A.r, 0, none⟩), .int .i64 part, .int .i64 port, .int .i64 word, .bool true] V fun e w' => e = .returned (.int .i64 (errW wrt l part port word)) ∧ Below V.heap.size V w' := by
  have hl := h.len
  have o0 : V.cell? ⟨A.r, 0, none⟩ = some (.slice a0 n c0) := by rw [cell_of_row _ _ _ _ _ _ h.obj]; rfl
  obtain ⟨E, hE⟩ : ∃ E, errW wrt l part port word = E := ⟨_, rfl⟩
  rw [hE]
  by_cases hpo : 0 ≤ port ∧ port < n
  · obtain ⟨k, rfl⟩ := Int.eq_ofNat_of_zero_le hpo.1
    have hk : k < n := by omega
    have hok := h.at hk
    obtain ⟨b, off, rfl, _, hc⟩ := hf.2.2.resolve_left (by omega)
    obtain ⟨q0, q1, q2⟩ := hc k hk
    rw [errW_in (by omega), hd k hk] at hE
    have hw0 := hok.w
    have hrd := hok.rd
    rw [hd k hk] at hw0 hrd
    have k0 : (0 : Int) ≤ k := by omega
    have k1 : (k : Int) < n := by omega
    have e0 : decide ((k : Int) < 0) = false := decide_eq_false (by omega)
    have e1 : decide ((n : Int) ≤ (k : Int)) = false := decide_eq_false (by omega)
    have e2 : decide (n ≤ k) = false := decide_eq_false (by omega)
    have HBit := Lib.hid (fun W => Bit_any (ds[k]!).rd part ⟨hrd.1, by omega⟩ hp W)
    have HBig := Lib.hid (fun (h8 : 8 ≤ part) => bit_big (ds[k]!).rd part hrd h8)
    have HE := Lib.hid hE
    unfold wrt at HE
    clear h hf hd hc hok hE hl hpo
    generalize ds[k]! = d at *
    obtain ⟨z0, z1, z2⟩ := d
    simp only at q0 q1 q2 hw0 hrd HBit HBig HE
    obtain ⟨bt, hbt⟩ : ∃ b, bit z2 part = b := ⟨_, rfl⟩
    rw [hbt] at HBit HBig
    obtain ⟨x1, hx1⟩ : ∃ b, (part == z1) = b := ⟨_, rfl⟩
    rw [hx1] at HE
    clear hbt hrd
    obtain ⟨x2, hx2⟩ : ∃ b, decide (word < 0) = b := ⟨_, rfl⟩
    obtain ⟨x3, hx3⟩ : ∃ b, decide (z0 ≤ word) = b := ⟨_, rfl⟩
    have HX : Hid ((x2 = false ∧ x3 = false) ↔ (0 ≤ word ∧ word < z0)) := by
      show _ ↔ _
      rw [← hx2, ← hx3, decide_eq_false_iff_not, decide_eq_false_iff_not]; omega
    by_cases h8 : part < 8
    · have e8 : decide (part < 8) = true := decide_eq_true h8
      clear HBig
      cases x1 <;> cases bt <;> cases x2 <;> cases x3
      all_goals
        go_enter Try.func37, Try.ntmps37
        go_wp2_with (go_at_call 30; refine (HBit.out _).mono ?_; rintro e w1 ⟨rfl, rfl⟩)
        go_ret
        have hx := HX.out
        have he := HE.out
        simp only [Bool.false_eq_true, Bool.true_eq_false, if_true, if_false, and_true, and_false, true_and, false_and, true_iff, false_iff, Bool.or_false, Bool.or_true, Bool.false_or, Bool.true_or] at hx he
        first
          | (rw [if_pos hx] at he; subst he; exact ⟨rfl, by go_grown⟩)
          | (rw [if_neg hx] at he; subst he; exact ⟨rfl, by go_grown⟩)
          | (subst he; exact ⟨rfl, by go_grown⟩)
    · have e8 : decide (part < 8) = false := decide_eq_false h8
      obtain rfl : bt = false := HBig.out (by omega)
      clear HBig
      cases x1 <;> cases x2 <;> cases x3
      all_goals
        go_enter Try.func37, Try.ntmps37
        go_wp2_with fail
        go_ret
        have hx := HX.out
        have he := HE.out
        simp only [Bool.false_eq_true, Bool.true_eq_false, if_true, if_false, and_true, and_false, true_and, false_and, true_iff, false_iff, Bool.or_false, Bool.or_true, Bool.false_or, Bool.true_or] at hx he
        first
          | (rw [if_pos hx] at he; subst he; exact ⟨rfl, by go_grown⟩)
          | (rw [if_neg hx] at he; subst he; exact ⟨rfl, by go_grown⟩)
          | (subst he; exact ⟨rfl, by go_grown⟩)
  · rw [errW_out (by omega)] at hE
    subst hE
    clear h hf hd
    by_cases h0 : port < 0
    · have e0 : decide (port < 0) = true := decide_eq_true h0
      go_enter Try.func37, Try.ntmps37
      go_wp2_with fail
      go_ret
      exact ⟨rfl, Below.refl _ _⟩
    · have e0 : decide (port < 0) = false := decide_eq_false h0
      have e1 : decide ((n : Int) ≤ port) = true := decide_eq_true (by omega)
      go_enter Try.func37, Try.ntmps37
      go_wp2_with fail
      go_ret
      exact ⟨rfl, Below.refl _ _⟩
end
end Prt
end Go.Proofs.Ytcapiaempfjmeaa
