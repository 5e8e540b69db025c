/- The document's own: Bit, May, In, Latch, Out. -/
import Derived.Test.YtoighaicdakbkaaFieldRef
namespace Go.Proofs.Ytoighaicdakbkaa
open Go.ChangeShapes Go.WideShapes Go.ChangeAt Go.RowKit
namespace Fld
set_option linter.unusedVariables false
set_option linter.unusedSimpArgs false
theorem halve (rd : Int) (k : Nat) : rd / 2 ^ k / 2 = rd / 2 ^ (k + 1) := by
  rw [Int.pow_succ, Int.ediv_ediv_of_nonneg (Int.pow_nonneg (by omega))]
theorem bit_big (rd part : Int) (h : 0 ≤ rd ∧ rd ≤ 255) (hp : 8 ≤ part) : bit rd part = false := by
  unfold bit
  have hbig : (2 : Int) ^ 8 ≤ 2 ^ part.toNat := by
    have := Nat.pow_le_pow_right (n := 2) (by omega) (show 8 ≤ part.toNat by omega)
    exact_mod_cast this
  have h8 : (2 : Int) ^ 8 = 256 := by decide
  rw [Int.ediv_eq_zero_of_lt h.1 (by omega)]
  simp
set_option maxHeartbeats 1000000 in
theorem Bit_any (rd part : Int) (hr : 0 ≤ rd ∧ rd ≤ 4294967295) (hp : -9223372036854775808 ≤ part ∧ part ≤ 9223372036854775807) (w : World) :
    Calls Try.prog 27 #[.int .u32 rd, .int .i64 part] w fun e w' => e = .returned (.bool (bit rd part)) ∧ w' = w := by
  by_cases h0 : part < 0
  · have e0 : decide ((0 : Int) < part) = false := decide_eq_false (by omega)
    have e1 : decide ((0 : Int) ≤ part) = false := decide_eq_false (by omega)
    have HB : Hid (bit rd part = false) := by show _ = _; unfold bit; rw [e1]; rfl
    go_enter Try.func27, Try.ntmps27
    go_wp2_with fail
    refine wp_loop_rounds 1 ?_
    rw [rounds_succ]
    go_wp2_with fail
    go_ret
    exact ⟨by rw [HB.out]; rfl, rfl⟩
  · obtain ⟨n, rfl⟩ := Int.eq_ofNat_of_zero_le (show 0 ≤ part by omega)
    have e1 : decide ((0 : Int) ≤ (n : Int)) = true := decide_eq_true (by omega)
    have HB : Hid (bit rd n = decide (rd / 2 ^ n % 2 = 1)) := by show _ = _; unfold bit; rw [e1, Int.toNat_natCast]; rfl
    go_enter Try.func27, Try.ntmps27
    go_wp2_with fail
    go_loopw [0, 5] (fun x i wr => ∃ k : Nat, k ≤ n ∧ i = .int .i64 k ∧ x = .int .u32 (rd / 2 ^ k) ∧ wr = w) (fun _ i _ => n - (intOf i).toNat)
    case atStart => exact ⟨0, by omega, rfl, by simp, rfl⟩
    case round =>
      obtain ⟨k, hk, rfl, rfl, rfl⟩ := hrel
      have HH := Lib.hid (halve rd k)
      have hq : 0 ≤ rd / 2 ^ k := Int.ediv_nonneg hr.1 (Int.pow_nonneg (by omega))
      have hq2 : rd / 2 ^ k ≤ rd := Int.ediv_le_self _ hr.1
      by_cases hlt : k < n
      · have k0 : (0 : Int) ≤ k := by omega
        have k1 : (k : Int) < n := by omega
        have hd : decide ((k : Int) < (n : Int)) = true := decide_eq_true (by omega)
        have hd2 : decide (k < n) = true := decide_eq_true hlt
        obtain ⟨q, hqq⟩ : ∃ q, rd / 2 ^ k = q := ⟨_, rfl⟩
        rw [hqq] at hq hq2 HH ⊢
        clear hqq
        go_wp2_with fail
        go_roundw
        case rel => exact ⟨k + 1, by omega, by go_num, by rw [← HH.out], by first | trivial | rfl⟩
        case measure => simp [intOf]; omega
      · have hd : decide ((k : Int) < (n : Int)) = false := decide_eq_false (by omega)
        have hd2 : decide (k < n) = false := decide_eq_false hlt
        obtain rfl : k = n := by omega
        obtain ⟨q, hqq⟩ : ∃ q, rd / 2 ^ k = q := ⟨_, rfl⟩
        rw [hqq] at hq hq2 HB ⊢
        clear hqq HH
        go_wp2_with fail
        go_ret
        exact ⟨ret_bool (by rw [HB.out]; first | rfl | (rw [Bool.eq_iff_iff]; simp)), by first | trivial | rfl⟩

theorem may_ref (d : Df) (b : Option Addr) (c : Nat) (hl : d.safe.length ≤ 9223372036854775807) (w : World) :
    Calls Try.prog 8 #[.agg #[.int .i64 d.ins, .slice b d.safe.length c, .int .u32 d.rd, .int .i64 d.wr]] w fun e w' => e = .returned (.bool d.may) ∧ Below w.heap.size w w' := by
  obtain ⟨E, hE⟩ : ∃ E : Bool, d.may = E := ⟨_, rfl⟩
  rw [hE]
  have HE : Hid (E = true ↔ (0 ≤ d.ins ∧ d.ins ≤ 16 ∧ d.safe.length ≤ 16 ∧ d.rd ≤ 255 ∧ 0 ≤ d.wr ∧ d.wr ≤ 7)) := by show _ ↔ _; rw [← hE]; exact may_iff
  clear hE
  generalize d.safe.length = n at *
  generalize d.ins = i at *
  generalize d.rd = r at *
  generalize d.wr = x at *
  have HB := Lib.hid (below_alloc w (.cells #[.int .i64 i, .slice b n c, .int .u32 r, .int .i64 x] 25))
  by_cases h0 : ((0 : Int) ≤ i)
  case neg =>
    have e0 : decide ((0 : Int) ≤ i) = false := decide_eq_false h0
    have he : E = false := by rw [Bool.eq_false_iff]; intro h; have := HE.out.1 h; omega
    clear HE
    go_enter Try.func8, Try.ntmps8
    go_wp2_with fail
    go_ret
    exact ⟨by first | rfl | (rw [he]; rfl), HB.out⟩
  have e0 : decide ((0 : Int) ≤ i) = true := decide_eq_true h0
  by_cases h1 : (i ≤ (16 : Int))
  case neg =>
    have e1 : decide (i ≤ (16 : Int)) = false := decide_eq_false h1
    have he : E = false := by rw [Bool.eq_false_iff]; intro h; have := HE.out.1 h; omega
    clear HE
    go_enter Try.func8, Try.ntmps8
    go_wp2_with fail
    go_ret
    exact ⟨by first | rfl | (rw [he]; rfl), HB.out⟩
  have e1 : decide (i ≤ (16 : Int)) = true := decide_eq_true h1
  by_cases h2 : ((n : Int) ≤ 16)
  case neg =>
    have e2 : decide ((n : Int) ≤ 16) = false := decide_eq_false h2
    have he : E = false := by rw [Bool.eq_false_iff]; intro h; have := HE.out.1 h; omega
    clear HE
    go_enter Try.func8, Try.ntmps8
    go_wp2_with fail
    go_ret
    exact ⟨by first | rfl | (rw [he]; rfl), HB.out⟩
  have e2 : decide ((n : Int) ≤ 16) = true := decide_eq_true h2
  by_cases h3 : (r ≤ (255 : Int))
  case neg =>
    have e3 : decide (r ≤ (255 : Int)) = false := decide_eq_false h3
    have he : E = false := by rw [Bool.eq_false_iff]; intro h; have := HE.out.1 h; omega
    clear HE
    go_enter Try.func8, Try.ntmps8
    go_wp2_with fail
    go_ret
    exact ⟨by first | rfl | (rw [he]; rfl), HB.out⟩
  have e3 : decide (r ≤ (255 : Int)) = true := decide_eq_true h3
  by_cases h4 : ((0 : Int) ≤ x)
  case neg =>
    have e4 : decide ((0 : Int) ≤ x) = false := decide_eq_false h4
    have he : E = false := by rw [Bool.eq_false_iff]; intro h; have := HE.out.1 h; omega
    clear HE
    go_enter Try.func8, Try.ntmps8
    go_wp2_with fail
    go_ret
    exact ⟨by first | rfl | (rw [he]; rfl), HB.out⟩
  have e4 : decide ((0 : Int) ≤ x) = true := decide_eq_true h4
  by_cases h5 : (x ≤ (7 : Int))
  case neg =>
    have e5 : decide (x ≤ (7 : Int)) = false := decide_eq_false h5
    have he : E = false := by rw [Bool.eq_false_iff]; intro h; have := HE.out.1 h; omega
    clear HE
    go_enter Try.func8, Try.ntmps8
    go_wp2_with fail
    go_ret
    exact ⟨by first | rfl | (rw [he]; rfl), HB.out⟩
  have e5 : decide (x ≤ (7 : Int)) = true := decide_eq_true h5
  have he : E = true := HE.out.2 (by omega)
  clear HE
  go_enter Try.func8, Try.ntmps8
  go_wp2_with fail
  go_ret
  exact ⟨by first | rfl | (rw [he]; rfl), HB.out⟩
section
variable {S : Nat} {d : Df} {b : Option Addr} {c : Nat} {A : Ra} {ins outs : List Int} {ps : List (Int × Int)} {V V' : World}
def rinE (d : Df) (ins : List Int) (part n : Int) : Int := refuse (bit d.rd part) n ins.length
def rinV (d : Df) (ins : List Int) (part n : Int) : Int := if rinE d ins part n = 0 then ins.getD n.toNat 0 else 0
set_option maxHeartbeats 1000000 in
theorem rin_any (h : Rf S d b c A ins outs ps V) (hr : 0 ≤ d.rd ∧ d.rd ≤ 255) (part n : Int) (hp : -9223372036854775808 ≤ part ∧ part ≤ 9223372036854775807) :
    Calls Try.prog 14 #[.pointer (some ⟨A.r, 0, none⟩), .int .i64 part, .int .i64 n] V fun e V' => e = .returned (.tuple #[.int .u32 (rinV d ins part n), .int .i64 (rinE d ins part n)]) ∧ V' = V := by
  obtain ⟨c0, c1, c2, c3, c4, c5, c6⟩ := h.c0
  have hsi := h.si
  have HBit := Lib.hid (fun W => Bit_any d.rd part ⟨hr.1, by omega⟩ hp W)
  have HBig := Lib.hid (fun (h8 : 8 ≤ part) => bit_big d.rd part hr h8)
  have HNeg : Hid (part < 0 → bit d.rd part = false) := fun h => by unfold bit; rw [decide_eq_false (by omega)]; rfl
  obtain ⟨E, hE⟩ : ∃ E, rinE d ins part n = E := ⟨_, rfl⟩
  have HE : Hid (refuse (bit d.rd part) n ins.length = E) := hE
  have HV : Hid (rinV d ins part n = if E = 0 then ins.getD n.toNat 0 else 0) := by show _ = _; unfold rinV; rw [hE]
  have HX := Lib.hid h.ri
  rw [hE]
  clear h hE c1 c3 c5 c6
  rw [← hsi] at c0
  generalize rinV d ins part n = val at *
  obtain ⟨bt, hbt⟩ : ∃ b, bit d.rd part = b := ⟨_, rfl⟩
  rw [hbt] at HBit HBig HNeg HE
  clear hbt
  by_cases hlo : part < 0
  · have e0 : decide (part < 0) = true := decide_eq_true hlo
    obtain rfl := HNeg.out hlo
    have he : E = 70 := by rw [← HE.out]; rfl
    subst he
    have hv : val = 0 := by rw [HV.out]; rfl
    clear HE HV HX c0 c2 c4 HBig HNeg HBit
    go_enter Try.func14, Try.ntmps14
    go_wp2_with fail
    refine bodyPost_ret (v := .tuple #[.int .u32 0, .int .i64 70]) (by simp [results, Try.f14, go_sem]) rfl ?_
    exact ⟨by first | rfl | rw [hv], rfl⟩
  have e0 : decide (part < 0) = false := decide_eq_false hlo
  by_cases hhi : 7 < part
  · have e1 : decide (7 < part) = true := decide_eq_true hhi
    obtain rfl := HBig.out (by omega)
    have he : E = 70 := by rw [← HE.out]; rfl
    subst he
    have hv : val = 0 := by rw [HV.out]; rfl
    clear HE HV HX c0 c2 c4 HBig HNeg HBit
    go_enter Try.func14, Try.ntmps14
    go_wp2_with fail
    refine bodyPost_ret (v := .tuple #[.int .u32 0, .int .i64 70]) (by simp [results, Try.f14, go_sem]) rfl ?_
    exact ⟨by first | rfl | rw [hv], rfl⟩
  have e1 : decide (7 < part) = false := decide_eq_false hhi
  clear HBig HNeg
  cases bt with
  | false =>
    have he : E = 70 := by rw [← HE.out]; rfl
    subst he
    have hv : val = 0 := by rw [HV.out]; rfl
    clear HE HV HX c0 c4
    go_enter Try.func14, Try.ntmps14
    go_wp2_with (go_at_call 27; refine (HBit.out _).mono ?_; rintro e w1 ⟨rfl, rfl⟩)
    refine bodyPost_ret (v := .tuple #[.int .u32 0, .int .i64 70]) (by simp [results, Try.f14, go_sem]) rfl ?_
    exact ⟨by first | rfl | rw [hv], rfl⟩
  | true =>
    by_cases h0 : n < 0
    · have e2 : decide (n < 0) = true := decide_eq_true h0
      have he : E = 5 := by rw [← HE.out]; unfold refuse; rw [if_pos rfl, if_neg (by omega)]
      subst he
      have hv : val = 0 := by rw [HV.out]; rfl
      clear HE HV HX c0 c4
      go_enter Try.func14, Try.ntmps14
      go_wp2_with (go_at_call 27; refine (HBit.out _).mono ?_; rintro e w1 ⟨rfl, rfl⟩)
      refine bodyPost_ret (v := .tuple #[.int .u32 0, .int .i64 5]) (by simp [results, Try.f14, go_sem]) rfl ?_
      exact ⟨by first | rfl | rw [hv], rfl⟩
    have e2 : decide (n < 0) = false := decide_eq_false h0
    obtain ⟨k, rfl⟩ := Int.eq_ofNat_of_zero_le (show 0 ≤ n by omega)
    by_cases h1 : ins.length ≤ k
    · have e3 : decide ((ins.length : Int) ≤ (k : Int)) = true := decide_eq_true (by omega)
      have e4 : decide (ins.length ≤ k) = true := decide_eq_true h1
      have he : E = 5 := by rw [← HE.out]; unfold refuse; rw [if_pos rfl, if_neg (by omega)]
      subst he
      have hv : val = 0 := by rw [HV.out]; rfl
      clear HE HV HX c4
      go_enter Try.func14, Try.ntmps14
      go_wp2_with (go_at_call 27; refine (HBit.out _).mono ?_; rintro e w1 ⟨rfl, rfl⟩)
      refine bodyPost_ret (v := .tuple #[.int .u32 0, .int .i64 5]) (by simp [results, Try.f14, go_sem]) rfl ?_
      exact ⟨by first | rfl | rw [hv], rfl⟩
    · have e3 : decide ((ins.length : Int) ≤ (k : Int)) = false := decide_eq_false (by omega)
      have e4 : decide (ins.length ≤ k) = false := decide_eq_false h1
      have k0 : (0 : Int) ≤ k := by omega
      have k1 : (k : Int) < ins.length := by omega
      have he : E = 0 := by rw [← HE.out]; unfold refuse; rw [if_pos rfl, if_pos (by omega)]
      subst he
      have hv : val = ins.getD k 0 := by rw [HV.out, if_pos rfl, Int.toNat_natCast]
      obtain ⟨z0, z1⟩ := HX.out.cell k (by omega)
      rw [← hv] at z0
      clear HE HV HX z1 hv
      go_enter Try.func14, Try.ntmps14
      go_wp2_with (go_at_call 27; refine (HBit.out _).mono ?_; rintro e w1 ⟨rfl, rfl⟩)
      refine bodyPost_ret (v := .tuple #[.int .u32 val, .int .i64 0]) (by simp [results, Try.f14, go_sem]) rfl ?_
      exact ⟨rfl, rfl⟩
end
end Fld
end Go.Proofs.Ytoighaicdakbkaa
