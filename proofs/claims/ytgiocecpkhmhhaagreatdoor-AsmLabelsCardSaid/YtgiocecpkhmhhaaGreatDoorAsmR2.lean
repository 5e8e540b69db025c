/- The document's own answers: jumps; numbers of a text, and values up tg a bound. -/
import Derived.Test.YtgiocecpkhmhhaaGreatDoorAsmR1
namespace Go.Proofs.YtgiocecpkhmhhaaGreatDoor
open Go.ChangeShapes Go.WideShapes Go.ChangeAt Go.RowKit
namespace Asm
open Isa
set_option linter.unusedVariables false
set_option linter.unusedSimpArgs false
theorem rjumps_any (o : Int) (w : World) : Calls Tryz.prog 37 #[.int .u8 o] w fun e w' => e = .returned (.bool (jumpsI o)) ∧ Below w.heap.size w w' := by
  unfold jumpsI
  by_cases h : o = 19
  · subst h
    go_enter Tryz.func37, Tryz.ntmps37
    go_wp2_with fail
    go_ret
    exact ⟨rfl, by go_grown⟩
  · have h1 : (o == 19) = false := beq_eq_false_iff_ne.2 h
    rw [h1, Bool.false_or]
    go_enter Tryz.func37, Tryz.ntmps37
    go_wp2_with fail
    go_ret
    exact ⟨rfl, by go_grown⟩
/-! ### Numbers -/
theorem numI_no1 {s : List UInt8} {t : Nat} (ht : t < s.length) (h : dgt (s.getD t 0) = false) : numI s = -1 := by
  unfold numI
  rw [if_neg]
  rintro ⟨_, h2, _⟩
  rw [List.all_eq_true] at h2
  have := h2 _ (getD_mem 0 ht)
  rw [h] at this
  cases this
theorem numI_no2 {s : List UInt8} (h : s.getD 0 0 = 48) (hl : 1 < s.length) : numI s = -1 := by
  unfold numI
  rw [if_neg]
  rintro ⟨_, _, h3 | h3, _⟩
  · rw [h3] at hl; exact absurd hl (by decide)
  · exact h3 h
theorem valD_le (l r : List UInt8) : valD l ≤ valD (l ++ r) := by
  have : ∀ (r : List UInt8) (v : Nat), v ≤ r.foldl (fun v x => v * 10 + (x.toNat - 48)) v := by
    intro r
    induction r with
    | nil => intro v; exact Nat.le_refl _
    | cons x r ih => intro v; rw [List.foldl_cons]; exact Nat.le_trans (by omega) (ih _)
  unfold valD
  rw [List.foldl_append]
  exact this r _
theorem numI_no3 {s : List UInt8} {k : Nat} (h : 4294967295 < valD (s.take k)) : numI s = -1 := by
  unfold numI
  rw [if_neg]
  rintro ⟨_, _, _, h4⟩
  have := valD_le (s.take k) (s.drop k)
  rw [List.take_append_drop] at this
  omega
theorem numI_yes {s : List UInt8} (h0 : s.length ≠ 0) (h1 : ∀ t, t < s.length → dgt (s.getD t 0) = true) (h2 : s.length = 1 ∨ s.getD 0 0 ≠ 48) (h3 : valD s ≤ 4294967295) : numI s = valD s := by
  have hall : s.all dgt = true := by
    rw [List.all_eq_true]
    intro x hx
    obtain ⟨k, hk, rfl⟩ := List.getElem_of_mem hx
    have := h1 k hk
    rw [List.getD_eq_getElem?_getD, List.getElem?_eq_getElem hk] at this
    exact this
  have hne : s ≠ [] := fun e => h0 (by rw [e, List.length_nil])
  unfold numI
  rw [if_pos ⟨hne, hall, h2, h3⟩]
theorem valD_take (s : List UInt8) (k : Nat) (hk : k < s.length) : valD (s.take (k + 1)) = valD (s.take k) * 10 + ((s.getD k 0).toNat - 48) := by
  rw [List.take_add_one, List.getElem?_eq_getElem hk, List.getD_eq_getElem?_getD, List.getElem?_eq_getElem hk]
  exact valD_add _ _
def numN (s : List UInt8) : Int := if 0 ≤ numI s then numI s else 0
def numB (s : List UInt8) : Bool := decide (0 ≤ numI s)
theorem num_off {s : List UInt8} (h : numI s = -1) : numN s = 0 ∧ numB s = false := by unfold numN numB; rw [h]; decide
theorem ret_num {a b : Int} {x y : Bool} (h : a = b) (h2 : x = y) : Ending.returned (.tuple #[.int .u32 a, .bool x]) = .returned (.tuple #[.int .u32 b, .bool y]) := by rw [h, h2]
set_option maxHeartbeats 3200000 in
theorem number_any (s : List UInt8) (hm : s.length ≤ 9223372036854775807) (w : World) : Calls Tryz.prog 89 #[.string (sB s)] w fun e w' => e = .returned (.tuple #[.int .u32 (numN s), .bool (numB s)]) ∧ Below w.heap.size w w' := by
  have hsz : ((sB s).size : Int) = s.length := by rw [sB_size]
  have hix := Lib.hid (fun k (hk : k < s.length) => letter s k hk)
  have HS := Lib.hid hsz
  go_enter Tryz.func89, Tryz.ntmps89
  go_wp2_with fail
  go_loopw [4, 5] (fun v i wr => ∃ k : Nat, k ≤ s.length ∧ i = .int .i64 k ∧ v = .int .u64 (valD (s.take k) : Nat) ∧ (∀ t, t < k → dgt (s.getD t 0) = true) ∧ (k ≠ 0 → s.length = 1 ∨ s.getD 0 0 ≠ 48) ∧ valD (s.take k) ≤ 4294967295 ∧ wr = w) (fun _ i _ => s.length - (intOf i).toNat)
  case atStart => exact ⟨0, by omega, rfl, rfl, fun t ht => by omega, fun h => absurd rfl h, by simp [valD], rfl⟩
  case round =>
    obtain ⟨k, hk, rfl, rfl, hdg, hz0, hv, rfl⟩ := hrel
    have HD := Lib.hid hdg
    have HZ := Lib.hid hz0
    have HV := Lib.hid hv
    clear hdg hz0
    by_cases hlt : k < s.length
    · have hi := hix.out k hlt
      have hd : decide ((k : Int) < (s.length : Int)) = true := decide_eq_true (by omega)
      have HT := Lib.hid (valD_take s k hlt)
      have HN1 := Lib.hid (fun h => num_off (numI_no1 hlt h))
      have HN2 := Lib.hid (fun (h : s.getD 0 0 = 48) (hl : 1 < s.length) => num_off (numI_no2 h hl))
      have HN3 := Lib.hid (fun h => num_off (numI_no3 (s := s) (k := k + 1) h))
      have HGk : Hid (s.getD k 0 = 48 ↔ (s.getD k 0).toNat = 48) := ⟨fun e => by rw [e]; rfl, fun e => UInt8.toNat_inj.1 (by rw [e]; rfl)⟩
      have HDk : Hid (dgt (s.getD k 0) = (decide (48 ≤ (s.getD k 0).toNat) && decide ((s.getD k 0).toNat ≤ 57))) := rfl
      have hzb : (s.getD k 0).toNat ≤ 255 := by have := UInt8.toNat_lt (s.getD k 0); omega
      generalize hc : s.getD k 0 = c at *
      generalize c.toNat = z at *
      generalize hu : valD (s.take k) = u at *
      generalize hu2 : valD (s.take (k + 1)) = u2 at *
      have HC := Lib.hid hc
      have HU := Lib.hid hu
      have HU2 := Lib.hid hu2
      clear hc hu hu2 hix
      by_cases h48 : z < 48
      · have g1 : decide ((z : Int) < 48) = true := decide_eq_true (by omega)
        have HR : Hid (numN s = 0 ∧ numB s = false) := HN1.out (by show dgt c = false; rw [HDk.out]; simp; omega)
        generalize sB s = S at *
        go_wp2_with fail
        refine bodyPost_ret (v := .tuple #[.int .u32 0, .bool false]) (by simp [results, Tryz.f89, go_sem]) rfl ⟨ret_num HR.out.1.symm HR.out.2.symm, by go_grown⟩
      have g1 : decide ((z : Int) < 48) = false := decide_eq_false (by omega)
      by_cases h57 : 57 < z
      · have g2 : decide ((57 : Int) < (z : Int)) = true := decide_eq_true (by omega)
        have HR : Hid (numN s = 0 ∧ numB s = false) := HN1.out (by show dgt c = false; rw [HDk.out]; simp; omega)
        generalize sB s = S at *
        go_wp2_with fail
        refine bodyPost_ret (v := .tuple #[.int .u32 0, .bool false]) (by simp [results, Tryz.f89, go_sem]) rfl ⟨ret_num HR.out.1.symm HR.out.2.symm, by go_grown⟩
      have g2 : decide ((57 : Int) < (z : Int)) = false := decide_eq_false (by omega)
      have e1 : IntKind.u8.wrap ((z : Int) - 48) = ((z - 48 : Nat) : Int) := by simp [IntKind.wrap, IntKind.bits, IntKind.signed]; omega
      have e2 : IntKind.u64.wrap (10 * (u : Int)) = ((u * 10 : Nat) : Int) := by simp [IntKind.wrap, IntKind.bits, IntKind.signed]; omega
      have e2b : IntKind.u64.wrap ((z - 48 : Nat) : Int) = ((z - 48 : Nat) : Int) := by simp [IntKind.wrap, IntKind.bits, IntKind.signed]; omega
      have HDt : Hid (∀ t, t < k + 1 → dgt (s.getD t 0) = true) := fun t ht => by
        by_cases e : t = k
        · rw [e, HC.out, HDk.out]; simp; omega
        · exact HD.out t (by omega)
      by_cases hk0 : k = 0
      · subst hk0
        have hu0 : u = 0 := by rw [← HU.out]; rfl
        subst hu0
        rw [show (((0 : Nat) : Int)) = 0 from rfl] at hi hd
        by_cases hz : z = 48
        · subst hz
          by_cases hl1 : 1 < s.length
          · have g5 : decide ((1 : Int) < (s.length : Int)) = true := decide_eq_true (by omega)
            have HR : Hid (numN s = 0 ∧ numB s = false) := HN2.out (by rw [HC.out]; exact HGk.out.2 rfl) hl1
            clear HDk HDt HN1 HN2 HN3 HT HV HZ HD
            generalize sB s = S at *
            go_wp2_with fail
            refine bodyPost_ret (v := .tuple #[.int .u32 0, .bool false]) (by simp [results, Tryz.f89, go_sem]) rfl ⟨ret_num HR.out.1.symm HR.out.2.symm, by go_grown⟩
          · have g5 : decide ((1 : Int) < (s.length : Int)) = false := decide_eq_false (by omega)
            have hu2 : u2 = 0 := by rw [HT.out]
            subst hu2
            clear HDk HN1 HN2 HN3 HT HV HD e1 e2 e2b
            generalize sB s = S at *
            go_wp2_with fail
            refine ⟨⟨1, by omega, rfl, by rw [HU2.out]; rfl, HDt.out, fun _ => .inl (by omega), by rw [HU2.out]; omega, trivial⟩, by simp [intOf]; omega⟩
        · have g4 : ((z : Int) == 48) = false := beq_eq_false_iff_ne.2 (by omega)
          have HW : Hid (((z - 48 : Nat) : Int) = (u2 : Int)) := by show _ = _; have := HT.out; omega
          have g6 : decide ((4294967295 : Int) < ((z - 48 : Nat) : Int)) = false := decide_eq_false (by omega)
          have hle : u2 ≤ 4294967295 := by have := HT.out; omega
          have hne : s.getD 0 0 ≠ 48 := fun e => hz (by rw [HC.out] at e; exact HGk.out.1 e)
          have HNE := Lib.hid hne
          clear HDk HN1 HN2 HN3 HT HV HD hne
          generalize sB s = S at *
          go_wp2_with fail
          refine ⟨⟨1, by omega, rfl, by rw [HU2.out, HW.out], HDt.out, fun _ => .inr HNE.out, by rw [HU2.out]; exact hle, trivial⟩, by simp [intOf]; omega⟩
      · have gk : ((k : Int) == 0) = false := beq_eq_false_iff_ne.2 (by omega)
        by_cases hmx : 4294967295 < u2
        · have g6 : decide ((4294967295 : Int) < (u : Int) * 10 + ((z - 48 : Nat) : Int)) = true := decide_eq_true (by have := HT.out; omega)
          have HR : Hid (numN s = 0 ∧ numB s = false) := HN3.out hmx
          clear HDk HDt HN1 HN2 HN3 HT HV HZ HD
          generalize sB s = S at *
          go_wp2_with fail
          refine bodyPost_ret (v := .tuple #[.int .u32 0, .bool false]) (by simp [results, Tryz.f89, go_sem]) rfl ⟨ret_num HR.out.1.symm HR.out.2.symm, by go_grown⟩
        · have g6 : decide ((4294967295 : Int) < (u : Int) * 10 + ((z - 48 : Nat) : Int)) = false := decide_eq_false (by have := HT.out; omega)
          have HW : Hid ((u : Int) * 10 + ((z - 48 : Nat) : Int) = (u2 : Int)) := by show _ = _; have := HT.out; omega
          clear HDk HN1 HN2 HN3 HT HV HD
          generalize sB s = S at *
          go_wp2_with fail
          refine ⟨⟨k + 1, by omega, by simp, by rw [HU2.out, HW.out], HDt.out, fun _ => ?_, by rw [HU2.out]; omega, trivial⟩, by simp [intOf]; omega⟩
          exact HZ.out hk0
    · obtain rfl : k = s.length := by omega
      have hd : decide ((s.length : Int) < (s.length : Int)) = false := decide_eq_false (by omega)
      have HR : Hid ((valD s : Int) = numN s ∧ decide ((0 : Int) < (s.length : Int)) = numB s) := by
        show _ ∧ _
        by_cases h0 : s.length = 0
        · have es := List.length_eq_zero_iff.1 h0
          subst es
          decide
        · have hvs := HV.out
          rw [List.take_length] at hvs
          have := numI_yes h0 HD.out (HZ.out h0) hvs
          unfold numN numB
          rw [this, if_pos (by omega)]
          exact ⟨rfl, by rw [decide_eq_true (by omega), decide_eq_true (by omega)]⟩
      have hw : IntKind.u32.wrap (valD (s.take s.length) : Int) = (valD s : Int) := by
        rw [List.take_length] at hv ⊢
        simp [IntKind.wrap, IntKind.bits, IntKind.signed]; omega
      clear hv
      generalize valD (s.take s.length) = V at *
      go_wp2_with fail
      refine bodyPost_ret (v := .tuple #[.int .u32 (valD s : Nat), .bool (decide ((0 : Int) < (s.length : Int)))]) (by simp [results, Tryz.f89, go_sem]) rfl ⟨ret_num HR.out.1 HR.out.2, by go_grown⟩
/-- a number that is not above another one; -1: it is none -/
theorem value_any (s : List UInt8) (hm : s.length ≤ 9223372036854775807) (m : Int) (h0 : 0 ≤ m) (h1 : m ≤ 4294967295) (w : World) : Calls Tryz.prog 74 #[.string (sB s), .int .u32 m] w fun e w' => e = .returned (.int .i64 (valI s m)) ∧ Below w.heap.size w w' := by
  have HN := Lib.hid (number_any s hm w)
  have HC : Hid ((numI s = -1 ∧ numN s = 0 ∧ numB s = false) ∨ (0 ≤ numI s ∧ numI s ≤ 4294967295 ∧ numN s = numI s ∧ numB s = true)) := by
    show _ ∨ _
    by_cases h : 0 ≤ numI s
    · right
      refine ⟨h, (num_inv h).2, ?_, ?_⟩
      · unfold numN; rw [if_pos h]
      · unfold numB; exact decide_eq_true h
    · left
      have e : numI s = -1 := by
        unfold numI at h ⊢
        split
        · rename_i hc; rw [if_pos hc] at h; omega
        · rfl
      exact ⟨e, num_off e⟩
  have HV : Hid (valI s m = if numI s ≤ m then numI s else -1) := rfl
  generalize valI s m = V at *
  generalize numI s = n at *
  generalize numN s = N at *
  generalize numB s = B at *
  generalize sB s = S at *
  clear hm
  rcases HC.out with ⟨c1, c2, c3⟩ | ⟨c1, c2, c3, c4⟩
  · subst c2 c3
    have HR : Hid (V = -1) := by show _ = _; rw [HV.out, c1]; split <;> rfl
    clear HV HC c1
    go_enter Tryz.func74, Tryz.ntmps74
    go_wp2_with fail
    refine HN.out.mono ?_
    rintro e w1 ⟨rfl, hb⟩
    go_wp2_with fail
    go_ret
    exact ⟨ret_int HR.out.symm, hb⟩
  · subst c3 c4
    by_cases hle : N ≤ m
    · have HR : Hid (V = N) := by show _ = _; rw [HV.out, if_pos hle]
      have hd : decide (m < N) = false := decide_eq_false (by omega)
      clear HV HC
      go_enter Tryz.func74, Tryz.ntmps74
      go_wp2_with fail
      refine HN.out.mono ?_
      rintro e w1 ⟨rfl, hb⟩
      go_wp2_with fail
      go_ret
      exact ⟨ret_int HR.out.symm, hb⟩
    · have HR : Hid (V = -1) := by show _ = _; rw [HV.out, if_neg hle]
      have hd : decide (m < N) = true := decide_eq_true (by omega)
      clear HV HC
      go_enter Tryz.func74, Tryz.ntmps74
      go_wp2_with fail
      refine HN.out.mono ?_
      rintro e w1 ⟨rfl, hb⟩
      go_wp2_with fail
      go_ret
      exact ⟨ret_int HR.out.symm, hb⟩
end Asm
end Go.Proofs.YtgiocecpkhmhhaaGreatDoor
