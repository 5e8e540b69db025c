/- The program's answers: letters, labels; the first that is amiss. -/
import Derived.Test.YtgiocecpkhmhhaaGreatDoorAsmR5
namespace Go.Proofs.YtgiocecpkhmhhaaGreatDoor
open Go.ChangeShapes Go.WideShapes Go.ChangeAt Go.RowKit
namespace Asm
open Isa
set_option linter.unusedVariables false
set_option linter.unusedSimpArgs false
def smallN (z : Nat) : Bool := decide (97 ≤ z) && decide (z ≤ 122)
def dgtN (z : Nat) : Bool := decide (48 ≤ z) && decide (z ≤ 57)
theorem small_any (z : Nat) (w : World) : Calls Tryz.prog 55 #[.int .u8 (z : Int)] w fun e w' => e = .returned (.bool (smallN z)) ∧ w' = w := by
  by_cases h1 : 97 ≤ z
  · have g1 : decide ((97 : Int) ≤ (z : Int)) = true := decide_eq_true (by omega)
    by_cases h2 : z ≤ 122
    · have g2 : decide ((z : Int) ≤ 122) = true := decide_eq_true (by omega)
      have HR : Hid (smallN z = true) := by unfold smallN; exact Lib.hid (by simp; omega)
      go_enter Tryz.func55, Tryz.ntmps55
      go_wp2_with fail
      go_ret
      exact ⟨ret_bool HR.out.symm, rfl⟩
    · have g2 : decide ((z : Int) ≤ 122) = false := decide_eq_false (by omega)
      have HR : Hid (smallN z = false) := by unfold smallN; exact Lib.hid (by simp; omega)
      go_enter Tryz.func55, Tryz.ntmps55
      go_wp2_with fail
      go_ret
      exact ⟨ret_bool HR.out.symm, rfl⟩
  · have g1 : decide ((97 : Int) ≤ (z : Int)) = false := decide_eq_false (by omega)
    have HR : Hid (smallN z = false) := by unfold smallN; exact Lib.hid (by simp; omega)
    go_enter Tryz.func55, Tryz.ntmps55
    go_wp2_with fail
    go_ret
    exact ⟨ret_bool HR.out.symm, rfl⟩
theorem digit_any (z : Nat) (w : World) : Calls Tryz.prog 56 #[.int .u8 (z : Int)] w fun e w' => e = .returned (.bool (dgtN z)) ∧ w' = w := by
  by_cases h1 : 48 ≤ z
  · have g1 : decide ((48 : Int) ≤ (z : Int)) = true := decide_eq_true (by omega)
    by_cases h2 : z ≤ 57
    · have g2 : decide ((z : Int) ≤ 57) = true := decide_eq_true (by omega)
      have HR : Hid (dgtN z = true) := by unfold dgtN; exact Lib.hid (by simp; omega)
      go_enter Tryz.func56, Tryz.ntmps56
      go_wp2_with fail
      go_ret
      exact ⟨ret_bool HR.out.symm, rfl⟩
    · have g2 : decide ((z : Int) ≤ 57) = false := decide_eq_false (by omega)
      have HR : Hid (dgtN z = false) := by unfold dgtN; exact Lib.hid (by simp; omega)
      go_enter Tryz.func56, Tryz.ntmps56
      go_wp2_with fail
      go_ret
      exact ⟨ret_bool HR.out.symm, rfl⟩
  · have g1 : decide ((48 : Int) ≤ (z : Int)) = false := decide_eq_false (by omega)
    have HR : Hid (dgtN z = false) := by unfold dgtN; exact Lib.hid (by simp; omega)
    go_enter Tryz.func56, Tryz.ntmps56
    go_wp2_with fail
    go_ret
    exact ⟨ret_bool HR.out.symm, rfl⟩
/-! ### Labels -/
theorem isLbl_iff {s : List UInt8} (h0 : s.length ≠ 0) (h16 : s.length ≤ 16) (h : small (s.getD 0 0) = true) (ha : ∀ t, t < s.length → lblc (s.getD t 0) = true) : isLbl s = true := by
  cases s with
  | nil => simp at h0
  | cons x r =>
    simp [isLbl]
    refine ⟨⟨by simpa using h16, by simpa using h⟩, ?_⟩
    intro y hy
    obtain ⟨k, hk, rfl⟩ := List.getElem_of_mem hy
    have := ha (k + 1) (by simpa using hk)
    simpa [hk] using this
theorem isLbl_first {s : List UInt8} (h : small (s.getD 0 0) = false) : isLbl s = false := by
  cases s with
  | nil => rfl
  | cons x r => simp [isLbl]; simp at h; simp [h]
theorem isLbl_one {s : List UInt8} {t : Nat} (ht : t < s.length) (h : lblc (s.getD t 0) = false) : isLbl s = false := by
  cases e : isLbl s with
  | false => rfl
  | true =>
    have := isLbl_all e (s.getD t 0) (by rw [List.getD_eq_getElem?_getD, List.getElem?_eq_getElem ht]; exact List.getElem_mem ht)
    rw [this] at h
    cases h
theorem lblc_is (x : UInt8) : lblc x = (smallN x.toNat || dgtN x.toNat || x.toNat == 95) := by
  unfold lblc small dgt smallN dgtN
  cases decide (97 ≤ x.toNat) <;> cases decide (x.toNat ≤ 122) <;> cases decide (48 ≤ x.toNat) <;> cases decide (x.toNat ≤ 57) <;> cases x.toNat == 95 <;> rfl
set_option maxHeartbeats 1600000 in
theorem islabel_any (s : List UInt8) (hm : s.length ≤ 9223372036854775807) (w : World) : Calls Tryz.prog 32 #[.string (sB s)] w fun e w' => e = .returned (.bool (isLbl s)) ∧ w' = w := by
  have hsz : ((sB s).size : Int) = s.length := by rw [sB_size]
  by_cases h0 : s.length = 0
  · have hs : s = [] := by cases s; rfl; simp at h0
    subst hs
    have hd : (sB ([] : List UInt8)).toList.isEmpty = true := no_one
    have HR : Hid (isLbl [] = false) := rfl
    generalize isLbl [] = V at *
    generalize sB ([] : List UInt8) = S at *
    go_enter Tryz.func32, Tryz.ntmps32
    go_wp2_with fail
    go_ret
    exact ⟨ret_bool HR.out.symm, rfl⟩
  have hde : (sB s).toList.isEmpty = false := by
    rw [empty_is]
    exact decide_eq_false (by intro e; subst e; simp at h0)
  by_cases h16 : 16 < s.length
  · have HR : Hid (isLbl s = false) := isLbl_off (.inr h16)
    have hd : decide ((16 : Int) < (s.length : Int)) = true := decide_eq_true (by omega)
    generalize s.length = L at *
    generalize isLbl s = V at *
    generalize sB s = S at *
    go_enter Tryz.func32, Tryz.ntmps32
    go_wp2_with fail
    go_ret
    exact ⟨ret_bool HR.out.symm, rfl⟩
  have hd1 : decide ((16 : Int) < (s.length : Int)) = false := decide_eq_false (by omega)
  have hix := Lib.hid (fun k (hk : k < s.length) => letter s k hk)
  have hi0 := hix.out 0 (by omega)
  rw [show (((0 : Nat) : Int)) = 0 from rfl] at hi0
  have hsm : small (s.getD 0 0) = smallN (s.getD 0 0).toNat := rfl
  by_cases hf : small (s.getD 0 0) = true
  rotate_left
  · have HR : Hid (isLbl s = false) := isLbl_first (by simpa using hf)
    have HF : Hid (smallN (s.getD 0 0).toNat = false) := by rw [← hsm]; exact Lib.hid (by simpa using hf)
    clear hf hsm hix
    generalize (s.getD 0 0).toNat = z at *
    generalize s.length = L at *
    generalize isLbl s = V at *
    generalize sB s = S at *
    go_enter Tryz.func32, Tryz.ntmps32
    go_wp2_with (go_at_call 55; refine (small_any z _).mono ?_; rintro e w' ⟨rfl, hw⟩; subst w'; rw [HF.out])
    go_ret
    exact ⟨ret_bool HR.out.symm, rfl⟩
  have HF : Hid (smallN (s.getD 0 0).toNat = true) := by rw [← hsm]; exact Lib.hid hf
  have HY := Lib.hid (fun (ha : ∀ t, t < s.length → lblc (s.getD t 0) = true) => isLbl_iff h0 (by omega) hf ha)
  have HN := Lib.hid (fun t (ht : t < s.length) (h : lblc (s.getD t 0) = false) => isLbl_one ht h)
  have HS := Lib.hid hsz
  clear h0 hf hsm
  go_enter Tryz.func32, Tryz.ntmps32
  go_wp2_with (go_at_call 55; refine (small_any (s.getD 0 0).toNat _).mono ?_; rintro e w' ⟨rfl, hw⟩; subst w'; rw [HF.out])
  clear hd1 hde hi0
  go_loopw [19] (fun i wr => ∃ k : Nat, k ≤ s.length ∧ i = .int .i64 k ∧ (∀ t, t < k → lblc (s.getD t 0) = true) ∧ wr = w) (fun i _ => s.length - (intOf i).toNat)
  case atStart => exact ⟨0, by omega, rfl, fun t ht => by omega, rfl⟩
  case round =>
    obtain ⟨k, hk, rfl, hok, rfl⟩ := hrel
    have HO := Lib.hid hok
    clear hok
    by_cases hlt : k < s.length
    · have hi := hix.out k hlt
      have hd : decide ((k : Int) < (s.length : Int)) = true := decide_eq_true (by omega)
      have HNk := Lib.hid (HN.out k hlt)
      have HOk : Hid (lblc (s.getD k 0) = true → ∀ t, t < k + 1 → lblc (s.getD t 0) = true) := fun h t ht => by
        by_cases e : t = k
        · rw [e]; exact h
        · exact HO.out t (by omega)
      have HE := Lib.hid (lblc_is (s.getD k 0))
      clear hix HN HO HY
      generalize (s.getD k 0).toNat = z at *
      generalize lblc (s.getD k 0) = B at *
      generalize s.length = LL at *
      generalize sB s = S at *
      have hq : ∃ c1 c2 c3, Hid (smallN z = c1) ∧ Hid (dgtN z = c2) ∧ ((z : Int) != 95) = !c3 ∧ Hid ((z == 95) = c3) := by
        refine ⟨_, _, z == 95, Lib.hid rfl, Lib.hid rfl, ?_, Lib.hid rfl⟩
        show (!((z : Int) == 95)) = _
        congr 1
        rw [Bool.eq_iff_iff]
        simp
        omega
      obtain ⟨c1, c2, c3, H1, H2, h3, H3⟩ := hq
      cases c1
      · cases c2
        · cases c3
          · simp only [Bool.not_false] at h3
            have HR : Hid (isLbl s = false) := HNk.out (by rw [HE.out, H1.out, H2.out, H3.out]; rfl)
            clear HOk HE HNk
            go_wp2_with (first
              | (go_at_call 55; refine (small_any z _).mono ?_; rintro e w' ⟨rfl, hw⟩; subst w'; rw [H1.out])
              | (go_at_call 56; refine (digit_any z _).mono ?_; rintro e w' ⟨rfl, hw⟩; subst w'; rw [H2.out]))
            go_ret
            exact ⟨ret_bool HR.out.symm, rfl⟩
          · simp only [Bool.not_true] at h3
            have HH := Lib.hid (HOk.out (by rw [HE.out, H1.out, H2.out, H3.out]; rfl))
            clear HOk HE HNk
            go_wp2_with (first
              | (go_at_call 55; refine (small_any z _).mono ?_; rintro e w' ⟨rfl, hw⟩; subst w'; rw [H1.out])
              | (go_at_call 56; refine (digit_any z _).mono ?_; rintro e w' ⟨rfl, hw⟩; subst w'; rw [H2.out]))
            exact ⟨⟨k + 1, by omega, by simp, HH.out, trivial⟩, by simp [intOf]; omega⟩
        · have HH := Lib.hid (HOk.out (by rw [HE.out, H1.out, H2.out]; rfl))
          clear HOk HE HNk
          go_wp2_with (first
              | (go_at_call 55; refine (small_any z _).mono ?_; rintro e w' ⟨rfl, hw⟩; subst w'; rw [H1.out])
              | (go_at_call 56; refine (digit_any z _).mono ?_; rintro e w' ⟨rfl, hw⟩; subst w'; rw [H2.out]))
          exact ⟨⟨k + 1, by omega, by simp, HH.out, trivial⟩, by simp [intOf]; omega⟩
      · have HH := Lib.hid (HOk.out (by rw [HE.out, H1.out]; rfl))
        clear HOk HE HNk
        go_wp2_with (go_at_call 55; refine (small_any z _).mono ?_; rintro e w' ⟨rfl, hw⟩; subst w'; rw [H1.out])
        exact ⟨⟨k + 1, by omega, by simp, HH.out, trivial⟩, by simp [intOf]; omega⟩
    · obtain rfl : k = s.length := by omega
      have HR : Hid (isLbl s = true) := HY.out HO.out
      have hd : decide ((s.length : Int) < (s.length : Int)) = false := decide_eq_false (by omega)
      go_wp2_with fail
      go_ret
      exact ⟨ret_bool HR.out.symm, rfl⟩
/-! ### Errors -/
theorem unless_any (b : Bool) (e : Int) (w : World) : Calls Tryz.prog 26 #[.bool b, .int .i64 e] w fun x w' => x = .returned (.int .i64 (if b then 0 else e)) ∧ w' = w := by
  cases b
  · go_enter Tryz.func26, Tryz.ntmps26
    go_wp2_with fail
    go_ret
    exact ⟨rfl, rfl⟩
  · go_enter Tryz.func26, Tryz.ntmps26
    go_wp2_with fail
    go_ret
    exact ⟨rfl, rfl⟩
/-- a closure that tells of each number below n whether something is amiss: as long as nothing is, I stands behind; F where something was -/
def StepC (g : Nat) (lb : Array Value) (n : Nat) (E : Nat → Int) (I : Nat → World → Prop) (F : Nat → World → Prop) : Prop :=
  ∀ k, k < n → ∀ W, I k W → Calls Tryz.prog g (#[.int .i64 (k : Int)] ++ lb) W fun e w' => e = .returned (.int .i64 (E k)) ∧ (E k = 0 → I (k + 1) w') ∧ (E k ≠ 0 → F k w')
def FirstP (n : Nat) (E : Nat → Int) (I : Nat → World → Prop) (F : Nat → World → Prop) (e : Ending) (w' : World) : Prop :=
  (∃ k, k < n ∧ (∀ t, t < k → E t = 0) ∧ E k ≠ 0 ∧ e = .returned (.tuple #[.int .i64 (k : Int), .int .i64 (E k)]) ∧ F k w') ∨
  ((∀ t, t < n → E t = 0) ∧ e = .returned (.tuple #[.int .i64 0, .int .i64 0]) ∧ I n w')
set_option maxHeartbeats 1600000 in
theorem first_any (g : Nat) (lb : Array Value) (eg : ∀ args w, (callFunc g args).run Tryz.prog w = .ok (.enter g args) w) (n : Nat) (hn : n ≤ 9223372036854775807) (E : Nat → Int) (I F : Nat → World → Prop) (hC : StepC g lb n E I F) (w : World) (h0 : I 0 w) :
    Calls Tryz.prog 27 #[.int .i64 (n : Int), .func (.func g) #[] lb] w (FirstP n E I F) := by
  have HC := Lib.hid hC
  have H0 := Lib.hid h0
  clear hC h0
  go_enter Tryz.func27, Tryz.ntmps27
  go_wp2_with fail
  go_loopw [9] (fun i wr => ∃ k : Nat, k ≤ n ∧ i = .int .i64 k ∧ (∀ t, t < k → E t = 0) ∧ I k wr) (fun i _ => n - (intOf i).toNat)
  case atStart => exact ⟨0, by omega, rfl, fun t ht => by omega, H0.out⟩
  case round =>
    obtain ⟨k, hk, rfl, hno, hI⟩ := hrel
    have HO := Lib.hid hno
    have HI := Lib.hid hI
    clear hno hI
    by_cases hlt : k < n
    · have hd : decide ((k : Int) < (n : Int)) = true := decide_eq_true (by omega)
      by_cases hz : E k = 0
      · have hcc := HC.out k hlt wr HI.out
        have HZ := Lib.hid hz
        rw [hz] at hcc
        have HCC := Lib.hid hcc
        clear hcc hz
        go_wp2_with (go_at_fn g; refine HCC.out.mono ?_; rintro e w' ⟨rfl, hI1, -⟩; have HI1 := Lib.hid (hI1 rfl); clear hI1)
        refine ⟨⟨k + 1, by omega, by simp, fun t ht => ?_, HI1.out⟩, by simp [intOf]; omega⟩
        by_cases e : t = k
        · rw [e]; exact HZ.out
        · exact HO.out t (by omega)
      · have hcc := HC.out k hlt wr HI.out
        have HZ := Lib.hid hz
        have hb : (E k != 0) = true := by simpa using hz
        generalize hEk : E k = Ek at *
        have HEk := Lib.hid hEk
        have HCC := Lib.hid hcc
        clear hcc hz hEk
        go_wp2_with (go_at_fn g; refine HCC.out.mono ?_; rintro e w' ⟨rfl, -, hF1⟩; have HF1 := Lib.hid (hF1 HZ.out); clear hF1)
        refine bodyPost_ret (v := .tuple #[.int .i64 (k : Int), .int .i64 Ek]) (by simp [results, Tryz.f27, go_sem]) rfl ?_
        exact .inl ⟨k, hlt, HO.out, by rw [HEk.out]; exact HZ.out, by rw [HEk.out], HF1.out⟩
    · obtain rfl : k = n := by omega
      have hd : decide ((k : Int) < (k : Int)) = false := decide_eq_false (by omega)
      go_wp2_with fail
      refine bodyPost_ret (v := .tuple #[.int .i64 0, .int .i64 0]) (by simp [results, Tryz.f27, go_sem]) rfl ?_
      exact .inr ⟨HO.out, rfl, HI.out⟩
end Asm
end Go.Proofs.YtgiocecpkhmhhaaGreatDoor
