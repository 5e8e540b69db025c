/- The document's own answers: labels, numbers. -/
import Derived.Test.YtgiocecpkhmhhaaGreatDoorAsmM
import Derived.Test.YtgiocecpkhmhhaaGreatDoorIsaR5
namespace Go.Proofs.YtgiocecpkhmhhaaGreatDoor
open Go.ChangeShapes Go.WideShapes Go.ChangeAt Go.RowKit
namespace Asm
open Isa
set_option linter.unusedVariables false
set_option linter.unusedSimpArgs false
/-- a letter of a string -/
theorem letter (l : List UInt8) (k : Nat) (hk : k < l.length) (W : World) : (Instr.index 9 (.string (sB l)) (.int .i64 (k : Int))).run Tryz.prog W = .ok (.int .u8 ((l.getD k 0).toNat : Int)) W := by
  rw [run_index_string W 9 (sB l) .i64 k Tryz.underlying9]
  have h1 : (0 : Int) ≤ k ∧ (k : Int) < (sB l).size := ⟨by omega, by rw [sB_size]; omega⟩
  rw [dif_pos h1]
  have e : (sB l)[(k : Int).toNat]'(by have := h1.2; omega) = l.getD k 0 := by
    simp [sB, List.getD, hk]
    rfl
  rw [e]
/-- a byte that may stand at a place of a label -/
def okc (s : List UInt8) (k : Nat) : Bool := small (s.getD k 0) || (decide (k ≠ 0) && lblc (s.getD k 0))
theorem isLbl_yes {s : List UInt8} (h0 : s.length ≠ 0) (h : s.length ≤ 16) (ha : ∀ t, t < s.length → okc s t = true) : isLbl s = true := by
  cases s with
  | nil => simp at h0
  | cons x r =>
    simp [isLbl]
    refine ⟨⟨by simpa using h, ?_⟩, ?_⟩
    · have := ha 0 (by simp); simpa [okc] using this
    · intro y hy
      obtain ⟨k, hk, rfl⟩ := List.getElem_of_mem hy
      have := ha (k + 1) (by simpa using hk)
      unfold okc at this
      simp [hk] at this
      rcases this with e | e
      · unfold lblc; rw [e]; rfl
      · exact e
theorem isLbl_no {s : List UInt8} {t : Nat} (ht : t < s.length) (h : okc s t = false) : isLbl s = false := by
  cases s with
  | nil => simp at ht
  | cons x r =>
    by_cases hl : isLbl (x :: r) = true
    · simp [isLbl] at hl
      exfalso
      unfold okc at h
      cases t with
      | zero => simp at h; rw [hl.1.2] at h; simp at h
      | succ k =>
        simp at h ht
        have := hl.2 (r[k]'ht) (List.getElem_mem ht)
        rw [List.getElem?_eq_getElem ht] at h
        simp at h
        rw [this] at h
        simp at h
    · simpa using hl
theorem isLbl_off {s : List UInt8} (h : s.length = 0 ∨ 16 < s.length) : isLbl s = false := by
  cases s with
  | nil => rfl
  | cons x r => simp [isLbl]; simp at h; intro h1; omega
set_option maxHeartbeats 1600000 in
theorem label_any (s : List UInt8) (hm : s.length ≤ 9223372036854775807) (w : World) : Calls Tryz.prog 35 #[.string (sB s)] w fun e w' => e = .returned (.bool (isLbl s)) ∧ Below w.heap.size w w' := by
  have hsz : ((sB s).size : Int) = s.length := by rw [sB_size]
  by_cases h0 : s.length = 0
  · have HR : Hid (isLbl s = false) := isLbl_off (.inl h0)
    have hd : ((s.length : Int) == 0) = true := by rw [h0]; rfl
    generalize s.length = L at *
    generalize isLbl s = V at *
    generalize sB s = S at *
    go_enter Tryz.func35, Tryz.ntmps35
    go_wp2_with fail
    go_ret
    exact ⟨ret_bool HR.out.symm, by go_grown⟩
  have hd0 : ((s.length : Int) == 0) = false := beq_eq_false_iff_ne.2 (by omega)
  by_cases h16 : 16 < s.length
  · have HR : Hid (isLbl s = false) := isLbl_off (.inr h16)
    have hd : decide ((16 : Int) < (s.length : Int)) = true := decide_eq_true (by omega)
    generalize s.length = L at *
    generalize isLbl s = V at *
    generalize sB s = S at *
    go_enter Tryz.func35, Tryz.ntmps35
    go_wp2_with fail
    go_ret
    exact ⟨ret_bool HR.out.symm, by go_grown⟩
  have hd1 : decide ((16 : Int) < (s.length : Int)) = false := decide_eq_false (by omega)
  have hix := Lib.hid (fun k (hk : k < s.length) => letter s k hk)
  have HY := Lib.hid (fun (ha : ∀ t, t < s.length → okc s t = true) => isLbl_yes h0 (by omega) ha)
  have HN := Lib.hid (fun t (ht : t < s.length) (h : okc s t = false) => isLbl_no ht h)
  have HS := Lib.hid hsz
  clear h0
  go_enter Tryz.func35, Tryz.ntmps35
  go_wp2_with fail
  clear hd0 hd1
  go_loopw [3, 4] (fun i _ wr => ∃ k : Nat, k ≤ s.length ∧ i = .int .i64 k ∧ (∀ t, t < k → okc s t = true) ∧ wr = w) (fun i _ _ => s.length - (intOf i).toNat)
  case atStart => exact ⟨0, by omega, rfl, fun t ht => by omega, rfl⟩
  case round =>
    obtain ⟨k, hk, rfl, hok, rfl⟩ := hrel
    have HO := Lib.hid hok
    clear hok
    by_cases hlt : k < s.length
    · have hi := hix.out k hlt
      have hd : decide ((k : Int) < (s.length : Int)) = true := decide_eq_true (by omega)
      have HNk := Lib.hid (HN.out k hlt)
      have HOk : Hid (okc s k = true → ∀ t, t < k + 1 → okc s t = true) := fun h t ht => by
        by_cases e : t = k
        · rw [e]; exact h
        · exact HO.out t (by omega)
      have HE : Hid (okc s k = (decide (97 ≤ (s.getD k 0).toNat) && decide ((s.getD k 0).toNat ≤ 122) || decide (k ≠ 0) && lblc (s.getD k 0))) := rfl
      have HL : Hid (lblc (s.getD k 0) = (decide (97 ≤ (s.getD k 0).toNat) && decide ((s.getD k 0).toNat ≤ 122) || (s.getD k 0).toNat == 95 || (decide (48 ≤ (s.getD k 0).toNat) && decide ((s.getD k 0).toNat ≤ 57)))) := rfl
      clear hix HN HO HY
      generalize (s.getD k 0).toNat = z at *
      generalize lblc (s.getD k 0) = B at *
      generalize okc s k = O at *
      generalize s.length = LL at *
      generalize sB s = S at *
      by_cases h1 : 97 ≤ z
      · by_cases h2 : z ≤ 122
        · have g1 : decide ((97 : Int) ≤ (z : Int)) = true := decide_eq_true (by omega)
          have g2 : decide ((z : Int) ≤ 122) = true := decide_eq_true (by omega)
          have HH : Hid (∀ t, t < k + 1 → okc s t = true) := HOk.out (by rw [HE.out, HL.out]; simp; omega)
          clear HOk HE HL HNk
          go_wp2_with fail
          exact ⟨⟨k + 1, by omega, by simp, HH.out, trivial⟩, by simp [intOf]; omega⟩
        by_cases hk0 : k = 0
        · subst hk0
          rw [show (((0 : Nat) : Int)) = 0 from rfl] at hi hd
          have g1 : decide ((97 : Int) ≤ (z : Int)) = true := decide_eq_true (by omega)
          have g2 : decide ((z : Int) ≤ 122) = false := decide_eq_false (by omega)
          have HR : Hid (isLbl s = false) := HNk.out (by rw [HE.out, HL.out]; simp; omega)
          clear HOk HE HL HNk
          go_wp2_with fail
          go_ret
          exact ⟨ret_bool HR.out.symm, by go_grown⟩
        · have g1 : decide ((97 : Int) ≤ (z : Int)) = true := decide_eq_true (by omega)
          have g2 : decide ((z : Int) ≤ 122) = false := decide_eq_false (by omega)
          have g3 : decide ((z : Int) < 48) = false := decide_eq_false (by omega)
          have g4 : decide ((57 : Int) < (z : Int)) = true := decide_eq_true (by omega)
          have gk : ((k : Int) == 0) = false := beq_eq_false_iff_ne.2 (by omega)
          have g95 : ((z : Int) != 95) = true := by simp; omega
          have HR : Hid (isLbl s = false) := HNk.out (by rw [HE.out, HL.out]; simp; omega)
          clear HOk HE HL HNk
          go_wp2_with fail
          go_ret
          exact ⟨ret_bool HR.out.symm, by go_grown⟩
      · by_cases hk0 : k = 0
        · subst hk0
          rw [show (((0 : Nat) : Int)) = 0 from rfl] at hi hd
          have g1 : decide ((97 : Int) ≤ (z : Int)) = false := decide_eq_false (by omega)
          have HR : Hid (isLbl s = false) := HNk.out (by rw [HE.out, HL.out]; simp; omega)
          clear HOk HE HL HNk
          go_wp2_with fail
          go_ret
          exact ⟨ret_bool HR.out.symm, by go_grown⟩
        by_cases h95 : z = 95
        · subst h95
          have g1 : decide ((97 : Int) ≤ ((95 : Nat) : Int)) = false := decide_eq_false (by omega)
          have gk : ((k : Int) == 0) = false := beq_eq_false_iff_ne.2 (by omega)
          have HH : Hid (∀ t, t < k + 1 → okc s t = true) := HOk.out (by rw [HE.out, HL.out]; simp; omega)
          clear HOk HE HL HNk
          go_wp2_with fail
          exact ⟨⟨k + 1, by omega, by simp, HH.out, trivial⟩, by simp [intOf]; omega⟩
        by_cases h48 : z < 48
        · have g1 : decide ((97 : Int) ≤ (z : Int)) = false := decide_eq_false (by omega)
          have g3 : decide ((z : Int) < 48) = true := decide_eq_true (by omega)
          have gk : ((k : Int) == 0) = false := beq_eq_false_iff_ne.2 (by omega)
          have g95 : ((z : Int) != 95) = true := by simp; omega
          have HR : Hid (isLbl s = false) := HNk.out (by rw [HE.out, HL.out]; simp; omega)
          clear HOk HE HL HNk
          go_wp2_with fail
          go_ret
          exact ⟨ret_bool HR.out.symm, by go_grown⟩
        by_cases h57 : 57 < z
        · have g1 : decide ((97 : Int) ≤ (z : Int)) = false := decide_eq_false (by omega)
          have g3 : decide ((z : Int) < 48) = false := decide_eq_false (by omega)
          have g4 : decide ((57 : Int) < (z : Int)) = true := decide_eq_true (by omega)
          have gk : ((k : Int) == 0) = false := beq_eq_false_iff_ne.2 (by omega)
          have g95 : ((z : Int) != 95) = true := by simp; omega
          have HR : Hid (isLbl s = false) := HNk.out (by rw [HE.out, HL.out]; simp; omega)
          clear HOk HE HL HNk
          go_wp2_with fail
          go_ret
          exact ⟨ret_bool HR.out.symm, by go_grown⟩
        · have g1 : decide ((97 : Int) ≤ (z : Int)) = false := decide_eq_false (by omega)
          have g3 : decide ((z : Int) < 48) = false := decide_eq_false (by omega)
          have g4 : decide ((57 : Int) < (z : Int)) = false := decide_eq_false (by omega)
          have gk : ((k : Int) == 0) = false := beq_eq_false_iff_ne.2 (by omega)
          have g95 : ((z : Int) != 95) = true := by simp; omega
          have HH : Hid (∀ t, t < k + 1 → okc s t = true) := HOk.out (by rw [HE.out, HL.out]; simp; omega)
          clear HOk HE HL HNk
          go_wp2_with fail
          exact ⟨⟨k + 1, by omega, by simp, HH.out, trivial⟩, by simp [intOf]; omega⟩
    · obtain rfl : k = s.length := by omega
      have HR : Hid (isLbl s = true) := HY.out HO.out
      have hd : decide ((s.length : Int) < (s.length : Int)) = false := decide_eq_false (by omega)
      go_wp2_with fail
      go_ret
      exact ⟨ret_bool HR.out.symm, by go_grown⟩
end Asm
end Go.Proofs.YtgiocecpkhmhhaaGreatDoor
