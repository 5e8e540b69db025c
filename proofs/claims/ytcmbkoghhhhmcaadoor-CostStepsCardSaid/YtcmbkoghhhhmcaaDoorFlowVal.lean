/- The chapter's small programs: what is told of them, reckoned. No program. -/
import Derived.Test.YtcmbkoghhhhmcaaDoorFlowMath3
namespace Go.Proofs.YtcmbkoghhhhmcaaDoor
namespace Flw
open Isa
set_option linter.unusedVariables false
set_option linter.unusedSimpArgs false
/-! ### The order, reckoned with what is come to given -/
def waitP (p : Nat → Bool) (l : List Iv) (T : List Nat) (n : Nat) : Bool := (List.range l.length).any fun q => p q && !T.contains q && (behL l q).contains n
def candP (p : Nat → Bool) (l : List Iv) (T : List Nat) (n : Nat) : Bool := p n && !T.contains n && !waitP p l T n
def allP (p : Nat → Bool) (l : List Iv) (T : List Nat) : Bool := (List.range l.length).all fun q => !p q || T.contains q
def ordP (p : Nat → Bool) (l : List Iv) : Nat → List Nat → List Nat × Bool
  | 0, T => ([], false)
  | f + 1, T => if allP p l T then (T, true) else if first (candP p l T) l.length < l.length then ordP p l f (T ++ [first (candP p l T) l.length]) else ([], false)
theorem any_congr {α : Type} {f g : α → Bool} : ∀ {l : List α}, (∀ x ∈ l, f x = g x) → l.any f = l.any g
  | [], _ => rfl
  | a :: r, h => by rw [List.any_cons, List.any_cons, h a (by simp), any_congr fun x hx => h x (by simp [hx])]
theorem all_congr {α : Type} {f g : α → Bool} : ∀ {l : List α}, (∀ x ∈ l, f x = g x) → l.all f = l.all g
  | [], _ => rfl
  | a :: r, h => by rw [List.all_cons, List.all_cons, h a (by simp), all_congr fun x hx => h x (by simp [hx])]
theorem ordP_is {p : Nat → Bool} {l : List Iv} (h : ∀ n, n < l.length → p n = comeB l n) : ∀ (f : Nat) (T : List Nat), ordGo l f T = ordP p l f T
  | 0, T => rfl
  | f + 1, T => by
    have h1 : allT l T = allP p l T := all_congr fun q hq => by rw [h q (List.mem_range.1 hq)]
    have h2 : ∀ n, waitB l T n = waitP p l T n := fun n => any_congr fun q hq => by rw [h q (List.mem_range.1 hq)]
    have h3 : first (cand l T) l.length = first (candP p l T) l.length := first_congr fun t ht => by unfold cand candP; rw [h2, h t ht]
    unfold ordGo ordP
    rw [h1, h3]
    split
    · rfl
    · split
      · exact ordP_is h f _
      · rfl
/-- three programs -/
def kA : List Iv := [⟨20, 0, 0, 2⟩, ⟨27, 0, 0, 0⟩, ⟨27, 0, 0, 0⟩]
def kB : List Iv := [⟨20, 0, 0, 1⟩, ⟨19, 0, 0, 0⟩]
def kC : List Iv := [⟨19, 0, 0, 3⟩, ⟨2, 0, 0, 0⟩, ⟨19, 0, 0, 0⟩, ⟨27, 0, 0, 0⟩]
theorem wf_all {l : List Iv} (h : l.all (fun i => decide (0 ≤ i.op ∧ i.op ≤ 255 ∧ 0 ≤ i.a ∧ i.a ≤ 255 ∧ 0 ≤ i.b ∧ i.b ≤ 65535 ∧ 0 ≤ i.c ∧ i.c ≤ 4294967295)) = true) : ∀ i ∈ l, i.wf := fun i hi => by
  rw [List.all_eq_true] at h
  have := h i hi
  simp only [decide_eq_true_eq] at this
  exact ⟨⟨this.1, this.2.1⟩, ⟨this.2.2.1, this.2.2.2.1⟩, ⟨this.2.2.2.2.1, this.2.2.2.2.2.1⟩, ⟨this.2.2.2.2.2.2.1, this.2.2.2.2.2.2.2⟩⟩
theorem chkA0 : chkE kA = 0 := by decide +kernel
theorem chkB0 : chkE kB = 0 := by decide +kernel
theorem chkC0 : chkE kC = 0 := by decide +kernel
theorem comeA : ∀ n, n < kA.length → (fun _ => true) n = comeB kA n :=
  come_is (fine_of chkA0) (wf_all (by decide +kernel)) (fun _ => true) rfl (fun n hn _ => by
    have h1 : Come kA 1 := .step .zero (by decide +kernel)
    have h2 : Come kA 2 := .step .zero (by decide +kernel)
    match n, hn with
    | 0, _ => exact .zero
    | 1, _ => exact h1
    | 2, _ => exact h2) (fun _ _ _ _ _ => rfl)
theorem comeBB : ∀ n, n < kB.length → (fun _ => true) n = comeB kB n :=
  come_is (fine_of chkB0) (wf_all (by decide +kernel)) (fun _ => true) rfl (fun n hn _ => by
    have h1 : Come kB 1 := .step .zero (by decide +kernel)
    match n, hn with
    | 0, _ => exact .zero
    | 1, _ => exact h1) (fun _ _ _ _ _ => rfl)
theorem comeC : ∀ n, n < kC.length → (fun n => n == 0 || n == 3) n = comeB kC n :=
  come_is (fine_of chkC0) (wf_all (by decide +kernel)) (fun n => n == 0 || n == 3) rfl (fun n hn hp => by
    have h3 : Come kC 3 := .step .zero (by decide +kernel)
    simp only [Bool.or_eq_true, beq_iff_eq] at hp
    rcases hp with rfl | rfl
    · exact .zero
    · exact h3) (fun n hn hp m hm => by
    simp only [Bool.or_eq_true, beq_iff_eq] at hp
    rcases hp with rfl | rfl
    · have e : behL kC 0 = [3] := by decide +kernel
      rw [e] at hm; simp at hm; subst hm; rfl
    · have e : behL kC 3 = [] := by decide +kernel
      rw [e] at hm; simp at hm)
theorem ordA_A : ordA kA = ([0, 1, 2], true) := by
  unfold ordA
  rw [if_pos chkA0, ordP_is comeA]
  decide +kernel
theorem ordA_B : (ordA kB).2 = false := by
  unfold ordA
  rw [if_pos chkB0, ordP_is comeBB]
  decide +kernel
theorem ordA_C : ordA kC = ([0, 3], true) := by
  unfold ordA
  rw [if_pos chkC0, ordP_is comeC]
  decide +kernel
/-- what comes behind, of any program -/
def behA (l : List Iv) (k : Int) : List Nat := if chkE l = 0 ∧ 0 ≤ k ∧ k < l.length then behL l k.toNat else []
theorem behA_A : behA kA 0 = [1, 2] := by decide +kernel
theorem behA_B : behA kB 0 = [1] := by decide +kernel
theorem behA_C : behA kC 0 = [3] := by decide +kernel
theorem chk1 : chkE [⟨1, 0, 0, 1⟩] = 111 ∧ chkN [⟨1, 0, 0, 1⟩] = 0 := by decide +kernel
theorem chk2 : chkE [⟨19, 0, 0, 1⟩] = 110 ∧ chkN [⟨19, 0, 0, 1⟩] = 0 := by decide +kernel
theorem chk3 : chkE [] = 111 ∧ chkN [] = 0 := by decide +kernel
theorem behA_in {l : List Iv} (h : chkE l = 0) {k : Nat} (hk : k < l.length) : behA l (k : Int) = behL l k := by
  unfold behA
  rw [if_pos ⟨h, by omega, by omega⟩]
  rfl
theorem behA_out {l : List Iv} {k : Int} (h : chkE l ≠ 0 ∨ k < 0 ∨ l.length ≤ k) : behA l k = [] := by
  unfold behA
  rw [if_neg (by omega)]
end Flw
end Go.Proofs.YtcmbkoghhhhmcaaDoor
