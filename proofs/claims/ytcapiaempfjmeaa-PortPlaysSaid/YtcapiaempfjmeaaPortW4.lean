/- Check, New. -/
import Derived.Test.YtcapiaempfjmeaaPortW3
namespace Go.Proofs.Ytcapiaempfjmeaa
open Go.ChangeShapes Go.WideShapes Go.ChangeAt Go.RowKit
namespace Prt
set_option linter.unusedVariables false
set_option linter.unusedSimpArgs false
/-- a slice with this address and length has these definitions, in no block that may be written -/
def FRow (p : Nat → Prop) (w : World) (a : Option Addr) (n : Nat) (l : List Df) : Prop :=
  l.length = n ∧ (∀ d ∈ l, 0 ≤ d.rd ∧ d.rd ≤ 4294967295) ∧ (n = 0 ∨ ∃ b off, a = some ⟨b, off, none⟩ ∧ ¬ p b ∧ ∀ j, j < n →
    w.cell? ⟨b, off + j * 3, none⟩ = some (.int .i64 (l[j]!).w) ∧ w.cell? ⟨b, off + j * 3 + 1, none⟩ = some (.int .i64 (l[j]!).wr) ∧ w.cell? ⟨b, off + j * 3 + 2, none⟩ = some (.int .u32 (l[j]!).rd))
theorem FRow.kept {p : Nat → Prop} {w w' : World} {a : Option Addr} {n : Nat} {l : List Df} (h : FRow p w a n l) (hk : Kept p w w') : FRow p w' a n l := by
  obtain ⟨h1, h2, h3⟩ := h
  refine ⟨h1, h2, ?_⟩
  rcases h3 with h3 | ⟨b, off, rfl, hp, hc⟩
  · exact Or.inl h3
  · exact Or.inr ⟨b, off, rfl, hp, fun i hi => ⟨hk.cell (hc i hi).1 hp, hk.cell (hc i hi).2.1 hp, hk.cell (hc i hi).2.2 hp⟩⟩
theorem FRow.below {p : Nat → Prop} {w w' : World} {a : Option Addr} {n : Nat} {l : List Df} (h : FRow p w a n l) {B : Nat} (hb : Below B w w') (hB : w.heap.size ≤ B) : FRow p w' a n l := h.kept (Kept.of_below (hb.mono hB))
theorem FRow.rd {p : Nat → Prop} {w : World} {a : Option Addr} {n : Nat} {l : List Df} (h : FRow p w a n l) {j : Nat} (hj : j < n) : 0 ≤ (l[j]!).rd ∧ (l[j]!).rd ≤ 4294967295 := by
  have h1 := h.1
  rw [getElem!_pos l j (by omega)]
  exact h.2.1 _ (List.getElem_mem _)
theorem wrong_any (d : Df) (hr : 0 ≤ d.rd ∧ d.rd ≤ 4294967295) (w : World) :
    Calls Try.prog 31 #[.agg #[.int .i64 d.w, .int .i64 d.wr, .int .u32 d.rd]] w fun e w' => e = .returned (.bool (!d.may)) ∧ Below w.heap.size w w' := by
  have hm := fun W => mayBe_any d hr W
  generalize d.may = z at *
  generalize d.w = a at *
  generalize d.wr = b at *
  generalize d.rd = c at *
  go_enter Try.func31, Try.ntmps31
  go_wp2_with (go_at_call 32; refine (hm _).mono ?_; rintro e w1 ⟨rfl, hb⟩)
  go_ret
  exact ⟨rfl, Below.trans (by go_grown) (hb.mono (by simp))⟩
set_option maxHeartbeats 1000000 in
theorem index_any {p : Nat → Prop} {a : Option Addr} {n c : Nat} {l : List Df} {w : World} (h : FRow p w a n l) (hn : n ≤ 9223372036854775807) :
    Calls Try.prog 45 #[.slice a n c, .func (.func 31) #[] #[]] w fun e w' => (∃ r : Int, e = .returned (.int .i64 r) ∧ decide (0 ≤ r) = !(l.all Df.may)) ∧ Below w.heap.size w w' := by
  have HR := Lib.hid h
  have HL : Hid (l.length = n) := h.1
  clear h
  go_enter Try.func45, Try.ntmps45
  go_wp2_with fail
  go_loopw [8] (fun i wr => ∃ k : Nat, k ≤ n ∧ i = .int .i64 k ∧ (∀ j, j < k → (l[j]!).may = true) ∧ Below w.heap.size w wr) (fun i _ => n - (intOf i).toNat)
  case atStart => exact ⟨0, by omega, rfl, fun j hj => by omega, Below.refl _ _⟩
  case round =>
    obtain ⟨k, hk, rfl, hyes, hbel⟩ := hrel
    have HY := Lib.hid hyes
    have HB := Lib.hid hbel
    clear hyes hbel
    by_cases hlt : k < n
    · have k0 : (0 : Int) ≤ k := by omega
      have k1 : (k : Int) < n := by omega
      have hd : decide ((k : Int) < (n : Int)) = true := decide_eq_true (by omega)
      have hd2 : decide (k < n) = true := decide_eq_true hlt
      have hrd := HR.out.rd hlt
      obtain ⟨b, off, rfl, _, hc⟩ := (HR.out.below HB.out (Nat.le_refl _)).2.2.resolve_left (by omega)
      obtain ⟨c0, c1, c2⟩ := hc k hlt
      have HW := Lib.hid (fun W => wrong_any l[k]! hrd W)
      obtain ⟨z, hz⟩ : ∃ z, (l[k]!).may = z := ⟨_, rfl⟩
      have HZ := Lib.hid hz
      rw [hz] at HW
      clear hc hrd hz
      generalize (l[k]!).w = z0 at *
      generalize (l[k]!).wr = z1 at *
      generalize (l[k]!).rd = z2 at *
      cases z with
      | true =>
        go_wp2_with (go_at_call 31; refine (HW.out _).mono ?_; rintro e w1 ⟨rfl, hb⟩)
        go_roundw
        case rel =>
          refine ⟨k + 1, by omega, by go_num, fun j hj => ?_, HB.out.trans (hb.mono HB.out.size)⟩
          by_cases e : j = k
          · rw [e]; exact HZ.out
          · exact HY.out j (by omega)
        case measure => simp [intOf]; omega
      | false =>
        go_wp2_with (go_at_call 31; refine (HW.out _).mono ?_; rintro e w1 ⟨rfl, hb⟩)
        go_ret
        refine ⟨⟨k, rfl, ?_⟩, HB.out.trans (hb.mono HB.out.size)⟩
        rw [decide_eq_true (by omega), eq_comm, Bool.not_eq_true', Bool.eq_false_iff]
        intro hall
        rw [List.all_eq_true] at hall
        have hkl : k < l.length := by rw [HL.out]; exact hlt
        have := hall l[k] (List.getElem_mem hkl)
        have h2 := HZ.out
        rw [getElem!_pos l k hkl] at h2
        rw [h2] at this
        cases this
    · have hd : decide ((k : Int) < (n : Int)) = false := decide_eq_false (by omega)
      have hd2 : decide (k < n) = false := decide_eq_false hlt
      go_wp2_with fail
      go_ret
      refine ⟨⟨-1, rfl, ?_⟩, HB.out⟩
      rw [decide_eq_false (by omega), eq_comm, Bool.not_eq_false', List.all_eq_true]
      intro d hd
      obtain ⟨i, hi, rfl⟩ := List.mem_iff_getElem.1 hd
      have := HY.out i (by have := HL.out; omega)
      rwa [getElem!_pos l i hi] at this
theorem contains_any {p : Nat → Prop} {a : Option Addr} {n c : Nat} {l : List Df} {w : World} (h : FRow p w a n l) (hn : n ≤ 9223372036854775807) :
    Calls Try.prog 33 #[.slice a n c, .func (.func 31) #[] #[]] w fun e w' => e = .returned (.bool (!(l.all Df.may))) ∧ Below w.heap.size w w' := by
  have HI := Lib.hid (index_any (c := c) h hn)
  clear h
  generalize (!(l.all Df.may)) = z at *
  go_enter Try.func33, Try.ntmps33
  go_wp2_with (go_at_call 45; refine HI.out.mono ?_; rintro e w1 ⟨⟨r, rfl, hr⟩, hb⟩)
  go_ret
  exact ⟨rfl, hb⟩
/-- what Check answers -/
def chkE (l : List Df) : Int := if mayL l = true then 0 else 2
theorem check_any {p : Nat → Prop} {a : Option Addr} {n c : Nat} {l : List Df} {w : World} (h : FRow p w a n l) (hn : n ≤ 9223372036854775807) :
    Calls Try.prog 9 #[.slice a n c] w fun e w' => e = .returned (.int .i64 (chkE l)) ∧ Below w.heap.size w w' := by
  have HC := Lib.hid (contains_any (c := c) h hn)
  have hl := h.1
  obtain ⟨E, hE⟩ : ∃ E, chkE l = E := ⟨_, rfl⟩
  rw [hE]
  unfold chkE mayL at hE
  rw [hl] at hE
  clear h hl
  generalize l.all Df.may = z at *
  by_cases h16 : n ≤ 16
  · have e0 : decide ((16 : Int) < (n : Int)) = false := decide_eq_false (by omega)
    rw [decide_eq_true h16, Bool.true_and] at hE
    have HE := Lib.hid hE
    clear hE
    cases z with
    | true =>
      go_enter Try.func9, Try.ntmps9
      go_wp2_with (go_at_call 33; refine HC.out.mono ?_; rintro e w1 ⟨rfl, hb⟩)
      go_ret
      exact ⟨by rw [← HE.out]; rfl, hb⟩
    | false =>
      go_enter Try.func9, Try.ntmps9
      go_wp2_with (go_at_call 33; refine HC.out.mono ?_; rintro e w1 ⟨rfl, hb⟩)
      go_ret
      exact ⟨by rw [← HE.out]; rfl, hb⟩
  · have e0 : decide ((16 : Int) < (n : Int)) = true := decide_eq_true (by omega)
    rw [decide_eq_false h16, Bool.false_and] at hE
    have HE := Lib.hid hE
    clear hE HC
    go_enter Try.func9, Try.ntmps9
    go_wp2_with fail
    go_ret
    exact ⟨by rw [← HE.out]; rfl, Below.refl _ _⟩
end Prt
end Go.Proofs.Ytcapiaempfjmeaa
