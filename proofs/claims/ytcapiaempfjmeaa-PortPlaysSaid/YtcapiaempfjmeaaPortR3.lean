/- The document's Unsend. (Made by tools/gen_portr3.py.) -/
import Derived.Test.YtcapiaempfjmeaaPortRef2
namespace Go.Proofs.Ytcapiaempfjmeaa
open Go.ChangeShapes Go.WideShapes Go.ChangeAt Go.RowKit
namespace Prt
set_option linter.unusedVariables false
set_option linter.unusedSimpArgs false
/-- what one port becomes, if the partition writes it -/
def ifB (f : Bx → Bx) (part : Int) (b : Bx) : Bx := if wrt b.d part = true then f b else b
theorem byL_is (f : Bx → Bx) (part : Int) (l : List Bx) : byL f part l = l.map (ifB f part) := rfl
section
variable {A : RA} {n : Nat} {a0 : Option Addr} {c0 : Nat} {l : List Bx} {T : Nat → Option Nat} {V : World} {ds : List Df}
set_option maxHeartbeats 1000000 in
theorem rUnsend_any (h : Rf A n a0 c0 l T V) (hf : FRow (fun k => T k ≠ none) V a0 n ds) (hd : ∀ i, i < n → (l[i]!).d = ds[i]!) (part : Int) :
    Calls Try.prog 22 #[.pointer (some ⟨A.r, 0, none⟩), .int .i64 part] V (RDone A n a0 c0 (byL unsB part l) T (.tuple #[]) V) := by
  have HF := Lib.hid hf
  have HD := Lib.hid hd
  have HH := Lib.hid h
  have HL : Hid (l.length = n) := h.len
  have hn16 := h.n16
  clear h hf hd
  go_enter Try.func22, Try.ntmps22
  go_wp2_with fail
  go_loopw [4] (fun i wr => ∃ k : Nat, k ≤ n ∧ i = .int .i64 k ∧ Rf A n a0 c0 (foldK (ifB unsB part) (List.range k) l) T wr ∧ Kept (fun k => T k ≠ none) V wr) (fun i _ => n - (intOf i).toNat)
  case atStart => exact ⟨0, by omega, rfl, HH.out, Kept.refl _ _⟩
  case round =>
    clear HH
    obtain ⟨k, hk, rfl, hr, hkw⟩ := hrel
    have HR := Lib.hid hr
    have HK := Lib.hid hkw
    obtain ⟨o0, o1, o2, o3, o4⟩ := hr.five
    clear hr hkw
    by_cases hlt : k < n
    · have k0 : (0 : Int) ≤ k := by omega
      have k1 : (k : Int) < n := by omega
      have hdd : decide ((k : Int) < (n : Int)) = true := decide_eq_true (by omega)
      have hd2 : decide (k < n) = true := decide_eq_true hlt
      obtain ⟨b, off, rfl, _, hc⟩ := (HF.out.kept HK.out).2.2.resolve_left (by omega)
      obtain ⟨q0, q1, q2⟩ := hc k hlt
      have hkl : k < l.length := by rw [HL.out]; exact hlt
      have e0 := foldK_range (ifB unsB part) l k hkl
      have e1 := foldK_next (ifB unsB part) (List.range k) k l
      rw [← List.range_succ, e0] at e1
      have HN := Lib.hid e1
      have hw : ifB unsB part l[k]! = if (part == (ds[k]!).wr) = true then unsB l[k]! else l[k]! := by unfold ifB wrt; rw [HD.out k hlt]
      have HW := Lib.hid hw
      have cs := HR.out.cS k hlt
      obtain ⟨c1, c2⟩ := cs
      rw [e0] at c1
      have hx := (HR.out.hx (by omega)).2.2.2
      rw [hx] at o4
      have HS := Lib.hid (HR.out.wS hlt false)
      rw [e0] at HS
      have HT : Hid (T A.bs ≠ none) := by show _ ≠ _; rw [(HR.out.tags (by omega)).2.2.2]; simp
      have HE : Hid ((foldK (ifB unsB part) (List.range k) l)[k]! = l[k]!) := e0
      generalize (l[k]!).s = zs at *
      generalize (ds[k]!).wr = z1 at *
      clear hc e0 e1 hw hx hkl
      by_cases hpw : part = z1
      · have e5 : (z1 == part) = true := by simpa using hpw.symm
        have HW2 : Hid (ifB unsB part l[k]! = unsB l[k]!) := HW.out.trans (if_pos (by simpa using hpw))
        clear hpw
        go_wp2_with fail
        go_roundw
        case rel => exact ⟨k + 1, by omega, by go_num, by rw [HN.out, HW2.out]; exact HS.out, HK.out.setCell (.inl HT.out) _⟩
        case measure => simp [intOf]; omega
      · have e5 : (z1 == part) = false := by simpa using fun e => hpw e.symm
        have HW2 : Hid (ifB unsB part l[k]! = l[k]!) := HW.out.trans (if_neg (by simpa using hpw))
        clear hpw
        have HS2 : Hid (foldK (ifB unsB part) (List.range (k + 1)) l = foldK (ifB unsB part) (List.range k) l) := by
          show _ = _
          rw [HN.out, HW2.out, ← HE.out, set_self]
        go_wp2_with fail
        go_roundw
        case rel => exact ⟨k + 1, by omega, by go_num, by rw [HS2.out]; exact HR.out, HK.out⟩
        case measure => simp [intOf]; omega
    · have hdd : decide ((k : Int) < (n : Int)) = false := decide_eq_false (by omega)
      have hd2 : decide (k < n) = false := decide_eq_false hlt
      obtain rfl : k = n := by omega
      have hall := foldK_all (ifB unsB part) l
      rw [HL.out] at hall
      go_wp2_with fail
      go_end0
      refine ⟨rfl, ?_, HK.out⟩
      rw [byL_is, ← hall]
      exact HR.out
end
end Prt
end Go.Proofs.Ytcapiaempfjmeaa
