/- The document's own answers: the text of a program. -/
import Derived.Test.YtgiocecpkhmhhaaGreatDoorAsmR8
namespace Go.Proofs.YtgiocecpkhmhhaaGreatDoor
open Go.ChangeShapes Go.WideShapes Go.ChangeAt Go.RowKit
namespace Asm
open Isa
set_option linter.unusedVariables false
set_option linter.unusedSimpArgs false
def lns (l : List Av) (k : Nat) : List UInt8 := (l.take k).flatMap lineA
theorem lns_succ (l : List Av) (k : Nat) (hk : k < l.length) : lns l (k + 1) = lns l k ++ lineA (l.getD k av0) := by
  unfold lns
  rw [List.take_add_one, List.getElem?_eq_getElem hk, List.getD_eq_getElem?_getD, List.getElem?_eq_getElem hk, List.flatMap_append]
  simp only [Option.toList_some, List.flatMap_cons, List.flatMap_nil, List.append_nil, Option.getD_some]
theorem text_yes {l : List Av} (h : ∀ t, t < l.length → mayA (l.getD t av0) = true) : textA l = lns l l.length := by
  unfold textA lns
  rw [List.take_length, if_pos]
  rw [List.all_eq_true]
  intro x hx
  obtain ⟨k, hk, rfl⟩ := List.getElem_of_mem hx
  have := h k hk
  rw [List.getD_eq_getElem?_getD, List.getElem?_eq_getElem hk] at this
  exact this
theorem text_no {l : List Av} {t : Nat} (ht : t < l.length) (h : mayA (l.getD t av0) = false) : textA l = [] := by
  unfold textA
  rw [if_neg]
  intro ha
  have := List.all_eq_true.1 ha _ (getD_mem av0 ht)
  rw [h] at this
  cases this
set_option maxHeartbeats 3200000 in
theorem rtextA_any (l : List Av) (a : Option Addr) (n c : Nat) (hm : n ≤ 1000000) (w : World) (h : ARow w a n l) : Calls Tryz.prog 16 #[.slice a n c] w fun e w' => e = .returned (.string (sB (textA l))) ∧ Below w.heap.size w w' := by
  have HA := Lib.hid (fun W (hb : Below w.heap.size w W) k (hk : k < n) => (h.below hb (Nat.le_refl _)).at k hk)
  have hln : l.length = n := h.1
  have HL := Lib.hid hln
  have HY := Lib.hid (fun hh => text_yes (l := l) hh)
  have HN := Lib.hid (fun t ht hh => text_no (l := l) (t := t) ht hh)
  have HS := Lib.hid (fun k hk => lns_succ l k hk)
  have H0 : Hid (sB (lns l 0) = ⟨#[]⟩) := rfl
  clear h
  go_enter Tryz.func16, Tryz.ntmps16
  go_wp2_with fail
  go_loopw [3, 4] (fun v i wr => ∃ k : Nat, k ≤ n ∧ i = .int .i64 k ∧ v = .string (sB (lns l k)) ∧ (lns l k).length ≤ 50 * k ∧ (∀ t, t < k → mayA (l.getD t av0) = true) ∧ Below w.heap.size w wr) (fun _ i _ => n - (intOf i).toNat)
  case atStart => exact ⟨0, by omega, rfl, by rw [H0.out], by simp [lns], fun t ht => by omega, Below.refl _ _⟩
  case round =>
    obtain ⟨k, hk, rfl, rfl, hlk, hno, hbel⟩ := hrel
    have HO := Lib.hid hno
    have HBl := Lib.hid hbel
    clear hno hbel
    by_cases hlt : k < n
    · have hd : decide ((k : Int) < (n : Int)) = true := decide_eq_true (by omega)
      have k0 : (0 : Int) ≤ k := by omega
      have k1 : (k : Int) < n := by omega
      obtain ⟨b, off, rfl, hc, hw⟩ := HA.out wr HBl.out k hlt
      have HC := Lib.hid hc
      obtain ⟨c0, c1, c2, c3, c4, c5⟩ := hc
      have HM := Lib.hid (fun W => rmayA_any (l.getD k av0) hw W)
      have HLn := Lib.hid (fun hh W => line_any (l.getD k av0) hh hw.i W)
      have HSk := Lib.hid (HS.out k (by rw [HL.out]; exact hlt))
      have HNk := Lib.hid (HN.out k (by rw [HL.out]; exact hlt))
      have HOk : Hid (mayA (l.getD k av0) = true → ∀ t, t < k + 1 → mayA (l.getD t av0) = true) := fun hh t ht => by
        by_cases e : t = k
        · rw [e]; exact hh
        · exact HO.out t (by omega)
      have HLL := Lib.hid (fun hh => line_len (x := l.getD k av0) hh hw.i)
      have HWs := Lib.hid hw
      clear hw
      generalize l.getD k av0 = x at *
      by_cases hmx : mayA x = true
      · have HLn2 := Lib.hid (HLn.out hmx)
        have hll := (HLL.out hmx).1
        have HO2 := Lib.hid (HOk.out hmx)
        have hq := fun X => cat_run (s := lns l k) (t := lineA x) (by omega) rfl rfl X
        have HE : Hid (lns l (k + 1) = lns l k ++ lineA x) := HSk.out
        have HEl : Hid ((lns l (k + 1)).length ≤ 50 * (k + 1)) := by show _ ≤ _; rw [HE.out, List.length_append]; omega
        rw [← HE.out] at hq
        rw [hmx] at HM
        clear HLn HLL HNk HOk hll hlk
        unfold avV at HM HLn2
        generalize sB (lineA x) = LX at *
        generalize sB (lns l k) = SK at *
        obtain ⟨lb, ⟨op, ia, ib, ic⟩, tg⟩ := x
        simp only at *
        go_wp2_with fail
        refine (HM.out _).mono ?_
        rintro e w2 ⟨rfl, hb2⟩
        have hb3 : Below w.heap.size w w2 := HBl.out.trans (hb2.mono HBl.out.size)
        have hc2 := HC.out.block (hb2.block b (World.block_lt_of_cell? _ _ c0))
        clear c0 c1 c2 c3 c4 c5
        obtain ⟨c0, c1, c2, c3, c4, c5⟩ := hc2
        go_wp2_with fail
        refine (HLn2.out _).mono ?_
        rintro e w3 ⟨rfl, hb4⟩
        have hb5 := Lib.hid (hb3.trans (hb4.mono hb3.size))
        clear hb3 hb4 hb2
        go_wp2_with (simp only [hq, Result.andThen_ok])
        refine ⟨⟨k + 1, by omega, by simp, rfl, HEl.out, HO2.out, hb5.out⟩, by simp [intOf]; omega⟩
      · simp only [Bool.not_eq_true] at hmx
        have HR : Hid (sB (textA l) = ⟨#[]⟩) := by show _ = _; rw [HNk.out hmx]; rfl
        rw [hmx] at HM
        clear HLn HLL HNk HOk hlk
        unfold avV at HM
        generalize sB (lns l k) = SK at *
        obtain ⟨lb, ⟨op, ia, ib, ic⟩, tg⟩ := x
        simp only at *
        go_wp2_with fail
        refine (HM.out _).mono ?_
        rintro e w2 ⟨rfl, hb2⟩
        have hb3 := Lib.hid (show Below w.heap.size w w2 from HBl.out.trans (hb2.mono HBl.out.size))
        go_wp2_with fail
        go_ret
        exact ⟨ret_str HR.out.symm, hb3.out⟩
    · obtain rfl : k = n := by omega
      have HR : Hid (sB (textA l) = sB (lns l k)) := by show _ = _; rw [HY.out (by rw [HL.out]; exact HO.out), HL.out]
      have hd : decide ((k : Int) < (k : Int)) = false := decide_eq_false (by omega)
      go_wp2_with fail
      go_ret
      exact ⟨ret_str HR.out.symm, HBl.out⟩
end Asm
end Go.Proofs.YtgiocecpkhmhhaaGreatDoor
