/- What the program reads of a line's words is what the document says: names, and what stands behind them. · The program's answers: what stands behind a label. · The program's answers: the line that has these words. (Made by tools/gen_asmw16.py.) · The program's answers: one line of a text, behind those ahead of it. · The program's answers: the closure that reads one line of a text. · The program's answers: what a text is read as. -/
import Derived.Test.YtgiocecpkhmhhaaGreatDoorAsmWd
import Derived.Test.YtgiocecpkhmhhaaGreatDoorAsmM
import Derived.Test.YtgiocecpkhmhhaaGreatDoorAsmR12
namespace Go.Proofs.YtgiocecpkhmhhaaGreatDoor
open Go.ChangeShapes Go.WideShapes Go.ChangeAt Go.RowKit
namespace Asm
open Isa
set_option linter.unusedVariables false
set_option linter.unusedSimpArgs false
theorem nam_fin : ∀ p : Fin 28, 1 ≤ p.val → p.val ≠ 17 → p.val ≠ 18 → namB (nm (p.val : Nat)) = true ∧ opI (stem (nm (p.val : Nat))) = ((p.val : Nat) : Int) ∧ sizeN (nm (p.val : Nat)) = 0 ∧ (txt ⟨((p.val : Nat) : Int), 0, 0, 0⟩).count 32 = want ((p.val : Nat) : Int) := by decide +kernel
theorem nam_m : ∀ p : Fin 2, ∀ q : Fin 3, namB (nm (17 + (p.val : Nat)) ++ dd (2 ^ q.val : Nat)) = true ∧ opI (stem (nm (17 + (p.val : Nat)) ++ dd (2 ^ q.val : Nat))) = 17 + (p.val : Nat) ∧ sizeN (nm (17 + (p.val : Nat)) ++ dd (2 ^ q.val : Nat)) = ((2 ^ q.val : Nat) : Int) ∧ (txt ⟨17 + (p.val : Nat), (2 ^ q.val : Nat), 0, 0⟩).count 32 = 1 := by decide +kernel
/-- a name that is one -/
theorem nam_yes {s : List UInt8} (h : (opW s).1 ≠ 0) : namB s = true ∧ namI s = ⟨(opW s).1, (opW s).2, 0, 0⟩ ∧ (txt (namI s)).count 32 = want (opW s).1 := by
  rcases opW_inv h with ⟨h1, h2, h3⟩ | ⟨h1, h2, h3, h4, h5, h6⟩
  · have hw : want (opW s).1 = 1 := by rcases h1 with e | e <;> rw [e] <;> rfl
    rw [hw]
    generalize (opW s).1 = o at *
    generalize (opW s).2 = a at *
    obtain ⟨p, rfl⟩ : ∃ p : Fin 2, o = 17 + (p.val : Nat) := by
      rcases h1 with e | e
      · exact ⟨0, e⟩
      · exact ⟨1, e⟩
    obtain ⟨q, rfl⟩ : ∃ q : Fin 3, a = ((2 ^ q.val : Nat) : Int) := by
      rcases h2 with e | e | e
      · exact ⟨0, e⟩
      · exact ⟨1, e⟩
      · exact ⟨2, e⟩
    obtain ⟨k1, k2, k3, k4⟩ := nam_m p q
    have e : namI s = ⟨17 + (p.val : Nat), ((2 ^ q.val : Nat) : Int), 0, 0⟩ := by unfold namI; rw [h3, k2, k3]
    exact ⟨by rw [h3]; exact k1, e, by rw [e]; exact k4⟩
  · generalize (opW s).1 = o at *
    generalize (opW s).2 = a at *
    obtain ⟨p, rfl⟩ : ∃ p : Fin 28, o = ((p.val : Nat) : Int) := ⟨⟨o.toNat, by omega⟩, by simp; omega⟩
    obtain ⟨k1, k2, k3, k4⟩ := nam_fin p (by omega) (by omega) (by omega)
    have e : namI s = ⟨((p.val : Nat) : Int), a, 0, 0⟩ := by unfold namI; rw [h6, k2, k3, h5]
    refine ⟨by rw [h6]; exact k1, e, by rw [e, h5]; exact k4⟩
theorem mayM {o a : Int} (h : mayI ⟨o, a, 0, 0⟩ = true) (hm : o = 17 ∨ o = 18) : a = 1 ∨ a = 2 ∨ a = 4 := by
  unfold mayI isC isM at h
  rcases hm with rfl | rfl <;> (simp at h; omega)
theorem take_last {s : List UInt8} (h : s ≠ []) : s = s.take (s.length - 1) ++ [lastN s] := by
  have e := List.dropLast_concat_getLast h
  rw [List.dropLast_eq_take] at e
  have e2 : s.getLast h = lastN s := by
    unfold lastN
    rw [List.getLast_eq_getElem, List.getD_eq_getElem?_getD, List.getElem?_eq_getElem (by have := List.length_pos_iff.2 h; omega)]
    rfl
  rw [e2] at e
  exact e.symm
theorem opW_six : ∀ p : Fin 2, ∀ q : Fin 3, (opW (nm (17 + (p.val : Nat)) ++ [(48 + 2 ^ q.val : Nat).toUInt8])).1 ≠ 0 := by decide +kernel
/-- a word that is no name -/
theorem nam_no {s : List UInt8} (h0 : s ≠ []) (h : (opW s).1 = 0) : namB s = false := by
  cases hb : namB s with
  | false => rfl
  | true =>
    exfalso
    unfold namB at hb
    rw [Bool.and_eq_true] at hb
    obtain ⟨hm, hd⟩ := hb
    have ho := mayI_op hm
    cases hdg : dgtN (lastN s).toNat with
    | false =>
      have hst : stem s = s := by unfold stem; rw [hdg]; rfl
      have hsz : sizeN s = 0 := by unfold sizeN; rw [hdg]; rfl
      rw [hdg, hst] at hd
      unfold namI at ho
      rw [hst] at ho
      have n17 : opI s ≠ 17 := by intro e; rw [e] at hd; simp at hd
      have n18 : opI s ≠ 18 := by intro e; rw [e] at hd; simp at hd
      have no : ∀ t, dgtN (lastN t).toNat = true → s ≠ t := fun t ht e => by rw [e, ht] at hdg; exact absurd hdg (by decide)
      unfold opW at h
      rw [if_neg (no (nLoad ++ [49]) (by decide +kernel)), if_neg (no (nLoad ++ [50]) (by decide +kernel)), if_neg (no (nLoad ++ [52]) (by decide +kernel)), if_neg (no (nStore ++ [49]) (by decide +kernel)), if_neg (no (nStore ++ [50]) (by decide +kernel)), if_neg (no (nStore ++ [52]) (by decide +kernel))] at h
      split at h
      · rename_i q
        rcases q with rfl | rfl
        · exact n17 (by decide +kernel)
        · exact n18 (by decide +kernel)
      · simp only at h ho; omega
    | true =>
      have hst : stem s = s.take (s.length - 1) := by unfold stem; rw [hdg]; rfl
      have hsz : sizeN s = ((lastN s).toNat : Int) - 48 := by unfold sizeN; rw [hdg]; rfl
      rw [hdg] at hd
      have hM : opI (stem s) = 17 ∨ opI (stem s) = 18 := by simpa using hd
      unfold namI at hm
      have hA := mayM hm hM
      have hnm := (opI_inv (s := stem s) (by omega)).2.2
      have hs := take_last h0
      rw [← hst, ← hnm] at hs
      obtain ⟨p, hp⟩ : ∃ p : Fin 2, opI (stem s) = 17 + (p.val : Nat) := by
        rcases hM with e | e
        · exact ⟨0, e⟩
        · exact ⟨1, e⟩
      have hl : ∃ q : Fin 3, lastN s = (48 + 2 ^ q.val : Nat).toUInt8 := by
        rcases hA with e | e | e
        · exact ⟨0, UInt8.toNat_inj.1 (by rw [hsz] at e; show _ = 49; omega)⟩
        · exact ⟨1, UInt8.toNat_inj.1 (by rw [hsz] at e; show _ = 50; omega)⟩
        · exact ⟨2, UInt8.toNat_inj.1 (by rw [hsz] at e; show _ = 52; omega)⟩
      obtain ⟨q, hq⟩ := hl
      rw [hp, hq] at hs
      rw [hs] at h
      exact opW_six p q h
theorem valI_neg {s : List UInt8} {m : Int} (h : ¬ 0 ≤ numI s) : valI s m < 0 := by
  unfold valI
  split <;> omega
theorem valI_big {s : List UInt8} {m : Int} (h : m < numI s) : valI s m < 0 := by
  unfold valI
  rw [if_neg (by omega)]
  omega
theorem valI_is {s : List UInt8} {m : Int} (h : numI s ≤ m) : valI s m = numI s := by
  unfold valI
  rw [if_pos h]
theorem nv0 {s : List UInt8} {r : List (List UInt8)} (h : 0 ≤ numI s) : nv (s :: r) 0 = numI s := by unfold nv; simp [h]
theorem nv1 {s t : List UInt8} {r : List (List UInt8)} (h : 0 ≤ numI t) : nv (s :: t :: r) 1 = numI t := by unfold nv; simp [h]
/-- what stands behind a name: no label -/
theorem with_link (lb s : List UInt8) (r : List (List UInt8)) (h : (opW s).1 ≠ 0) (hr : r.length = want (opW s).1) (hj : ¬ (jumpsI (opW s).1 = true ∧ isLbl (r.getD 0 []) = true)) :
    oneI lb s r = if withB (namI s) r = true then (⟨lb, withI (namI s) r, []⟩, 0) else (av0, 42) := by
  obtain ⟨hB, hI, hct⟩ := nam_yes h
  unfold oneI
  rw [if_neg (by intro e; rcases e with e | e; exact h e; exact e hr)]
  unfold withB withI
  rw [hI]
  have hinv := opW_inv h
  have hmay : mayI ⟨(opW s).1, (opW s).2, 0, 0⟩ = true := by
    unfold namB at hB
    rw [Bool.and_eq_true, hI] at hB
    exact hB.1
  clear hI hct hB h
  generalize (opW s).1 = o at *
  generalize (opW s).2 = a at *
  have ho : 1 ≤ o ∧ o ≤ 27 := by omega
  by_cases hC : isC o = true
  · have hw := want_C hC
    rw [hw] at hr
    obtain ⟨t, rfl⟩ := len1 hr
    rw [if_neg (by omega), if_neg hj, if_pos (.inl hC)]
    have hcm : isCM o = true := by unfold isCM; unfold isC at hC; simp at hC ⊢; omega
    simp only [List.getD_cons_zero]
    by_cases hn : 0 ≤ numI t
    · have hg : goodWs [t] = true := by unfold goodWs; simpa using hn
      rw [valI_is (numI_top t), if_neg (by omega), hg, nv0 hn, if_pos rfl]
      unfold withV
      rw [if_pos hcm]
      have hm2 : mayI ⟨o, a, 0, numI t⟩ = true := by unfold mayI at hmay ⊢; simp only [hC, if_true] at hmay ⊢; exact hmay
      simp [hm2]
    · have hg : goodWs [t] = false := by unfold goodWs; simp; omega
      rw [if_pos (valI_neg hn), hg]
      rfl
  · by_cases hM : isM o = true
    · have hw := want_M hM
      rw [hw] at hr
      obtain ⟨t, rfl⟩ := len1 hr
      rw [if_neg (by omega), if_neg hj, if_pos (.inr hM)]
      have hcm : isCM o = true := by unfold isCM; unfold isM at hM; simp at hM ⊢; omega
      simp only [List.getD_cons_zero]
      by_cases hn : 0 ≤ numI t
      · have hg : goodWs [t] = true := by unfold goodWs; simpa using hn
        rw [valI_is (numI_top t), if_neg (by omega), hg, nv0 hn, if_pos rfl]
        unfold withV
        rw [if_pos hcm]
        have hm2 : mayI ⟨o, a, 0, numI t⟩ = true := by unfold mayI at hmay ⊢; simp only [hC, hM, if_true] at hmay ⊢; exact hmay
        simp [hm2]
      · have hg : goodWs [t] = false := by unfold goodWs; simp; omega
        rw [if_pos (valI_neg hn), hg]
        rfl
    · have hCM : ¬ (isC o = true ∨ isM o = true) := by rintro (e | e); exact hC e; exact hM e
      have hcm : ¬ isCM o = true := by unfold isCM; unfold isC at hC; unfold isM at hM; simp at hC hM ⊢; omega
      by_cases hA : isA o = true
      · have hw := want_A hA
        rw [hw] at hr ⊢
        obtain ⟨t, rfl⟩ := len1 hr
        have hAB : ¬ isAB o = true := by unfold isA at hA; unfold isAB; simp at hA ⊢; omega
        have ha0 : a = 0 := by unfold isA at hA; simp at hA; omega
        rw [if_neg (by omega), if_neg hj, if_neg hCM]
        simp only [List.getD_cons_zero]
        by_cases hn : 0 ≤ numI t
        · have hg : goodWs [t] = true := by unfold goodWs; simpa using hn
          rw [hg, nv0 hn]
          unfold withV
          rw [if_neg hcm, if_pos hA]
          simp only
          by_cases h15 : numI t ≤ 15
          · have hm2 : mayI ⟨o, min (numI t) 255, 0, 0⟩ = true := by unfold mayI; simp [hC, hM, hA, hAB]; omega
            rw [valI_is h15, hm2, if_neg (by omega)]
            rw [show min (numI t) 255 = numI t from by omega]
            simp
          · have hm2 : mayI ⟨o, min (numI t) 255, 0, 0⟩ = false := by unfold mayI; simp [hC, hM, hA, hAB]; omega
            rw [hm2, if_pos (.inl (valI_big (by omega)))]
            rfl
        · have hg : goodWs [t] = false := by unfold goodWs; simp; omega
          rw [if_pos (.inl (valI_neg hn)), hg]
          rfl
      · by_cases hAB : isAB o = true
        · have hw := want_AB hAB
          rw [hw] at hr ⊢
          obtain ⟨t, u, rfl⟩ := len2 hr
          have ha0 : a = 0 := by unfold isAB at hAB; simp at hAB; omega
          rw [if_neg (by omega), if_neg hj, if_neg hCM]
          simp only [List.getD_cons_zero, List.getD_cons_succ]
          by_cases hn : 0 ≤ numI t
          · by_cases hn2 : 0 ≤ numI u
            · have hg : goodWs [t, u] = true := by unfold goodWs; simp; exact ⟨hn, hn2⟩
              rw [hg, nv0 hn, nv1 hn2]
              unfold withV
              rw [if_neg hcm, if_neg hA, if_pos hAB]
              simp only
              by_cases h15 : numI t ≤ 15
              · by_cases h152 : numI u ≤ 15
                · have hm2 : mayI ⟨o, min (numI t) 255, min (numI u) 65535, 0⟩ = true := by unfold mayI; simp [hC, hM, hA, hAB]; omega
                  rw [valI_is h15, valI_is h152, hm2, if_neg (by omega)]
                  rw [show min (numI t) 255 = numI t from by omega, show min (numI u) 65535 = numI u from by omega]
                  simp
                · have hm2 : mayI ⟨o, min (numI t) 255, min (numI u) 65535, 0⟩ = false := by unfold mayI; simp [hC, hM, hA, hAB]; omega
                  rw [hm2, if_pos (.inr ⟨by trivial, valI_big (by omega)⟩)]
                  rfl
              · have hm2 : mayI ⟨o, min (numI t) 255, min (numI u) 65535, 0⟩ = false := by unfold mayI; simp [hC, hM, hA, hAB]; omega
                rw [hm2, if_pos (.inl (valI_big (by omega)))]
                rfl
            · have hg : goodWs [t, u] = false := by unfold goodWs; simp; omega
              rw [if_pos (.inr ⟨by trivial, valI_neg hn2⟩), hg]
              rfl
          · have hg : goodWs [t, u] = false := by unfold goodWs; simp; omega
            rw [if_pos (.inl (valI_neg hn)), hg]
            rfl
        · have hw := want_0 ho hC hM hA hAB
          rw [hw] at hr ⊢
          obtain rfl := List.length_eq_zero_iff.1 hr
          have hg : goodWs [] = true := rfl
          rw [if_pos rfl, hg, if_pos rfl]
          unfold withV
          rw [if_neg hcm, if_neg hA, if_neg hAB]
          simp [hmay]
/-- what stands behind a label, or at a line's head -/
theorem oneR_cons (lb s : List UInt8) (r : List (List UInt8)) (h0 : s ≠ []) :
    oneR lb (s :: r) = if namB s = false ∨ r.length ≠ (txt (namI s)).count 32 then (av0, 100)
      else if jumpsI (namI s).op = true ∧ isLbl (r.getD 0 []) = true then (⟨lb, namI s, r.getD 0 []⟩, 0)
      else if withB (namI s) r = true then (⟨lb, withI (namI s) r, []⟩, 0) else (av0, 42) := by
  rw [oneR]
  by_cases h : (opW s).1 = 0
  · rw [if_pos (.inl (nam_no h0 h))]
    unfold oneI
    rw [if_pos (.inl h)]
  · obtain ⟨hB, hI, hct⟩ := nam_yes h
    by_cases hr : r.length = want (opW s).1
    · rw [if_neg (by rintro (e | e); rw [hB] at e; exact absurd e (by decide); exact e (by rw [hct]; exact hr))]
      have ho : (namI s).op = (opW s).1 := by rw [hI]
      rw [ho]
      by_cases hj : jumpsI (opW s).1 = true ∧ isLbl (r.getD 0 []) = true
      · rw [if_pos hj]
        unfold oneI
        have hw : want (opW s).1 = 1 := want_C (by have := hj.1; unfold jumpsI at this; unfold isC; simp at this ⊢; omega)
        rw [if_neg (by rintro (e | e); exact h e; exact e hr), if_neg (by omega), if_pos hj, hI]
      · rw [if_neg hj]
        exact with_link lb s r h hr hj
    · rw [if_pos (.inr (by rw [hct]; exact hr))]
      unfold oneI
      rw [if_pos (.inr hr)]
end Asm
end Go.Proofs.YtgiocecpkhmhhaaGreatDoor
namespace Go.Proofs.YtgiocecpkhmhhaaGreatDoor
open Go.ChangeShapes Go.WideShapes Go.ChangeAt Go.RowKit
namespace Asm
open Isa
set_option linter.unusedVariables false
set_option linter.unusedSimpArgs false
def OneP (r : Av × Int) (w : World) (e : Ending) (w' : World) : Prop := e = .returned (.tuple #[avV r.1, .int .i64 r.2]) ∧ Below w.heap.size w w'
theorem namI_wf (s : List UInt8) : (namI s).wf := by
  have h := opI_bound (stem s)
  have h2 : 0 ≤ sizeN s ∧ sizeN s ≤ 255 := by
    unfold sizeN
    split
    · rename_i q; unfold dgtN at q; simp at q; omega
    · omega
  unfold namI
  exact ⟨by simp only; omega, by simp only; omega, by simp only; omega, by simp only; omega⟩
theorem nam_blanks {s : List UInt8} (h0 : s ≠ []) (h : namB s = true) : (txt (namI s)).count 32 ≤ 2 := by
  by_cases e : (opW s).1 = 0
  · rw [nam_no h0 e] at h; exact absurd h (by decide)
  · rw [(nam_yes e).2.2]
    unfold want
    split
    · omega
    · split <;> omega
theorem nam_jump {s : List UInt8} (h0 : s ≠ []) (h : namB s = true) (hj : jumpsI (namI s).op = true) : (txt (namI s)).count 32 = 1 := by
  by_cases e : (opW s).1 = 0
  · rw [nam_no h0 e] at h; exact absurd h (by decide)
  · obtain ⟨_, h2, h3⟩ := nam_yes e
    rw [h3]
    rw [h2] at hj
    exact want_C (by unfold jumpsI at hj; unfold isC; simp at hj ⊢; omega)
/-- the rest of a row of strings -/
def tailA (b off n c : Nat) : Option Addr := if n + 1 = c then (if c = 1 then some (⟨b, off, none⟩ : Addr) else some ⟨b, off + 1, none⟩) else some ⟨b, off + 1, none⟩
theorem tail_run (b off n c : Nat) (hn : n + 1 ≤ c) (hc : c ≤ 9223372036854775807) : ∀ W, (Instr.slice 48 (.slice (some ⟨b, off, none⟩) (n + 1) c) (some (.int .i64 1)) none none).run Tryz.prog W = .ok (.slice (tailA b off n c) n (c - 1)) W := fun W => by
  have hz := Tryz.sizeOf9 W
  rw [run_slice_l W 48 _ _ _ (by kernel_rfl) .i64 1 (by omega) (by omega), show Tryz.prog.elem 48 = 9 from by kernel_rfl, hz]
  simp only [Result.andThen, sliced, tailA]
  by_cases hc1 : c = 1
  · subst hc1
    have : n = 0 := by omega
    simp [this]
  · rw [if_neg (by omega)]
    split
    · simp [hc1, Addr.add]
    · simp [Addr.add]
theorem tail_row {w : World} {b off n c : Nat} {s : List UInt8} {r : List (List UInt8)} (h : SRow w (some ⟨b, off, none⟩) (n + 1) (s :: r)) (hn : n + 1 ≤ c) : SRow w (tailA b off n c) n r := by
  obtain ⟨h1, hro⟩ := h
  obtain ⟨bq, oq, eq, hce⟩ := hro.resolve_left (by omega)
  injection eq with eq
  injection eq with eq1 eq2
  subst eq1 eq2
  refine ⟨by simpa using h1, ?_⟩
  by_cases h0 : n = 0
  · exact .inl h0
  · right
    refine ⟨b, off + 1, by unfold tailA; split; rw [if_neg (by omega)]; rfl, fun j hj => ?_⟩
    have := hce (j + 1) (by omega)
    rw [List.getD_cons_succ] at this
    rw [← this]
    congr 2
    omega
theorem count_txt (l : List UInt8) (w : World) : Calls Tryz.prog 75 #[.string (sB l), .string ⟨#[32]⟩] w fun e w' => e = .returned (.int .i64 (l.count 32 : Nat)) ∧ w' = w := by
  have h := count_lib (sB l) 32 w
  exact h
theorem srow_cell {w : World} {b off n : Nat} {l : List (List UInt8)} (h : SRow w (some ⟨b, off, none⟩) n l) (k : Nat) (hk : k < n) : w.cell? ⟨b, off + k, none⟩ = some (.string (sB (l.getD k []))) := by
  obtain ⟨b', o', e, hc⟩ := srow_at h k hk
  injection e with e
  injection e with e1 e2
  subst e1 e2
  exact hc
theorem oth4 {W : World} {V R : Nat} {x : Option Obj} (h : W.heap[V]? = x) (hne : V ≠ R) (v0 v1 v2 v3 : Value) : ((((W.setCell ⟨R, 0, none⟩ v0).setCell ⟨R, 1, none⟩ v1).setCell ⟨R, 2, none⟩ v2).setCell ⟨R, 3, none⟩ v3).heap[V]? = x := by
  rw [Below.heap_setCell _ _ _ _ hne, Below.heap_setCell _ _ _ _ hne, Below.heap_setCell _ _ _ _ hne, Below.heap_setCell _ _ _ _ hne, h]
theorem frozen_at {W : World} {R : Nat} {cs : Array Value} {t : TypeId} (h : W.heap[R]? = some (.cells cs t (0, 0))) (k : Nat) : W.frozen? ⟨R, k, none⟩ = false := by simp [World.frozen?, h]
theorem ret6 {W : World} {R : Nat} {u0 u1 u2 u3 u4 u5 : Value} {t : TypeId} (h : W.heap[R]? = some (.cells #[u0, u1, u2, u3, u4, u5] t (0, 0))) (v0 v1 v2 v3 v4 v5 : Value) :
    ((((((W.setCell ⟨R, 0, none⟩ v0).setCell ⟨R, 1, none⟩ v1).setCell ⟨R, 2, none⟩ v2).setCell ⟨R, 3, none⟩ v3).setCell ⟨R, 4, none⟩ v4).setCell ⟨R, 5, none⟩ v5).heap[R]? = some (.cells #[v0, v1, v2, v3, v4, v5] t (0, 0)) := by
  rw [heap_setCell_own _ _ _ _ _ _ (heap_setCell_own _ _ _ _ _ _ (heap_setCell_own _ _ _ _ _ _ (heap_setCell_own _ _ _ _ _ _ (heap_setCell_own _ _ _ _ _ _ (heap_setCell_own _ _ _ _ _ _ h)))))]
  rfl
theorem ek_store6 {R : Nat} {X : World} {u0 u1 u2 u3 u4 u5 v0 v1 v2 v3 v4 v5 : Value} {t : TypeId} (h : X.heap[R]? = some (.cells #[u0, u1, u2, u3, u4, u5] t (0, 0))) :
    EK R (.cells #[v0, v1, v2, v3, v4, v5] t (0, 0)) X ((((((X.setCell ⟨R, 0, none⟩ v0).setCell ⟨R, 1, none⟩ v1).setCell ⟨R, 2, none⟩ v2).setCell ⟨R, 3, none⟩ v3).setCell ⟨R, 4, none⟩ v4).setCell ⟨R, 5, none⟩ v5) ∧
    ((((((X.setCell ⟨R, 0, none⟩ v0).setCell ⟨R, 1, none⟩ v1).setCell ⟨R, 2, none⟩ v2).setCell ⟨R, 3, none⟩ v3).setCell ⟨R, 4, none⟩ v4).setCell ⟨R, 5, none⟩ v5).heap[R]? = some (.cells #[v0, v1, v2, v3, v4, v5] t (0, 0)) := by
  have hz := ret6 h v0 v1 v2 v3 v4 v5
  refine ⟨⟨by simp only [World.setCell], by simp only [World.setCell], by simp only [World.setCell], by simp [World.setCell], fun k hk hne => ?_, fun _ => .inr hz⟩, hz⟩
  rw [Below.heap_setCell _ _ _ _ hne, Below.heap_setCell _ _ _ _ hne, Below.heap_setCell _ _ _ _ hne, Below.heap_setCell _ _ _ _ hne, Below.heap_setCell _ _ _ _ hne, Below.heap_setCell _ _ _ _ hne]
theorem bel6 {B : Nat} {a W : World} (h : Below B a W) {R : Nat} (hR : B ≤ R) (v0 v1 v2 v3 v4 v5 : Value) : Below B a ((((((W.setCell ⟨R, 0, none⟩ v0).setCell ⟨R, 1, none⟩ v1).setCell ⟨R, 2, none⟩ v2).setCell ⟨R, 3, none⟩ v3).setCell ⟨R, 4, none⟩ v4).setCell ⟨R, 5, none⟩ v5) :=
  (((((h.setCell (p := ⟨R, 0, none⟩) hR v0).setCell (p := ⟨R, 1, none⟩) hR v1).setCell (p := ⟨R, 2, none⟩) hR v2).setCell (p := ⟨R, 3, none⟩) hR v3).setCell (p := ⟨R, 4, none⟩) hR v4).setCell (p := ⟨R, 5, none⟩) hR v5
set_option maxRecDepth 100000 in
set_option maxHeartbeats 12800000 in
theorem behind_any (lb : List UInt8) (l : List (List UInt8)) (a : Option Addr) (n c : Nat) (hn : n ≤ c) (hc : c ≤ 9223372036854775807) (hgood : ∀ s ∈ l, s ≠ []) (hlen : ∀ s ∈ l, s.length ≤ 1000000000) (w : World) (hT : TT w) (h : SRow w a n l) :
    Calls Tryz.prog 72 #[.string (sB lb), .slice a n c] w (OneP (oneR lb l) w) := by
  obtain ⟨O, hO⟩ : ∃ O, O = (.cells #[.string ⟨#[]⟩, .int .u8 0, .int .u8 0, .int .u16 0, .int .u32 0, .string ⟨#[]⟩] 34 : Obj) := ⟨_, rfl⟩
  have hb0 := (Below.refl w.heap.size w).alloc (Nat.le_refl _) O
  have hr0 := alloc_new w O
  rw [hO] at hr0 hb0
  have HB0 := Lib.hid hb0
  have HR0 := Lib.hid hr0
  clear hO hb0 hr0
  cases l with
  | nil =>
    obtain rfl : 0 = n := h.1
    have HP : Hid (∀ w', Below w.heap.size w w' → OneP (oneR lb []) w (.returned (.tuple #[.agg #[.string ⟨#[]⟩, .int .u8 0, .int .u8 0, .int .u16 0, .int .u32 0, .string ⟨#[]⟩], .int .i64 100])) w') := fun w' hb => ⟨rfl, hb⟩
    go_enter Tryz.func72, Tryz.ntmps72
    go_wp2_with fail
    obtain ⟨d0, d1, d2, d3, d4, d5⟩ := cells6 HR0.out
    refine bodyPost_ret (v := .tuple #[.agg #[.string ⟨#[]⟩, .int .u8 0, .int .u8 0, .int .u16 0, .int .u32 0, .string ⟨#[]⟩], .int .i64 100]) (by simp [results, Tryz.f72, go_sem, d0, d1, d2, d3, d4, d5]) rfl ?_
    exact HP.out _ HB0.out
  | cons s0 r =>
    have hln : r.length + 1 = n := h.1
    subst hln
    have h0 : s0 ≠ [] := hgood s0 (by simp)
    have hl0 : s0.length ≤ 1000000000 := hlen s0 (by simp)
    have hgr : ∀ s ∈ r, s.length ≤ 1000000000 := fun s hs => hlen s (by simp [hs])
    obtain ⟨b0, off0, rfl, _⟩ := srow_at h 0 (by omega)
    have hc0 := srow_cell (h.below HB0.out (Nat.le_refl _)) 0 (by omega)
    rw [List.getD_cons_zero, Nat.add_zero] at hc0
    have HTail := Lib.hid (fun W (hb : Below w.heap.size w W) => tail_row (h.below hb (Nat.le_refl _)) hn)
    have HTT := Lib.hid (fun W (hb : Below w.heap.size w W) => hT.below hb (Nat.le_refl _))
    have HNm := Lib.hid (fun W (hb : Below w.heap.size w W) => named_any s0 h0 hl0 W (hT.below hb (Nat.le_refl _)).tabs)
    have htl := tail_run b0 off0 r.length c hn hc
    have HOne := Lib.hid (oneR_cons lb s0 r h0)
    have HBk := Lib.hid (nam_blanks h0)
    have HJ1 := Lib.hid (nam_jump h0)
    have HIw := Lib.hid (namI_wf s0)
    have HLen := Lib.hid hgr
    unfold NamedP iv at HNm
    clear h hgood hlen hT hgr h0 hl0
    generalize namI s0 = i at *
    generalize namB s0 = B at *
    generalize tailA b0 off0 r.length c = A at *
    generalize sB s0 = S0 at *
    obtain ⟨o, ia, ib, ic⟩ := i
    simp only at *
    have HTx := Lib.hid (fun W (hb : Below w.heap.size w W) => text_any ⟨o, ia, ib, ic⟩ HIw.out W (HTT.out W hb).tabs)
    have HJp := Lib.hid (fun W (hb : Below w.heap.size w W) => jumps_any o HIw.out.op.1 HIw.out.op.2 W (HTT.out W hb).tabs)
    unfold iv at HTx
    have HCt := Lib.hid (fun W => count_txt (txt ⟨o, ia, ib, ic⟩) W)
    generalize sB (txt ⟨o, ia, ib, ic⟩) = TX at *
    generalize hK : (txt ⟨o, ia, ib, ic⟩).count 32 = K at *
    clear hK
    have hlz : ((r.length : Int) + 1 == 0) = false := beq_eq_false_iff_ne.2 (by omega)
    cases B with
    | false =>
      skip
      have HP : Hid (∀ w', Below w.heap.size w w' → OneP (oneR lb (s0 :: r)) w (.returned (.tuple #[.agg #[.string ⟨#[]⟩, .int .u8 0, .int .u8 0, .int .u16 0, .int .u32 0, .string ⟨#[]⟩], .int .i64 100])) w') := fun w' hb => ⟨by rw [HOne.out, if_pos (.inl rfl)]; rfl, hb⟩
      clear HOne
      go_enter Tryz.func72, Tryz.ntmps72
      go_wp2_with fail
      refine (HNm.out _ HB0.out).mono ?_
      rintro e w2 ⟨rfl, hb2⟩
      have hB2 := HB0.out.trans (hb2.mono HB0.out.size)
      have hr2 := (hb2.block _ (lt_of_block HR0.out)).trans HR0.out
      have hV := lt_of_block hr2
      have h6 := alloc_new w2 (.cells #[.int .u8 o, .int .u8 ia, .int .u16 ib, .int .u32 ic] 32)
      have hB3 := hB2.alloc hB2.size (.cells #[.int .u8 o, .int .u8 ia, .int .u16 ib, .int .u32 ic] 32)
      have hr3 := (((Below.refl w2.heap.size w2).alloc (Nat.le_refl _) (.cells #[.int .u8 o, .int .u8 ia, .int .u16 ib, .int .u32 ic] 32)).block _ hV).trans hr2
      have HB3 := Lib.hid hB3
      have HR3 := Lib.hid hr3
      have H6 := Lib.hid h6
      have HVV := Lib.hid hV
      clear hb2 hB2 hr2 h6 hB3 hr3 HNm HB0 HR0 hc0
      go_upto_region 4 with fail
      generalize w2.heap.size = V6 at *
      generalize w2.alloc (.cells #[.int .u8 o, .int .u8 ia, .int .u16 ib, .int .u32 ic] 32) = X3 at *
      obtain ⟨V0, hV0⟩ : ∃ V0, V0 = w.heap.size := ⟨_, rfl⟩
      rw [← hV0] at HR3 hV HVV ⊢
      have HV0 : Hid (w.heap.size ≤ V0) := Nat.le_of_eq hV0.symm
      clear hV0
      obtain ⟨z0, z1, z2, z3, z4, z5⟩ := cells6 (HR3.out)
      have hf := fun j => frozen_at (HR3.out) j
      go_wp2_with (simp only [hf])
      obtain ⟨d0, d1, d2, d3, d4, d5⟩ := cells6 (ret6 HR3.out (.string ⟨#[]⟩) (.int .u8 0) (.int .u8 0) (.int .u16 0) (.int .u32 0) (.string ⟨#[]⟩))
      refine bodyPost_ret (v := .tuple #[.agg #[.string ⟨#[]⟩, .int .u8 0, .int .u8 0, .int .u16 0, .int .u32 0, .string ⟨#[]⟩], .int .i64 100]) (by simp [results, Tryz.f72, go_sem, d0, d1, d2, d3, d4, d5]) rfl ?_
      exact HP.out _ (bel6 (HB3.out) HV0.out (.string ⟨#[]⟩) (.int .u8 0) (.int .u8 0) (.int .u16 0) (.int .u32 0) (.string ⟨#[]⟩))
    | true =>
      by_cases hrk : r.length ≠ K
      · skip
        have HP : Hid (∀ w', Below w.heap.size w w' → OneP (oneR lb (s0 :: r)) w (.returned (.tuple #[.agg #[.string ⟨#[]⟩, .int .u8 0, .int .u8 0, .int .u16 0, .int .u32 0, .string ⟨#[]⟩], .int .i64 100])) w') := fun w' hb => ⟨by rw [HOne.out, if_pos (.inr hrk)]; rfl, hb⟩
        clear HOne
        have hne : ((r.length : Int) == (K : Int)) = false := beq_eq_false_iff_ne.2 (by omega)
        have hnz : ((r.length : Int) != (K : Int)) = true := bne_iff_ne.2 (by omega)
        clear hrk
        go_enter Tryz.func72, Tryz.ntmps72
        go_wp2_with fail
        refine (HNm.out _ HB0.out).mono ?_
        rintro e w2 ⟨rfl, hb2⟩
        have hB2 := HB0.out.trans (hb2.mono HB0.out.size)
        have hr2 := (hb2.block _ (lt_of_block HR0.out)).trans HR0.out
        have hV := lt_of_block hr2
        have h6 := alloc_new w2 (.cells #[.int .u8 o, .int .u8 ia, .int .u16 ib, .int .u32 ic] 32)
        have hB3 := hB2.alloc hB2.size (.cells #[.int .u8 o, .int .u8 ia, .int .u16 ib, .int .u32 ic] 32)
        have hr3 := (((Below.refl w2.heap.size w2).alloc (Nat.le_refl _) (.cells #[.int .u8 o, .int .u8 ia, .int .u16 ib, .int .u32 ic] 32)).block _ hV).trans hr2
        have HB3 := Lib.hid hB3
        have HR3 := Lib.hid hr3
        have H6 := Lib.hid h6
        have HVV := Lib.hid hV
        obtain ⟨c0, c1, c2, c3⟩ := cells4' h6
        clear hb2 hB2 hr2 h6 hB3 hr3 HNm HB0 HR0 hc0
        go_upto_region 4 with fail
        generalize w2.heap.size = V6 at *
        generalize w2.alloc (.cells #[.int .u8 o, .int .u8 ia, .int .u16 ib, .int .u32 ic] 32) = X3 at *
        obtain ⟨V0, hV0⟩ : ∃ V0, V0 = w.heap.size := ⟨_, rfl⟩
        rw [← hV0] at HR3 hV HVV ⊢
        have HV0 : Hid (w.heap.size ≤ V0) := Nat.le_of_eq hV0.symm
        clear hV0
        go_wp2_with fail
        refine (HTx.out _ HB3.out).mono ?_
        rintro e w4 ⟨rfl, hb4⟩
        have HB4 := Lib.hid (HB3.out.trans (hb4.mono HB3.out.size))
        have hr4 := (hb4.block _ (lt_of_block HR3.out)).trans HR3.out
        have h64 := (hb4.block _ (lt_of_block H6.out)).trans H6.out
        have HR4 := Lib.hid hr4
        have H64 := Lib.hid h64
        obtain ⟨c0, c1, c2, c3⟩ := cells4' h64
        clear hb4 hr4 h64 HB3 HR3 H6 HTx
        go_wp2_with fail
        refine (HCt.out _).mono ?_
        rintro e w5 ⟨rfl, hw5⟩
        subst w5
        clear HCt
        obtain ⟨z0, z1, z2, z3, z4, z5⟩ := cells6 (HR4.out)
        have hf := fun j => frozen_at (HR4.out) j
        go_wp2_with (simp only [hf])
        obtain ⟨d0, d1, d2, d3, d4, d5⟩ := cells6 (ret6 HR4.out (.string ⟨#[]⟩) (.int .u8 0) (.int .u8 0) (.int .u16 0) (.int .u32 0) (.string ⟨#[]⟩))
        refine bodyPost_ret (v := .tuple #[.agg #[.string ⟨#[]⟩, .int .u8 0, .int .u8 0, .int .u16 0, .int .u32 0, .string ⟨#[]⟩], .int .i64 100]) (by simp [results, Tryz.f72, go_sem, d0, d1, d2, d3, d4, d5]) rfl ?_
        exact HP.out _ (bel6 (HB4.out) HV0.out (.string ⟨#[]⟩) (.int .u8 0) (.int .u8 0) (.int .u16 0) (.int .u32 0) (.string ⟨#[]⟩))
      · obtain rfl : r.length = K := by omega
        have hk2 := HBk.out rfl
        have HOne2 : Hid (oneR lb (s0 :: r) = if jumpsI o = true ∧ isLbl (r.getD 0 []) = true then (⟨lb, ⟨o, ia, ib, ic⟩, r.getD 0 []⟩, 0) else if withB ⟨o, ia, ib, ic⟩ r = true then (⟨lb, withI ⟨o, ia, ib, ic⟩ r, []⟩, 0) else (av0, 42)) := by
          show _ = _
          rw [HOne.out, if_neg (by rintro (e | e); exact absurd e (by decide); exact e rfl)]
        have HJ2 := Lib.hid (HJ1.out rfl)
        clear HBk hrk HOne HJ1
        generalize jumpsI o = J at *
        cases J with
        | false =>
          skip
          have HOne3 : Hid (oneR lb (s0 :: r) = if withB ⟨o, ia, ib, ic⟩ r = true then (⟨lb, withI ⟨o, ia, ib, ic⟩ r, []⟩, 0) else (av0, 42)) := by
            show _ = _
            rw [HOne2.out, if_neg (by rintro ⟨e, _⟩; exact absurd e (by decide))]
          clear HOne2 HJ2
          have HOne := HOne3
          clear HOne3
          have HWt := Lib.hid (fun W (hb : Below w.heap.size w W) => with_any ⟨o, ia, ib, ic⟩ HIw.out r A r.length (c - 1) hk2 HLen.out W (HTT.out W hb) (HTail.out W hb))
          unfold WithP iv at HWt
          generalize withI ⟨o, ia, ib, ic⟩ r = jj at *
          generalize withB ⟨o, ia, ib, ic⟩ r = D at *
          obtain ⟨jo, ja, jb, jc⟩ := jj
          simp only at HWt HOne
          go_enter Tryz.func72, Tryz.ntmps72
          go_wp2_with fail
          refine (HNm.out _ HB0.out).mono ?_
          rintro e w2 ⟨rfl, hb2⟩
          have hB2 := HB0.out.trans (hb2.mono HB0.out.size)
          have hr2 := (hb2.block _ (lt_of_block HR0.out)).trans HR0.out
          have hV := lt_of_block hr2
          have h6 := alloc_new w2 (.cells #[.int .u8 o, .int .u8 ia, .int .u16 ib, .int .u32 ic] 32)
          have hB3 := hB2.alloc hB2.size (.cells #[.int .u8 o, .int .u8 ia, .int .u16 ib, .int .u32 ic] 32)
          have hr3 := (((Below.refl w2.heap.size w2).alloc (Nat.le_refl _) (.cells #[.int .u8 o, .int .u8 ia, .int .u16 ib, .int .u32 ic] 32)).block _ hV).trans hr2
          have HB3 := Lib.hid hB3
          have HR3 := Lib.hid hr3
          have H6 := Lib.hid h6
          have HVV := Lib.hid hV
          obtain ⟨c0, c1, c2, c3⟩ := cells4' h6
          clear hb2 hB2 hr2 h6 hB3 hr3 HNm HB0 HR0 hc0
          go_upto_region 4 with fail
          generalize w2.heap.size = V6 at *
          generalize w2.alloc (.cells #[.int .u8 o, .int .u8 ia, .int .u16 ib, .int .u32 ic] 32) = X3 at *
          obtain ⟨V0, hV0⟩ : ∃ V0, V0 = w.heap.size := ⟨_, rfl⟩
          rw [← hV0] at HR3 hV HVV ⊢
          have HV0 : Hid (w.heap.size ≤ V0) := Nat.le_of_eq hV0.symm
          clear hV0
          go_wp2_with fail
          refine (HTx.out _ HB3.out).mono ?_
          rintro e w4 ⟨rfl, hb4⟩
          have HB4 := Lib.hid (HB3.out.trans (hb4.mono HB3.out.size))
          have hr4 := (hb4.block _ (lt_of_block HR3.out)).trans HR3.out
          have h64 := (hb4.block _ (lt_of_block H6.out)).trans H6.out
          have HR4 := Lib.hid hr4
          have H64 := Lib.hid h64
          obtain ⟨c0, c1, c2, c3⟩ := cells4' h64
          clear hb4 hr4 h64 HB3 HR3 H6 HTx
          go_wp2_with fail
          refine (HCt.out _).mono ?_
          rintro e w5 ⟨rfl, hw5⟩
          subst w5
          clear HCt
          go_wp2_with fail
          refine (HJp.out _ HB4.out).mono ?_
          rintro e w6 ⟨rfl, hb6⟩
          have HB6 := Lib.hid (HB4.out.trans (hb6.mono HB4.out.size))
          have hr6 := (hb6.block _ (lt_of_block HR4.out)).trans HR4.out
          have h66 := (hb6.block _ (lt_of_block H64.out)).trans H64.out
          have HR6 := Lib.hid hr6
          have H66 := Lib.hid h66
          obtain ⟨c0, c1, c2, c3⟩ := cells4' h66
          clear hb6 hr6 h66 HB4 HR4 H64 HJp
          go_wp2_with fail
          refine (HWt.out _ HB6.out).mono ?_
          rintro e w8 ⟨rfl, hb8⟩
          have hB8 := HB6.out.trans (hb8.mono HB6.out.size)
          have hr8 := (hb8.block _ (lt_of_block HR6.out)).trans HR6.out
          have h68 := (hb8.block _ (lt_of_block H66.out)).trans H66.out
          obtain ⟨c0, c1, c2, c3⟩ := cells4' h68
          have hf6 := fun j => frozen_at h68 j
          have hB9 := bel4 hB8 (R := V6) (Nat.le_of_lt (Nat.lt_of_le_of_lt HV0.out HVV.out)) (.int .u8 jo) (.int .u8 ja) (.int .u16 jb) (.int .u32 jc)
          have h69 := ret4 h68 (.int .u8 jo) (.int .u8 ja) (.int .u16 jb) (.int .u32 jc)
          have hr9 := oth4 hr8 (R := V6) (Nat.ne_of_lt HVV.out) (.int .u8 jo) (.int .u8 ja) (.int .u16 jb) (.int .u32 jc)
          have HB9 := Lib.hid hB9
          have H69 := Lib.hid h69
          have HR9 := Lib.hid hr9
          clear hb8 hB8 hr8 h68 hB9 h69 hr9 HB6 HR6 H66 HWt
          go_upto_region 10 with (simp only [hf6])
          clear c0 c1 c2 c3 hf6
          generalize (((w8.setCell ⟨V6, 0, none⟩ (.int .u8 jo)).setCell ⟨V6, 1, none⟩ (.int .u8 ja)).setCell ⟨V6, 2, none⟩ (.int .u16 jb)).setCell ⟨V6, 3, none⟩ (.int .u32 jc) = X9 at *
          obtain ⟨c0, c1, c2, c3⟩ := cells4' H69.out
          cases D with
          | false =>
            have HP : Hid (∀ w', Below w.heap.size w w' → OneP (oneR lb (s0 :: r)) w (.returned (.tuple #[.agg #[.string ⟨#[]⟩, .int .u8 0, .int .u8 0, .int .u16 0, .int .u32 0, .string ⟨#[]⟩], .int .i64 42])) w') := fun w' hb => ⟨by rw [HOne.out]; rfl, hb⟩
            clear HOne
            obtain ⟨z0, z1, z2, z3, z4, z5⟩ := cells6 (HR9.out)
            have hf := fun j => frozen_at (HR9.out) j
            go_wp2_with (simp only [hf])
            obtain ⟨d0, d1, d2, d3, d4, d5⟩ := cells6 (ret6 HR9.out (.string ⟨#[]⟩) (.int .u8 0) (.int .u8 0) (.int .u16 0) (.int .u32 0) (.string ⟨#[]⟩))
            refine bodyPost_ret (v := .tuple #[.agg #[.string ⟨#[]⟩, .int .u8 0, .int .u8 0, .int .u16 0, .int .u32 0, .string ⟨#[]⟩], .int .i64 42]) (by simp [results, Tryz.f72, go_sem, d0, d1, d2, d3, d4, d5]) rfl ?_
            exact HP.out _ (bel6 (HB9.out) HV0.out (.string ⟨#[]⟩) (.int .u8 0) (.int .u8 0) (.int .u16 0) (.int .u32 0) (.string ⟨#[]⟩))
          | true =>
            have HP : Hid (∀ w', Below w.heap.size w w' → OneP (oneR lb (s0 :: r)) w (.returned (.tuple #[.agg #[.string (sB lb), .int .u8 jo, .int .u8 ja, .int .u16 jb, .int .u32 jc, .string ⟨#[]⟩], .int .i64 0])) w') := fun w' hb => ⟨by rw [HOne.out]; rfl, hb⟩
            clear HOne
            generalize sB lb = LB at *
            obtain ⟨z0, z1, z2, z3, z4, z5⟩ := cells6 (HR9.out)
            have hf := fun j => frozen_at (HR9.out) j
            go_wp2_with (simp only [hf])
            obtain ⟨d0, d1, d2, d3, d4, d5⟩ := cells6 (ret6 HR9.out (.string LB) (.int .u8 jo) (.int .u8 ja) (.int .u16 jb) (.int .u32 jc) (.string ⟨#[]⟩))
            refine bodyPost_ret (v := .tuple #[.agg #[.string LB, .int .u8 jo, .int .u8 ja, .int .u16 jb, .int .u32 jc, .string ⟨#[]⟩], .int .i64 0]) (by simp [results, Tryz.f72, go_sem, d0, d1, d2, d3, d4, d5]) rfl ?_
            exact HP.out _ (bel6 (HB9.out) HV0.out (.string LB) (.int .u8 jo) (.int .u8 ja) (.int .u16 jb) (.int .u32 jc) (.string ⟨#[]⟩))
        | true =>
          have hr1 : r.length = 1 := HJ2.out rfl
          have hlr : decide ((0 : Int) < (r.length : Int)) = true := decide_eq_true (by omega)
          have hsl : (r.getD 0 []).length ≤ 9223372036854775807 := by have := HLen.out (r.getD 0 []) (getD_mem _ (show 0 < r.length by omega)); omega
          have HLb := Lib.hid (fun W => islabel_any (r.getD 0 []) hsl W)
          obtain ⟨b1, off1, rfl, hcw⟩ := srow_at (HTail.out w (Below.refl _ _)) 0 (by omega)
          have HTd := Lib.hid (fun W (hb : Below w.heap.size w W) => srow_cell (HTail.out W hb) 0 (by omega))
          have hb1 := World.block_lt_of_cell? _ _ hcw
          simp only at hb1
          have HB1 := Lib.hid hb1
          have HR1 := Lib.hid hr1
          clear hsl hcw hr1 hb1 HJ2
          by_cases hlb : isLbl (r.getD 0 []) = true
          · have HP : Hid (∀ w', Below w.heap.size w w' → OneP (oneR lb (s0 :: r)) w (.returned (.tuple #[.agg #[.string (sB lb), .int .u8 o, .int .u8 ia, .int .u16 ib, .int .u32 ic, .string (sB (r.getD 0 []))], .int .i64 0])) w') := fun w' hb => ⟨by rw [HOne2.out, if_pos ⟨rfl, hlb⟩]; rfl, hb⟩
            rw [hlb] at HLb
            clear hlb HOne2
            generalize sB (r.getD 0 []) = S1 at *
            generalize sB lb = LB at *
            go_enter Tryz.func72, Tryz.ntmps72
            go_wp2_with fail
            refine (HNm.out _ HB0.out).mono ?_
            rintro e w2 ⟨rfl, hb2⟩
            have hB2 := HB0.out.trans (hb2.mono HB0.out.size)
            have hr2 := (hb2.block _ (lt_of_block HR0.out)).trans HR0.out
            have hV := lt_of_block hr2
            have h6 := alloc_new w2 (.cells #[.int .u8 o, .int .u8 ia, .int .u16 ib, .int .u32 ic] 32)
            have hB3 := hB2.alloc hB2.size (.cells #[.int .u8 o, .int .u8 ia, .int .u16 ib, .int .u32 ic] 32)
            have hr3 := (((Below.refl w2.heap.size w2).alloc (Nat.le_refl _) (.cells #[.int .u8 o, .int .u8 ia, .int .u16 ib, .int .u32 ic] 32)).block _ hV).trans hr2
            have HB3 := Lib.hid hB3
            have HR3 := Lib.hid hr3
            have H6 := Lib.hid h6
            have HVV := Lib.hid hV
            obtain ⟨c0, c1, c2, c3⟩ := cells4' h6
            clear hb2 hB2 hr2 h6 hB3 hr3 HNm HB0 HR0 hc0
            go_upto_region 4 with fail
            generalize w2.heap.size = V6 at *
            generalize w2.alloc (.cells #[.int .u8 o, .int .u8 ia, .int .u16 ib, .int .u32 ic] 32) = X3 at *
            obtain ⟨V0, hV0⟩ : ∃ V0, V0 = w.heap.size := ⟨_, rfl⟩
            rw [← hV0] at HR3 hV HVV ⊢
            have HV0 : Hid (w.heap.size ≤ V0) := Nat.le_of_eq hV0.symm
            clear hV0
            go_wp2_with fail
            refine (HTx.out _ HB3.out).mono ?_
            rintro e w4 ⟨rfl, hb4⟩
            have HB4 := Lib.hid (HB3.out.trans (hb4.mono HB3.out.size))
            have hr4 := (hb4.block _ (lt_of_block HR3.out)).trans HR3.out
            have h64 := (hb4.block _ (lt_of_block H6.out)).trans H6.out
            have HR4 := Lib.hid hr4
            have H64 := Lib.hid h64
            obtain ⟨c0, c1, c2, c3⟩ := cells4' h64
            clear hb4 hr4 h64 HB3 HR3 H6 HTx
            go_wp2_with fail
            refine (HCt.out _).mono ?_
            rintro e w5 ⟨rfl, hw5⟩
            subst w5
            clear HCt
            go_wp2_with fail
            refine (HJp.out _ HB4.out).mono ?_
            rintro e w6 ⟨rfl, hb6⟩
            have HB6 := Lib.hid (HB4.out.trans (hb6.mono HB4.out.size))
            have hr6 := (hb6.block _ (lt_of_block HR4.out)).trans HR4.out
            have h66 := (hb6.block _ (lt_of_block H64.out)).trans H64.out
            have HR6 := Lib.hid hr6
            have H66 := Lib.hid h66
            obtain ⟨c0, c1, c2, c3⟩ := cells4' h66
            clear hb6 hr6 h66 HB4 HR4 H64 HJp
            have hd0 := HTd.out _ HB6.out
            rw [Nat.add_zero] at hd0
            have HD0 := Lib.hid hd0
            have hlr2 : (0 : Int) < (r.length : Int) := by have := HR1.out; omega
            have hlr3 : 0 < r.length := by have := HR1.out; omega
            go_wp2_with fail
            refine (HLb.out _).mono ?_
            rintro e w7 ⟨rfl, hw7⟩
            subst w7
            clear hd0 c0 c1 c2 c3
            have HBl : Hid (b1 < w6.heap.size ∧ b1 ≠ V0) := ⟨Nat.lt_of_lt_of_le HB1.out HB6.out.size, Nat.ne_of_lt (Nat.lt_of_lt_of_le HB1.out HV0.out)⟩
            have hE := ek_rel V0 (.cells #[.string LB, .int .u8 o, .int .u8 ia, .int .u16 ib, .int .u32 ic, .string S1] 34 (0, 0))
            have hES : Posts.Stable (EK V0 (.cells #[.string LB, .int .u8 o, .int .u8 ia, .int .u16 ib, .int .u32 ic, .string S1] 34 (0, 0))) (fun _ X => V0 < X.heap.size ∧ X.heap[V0]? = some (.cells #[.string LB, .int .u8 o, .int .u8 ia, .int .u16 ib, .int .u32 ic, .string S1] 34 (0, 0))) := EK.stable
            go_upto_region 8 with fail
            rw [HR1.out]
            refine (wpIn_wide (n := 0)).1 (Posts.wpIn_region_tail hE 7 0 (Posts.At [Posts.is (.string LB), Posts.is (.agg #[.int .u8 o, .int .u8 ia, .int .u16 ib, .int .u32 ic]), Posts.is (.slice (some ⟨b1, off1, none⟩) 1 (c - 1)), Posts.is (.pointer (some ⟨b1, off1, none⟩)), Posts.is (.string S1), Posts.is (.agg #[.string LB, .int .u8 o, .int .u8 ia, .int .u16 ib, .int .u32 ic, .string S1]), (fun _ X => V0 < X.heap.size ∧ X.heap[V0]? = some (.cells #[.string LB, .int .u8 o, .int .u8 ia, .int .u16 ib, .int .u32 ic, .string S1] 34 (0, 0)))]) (fun _ _ => True) (by kernel_rfl) (by decide) (by kernel_rfl) (by kernel_rfl) (by kernel_rfl)
              (Posts.stable_at _ (by repeat' (first | exact trivial | (refine And.intro ?_ ?_) | exact Posts.is_stable _ | exact Posts.on_stable _ _ | assumption))) trivial ?_ ?_)
            · refine ⟨?_, ?_, ?_, ?_, ?_, ?_, ?_, trivial⟩
              · intro a X hX hS hD hJ hU
                obtain ⟨y0, y1, y2, y3⟩ := cells4' ((hX.block V6 (lt_of_block H66.out) (Nat.ne_of_gt HVV.out)).trans H66.out)
                have yd := (World.cell?_of_block (a := ⟨b1, off1, none⟩) (hX.block b1 HBl.out.1 HBl.out.2)).trans HD0.out
                have d0 := Posts.slot (show a.eval (.tmp 0) = .string LB from hS.other 0 rfl)
                exact Posts.op_value (fun _ => trivial) rfl rfl (by intro c h; cases h) rfl (by rw [hS.size]; simp) (v := .string LB) (by simp [execOp, d0,  go_sem]) rfl (hE.refl _) trivial
              · intro a X hX hS hD hJ hU
                obtain ⟨y0, y1, y2, y3⟩ := cells4' ((hX.block V6 (lt_of_block H66.out) (Nat.ne_of_gt HVV.out)).trans H66.out)
                have yd := (World.cell?_of_block (a := ⟨b1, off1, none⟩) (hX.block b1 HBl.out.1 HBl.out.2)).trans HD0.out
                have d6 := Posts.slot (show a.eval (.tmp 6) = .pointer (some ⟨V6, 0, none⟩) from hS.other 6 rfl)
                exact Posts.op_value (fun _ => trivial) rfl rfl (by intro c h; cases h) rfl (by rw [hS.size]; simp) (v := .agg #[.int .u8 o, .int .u8 ia, .int .u16 ib, .int .u32 ic]) (by simp [execOp, d6, y0, y1, y2, y3, go_sem]) rfl (hE.refl _) trivial
              · intro a X hX hS hD hJ hU
                obtain ⟨y0, y1, y2, y3⟩ := cells4' ((hX.block V6 (lt_of_block H66.out) (Nat.ne_of_gt HVV.out)).trans H66.out)
                have yd := (World.cell?_of_block (a := ⟨b1, off1, none⟩) (hX.block b1 HBl.out.1 HBl.out.2)).trans HD0.out
                have d1 := Posts.slot (show a.eval (.tmp 1) = .slice (some ⟨b1, off1, none⟩) 1 (c - 1) from hS.other 1 rfl)
                exact Posts.op_value (fun _ => trivial) rfl rfl (by intro c h; cases h) rfl (by rw [hS.size]; simp) (v := .slice (some ⟨b1, off1, none⟩) 1 (c - 1)) (by simp [execOp, d1,  go_sem]) rfl (hE.refl _) trivial
              · intro a X hX hS hD hJ hU
                obtain ⟨y0, y1, y2, y3⟩ := cells4' ((hX.block V6 (lt_of_block H66.out) (Nat.ne_of_gt HVV.out)).trans H66.out)
                have yd := (World.cell?_of_block (a := ⟨b1, off1, none⟩) (hX.block b1 HBl.out.1 HBl.out.2)).trans HD0.out
                have d43 := Posts.slot (show a.eval (.tmp 43) = .slice (some ⟨b1, off1, none⟩) 1 (c - 1) from hD.1)
                exact Posts.op_value (fun _ => trivial) rfl rfl (by intro c h; cases h) rfl (by rw [hS.size]; simp) (v := .pointer (some ⟨b1, off1, none⟩)) (by simp [execOp, d43, go_sem]) rfl (hE.refl _) trivial
              · intro a X hX hS hD hJ hU
                obtain ⟨y0, y1, y2, y3⟩ := cells4' ((hX.block V6 (lt_of_block H66.out) (Nat.ne_of_gt HVV.out)).trans H66.out)
                have yd := (World.cell?_of_block (a := ⟨b1, off1, none⟩) (hX.block b1 HBl.out.1 HBl.out.2)).trans HD0.out
                have d44 := Posts.slot (show a.eval (.tmp 44) = .pointer (some ⟨b1, off1, none⟩) from hD.1)
                exact Posts.op_value (fun _ => trivial) rfl rfl (by intro c h; cases h) rfl (by rw [hS.size]; simp) (v := .string S1) (by simp [execOp, d44, yd, go_sem]) rfl (hE.refl _) trivial
              · intro a X hX hS hD hJ hU
                obtain ⟨y0, y1, y2, y3⟩ := cells4' ((hX.block V6 (lt_of_block H66.out) (Nat.ne_of_gt HVV.out)).trans H66.out)
                have yd := (World.cell?_of_block (a := ⟨b1, off1, none⟩) (hX.block b1 HBl.out.1 HBl.out.2)).trans HD0.out
                have d41 := Posts.slot (show a.eval (.tmp 41) = .string LB from hD.1)
                have d42 := Posts.slot (show a.eval (.tmp 42) = .agg #[.int .u8 o, .int .u8 ia, .int .u16 ib, .int .u32 ic] from hD.2.1)
                have d45 := Posts.slot (show a.eval (.tmp 45) = .string S1 from hD.2.2.1)
                exact Posts.op_value (fun _ => trivial) rfl rfl (by intro c h; cases h) rfl (by rw [hS.size]; simp) (v := .agg #[.string LB, .int .u8 o, .int .u8 ia, .int .u16 ib, .int .u32 ic, .string S1]) (by simp [execOp, d41, d42, d45, go_sem]) rfl (hE.refl _) trivial
              · intro a X hX hS hD hJ hU
                obtain ⟨y0, y1, y2, y3⟩ := cells4' ((hX.block V6 (lt_of_block H66.out) (Nat.ne_of_gt HVV.out)).trans H66.out)
                have yd := (World.cell?_of_block (a := ⟨b1, off1, none⟩) (hX.block b1 HBl.out.1 HBl.out.2)).trans HD0.out
                have d4 := Posts.slot (show a.eval (.tmp 4) = .pointer (some ⟨V0, 0, none⟩) from hS.other 4 rfl)
                have d46 := Posts.slot (show a.eval (.tmp 46) = .agg #[.string LB, .int .u8 o, .int .u8 ia, .int .u16 ib, .int .u32 ic, .string S1] from hD.1)
                have hR0 : ∃ u0 u1 u2 u3 u4 u5, X.heap[V0]? = some (.cells #[u0, u1, u2, u3, u4, u5] 34 (0, 0)) := by
                  rcases hX.own (lt_of_block HR6.out) with e | e
                  · exact ⟨_, _, _, _, _, _, e.trans HR6.out⟩
                  · exact ⟨_, _, _, _, _, _, e⟩
                obtain ⟨u0, u1, u2, u3, u4, u5, hz⟩ := hR0
                obtain ⟨z0, z1, z2, z3, z4, z5⟩ := cells6 hz
                have f := fun j => frozen_at hz j
                obtain ⟨hek, hfin⟩ := ek_store6 (v0 := .string LB) (v1 := .int .u8 o) (v2 := .int .u8 ia) (v3 := .int .u16 ib) (v4 := .int .u32 ic) (v5 := .string S1) hz
                exact Posts.op_done (fun _ => trivial) rfl rfl (by intro c h; cases h) (Y := ((((((X.setCell ⟨V0, 0, none⟩ (.string LB)).setCell ⟨V0, 1, none⟩ (.int .u8 o)).setCell ⟨V0, 2, none⟩ (.int .u8 ia)).setCell ⟨V0, 3, none⟩ (.int .u16 ib)).setCell ⟨V0, 4, none⟩ (.int .u32 ic)).setCell ⟨V0, 5, none⟩ (.string S1))) (by simp [execOp, d4, d46, z0, z1, z2, z3, z4, z5, f, go_sem]) ⟨⟨⟨undef, rfl⟩, ⟨Nat.lt_of_lt_of_le (lt_of_block hz) hek.size, hfin⟩, hek⟩, trivial⟩
            · intro a0 Y hY hS hJt hL
              have p41 := Posts.slot (show a0.eval (.tmp 41) = .string LB from hL.1)
              have p42 := Posts.slot (show a0.eval (.tmp 42) = .agg #[.int .u8 o, .int .u8 ia, .int .u16 ib, .int .u32 ic] from hL.2.1)
              have p43 := Posts.slot (show a0.eval (.tmp 43) = .slice (some ⟨b1, off1, none⟩) 1 (c - 1) from hL.2.2.1)
              have p44 := Posts.slot (show a0.eval (.tmp 44) = .pointer (some ⟨b1, off1, none⟩) from hL.2.2.2.1)
              have p45 := Posts.slot (show a0.eval (.tmp 45) = .string S1 from hL.2.2.2.2.1)
              have p46 := Posts.slot (show a0.eval (.tmp 46) = .agg #[.string LB, .int .u8 o, .int .u8 ia, .int .u16 ib, .int .u32 ic, .string S1] from hL.2.2.2.2.2.1)
              have p_6 := (show _ from hL.2.2.2.2.2.2.1)
              have hfr := hS.frame [41, 42, 43, 44, 45, 46, 5] (fun t ht => by simp [Posts.isDst] at ht; first | (rcases ht with h | h | h | h | h | h | h <;> subst h <;> simp) | (subst ht; simp))
              simp only [List.foldl_cons, List.foldl_nil] at hfr
              have hdf := hS.defers
              simp only [Array.getD_eq_getD_getElem?] at hfr
              clear hL hS
              generalize a0.tmps[41]?.getD undef = v41 at *
              generalize a0.tmps[42]?.getD undef = v42 at *
              generalize a0.tmps[43]?.getD undef = v43 at *
              generalize a0.tmps[44]?.getD undef = v44 at *
              generalize a0.tmps[45]?.getD undef = v45 at *
              generalize a0.tmps[46]?.getD undef = v46 at *
              generalize a0.tmps[5]?.getD undef = v5 at *
              obtain rfl := p41
              obtain rfl := p42
              obtain rfl := p43
              obtain rfl := p44
              obtain rfl := p45
              obtain rfl := p46
              obtain ⟨tm, df⟩ := a0
              simp only [List.setIfInBounds_toArray, List.set_cons_succ, List.set_cons_zero] at hfr hdf
              subst hfr
              subst hdf
              refine Posts.tail_op 7 (by kernel_rfl) (Posts.op_val (fun _ => trivial) rfl rfl (by intro c h; cases h) (v := .int .i64 0) (Y := Y) (by simp [execOp, Act.eval, go_sem]) ?_)
              refine ⟨by kernel_rfl, ?_⟩
              simp only [Exit.inBlock, Exit.then]
              rename_i hK
              refine hK _ _ ?_
              obtain ⟨d0, d1, d2, d3, d4, d5⟩ := cells6 p_6.2
              have HYb := Lib.hid (hY.below (Below.refl V0 w6) (Nat.le_of_lt (lt_of_block HR6.out)))
              clear p_6 hY
              go_wp2_with fail
              refine bodyPost_ret (v := .tuple #[.agg #[.string LB, .int .u8 o, .int .u8 ia, .int .u16 ib, .int .u32 ic, .string S1], .int .i64 0]) (by simp [results, Tryz.f72, go_sem, d0, d1, d2, d3, d4, d5]) rfl ?_
              exact HP.out _ (HB6.out.trans (HYb.out.mono HV0.out))
          · have HOne : Hid (oneR lb (s0 :: r) = if withB ⟨o, ia, ib, ic⟩ r = true then (⟨lb, withI ⟨o, ia, ib, ic⟩ r, []⟩, 0) else (av0, 42)) := by
              show _ = _
              rw [HOne2.out, if_neg (by rintro ⟨_, e⟩; exact hlb e)]
            rw [show isLbl (r.getD 0 []) = false from by simpa using hlb] at HLb
            clear hlb HOne2
            generalize sB (r.getD 0 []) = S1 at *
            have HWt := Lib.hid (fun W (hb : Below w.heap.size w W) => with_any ⟨o, ia, ib, ic⟩ HIw.out r (some ⟨b1, off1, none⟩) r.length (c - 1) hk2 HLen.out W (HTT.out W hb) (HTail.out W hb))
            unfold WithP iv at HWt
            generalize withI ⟨o, ia, ib, ic⟩ r = jj at *
            generalize withB ⟨o, ia, ib, ic⟩ r = D at *
            obtain ⟨jo, ja, jb, jc⟩ := jj
            simp only at HWt HOne
            go_enter Tryz.func72, Tryz.ntmps72
            go_wp2_with fail
            refine (HNm.out _ HB0.out).mono ?_
            rintro e w2 ⟨rfl, hb2⟩
            have hB2 := HB0.out.trans (hb2.mono HB0.out.size)
            have hr2 := (hb2.block _ (lt_of_block HR0.out)).trans HR0.out
            have hV := lt_of_block hr2
            have h6 := alloc_new w2 (.cells #[.int .u8 o, .int .u8 ia, .int .u16 ib, .int .u32 ic] 32)
            have hB3 := hB2.alloc hB2.size (.cells #[.int .u8 o, .int .u8 ia, .int .u16 ib, .int .u32 ic] 32)
            have hr3 := (((Below.refl w2.heap.size w2).alloc (Nat.le_refl _) (.cells #[.int .u8 o, .int .u8 ia, .int .u16 ib, .int .u32 ic] 32)).block _ hV).trans hr2
            have HB3 := Lib.hid hB3
            have HR3 := Lib.hid hr3
            have H6 := Lib.hid h6
            have HVV := Lib.hid hV
            obtain ⟨c0, c1, c2, c3⟩ := cells4' h6
            clear hb2 hB2 hr2 h6 hB3 hr3 HNm HB0 HR0 hc0
            go_upto_region 4 with fail
            generalize w2.heap.size = V6 at *
            generalize w2.alloc (.cells #[.int .u8 o, .int .u8 ia, .int .u16 ib, .int .u32 ic] 32) = X3 at *
            obtain ⟨V0, hV0⟩ : ∃ V0, V0 = w.heap.size := ⟨_, rfl⟩
            rw [← hV0] at HR3 hV HVV ⊢
            have HV0 : Hid (w.heap.size ≤ V0) := Nat.le_of_eq hV0.symm
            clear hV0
            go_wp2_with fail
            refine (HTx.out _ HB3.out).mono ?_
            rintro e w4 ⟨rfl, hb4⟩
            have HB4 := Lib.hid (HB3.out.trans (hb4.mono HB3.out.size))
            have hr4 := (hb4.block _ (lt_of_block HR3.out)).trans HR3.out
            have h64 := (hb4.block _ (lt_of_block H6.out)).trans H6.out
            have HR4 := Lib.hid hr4
            have H64 := Lib.hid h64
            obtain ⟨c0, c1, c2, c3⟩ := cells4' h64
            clear hb4 hr4 h64 HB3 HR3 H6 HTx
            go_wp2_with fail
            refine (HCt.out _).mono ?_
            rintro e w5 ⟨rfl, hw5⟩
            subst w5
            clear HCt
            go_wp2_with fail
            refine (HJp.out _ HB4.out).mono ?_
            rintro e w6 ⟨rfl, hb6⟩
            have HB6 := Lib.hid (HB4.out.trans (hb6.mono HB4.out.size))
            have hr6 := (hb6.block _ (lt_of_block HR4.out)).trans HR4.out
            have h66 := (hb6.block _ (lt_of_block H64.out)).trans H64.out
            have HR6 := Lib.hid hr6
            have H66 := Lib.hid h66
            obtain ⟨c0, c1, c2, c3⟩ := cells4' h66
            clear hb6 hr6 h66 HB4 HR4 H64 HJp
            have hd0 := HTd.out _ HB6.out
            rw [Nat.add_zero] at hd0
            have HD0 := Lib.hid hd0
            have hlr2 : (0 : Int) < (r.length : Int) := by have := HR1.out; omega
            have hlr3 : 0 < r.length := by have := HR1.out; omega
            go_wp2_with fail
            refine (HLb.out _).mono ?_
            rintro e w7 ⟨rfl, hw7⟩
            subst w7
            clear hd0
            go_wp2_with fail
            refine (HWt.out _ HB6.out).mono ?_
            rintro e w8 ⟨rfl, hb8⟩
            have hB8 := HB6.out.trans (hb8.mono HB6.out.size)
            have hr8 := (hb8.block _ (lt_of_block HR6.out)).trans HR6.out
            have h68 := (hb8.block _ (lt_of_block H66.out)).trans H66.out
            obtain ⟨c0, c1, c2, c3⟩ := cells4' h68
            have hf6 := fun j => frozen_at h68 j
            have hB9 := bel4 hB8 (R := V6) (Nat.le_of_lt (Nat.lt_of_le_of_lt HV0.out HVV.out)) (.int .u8 jo) (.int .u8 ja) (.int .u16 jb) (.int .u32 jc)
            have h69 := ret4 h68 (.int .u8 jo) (.int .u8 ja) (.int .u16 jb) (.int .u32 jc)
            have hr9 := oth4 hr8 (R := V6) (Nat.ne_of_lt HVV.out) (.int .u8 jo) (.int .u8 ja) (.int .u16 jb) (.int .u32 jc)
            have HB9 := Lib.hid hB9
            have H69 := Lib.hid h69
            have HR9 := Lib.hid hr9
            clear hb8 hB8 hr8 h68 hB9 h69 hr9 HB6 HR6 H66 HWt
            go_upto_region 10 with (simp only [hf6])
            clear c0 c1 c2 c3 hf6
            generalize (((w8.setCell ⟨V6, 0, none⟩ (.int .u8 jo)).setCell ⟨V6, 1, none⟩ (.int .u8 ja)).setCell ⟨V6, 2, none⟩ (.int .u16 jb)).setCell ⟨V6, 3, none⟩ (.int .u32 jc) = X9 at *
            obtain ⟨c0, c1, c2, c3⟩ := cells4' H69.out
            cases D with
            | false =>
              have HP : Hid (∀ w', Below w.heap.size w w' → OneP (oneR lb (s0 :: r)) w (.returned (.tuple #[.agg #[.string ⟨#[]⟩, .int .u8 0, .int .u8 0, .int .u16 0, .int .u32 0, .string ⟨#[]⟩], .int .i64 42])) w') := fun w' hb => ⟨by rw [HOne.out]; rfl, hb⟩
              clear HOne
              obtain ⟨z0, z1, z2, z3, z4, z5⟩ := cells6 (HR9.out)
              have hf := fun j => frozen_at (HR9.out) j
              go_wp2_with (simp only [hf])
              obtain ⟨d0, d1, d2, d3, d4, d5⟩ := cells6 (ret6 HR9.out (.string ⟨#[]⟩) (.int .u8 0) (.int .u8 0) (.int .u16 0) (.int .u32 0) (.string ⟨#[]⟩))
              refine bodyPost_ret (v := .tuple #[.agg #[.string ⟨#[]⟩, .int .u8 0, .int .u8 0, .int .u16 0, .int .u32 0, .string ⟨#[]⟩], .int .i64 42]) (by simp [results, Tryz.f72, go_sem, d0, d1, d2, d3, d4, d5]) rfl ?_
              exact HP.out _ (bel6 (HB9.out) HV0.out (.string ⟨#[]⟩) (.int .u8 0) (.int .u8 0) (.int .u16 0) (.int .u32 0) (.string ⟨#[]⟩))
            | true =>
              have HP : Hid (∀ w', Below w.heap.size w w' → OneP (oneR lb (s0 :: r)) w (.returned (.tuple #[.agg #[.string (sB lb), .int .u8 jo, .int .u8 ja, .int .u16 jb, .int .u32 jc, .string ⟨#[]⟩], .int .i64 0])) w') := fun w' hb => ⟨by rw [HOne.out]; rfl, hb⟩
              clear HOne
              generalize sB lb = LB at *
              obtain ⟨z0, z1, z2, z3, z4, z5⟩ := cells6 (HR9.out)
              have hf := fun j => frozen_at (HR9.out) j
              go_wp2_with (simp only [hf])
              obtain ⟨d0, d1, d2, d3, d4, d5⟩ := cells6 (ret6 HR9.out (.string LB) (.int .u8 jo) (.int .u8 ja) (.int .u16 jb) (.int .u32 jc) (.string ⟨#[]⟩))
              refine bodyPost_ret (v := .tuple #[.agg #[.string LB, .int .u8 jo, .int .u8 ja, .int .u16 jb, .int .u32 jc, .string ⟨#[]⟩], .int .i64 0]) (by simp [results, Tryz.f72, go_sem, d0, d1, d2, d3, d4, d5]) rfl ?_
              exact HP.out _ (bel6 (HB9.out) HV0.out (.string LB) (.int .u8 jo) (.int .u8 ja) (.int .u16 jb) (.int .u32 jc) (.string ⟨#[]⟩))
end Asm
end Go.Proofs.YtgiocecpkhmhhaaGreatDoor
namespace Go.Proofs.YtgiocecpkhmhhaaGreatDoor
open Go.ChangeShapes Go.WideShapes Go.ChangeAt Go.RowKit
namespace Asm
open Isa
set_option linter.unusedVariables false
set_option linter.unusedSimpArgs false
theorem cut58 (s : List UInt8) (hm : s.length ≤ 1000000000) (w : World) : Calls Tryz.prog 71 #[.string (sB s), .string ⟨#[58]⟩] w fun e w' =>
    e = .returned (.tuple #[.string (if s.getLast? = some 58 then sB s.dropLast else sB s), .bool (decide (s.getLast? = some 58))]) ∧ w' = w := by
  have h := cutsuffix_lib (sB s) ⟨#[58]⟩ w (by rw [sB_size]; omega)
  refine h.mono ?_
  rintro e w' ⟨rfl, hw⟩
  refine ⟨?_, hw⟩
  have e1 : (sB s).data.toList = s := by simp [sB]
  have e2 : (⟨#[58]⟩ : ByteArray).data.toList = [58] := rfl
  rw [e1, e2, suffix_one]
  by_cases hl : s.getLast? = some 58
  · rw [if_pos hl, trim_yes hl]; rfl
  · rw [if_neg hl, trim_no hl]; rfl
set_option maxRecDepth 100000 in
set_option maxHeartbeats 6400000 in
theorem lineof_any (l : List (List UInt8)) (a : Option Addr) (n c : Nat) (hn : n ≤ c) (hc : c ≤ 9223372036854775807) (hne : l ≠ []) (hgood : ∀ s ∈ l, s ≠ []) (hlen : ∀ s ∈ l, s.length ≤ 1000000000) (w : World) (hT : TT w) (h : SRow w a n l) :
    Calls Tryz.prog 51 #[.slice a n c] w (OneP (one l) w) := by
  cases l with
  | nil => exact absurd rfl hne
  | cons s0 r =>
    have hln : r.length + 1 = n := h.1
    subst hln
    obtain ⟨O, hO⟩ : ∃ O, O = (.cells #[.string ⟨#[]⟩, .int .u8 0, .int .u8 0, .int .u16 0, .int .u32 0, .string ⟨#[]⟩] 34 : Obj) := ⟨_, rfl⟩
    have hb0 := (Below.refl w.heap.size w).alloc (Nat.le_refl _) O
    have hr0 := alloc_new w O
    obtain ⟨b0, off0, rfl, _⟩ := srow_at h 0 (by omega)
    have hc0 := srow_cell (h.below hb0 (Nat.le_refl _)) 0 (by omega)
    rw [List.getD_cons_zero, Nat.add_zero] at hc0
    rw [hO] at hr0 hb0 hc0
    have HB0 := Lib.hid hb0
    have HR0 := Lib.hid hr0
    clear hO hb0 hr0
    have hl0 : s0.length ≤ 1000000000 := hlen s0 (by simp)
    have HCs := Lib.hid (fun W => cut58 s0 hl0 W)
    have HLb := Lib.hid (fun W => islabel_any s0.dropLast (by rw [List.length_dropLast]; omega) W)
    have htl := tail_run b0 off0 r.length c hn hc
    have HPr : Hid (∀ e w', OneP (one (s0 :: r)) w e w' → OneP (one (s0 :: r)) w e w') := fun e w' q => q
    have h1n : decide ((0 : Int) < ((r.length : Int) + 1)) = true := decide_eq_true (by omega)
    by_cases h58 : s0.getLast? = some 58
    · rw [if_pos h58, decide_eq_true h58] at HCs
      by_cases hlb : isLbl s0.dropLast = true
      · have hone : one (s0 :: r) = oneR s0.dropLast r := by unfold one; rw [List.getD_cons_zero, if_pos h58, if_pos hlb]; rfl
        have HBe := Lib.hid (fun W (hb : Below w.heap.size w W) => behind_any s0.dropLast r (tailA b0 off0 r.length c) r.length (c - 1) (by omega) (by omega) (fun s hs => hgood s (by simp [hs])) (fun s hs => hlen s (by simp [hs])) W (hT.below hb (Nat.le_refl _)) (tail_row (h.below hb (Nat.le_refl _)) hn))
        rw [hlb] at HLb
        rw [← hone] at HBe
        have HPP : Hid (∀ w', Below w.heap.size w w' → OneP (one (s0 :: r)) w (.returned (.tuple #[avV (one (s0 :: r)).1, .int .i64 (one (s0 :: r)).2])) w') := fun w' hb => ⟨rfl, hb⟩
        clear hone hlb h58 h hgood hlen hT hl0 HPr
        have HPr := HPP
        clear HPP
        unfold avV at HPr
        generalize tailA b0 off0 r.length c = A at *
        generalize sB s0.dropLast = S1 at *
        generalize sB s0 = S0 at *
        generalize hrr : one (s0 :: r) = rr at *
        obtain ⟨⟨lb1, ⟨yo, ya, yb, yc⟩, tg1⟩, ee⟩ := rr
        unfold OneP avV at HBe
        simp only at HBe HPr
        generalize sB lb1 = L1 at *
        generalize sB tg1 = L2 at *
        clear hrr
        go_enter Tryz.func51, Tryz.ntmps51
        go_wp2_with fail
        refine (HCs.out _).mono ?_
        rintro e w1 ⟨rfl, hw1⟩
        subst w1
        obtain ⟨V0, hV0⟩ : ∃ V0, V0 = w.heap.size := ⟨_, rfl⟩
        rw [← hV0] at HR0 ⊢
        have HV0 : Hid (w.heap.size ≤ V0) := Nat.le_of_eq hV0.symm
        clear hV0 hc0
        generalize w.alloc (.cells #[.string ⟨#[]⟩, .int .u8 0, .int .u8 0, .int .u16 0, .int .u32 0, .string ⟨#[]⟩] 34) = X0 at *
        go_wp2_with fail
        refine (HLb.out _).mono ?_
        rintro e w3 ⟨rfl, hw3⟩
        subst w3
        go_wp2_with fail
        refine (HBe.out _ HB0.out).mono ?_
        rintro e w4 ⟨rfl, hb4⟩
        have HB4 := Lib.hid (HB0.out.trans (hb4.mono HB0.out.size))
        have hr4 := (hb4.block _ (lt_of_block HR0.out)).trans HR0.out
        have HR4 := Lib.hid hr4
        clear hb4 hr4 HB0 HR0
        obtain ⟨z0, z1, z2, z3, z4, z5⟩ := cells6 (HR4.out)
        have hf := fun j => frozen_at (HR4.out) j
        go_wp2_with (simp only [hf])
        obtain ⟨d0, d1, d2, d3, d4, d5⟩ := cells6 (ret6 (HR4.out) (.string L1) (.int .u8 yo) (.int .u8 ya) (.int .u16 yb) (.int .u32 yc) (.string L2))
        refine bodyPost_ret (v := .tuple #[.agg #[.string L1, .int .u8 yo, .int .u8 ya, .int .u16 yb, .int .u32 yc, .string L2], .int .i64 ee]) (by simp [results, Tryz.f51, go_sem, d0, d1, d2, d3, d4, d5]) rfl ?_
        exact HPr.out _ (bel6 (HB4.out) HV0.out (.string L1) (.int .u8 yo) (.int .u8 ya) (.int .u16 yb) (.int .u32 yc) (.string L2))
      · have hone : one (s0 :: r) = (av0, 101) := by unfold one; rw [List.getD_cons_zero, if_pos h58, if_neg hlb]
        rw [show isLbl s0.dropLast = false from by simpa using hlb] at HLb
        have HPP : Hid (∀ w', Below w.heap.size w w' → OneP (one (s0 :: r)) w (.returned (.tuple #[.agg #[.string ⟨#[]⟩, .int .u8 0, .int .u8 0, .int .u16 0, .int .u32 0, .string ⟨#[]⟩], .int .i64 101])) w') := fun w' hb => ⟨by rw [hone]; rfl, hb⟩
        clear hone hlb h58 h hgood hlen hT hl0 HPr
        generalize sB s0.dropLast = S1 at *
        generalize sB s0 = S0 at *
        go_enter Tryz.func51, Tryz.ntmps51
        go_wp2_with fail
        refine (HCs.out _).mono ?_
        rintro e w1 ⟨rfl, hw1⟩
        subst w1
        obtain ⟨V0, hV0⟩ : ∃ V0, V0 = w.heap.size := ⟨_, rfl⟩
        rw [← hV0] at HR0 ⊢
        have HV0 : Hid (w.heap.size ≤ V0) := Nat.le_of_eq hV0.symm
        clear hV0 hc0
        generalize w.alloc (.cells #[.string ⟨#[]⟩, .int .u8 0, .int .u8 0, .int .u16 0, .int .u32 0, .string ⟨#[]⟩] 34) = X0 at *
        go_wp2_with fail
        refine (HLb.out _).mono ?_
        rintro e w3 ⟨rfl, hw3⟩
        subst w3
        obtain ⟨z0, z1, z2, z3, z4, z5⟩ := cells6 (HR0.out)
        have hf := fun j => frozen_at (HR0.out) j
        go_wp2_with (simp only [hf])
        obtain ⟨d0, d1, d2, d3, d4, d5⟩ := cells6 (ret6 (HR0.out) (.string ⟨#[]⟩) (.int .u8 0) (.int .u8 0) (.int .u16 0) (.int .u32 0) (.string ⟨#[]⟩))
        refine bodyPost_ret (v := .tuple #[.agg #[.string ⟨#[]⟩, .int .u8 0, .int .u8 0, .int .u16 0, .int .u32 0, .string ⟨#[]⟩], .int .i64 101]) (by simp [results, Tryz.f51, go_sem, d0, d1, d2, d3, d4, d5]) rfl ?_
        exact HPP.out _ (bel6 (HB0.out) HV0.out (.string ⟨#[]⟩) (.int .u8 0) (.int .u8 0) (.int .u16 0) (.int .u32 0) (.string ⟨#[]⟩))
    · rw [if_neg h58, decide_eq_false h58] at HCs
      have hone : one (s0 :: r) = oneR [] (s0 :: r) := by unfold one; rw [List.getD_cons_zero, if_neg h58]
      have HBe := Lib.hid (fun W (hb : Below w.heap.size w W) => behind_any [] (s0 :: r) (some ⟨b0, off0, none⟩) (r.length + 1) c hn hc hgood hlen W (hT.below hb (Nat.le_refl _)) (h.below hb (Nat.le_refl _)))
      rw [← hone, show sB [] = ⟨#[]⟩ from rfl] at HBe
      have HPP : Hid (∀ w', Below w.heap.size w w' → OneP (one (s0 :: r)) w (.returned (.tuple #[avV (one (s0 :: r)).1, .int .i64 (one (s0 :: r)).2])) w') := fun w' hb => ⟨rfl, hb⟩
      clear hone h58 h hgood hlen hT hl0 HPr HLb
      have HPr := HPP
      clear HPP
      unfold avV at HPr
      generalize sB s0 = S0 at *
      generalize hrr : one (s0 :: r) = rr at *
      obtain ⟨⟨lb1, ⟨yo, ya, yb, yc⟩, tg1⟩, ee⟩ := rr
      unfold OneP avV at HBe
      simp only at HBe HPr
      generalize sB lb1 = L1 at *
      generalize sB tg1 = L2 at *
      clear hrr
      go_enter Tryz.func51, Tryz.ntmps51
      go_wp2_with fail
      refine (HCs.out _).mono ?_
      rintro e w1 ⟨rfl, hw1⟩
      subst w1
      obtain ⟨V0, hV0⟩ : ∃ V0, V0 = w.heap.size := ⟨_, rfl⟩
      rw [← hV0] at HR0 ⊢
      have HV0 : Hid (w.heap.size ≤ V0) := Nat.le_of_eq hV0.symm
      clear hV0 hc0
      generalize w.alloc (.cells #[.string ⟨#[]⟩, .int .u8 0, .int .u8 0, .int .u16 0, .int .u32 0, .string ⟨#[]⟩] 34) = X0 at *
      go_wp2_with fail
      refine (HBe.out _ HB0.out).mono ?_
      rintro e w4 ⟨rfl, hb4⟩
      have HB4 := Lib.hid (HB0.out.trans (hb4.mono HB0.out.size))
      have hr4 := (hb4.block _ (lt_of_block HR0.out)).trans HR0.out
      have HR4 := Lib.hid hr4
      clear hb4 hr4 HB0 HR0
      obtain ⟨z0, z1, z2, z3, z4, z5⟩ := cells6 (HR4.out)
      have hf := fun j => frozen_at (HR4.out) j
      go_wp2_with (simp only [hf])
      obtain ⟨d0, d1, d2, d3, d4, d5⟩ := cells6 (ret6 (HR4.out) (.string L1) (.int .u8 yo) (.int .u8 ya) (.int .u16 yb) (.int .u32 yc) (.string L2))
      refine bodyPost_ret (v := .tuple #[.agg #[.string L1, .int .u8 yo, .int .u8 ya, .int .u16 yb, .int .u32 yc, .string L2], .int .i64 ee]) (by simp [results, Tryz.f51, go_sem, d0, d1, d2, d3, d4, d5]) rfl ?_
      exact HPr.out _ (bel6 (HB4.out) HV0.out (.string L1) (.int .u8 yo) (.int .u8 ya) (.int .u16 yb) (.int .u32 yc) (.string L2))
end Asm
end Go.Proofs.YtgiocecpkhmhhaaGreatDoor
namespace Go.Proofs.YtgiocecpkhmhhaaGreatDoor
open Go.ChangeShapes Go.WideShapes Go.ChangeAt Go.RowKit
namespace Asm
open Isa
set_option linter.unusedVariables false
set_option linter.unusedSimpArgs false
/-- what one line gives -/
def line1 (s : List UInt8) : List Av := if words s = [] then [] else [(one (words s)).1]
def outs (l : List (List UInt8)) : List Av := l.flatMap line1
def errE (out : List Av) (s : List UInt8) : Int := if words s = [] then 0 else if (one (words s)).2 ≠ 0 then (one (words s)).2 else if out.length + 1 ≤ 16384 then 0 else 3
theorem outs_len (l : List (List UInt8)) : (outs l).length ≤ l.length := by
  induction l with
  | nil => simp [outs]
  | cons s r ih =>
    have e : outs (s :: r) = line1 s ++ outs r := by simp [outs]
    rw [e, List.length_append, List.length_cons]
    have : (line1 s).length ≤ 1 := by unfold line1; split <;> simp
    omega
theorem outs_succ (l : List (List UInt8)) (k : Nat) (hk : k < l.length) : outs (l.take (k + 1)) = outs (l.take k) ++ line1 (l.getD k []) := by
  unfold outs
  rw [List.take_add_one, List.getElem?_eq_getElem hk, List.getD_eq_getElem?_getD, List.getElem?_eq_getElem hk, List.flatMap_append]
  simp
theorem errE_room {out : List Av} {s : List UInt8} (h : errE out s = 0) (ho : out.length ≤ 16384) : (out ++ line1 s).length ≤ 16384 := by
  unfold errE at h
  unfold line1
  split at h
  · rename_i q; rw [if_pos q]; simpa using ho
  · rename_i q
    rw [if_neg q]
    split at h
    · rename_i q2; exact absurd h q2
    · split at h
      · simp; omega
      · exact absurd h (by decide)
theorem parse_step {out : List Av} {s : List UInt8} {r : List (List UInt8)} {n : Nat} (ho : out.length ≤ 16384) (h : errE out s = 0) : parseGo (s :: r) n out = parseGo r (n + 1) (out ++ line1 s) := by
  rw [parseGo]
  unfold errE at h
  unfold line1
  by_cases q : words s = []
  · rw [if_pos q, if_pos q, List.append_nil]
  · rw [if_neg q] at h
    rw [if_neg q, if_neg q]
    by_cases q2 : (one (words s)).2 ≠ 0
    · rw [if_pos q2] at h; exact absurd h q2
    · rw [if_neg q2] at h
      rw [if_neg q2]
      by_cases q3 : out.length + 1 ≤ 16384
      · rw [if_neg (by omega)]
      · rw [if_neg q3] at h; exact absurd h (by decide)
theorem parse_stop {out : List Av} {s : List UInt8} {r : List (List UInt8)} {n : Nat} (ho : out.length ≤ 16384) (h : errE out s ≠ 0) : parseGo (s :: r) n out = ([], (n : Int), errE out s) := by
  rw [parseGo]
  unfold errE at h ⊢
  by_cases q : words s = []
  · rw [if_pos q] at h; exact absurd rfl h
  · rw [if_neg q] at h ⊢
    rw [if_neg q]
    by_cases q2 : (one (words s)).2 ≠ 0
    · rw [if_pos q2, if_pos q2]
    · rw [if_neg q2] at h ⊢
      rw [if_neg q2]
      by_cases q3 : out.length + 1 ≤ 16384
      · rw [if_pos q3] at h; exact absurd rfl h
      · rw [if_neg q3, if_pos (by omega)]
theorem parse_goodG : ∀ (r : List (List UInt8)) (n : Nat) (out : List Av), out.length ≤ 16384 → (∀ t, t < r.length → errE (out ++ outs (r.take t)) (r.getD t []) = 0) → parseGo r n out = (out ++ outs r, 0, 0)
  | [], n, out, _, _ => by simp [parseGo, outs]
  | s :: r, n, out, ho, h => by
    have h0 : errE out s = 0 := by have := h 0 (by simp); simpa [outs] using this
    rw [parse_step ho h0, parse_goodG r (n + 1) (out ++ line1 s) (errE_room h0 ho) (fun t ht => by
      have := h (t + 1) (by simpa using ht)
      rw [List.getD_cons_succ, List.take_succ_cons] at this
      rw [List.append_assoc]
      simpa [outs] using this)]
    simp [outs]
theorem parse_badG : ∀ (r : List (List UInt8)) (n : Nat) (out : List Av) (k : Nat), out.length ≤ 16384 → k < r.length → (∀ t, t < k → errE (out ++ outs (r.take t)) (r.getD t []) = 0) → errE (out ++ outs (r.take k)) (r.getD k []) ≠ 0 →
    parseGo r n out = ([], ((n + k : Nat) : Int), errE (out ++ outs (r.take k)) (r.getD k []))
  | [], n, out, k, _, hk, _, _ => by simp at hk
  | s :: r, n, out, 0, ho, _, _, h => by
    have h0 : errE out s ≠ 0 := by simpa [outs] using h
    rw [parse_stop ho h0]
    simp [outs]
  | s :: r, n, out, k + 1, ho, hk, hno, h => by
    have h0 : errE out s = 0 := by have := hno 0 (by omega); simpa [outs] using this
    have e : ∀ t, out ++ outs ((s :: r).take (t + 1)) = (out ++ line1 s) ++ outs (r.take t) := fun t => by simp [outs]
    rw [e, List.getD_cons_succ] at h ⊢
    rw [parse_step ho h0, parse_badG r (n + 1) (out ++ line1 s) k (errE_room h0 ho) (by simpa using hk) (fun t ht => by
      have := hno (t + 1) (by omega)
      rw [e, List.getD_cons_succ] at this
      exact this) h]
    rw [show n + 1 + k = n + (k + 1) from by omega]
theorem parse_good {s : List UInt8} (hm : s.length ≤ 524288) (h : ∀ t, t < (splitL s []).length → errE (outs ((splitL s []).take t)) ((splitL s []).getD t []) = 0) : parseA s = (outs (splitL s []), 0, 0) := by
  unfold parseA
  rw [if_neg (by omega)]
  have := parse_goodG (splitL s []) 1 [] (by simp) (by simpa using h)
  simpa using this
theorem parse_bad' {s : List UInt8} (hm : s.length ≤ 524288) {k : Nat} (hk : k < (splitL s []).length) (hno : ∀ t, t < k → errE (outs ((splitL s []).take t)) ((splitL s []).getD t []) = 0) (h : errE (outs ((splitL s []).take k)) ((splitL s []).getD k []) ≠ 0) :
    parseA s = ([], (k : Int) + 1, errE (outs ((splitL s []).take k)) ((splitL s []).getD k [])) := by
  unfold parseA
  rw [if_neg (by omega)]
  have := parse_badG (splitL s []) 1 [] k (by simp) hk (by simpa using hno) (by simpa using h)
  rw [this, show ((1 + k : Nat) : Int) = (k : Int) + 1 from by omega]
  simp
/-- what stands when the line of this number is to be read -/
structure PI (L : List (List UInt8)) (w : World) (B Vl g Vo m k : Nat) (W : World) : Prop where
  bel : Below w.heap.size w W
  bs : B ≤ W.heap.size
  ln : W.heap[Vl]? = some (.cells #[.slice (some ⟨g, 0, none⟩) m m] 48 (0, 0))
  st : W.heap[g]? = some (.cells (L.map fun s => Value.string (sB s)).toArray 9 (0, 0))
  ob : ∃ v, W.heap[Vo]? = some (.cells #[v] 22 (0, 0)) ∧ W.ownsRow B 34 6 v (outs (L.take k)).length (encAs (outs (L.take k)))
theorem PI.here {L : List (List UInt8)} {w : World} {B Vl g Vo m k k' : Nat} {W W' : World} (h : PI L w B Vl g Vo m k W) (hb : Below W.heap.size W W') (he : outs (L.take k') = outs (L.take k)) : PI L w B Vl g Vo m k' W' := by
  obtain ⟨v, h1, h2⟩ := h.ob
  exact ⟨h.bel.trans (hb.mono h.bel.size), Nat.le_trans h.bs hb.size, (hb.block _ (lt_of_block h.ln)).trans h.ln, (hb.block _ (lt_of_block h.st)).trans h.st, v, (hb.block _ (lt_of_block h1)).trans h1, by rw [he]; exact own_below h2 hb (Nat.le_refl _)⟩
theorem strs_at {L : List (List UInt8)} {W : World} {g k : Nat} (h : W.heap[g]? = some (.cells (L.map fun s => Value.string (sB s)).toArray 9 (0, 0))) (hk : k < L.length) : W.cell? ⟨g, k, none⟩ = some (.string (sB (L.getD k []))) := by
  rw [cells_at h k]
  rw [List.getElem?_toArray, List.getElem?_map, List.getElem?_eq_getElem hk, List.getD_eq_getElem?_getD, List.getElem?_eq_getElem hk]
  rfl
end Asm
end Go.Proofs.YtgiocecpkhmhhaaGreatDoor
namespace Go.Proofs.YtgiocecpkhmhhaaGreatDoor
open Go.ChangeShapes Go.WideShapes Go.ChangeAt Go.RowKit
namespace Asm
open Isa
set_option linter.unusedVariables false
set_option linter.unusedSimpArgs false
theorem setCell_box {W : World} {V : Nat} {u v : Value} {t : TypeId} (h : W.heap[V]? = some (.cells #[u] t (0, 0))) : (W.setCell ⟨V, 0, none⟩ v).heap[V]? = some (.cells #[v] t (0, 0)) := by
  rw [heap_setCell_own _ _ _ _ _ _ h]; rfl
set_option maxRecDepth 100000 in
set_option maxHeartbeats 6400000 in
theorem pstep_any (L : List (List UInt8)) (hL : ∀ s ∈ L, s.length ≤ 524288) (m : Nat) (hm : L.length = m) (hm2 : m ≤ 1000000) (w : World) (hT : TT w) (B Vl g Vo : Nat) (hVl : Vl < B) (hg : g < B) (hVo : Vo < B) (hB : w.heap.size ≤ B) (n1 : Vl ≠ Vo) (n2 : g ≠ Vo) (n3 : w.heap.size ≤ Vo) (k : Nat) (hk : k < m) (W : World) (hI : PI L w B Vl g Vo m k W) :
    Calls Tryz.prog 49 #[.int .i64 (k : Int), .pointer (some ⟨Vl, 0, none⟩), .pointer (some ⟨Vo, 0, none⟩)] W fun e w' =>
      e = .returned (.int .i64 (errE (outs (L.take k)) (L.getD k []))) ∧ Below w.heap.size w w' ∧ (errE (outs (L.take k)) (L.getD k []) = 0 → PI L w B Vl g Vo m (k + 1) w') := by
  have hs := hL (L.getD k []) (getD_mem _ (by omega))
  have hout := outs_len (L.take k)
  rw [List.length_take] at hout
  have hsu := outs_succ L k (by omega)
  have HI := Lib.hid hI
  have y1 : W.cell? ⟨Vl, 0, none⟩ = some (.slice (some ⟨g, 0, none⟩) m m) := cells_at hI.ln 0
  have y2 := strs_at hI.st (show k < L.length by omega)
  have HT := Lib.hid (fun W' (hb : Below w.heap.size w W') => hT.below hb (Nat.le_refl _))
  have HW := Lib.hid (wordsof_any (L.getD k []) (by omega) W (HT.out W hI.bel))
  have hal : ∀ u ∈ words (L.getD k []), u ≠ [] ∧ u.length ≤ 1000000000 := fun u hu => by
    have := words_all u hu
    exact ⟨this.1, by omega⟩
  have HAl := Lib.hid hal
  have HE : Hid (errE (outs (L.take k)) (L.getD k []) = if words (L.getD k []) = [] then 0 else if (one (words (L.getD k []))).2 ≠ 0 then (one (words (L.getD k []))).2 else if (outs (L.take k)).length + 1 ≤ 16384 then 0 else 3) := rfl
  have HSu : Hid (outs (L.take (k + 1)) = outs (L.take k) ++ (if words (L.getD k []) = [] then [] else [(one (words (L.getD k []))).1])) := hsu
  have hoo : (outs (L.take k)).length ≤ 1000000 := by omega
  have k0 : (0 : Int) ≤ k := by omega
  have k1 : (k : Int) < m := by omega
  have HK := Lib.hid hk
  have HNe := Lib.hid (And.intro n1 (And.intro n2 n3))
  have HVs := Lib.hid (And.intro hVl (And.intro hg (And.intro hVo hB)))
  clear hal hs hout hsu hI hT hk hL hm hm2 n1 n2 n3 hVl hg hVo hB
  generalize errE (outs (L.take k)) (L.getD k []) = E at *
  generalize words (L.getD k []) = ws at *
  generalize sB (L.getD k []) = S0 at *
  go_enter Tryz.func49, Tryz.ntmps49
  go_wp2_with fail
  refine HW.out.mono ?_
  rintro e w1 ⟨v1, rfl, hwo, hb1⟩
  obtain ⟨a1, c1, rfl, hc1, hc2, hrow⟩ := own_strs hwo
  have HB1 := Lib.hid hb1
  clear hwo hb1 HW y1 y2 k0 k1
  by_cases hws : ws = []
  · subst hws
    have hE : E = 0 := by have := HE.out; rw [if_pos rfl] at this; exact this
    have hO : outs (L.take (k + 1)) = outs (L.take k) := by have := HSu.out; rw [if_pos rfl, List.append_nil] at this; exact this
    have HO := Lib.hid hO
    subst hE
    clear HE HSu hO hrow
    go_wp2_with fail
    go_ret
    exact ⟨rfl, HI.out.bel.trans (HB1.out.mono HI.out.bel.size), HI.out.here HB1.out HO.out⟩
  · have hlw : ws.length ≠ 0 := fun e => hws (List.length_eq_zero_iff.1 e)
    have gw : ((ws.length : Int) == 0) = false := beq_eq_false_iff_ne.2 (by omega)
    have HE1 := HE.out
    have HS1 := HSu.out
    rw [if_neg hws] at HE1 HS1
    have HI1 := Lib.hid (HI.out.here HB1.out rfl)
    have HC := Lib.hid (lineof_any ws a1 ws.length c1 hc1 (by unfold maxLen at hc2; omega) hws (fun u hu => (HAl.out u hu).1) (fun u hu => (HAl.out u hu).2) w1 (HT.out w1 HI1.out.bel) hrow)
    have HE := Lib.hid HE1
    have HSu := Lib.hid HS1
    clear HE1 HS1 hws HAl hrow hc1 hc2 hlw HI HB1
    unfold OneP at HC
    generalize (one ws).2 = q at *
    generalize (one ws).1 = y at *
    go_wp2_with fail
    refine HC.out.mono ?_
    rintro e w2 ⟨rfl, hb2⟩
    have HI2 := Lib.hid (HI1.out.here hb2 rfl)
    clear hb2 HI1 HC
    obtain ⟨lb, ⟨op, ia, ib, ic⟩, tg⟩ := y
    unfold avV
    simp only at *
    have hb3 := (Below.refl w2.heap.size w2).alloc (Nat.le_refl _) (.cells #[.string (sB lb), .int .u8 op, .int .u8 ia, .int .u16 ib, .int .u32 ic, .string (sB tg)] 34)
    have HI3 := Lib.hid (HI2.out.here hb3 rfl)
    by_cases hq : q ≠ 0
    · have hE : E = q := by have := HE.out; rw [if_pos hq] at this; exact this
      subst hE
      have g1 : (E != 0) = true := by simp [hq]
      have g2 : (E == 0) = false := beq_eq_false_iff_ne.2 hq
      have HQ := Lib.hid hq
      clear HE HSu hq HI2 hb3
      go_wp2_with fail
      go_ret
      exact ⟨rfl, HI3.out.bel, fun h => absurd h HQ.out⟩
    · have hq0 : q = 0 := by omega
      subst hq0
      have HE1 := HE.out
      rw [if_neg hq] at HE1
      have HE := Lib.hid HE1
      obtain ⟨v, hv1, hv2⟩ := HI3.out.ob
      have hx := alloc_new w2 (.cells #[.string (sB lb), .int .u8 op, .int .u8 ia, .int .u16 ib, .int .u32 ic, .string (sB tg)] 34)
      obtain ⟨y0, y1, y2, y3, y4, y5⟩ := cells6 hx
      obtain ⟨g9, cap, W9, hap, hown9, hb9⟩ := app_el Tryz.underlying22 infoA rfl (by decide) (by decide) hv2 HI3.out.bs (by omega) [.string (sB lb), .int .u8 op, .int .u8 ia, .int .u16 ib, .int .u32 ic, .string (sB tg)] rfl (by intro u hu; simp at hu; rcases hu with rfl | rfl | rfl | rfl | rfl | rfl <;> rfl) 22
      obtain ⟨va, vc, rfl, _, _⟩ := own_shape hv2
      have hv9 := (hb9.block _ HVs.out.2.2.1).trans hv1
      have z0 := cells_at hv1 0
      have z9 := cells_at hv9 0
      have f9 := frozen_at hv9 0
      have hfin : PI L w B Vl g Vo m (k + 1) (W9.setCell ⟨Vo, 0, none⟩ (.slice (some ⟨g9, 0, none⟩) ((outs (L.take k)).length + 1 : Nat) cap)) := by
        have hl9 : outs (L.take (k + 1)) = outs (L.take k) ++ [⟨lb, ⟨op, ia, ib, ic⟩, tg⟩] := HSu.out
        refine ⟨(HI3.out.bel.trans (hb9.mono HVs.out.2.2.2)).setCell (p := ⟨Vo, 0, none⟩) HNe.out.2.2 _, ?_, ?_, ?_, _, setCell_box hv9, ?_⟩
        · rw [show (W9.setCell ⟨Vo, 0, none⟩ (.slice (some ⟨g9, 0, none⟩) ((outs (L.take k)).length + 1 : Nat) cap)).heap.size = W9.heap.size from by simp [World.setCell]]
          exact Nat.le_trans HI3.out.bs hb9.size
        · rw [Below.heap_setCell _ _ _ _ HNe.out.1]; exact (hb9.block _ HVs.out.1).trans HI3.out.ln
        · rw [Below.heap_setCell _ _ _ _ HNe.out.2.1]; exact (hb9.block _ HVs.out.2.1).trans HI3.out.st
        · rw [hl9]
          have e1 : (outs (L.take k) ++ [(⟨lb, ⟨op, ia, ib, ic⟩, tg⟩ : Av)]).length = (outs (L.take k)).length + 1 := by simp
          rw [e1]
          refine own_kept (own_off hown9 (by unfold encAs; rw [List.flatMap_append]; simp [encA])) (fun j hj => ?_)
          obtain rfl : g9 = j := by simpa [Value.ownBlock] using hj
          refine Below.heap_setCell _ _ _ _ ?_
          rcases hown9.2 with ⟨hn, _⟩ | ⟨g', c', cur, e', hg', _⟩
          · simp at hn
          · injection e' with e' _ _
            injection e' with e'
            injection e' with e' _ _
            have := HVs.out.2.2.1
            show g9 ≠ Vo
            omega
      have HF := Lib.hid hfin
      have hu := unless_any (decide (((outs (L.take k)).length : Int) + 1 ≤ 16384)) 3 (W9.setCell ⟨Vo, 0, none⟩ (.slice (some ⟨g9, 0, none⟩) ((outs (L.take k)).length + 1 : Nat) cap))
      have zF : (W9.setCell ⟨Vo, 0, none⟩ (.slice (some ⟨g9, 0, none⟩) ((outs (L.take k)).length + 1 : Nat) cap)).cell? ⟨Vo, 0, none⟩ = some (.slice (some ⟨g9, 0, none⟩) ((outs (L.take k)).length + 1 : Nat) cap) := cells_at (setCell_box hv9) 0
      have HU := Lib.hid hu
      have HZF := Lib.hid zF
      rw [World.size_alloc] at hap
      clear hu zF hfin hown9 hb9 hv1 hv2 hx hv9 HSu hq hb3 HI2
      clear HE
      have HE := Lib.hid HE1
      clear HE1
      go_upto_region 8 with (at_builtin; refine wpList_append_run rfl (.tmp 24) (.tmp 26) 22 22 rfl _ _ _ W9 22 rfl rfl rfl hap ?_)
      generalize hW9 : W9.setCell ⟨Vo, 0, none⟩ (.slice (some ⟨g9, 0, none⟩) ((outs (L.take k)).length + 1 : Nat) cap) = WF at *
      clear hW9 z9 f9 z0 y0 y1 y2 y3 y4 y5 hap
      have zF := HZF.out
      generalize (outs (L.take k)).length = N at *
      by_cases hn : N + 1 ≤ 16384
      · have hd : decide ((N : Int) + 1 ≤ 16384) = true := decide_eq_true (by omega)
        have hE := HE.out
        rw [if_pos hn] at hE
        rw [hd, if_pos rfl] at HU
        subst hE
        clear HE hn
        go_wp2_with fail
        refine HU.out.mono ?_
        rintro e w5 ⟨rfl, hw5⟩
        subst w5
        clear HU
        go_wp2_with fail
        go_ret
        exact ⟨rfl, HF.out.bel, HF.out⟩
      · have hd : decide ((N : Int) + 1 ≤ 16384) = false := decide_eq_false (by omega)
        have hE := HE.out
        rw [if_neg hn] at hE
        rw [hd, if_neg (by decide)] at HU
        subst hE
        clear HE hn
        go_wp2_with fail
        refine HU.out.mono ?_
        rintro e w5 ⟨rfl, hw5⟩
        subst w5
        clear HU
        go_wp2_with fail
        go_ret
        exact ⟨rfl, HF.out.bel, fun _ => HF.out⟩
end Asm
end Go.Proofs.YtgiocecpkhmhhaaGreatDoor
namespace Go.Proofs.YtgiocecpkhmhhaaGreatDoor
open Go.ChangeShapes Go.WideShapes Go.ChangeAt Go.RowKit
namespace Asm
open Isa
set_option linter.unusedVariables false
set_option linter.unusedSimpArgs false
theorem splitL_bound : ∀ (s cur : List UInt8), (splitL s cur).length ≤ s.length + 1 ∧ ∀ v ∈ splitL s cur, v.length ≤ cur.length + s.length
  | [], cur => by simp [splitL]
  | x :: r, cur => by
    rw [splitL]
    split
    · have h := splitL_bound r []
      refine ⟨by simp only [List.length_cons]; omega, fun v hv => ?_⟩
      rcases List.mem_cons.1 hv with rfl | hv
      · simp only [List.length_cons]; omega
      · have := h.2 v hv
        simp only [List.length_cons, List.length_nil] at this ⊢
        omega
    · have h := splitL_bound r (cur ++ [x])
      refine ⟨by simp only [List.length_cons]; omega, fun v hv => ?_⟩
      have := h.2 v hv
      simp only [List.length_append, List.length_cons, List.length_nil] at this ⊢
      omega
theorem enters_parse : ∀ args w, (callFunc 49 args).run Tryz.prog w = .ok (.enter 49 args) w := enters_of Tryz.func49 (by kernel_rfl) rfl
theorem split_lines (s : List UInt8) (hm : s.length ≤ 1000000000) (w : World) (hT : TT w) : Calls Tryz.prog 48 #[.string (sB s), .string ⟨#[10]⟩] w fun e w' =>
    e = .returned (.slice (some ⟨w.heap.size, 0, none⟩) (splitL s []).length (splitL s []).length) ∧ w' = w.alloc (.cells ((splitL s []).map fun s => Value.string (sB s)).toArray 9) := by
  obtain ⟨m, hmx⟩ := hT.most
  have h := split_lib (sB s) (sB [10]) m w (by rw [sB_size']; omega) hmx (by decide)
  have e1 := splitB_is s
  have e2 := splitL_len s
  refine h.mono ?_
  rintro e w' ⟨rfl, hw⟩
  rw [e1, List.map_map] at hw
  rw [← e2]
  exact ⟨rfl, hw⟩
set_option maxRecDepth 100000 in
set_option maxHeartbeats 3200000 in
theorem parse_any (s : List UInt8) (hm : s.length ≤ 524288) (w : World) (hT : TT w) : Calls Tryz.prog 21 #[.string (sB s)] w fun e w' =>
    ∃ v, e = .returned (.tuple #[v, .int .i64 (parseA s).2.1, .int .i64 (parseA s).2.2]) ∧ w'.ownsRow w.heap.size 34 6 v (parseA s).1.length (encAs (parseA s).1) ∧ Below w.heap.size w w' := by
  have hd1 : decide ((524288 : Int) < (s.length : Int)) = false := decide_eq_false (by omega)
  have hsz : ((sB s).size : Int) = s.length := by rw [sB_size]
  have hb := splitL_bound s []
  obtain ⟨m, hmm⟩ : ∃ m, m = (splitL s []).length := ⟨_, rfl⟩
  have hm2 : m ≤ 1000000 := by omega
  have hx0 := alloc_new w (.cells #[.slice none 0 0] 22)
  have HX0 := Lib.hid ((Below.refl w.heap.size w).alloc (Nat.le_refl _) (.cells #[.slice none 0 0] 22))
  have HSp := Lib.hid (split_lines s (by omega) _ (hT.below HX0.out (Nat.le_refl _)))
  rw [World.size_alloc] at HSp
  have hs1 : (w.alloc (.cells #[.slice none 0 0] 22)).heap.size = w.heap.size + 1 := World.size_alloc _ _
  generalize hLL : splitL s [] = L at *
  subst hmm
  have HG := Lib.hid (fun h => parse_good hm (by rw [hLL]; exact h))
  have HBad := Lib.hid (fun k hk hno h => parse_bad' hm (k := k) (by rw [hLL]; exact hk) (by rw [hLL]; exact hno) (by rw [hLL]; exact h))
  rw [hLL] at HG HBad
  have hg1 := alloc_new (w.alloc (.cells #[.slice none 0 0] 22)) (.cells (L.map fun s => Value.string (sB s)).toArray 9)
  rw [World.size_alloc] at hg1
  have hx1 : ((w.alloc (.cells #[.slice none 0 0] 22)).alloc (.cells (L.map fun s => Value.string (sB s)).toArray 9)).heap[w.heap.size]? = some (.cells #[.slice none 0 0] 22 (0, 0)) := (Below.heap_alloc _ _ _ (lt_of_block hx0)).trans hx0
  have hX1 := HX0.out.alloc HX0.out.size (.cells (L.map fun s => Value.string (sB s)).toArray 9)
  have hs2 : ((w.alloc (.cells #[.slice none 0 0] 22)).alloc (.cells (L.map fun s => Value.string (sB s)).toArray 9)).heap.size = w.heap.size + 1 + 1 := by rw [World.size_alloc, World.size_alloc]
  have hl2 := alloc_new ((w.alloc (.cells #[.slice none 0 0] 22)).alloc (.cells (L.map fun s => Value.string (sB s)).toArray 9)) (.cells #[.slice (some ⟨w.heap.size + 1, 0, none⟩) L.length L.length] 48)
  rw [hs2] at hl2
  have hg2 : (((w.alloc (.cells #[.slice none 0 0] 22)).alloc (.cells (L.map fun s => Value.string (sB s)).toArray 9)).alloc (.cells #[.slice (some ⟨w.heap.size + 1, 0, none⟩) L.length L.length] 48)).heap[w.heap.size + 1]? = _ := (Below.heap_alloc _ _ _ (lt_of_block hg1)).trans hg1
  have hx2 : (((w.alloc (.cells #[.slice none 0 0] 22)).alloc (.cells (L.map fun s => Value.string (sB s)).toArray 9)).alloc (.cells #[.slice (some ⟨w.heap.size + 1, 0, none⟩) L.length L.length] 48)).heap[w.heap.size]? = _ := (Below.heap_alloc _ _ _ (lt_of_block hx1)).trans hx1
  have hX2 := hX1.alloc hX1.size (.cells #[.slice (some ⟨w.heap.size + 1, 0, none⟩) L.length L.length] 48)
  have hs3 : (((w.alloc (.cells #[.slice none 0 0] 22)).alloc (.cells (L.map fun s => Value.string (sB s)).toArray 9)).alloc (.cells #[.slice (some ⟨w.heap.size + 1, 0, none⟩) L.length L.length] 48)).heap.size = w.heap.size + 1 + 1 + 1 := by rw [World.size_alloc, hs2]
  have HI0 : Hid (PI L w (w.heap.size + 1 + 1 + 1) (w.heap.size + 1 + 1) (w.heap.size + 1) w.heap.size L.length 0 (((w.alloc (.cells #[.slice none 0 0] 22)).alloc (.cells (L.map fun s => Value.string (sB s)).toArray 9)).alloc (.cells #[.slice (some ⟨w.heap.size + 1, 0, none⟩) L.length L.length] 48))) :=
    ⟨hX2, Nat.le_of_eq hs3.symm, hl2, hg2, _, hx2, World.ownsRow_nil _ _ _ _⟩
  have HS : Hid (StepC 49 #[.pointer (some ⟨w.heap.size + 1 + 1, 0, none⟩), .pointer (some ⟨w.heap.size, 0, none⟩)] L.length (fun k => errE (outs (L.take k)) (L.getD k []))
      (fun k W => PI L w (w.heap.size + 1 + 1 + 1) (w.heap.size + 1 + 1) (w.heap.size + 1) w.heap.size L.length k W) (fun _ W => Below w.heap.size w W)) := by
    intro k hk W hI
    refine (pstep_any L (fun v hv => by have := hb.2 v hv; simp only [List.length_nil] at this; omega) L.length rfl hm2 w hT (w.heap.size + 1 + 1 + 1) (w.heap.size + 1 + 1) (w.heap.size + 1) w.heap.size (by omega) (by omega) (by omega) (by omega) (by omega) (by omega) (Nat.le_refl _) k hk W hI).mono ?_
    rintro e w' ⟨rfl, j1, j2⟩
    exact ⟨rfl, j2, fun _ => j1⟩
  have hml : L.length ≤ 9223372036854775807 := by omega
  clear hg1 hx1 hX1 hs2 hl2 hg2 hx2 hX2 hs3 hs1 hx0 hb hm hT HX0 hLL hm2
  generalize parseA s = P at *
  go_enter Tryz.func21, Tryz.ntmps21
  go_wp2_with fail
  refine HSp.out.mono ?_
  rintro e w1 ⟨rfl, hw1⟩
  subst w1
  go_wp2_with fail
  refine (first_any 49 _ enters_parse L.length hml _ _ _ HS.out _ HI0.out).mono ?_
  intro e w2 hP
  clear HSp HI0 HS
  rcases hP with ⟨k, hk, hno, hne, rfl, hF⟩ | ⟨hall, rfl, hI⟩
  · dsimp only at hno hne ⊢
    have HPk := Lib.hid (HBad.out k hk hno hne)
    have HF := Lib.hid hF
    clear HBad HG hno hF
    generalize errE (outs (L.take k)) (L.getD k []) = E at *
    have g1 : (E != 0) = true := by simp [hne]
    have kw : IntKind.i64.wrap ((k : Int) + 1) = (k : Int) + 1 := by simp [IntKind.wrap, IntKind.bits, IntKind.signed]; omega
    clear hne hk
    go_wp2_with fail
    refine bodyPost_ret (v := .tuple #[.slice none 0 0, .int .i64 ((k : Int) + 1), .int .i64 E]) (by simp [results, Tryz.f21, go_sem]) rfl ?_
    exact ⟨_, by rw [HPk.out], by rw [HPk.out]; exact World.ownsRow_nil _ _ _ _, HF.out⟩
  · dsimp only at hall hI ⊢
    have HPg := Lib.hid (HG.out hall)
    obtain ⟨v, hv1, hv2⟩ := hI.ob
    rw [List.take_length] at hv2
    have z0 := cells_at hv1 0
    have HO := Lib.hid (own_low hv2 (show w.heap.size ≤ w.heap.size + 1 + 1 + 1 by omega))
    have HBl := Lib.hid hI.bel
    clear HBad HG hall hI hv1 hv2
    go_wp2_with fail
    refine bodyPost_ret (v := .tuple #[v, .int .i64 0, .int .i64 0]) (by simp [results, Tryz.f21, go_sem]) rfl ?_
    exact ⟨_, by rw [HPg.out], by rw [HPg.out]; exact HO.out, HBl.out⟩
end Asm
end Go.Proofs.YtgiocecpkhmhhaaGreatDoor
