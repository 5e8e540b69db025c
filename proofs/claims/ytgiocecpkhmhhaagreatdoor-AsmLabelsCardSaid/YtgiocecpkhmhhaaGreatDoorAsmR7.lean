/- The document's own answers: what bytes are read as, as instructions. -/
import Derived.Test.YtgiocecpkhmhhaaGreatDoorAsmR6
namespace Go.Proofs.YtgiocecpkhmhhaaGreatDoor
open Go.ChangeShapes Go.WideShapes Go.ChangeAt Go.RowKit
namespace Asm
open Isa
set_option linter.unusedVariables false
set_option linter.unusedSimpArgs false
theorem row_drop {w : World} {b off n : Nat} {l : List Int} (h : Row w (some ⟨b, off, none⟩) n l) (k : Nat) (hk : k < n) : Row w (some ⟨b, off + k, none⟩) (n - k) (l.drop k) := by
  obtain ⟨h1, h2, h3⟩ := h
  refine ⟨by rw [List.length_drop, h1], fun z hz => h2 z (List.mem_of_mem_drop hz), .inr ⟨b, off + k, rfl, fun i hi => ?_⟩⟩
  obtain ⟨b', off', e, hc⟩ := h3.resolve_left (by omega)
  injection e with e
  injection e with e1 e2
  subst e1 e2
  have := hc (k + i) (by omega)
  rw [Nat.add_assoc, this, List.getD_eq_getElem?_getD, List.getD_eq_getElem?_getD, List.getElem?_drop]
def encs (l : List Iv) : List Value := l.flatMap encI
def pre (b : List Int) (k : Nat) : List Iv := (List.range k).map fun k => rdI (b.drop (8 * k))
theorem pre_len (b : List Int) (k : Nat) : (pre b k).length = k := by unfold pre; simp
theorem pre_succ (b : List Int) (k : Nat) : pre b (k + 1) = pre b k ++ [rdI (b.drop (8 * k))] := by unfold pre; rw [List.range_succ, List.map_append]; rfl
theorem rdE_long {l : List Int} (h : 8 ≤ l.length) : rdE l = 0 ∨ rdE l = 90 := by
  unfold rdE
  rw [if_neg (by omega)]
  split
  · exact .inl rfl
  · exact .inr rfl
theorem rd_bad {b : List Int} {k : Nat} (h1 : ¬ 131072 < b.length) (h2 : b.length % 8 = 0) (hk : k < b.length / 8) (hn : ∀ t, t < k → rdE (b.drop (8 * t)) = 0) (h : rdE (b.drop (8 * k)) ≠ 0) : rdLE b = 90 ∧ rdLN b = k ∧ rdL b = [] := by
  have e : rdK b = k := first_at hk (fun t ht => by rw [hn t ht]; rfl) (decide_eq_true h)
  refine ⟨?_, ?_, ?_⟩
  · unfold rdLE; rw [if_neg h1, if_neg (by omega), e, if_pos hk]
  · unfold rdLN; rw [if_neg h1, if_neg (by omega), e, if_pos hk]
  · unfold rdL; rw [if_pos (.inr (.inr (by rw [e]; exact hk)))]
theorem rd_good {b : List Int} (h1 : ¬ 131072 < b.length) (h2 : b.length % 8 = 0) (hn : ∀ t, t < b.length / 8 → rdE (b.drop (8 * t)) = 0) : rdLE b = 0 ∧ rdLN b = 0 ∧ rdL b = pre b (b.length / 8) := by
  have e : rdK b = b.length / 8 := first_none (fun t ht => by rw [hn t ht]; rfl)
  refine ⟨?_, ?_, ?_⟩
  · unfold rdLE; rw [if_neg h1, if_neg (by omega), e, if_neg (by omega)]
  · unfold rdLN; rw [if_neg h1, if_neg (by omega), e, if_neg (by omega)]
  · unfold rdL; rw [if_neg (by rw [e]; omega)]; rfl
theorem ret_rd {v : Value} {a b c d : Int} (h : a = b) (h2 : c = d) : Ending.returned (.tuple #[v, .int .i64 a, .int .i64 c]) = .returned (.tuple #[v, .int .i64 b, .int .i64 d]) := by rw [h, h2]
set_option maxHeartbeats 3200000 in
theorem rreadL_any (b : List Int) (a : Option Addr) (n c : Nat) (hc : n ≤ c) (hc2 : c ≤ 9223372036854775807) (w : World) (h : Row w a n b) : Calls Tryz.prog 18 #[.slice a n c] w fun e w' =>
    ∃ v, e = .returned (.tuple #[v, .int .i64 (rdLN b : Nat), .int .i64 (rdLE b)]) ∧ w'.ownsRow w.heap.size 32 4 v (rdL b).length (encs (rdL b)) ∧ Below w.heap.size w w' := by
  have hln : b.length = n := h.1
  by_cases h1 : 131072 < n
  · have HE : Hid (rdLE b = 3 ∧ rdLN b = 0 ∧ rdL b = []) := by
      show _ ∧ _
      refine ⟨?_, ?_, ?_⟩
      · unfold rdLE; rw [if_pos (by omega)]
      · unfold rdLN; rw [if_pos (by omega)]
      · unfold rdL; rw [if_pos (.inl (by omega))]
    have hd : decide ((131072 : Int) < (n : Int)) = true := decide_eq_true (by omega)
    go_enter Tryz.func18, Tryz.ntmps18
    go_wp2_with fail
    refine bodyPost_ret (v := .tuple #[.slice none 0 0, .int .i64 0, .int .i64 3]) (by simp [results, Tryz.f18, go_sem]) rfl ?_
    obtain ⟨e1, e2, e3⟩ := HE.out
    exact ⟨_, by rw [e1, e2]; rfl, by rw [e3]; exact World.ownsRow_nil _ _ _ _, by go_grown⟩
  have hd1 : decide ((131072 : Int) < (n : Int)) = false := decide_eq_false (by omega)
  by_cases h2 : n % 8 = 0
  case neg =>
    have HE : Hid (rdLE b = 40 ∧ rdLN b = 0 ∧ rdL b = []) := by
      show _ ∧ _
      refine ⟨?_, ?_, ?_⟩
      · unfold rdLE; rw [if_neg (by omega), if_pos (by omega)]
      · unfold rdLN; rw [if_neg (by omega), if_pos (by omega)]
      · unfold rdL; rw [if_pos (.inr (.inl (by omega)))]
    have hd : decide ((0 : Int) < (n : Int) % 8) = true := decide_eq_true (by omega)
    have hd' : decide ((0 : Int) < (n : Int).tmod 8) = true := decide_eq_true (by rw [Int.tmod_eq_emod_of_nonneg (by omega)]; omega)
    go_enter Tryz.func18, Tryz.ntmps18
    go_wp2_with fail
    refine bodyPost_ret (v := .tuple #[.slice none 0 0, .int .i64 0, .int .i64 40]) (by simp [results, Tryz.f18, go_sem]) rfl ?_
    obtain ⟨e1, e2, e3⟩ := HE.out
    exact ⟨_, by rw [e1, e2]; rfl, by rw [e3]; exact World.ownsRow_nil _ _ _ _, by go_grown⟩
  have hd2 : decide ((0 : Int) < (n : Int) % 8) = false := decide_eq_false (by omega)
  have hd2' : decide ((0 : Int) < (n : Int).tmod 8) = false := decide_eq_false (by rw [Int.tmod_eq_emod_of_nonneg (by omega)]; omega)
  obtain ⟨m, hm⟩ : ∃ m, n = 8 * m := ⟨n / 8, by omega⟩
  have hq : (n : Int) / 8 = (m : Int) := by omega
  have hq' : (n : Int).tdiv 8 = (m : Int) := by rw [Int.tdiv_eq_ediv_of_nonneg (by omega)]; omega
  have HM := Lib.hid hm
  have HA := Lib.hid (fun W (hb : Below w.heap.size w W) => h.below hb (Nat.le_refl _))
  have HG := Lib.hid (fun hn => rd_good (b := b) (by omega) (by omega) hn)
  have HBad := Lib.hid (fun k hk hn h => rd_bad (b := b) (k := k) (by omega) (by omega) hk hn h)
  have HLn := Lib.hid hln
  clear h h2 hm
  go_enter Tryz.func18, Tryz.ntmps18
  go_wp2_with fail
  clear hd1 hd2 hd2'
  go_loopw [5, 6] (fun v i wr => ∃ k : Nat, k ≤ m ∧ i = .int .i64 k ∧ wr.ownsRow w.heap.size 32 4 v k (encs (pre b k)) ∧ (∀ t, t < k → rdE (b.drop (8 * t)) = 0) ∧ Below w.heap.size w wr) (fun _ i _ => m - (intOf i).toNat)
  case atStart => exact ⟨0, by omega, rfl, World.ownsRow_nil _ _ _ _, fun t ht => by omega, Below.refl _ _⟩
  case round =>
    obtain ⟨k, hk, rfl, hown, hno, hbel⟩ := hrel
    have HO := Lib.hid hown
    have HN := Lib.hid hno
    have HBl := Lib.hid hbel
    obtain ⟨va, vc, rfl, _, _⟩ := own_shape hown
    clear hown hno hbel
    have hm := HM.out
    by_cases hlt : k < m
    · have hd : decide ((k : Int) < (m : Int)) = true := decide_eq_true (by omega)
      have hrow := HA.out wr HBl.out
      obtain ⟨_, hbb, hr3⟩ := hrow
      obtain ⟨b0, off, rfl, hcell⟩ := hr3.resolve_left (by omega)
      have hrd := row_drop ⟨HLn.out, hbb, .inr ⟨b0, off, rfl, hcell⟩⟩ (8 * k) (by omega)
      have HR := Lib.hid (rread_any (b.drop (8 * k)) (some ⟨b0, off + 8 * k, none⟩) (n - 8 * k) (c - 8 * k) (by omega) (by omega) wr hrd)
      have HBk := Lib.hid (HBad.out k (by rw [HLn.out]; omega) HN.out)
      have HL8 : Hid (rdE (b.drop (8 * k)) = 0 ∨ rdE (b.drop (8 * k)) = 90) := rdE_long (by rw [List.length_drop, HLn.out]; omega)
      have HP := Lib.hid (pre_succ b k)
      have HN2 : Hid (rdE (b.drop (8 * k)) = 0 → ∀ t, t < k + 1 → rdE (b.drop (8 * t)) = 0) := fun h t ht => by
        by_cases e : t = k
        · rw [e]; exact h
        · exact HN.out t (by omega)
      clear hrd hr3 hcell hbb
      generalize rdE (b.drop (8 * k)) = E at *
      generalize rdI (b.drop (8 * k)) = I at *
      have w8 : IntKind.i64.wrap (8 * (k : Int)) = ((8 * k : Nat) : Int) := by simp [IntKind.wrap, IntKind.bits, IntKind.signed]; omega
      have hle1 : 8 * k ≤ n := by omega
      have hlc : 8 * k < c := by omega
      clear hm hln
      go_wp2_with fail
      refine HR.out.mono ?_
      rintro e w2 ⟨rfl, hb2⟩
      have hb3 : Below w.heap.size w w2 := HBl.out.trans (hb2.mono HBl.out.size)
      have HO2 := own_below HO.out hb2 (Nat.le_refl _)
      clear hb2 hle1 hlc w8
      by_cases hE : E = 0
      · have HN3 := Lib.hid (HN2.out hE)
        subst hE
        have hb4 : Below w.heap.size w (w2.alloc (.cells #[.int .u8 I.op, .int .u8 I.a, .int .u16 I.b, .int .u32 I.c] 32)) := hb3.alloc hb3.size _
        obtain ⟨g, cap, W', hap, hown2, hb5⟩ := app_el Tryz.underlying25 infoI rfl (by decide) (by decide) (HO2.alloc (.cells #[.int .u8 I.op, .int .u8 I.a, .int .u16 I.b, .int .u32 I.c] 32)) hb4.size (by omega) (encI I) rfl (by intro u hu; simp [encI] at hu; rcases hu with rfl | rfl | rfl | rfl <;> rfl) 25
        have HO3 := Lib.hid (own_off hown2 (show encs (pre b k) ++ encI I = encs (pre b (k + 1)) from by rw [HP.out]; unfold encs; rw [List.flatMap_append]; simp))
        have HB3 := Lib.hid (hb4.trans hb5)
        have hx := cells4 (alloc_new w2 (.cells #[.int .u8 I.op, .int .u8 I.a, .int .u16 I.b, .int .u32 I.c] 32))
        obtain ⟨x0, x1, x2, x3⟩ := hx
        clear hown2 hb5 hb4 HO2 hb3
        unfold encI at hap
        rw [World.size_alloc] at hap
        obtain ⟨op, ia, ib, ic⟩ := I
        unfold iv
        simp only at *
        go_wp2_with (at_builtin; refine wpList_append_run rfl (.tmp 35) (.tmp 37) 25 25 rfl _ _ _ W' 25 rfl rfl rfl hap ?_)
        refine ⟨⟨k + 1, by omega, by simp, HO3.out, HN3.out, HB3.out⟩, by simp [intOf]; omega⟩
      · obtain ⟨e1, e2, e3⟩ := HBk.out hE
        have hne : (E != 0) = true := by simpa using hE
        have E1 : Hid (rdLE b = E) := by
          show _ = _
          rcases HL8.out with h | h
          · exact absurd h hE
          · rw [e1, h]
        have E2 := Lib.hid e2
        have E3 := Lib.hid e3
        clear e1 e2 e3 hE
        obtain ⟨op, ia, ib, ic⟩ := I
        unfold iv
        simp only at *
        have hb4 : Below w.heap.size w (w2.alloc (.cells #[.int .u8 op, .int .u8 ia, .int .u16 ib, .int .u32 ic] 32)) := hb3.alloc hb3.size _
        go_wp2_with fail
        refine bodyPost_ret (v := .tuple #[.slice none 0 0, .int .i64 k, .int .i64 E]) (by simp [results, Tryz.f18, go_sem]) rfl ?_
        exact ⟨_, by rw [E1.out, E2.out], by rw [E3.out]; exact World.ownsRow_nil _ _ _ _, hb4⟩
    · obtain rfl : k = m := by omega
      have hd : decide ((k : Int) < (k : Int)) = false := decide_eq_false (by omega)
      obtain ⟨e1, e2, e3⟩ := HG.out (by rw [HLn.out, HM.out, Nat.mul_div_cancel_left _ (by decide)]; exact HN.out)
      rw [HLn.out, HM.out, Nat.mul_div_cancel_left _ (by decide)] at e3
      have E1 := Lib.hid e1
      have E2 := Lib.hid e2
      have E3 := Lib.hid e3
      clear e1 e2 e3 hm
      go_wp2_with fail
      refine bodyPost_ret (v := .tuple #[.slice va k vc, .int .i64 0, .int .i64 0]) (by simp [results, Tryz.f18, go_sem]) rfl ?_
      refine ⟨_, by rw [E1.out, E2.out]; rfl, ?_, HBl.out⟩
      rw [E3.out, pre_len]
      exact HO.out
end Asm
end Go.Proofs.YtgiocecpkhmhhaaGreatDoor
