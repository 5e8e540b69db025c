/- The document's own answers: what a program is assembled tg. (Made by tools/gen_asmr10.py.) -/
import Derived.Test.YtgiocecpkhmhhaaGreatDoorAsmR7
import Derived.Test.YtgiocecpkhmhhaaGreatDoorAsmR5
import Derived.Deep.DeepCutAuto
import Derived.Deep.CutBlock
namespace Go.Proofs.YtgiocecpkhmhhaaGreatDoor
open Go.ChangeShapes Go.WideShapes Go.ChangeAt Go.RowKit
namespace Asm
open Isa
set_option linter.unusedVariables false
set_option linter.unusedSimpArgs false
theorem row_set {w : World} {b j : Nat} {cs : Array Value} {t : TypeId} {fr : Nat × Nat} {u : Value} (h : w.heap[b]? = some (.cells cs t fr)) :
    (w.setCell ⟨b, j, none⟩ u).heap[b]? = some (.cells (cs.setIfInBounds j u) t fr) := by
  have hlt := lt_of_block h
  have h' : w.heap[b] = .cells cs t fr := by simpa [Array.getElem?_eq_getElem hlt] using h
  show (w.heap.modify b _)[b]? = _
  rw [Array.getElem?_eq_getElem (by simpa using hlt), Array.getElem_modify_self, h']
  rfl
theorem own_kept {w w' : World} {S : Nat} {e : TypeId} {sz : Nat} {v : Value} {n : Nat} {xs : List Value} (h : w.ownsRow S e sz v n xs) (hk : ∀ j, v.ownBlock = some j → w'.heap[j]? = w.heap[j]?) : w'.ownsRow S e sz v n xs := by
  refine ⟨h.1, ?_⟩
  rcases h.2 with hn | ⟨g, cap, cur, rfl, hg, hgg, rest⟩
  · exact .inl hn
  · exact .inr ⟨g, cap, cur, rfl, hg, (hk g rfl).trans hgg, rest⟩
theorem setCell_other (w : World) (p : Addr) (u : Value) {j : Nat} (h : j ≠ p.block) : (w.setCell p u).heap[j]? = w.heap[j]? := by
  show (w.heap.modify p.block _)[j]? = _
  rw [Array.getElem?_modify]
  rw [if_neg (fun e => h e.symm)]
theorem own_not {w : World} {S : Nat} {n : Nat} {v : Value} {xs : List Value} {V : Nat} {cs : Array Value} {fr : Nat × Nat} (h : w.ownsRow S 32 4 v n xs) (hx : w.heap[V]? = some (.cells cs 34 fr)) (hv : v.ownBlock = some V) : False := by
  rcases h.2 with ⟨rfl, _⟩ | ⟨g, cap, cur, rfl, _, hg, _⟩
  · simp [Value.ownBlock] at hv
  · simp [Value.ownBlock] at hv
    subst hv
    rw [hg] at hx
    injection hx with hx
    injection hx with _ h2 _
    exact absurd h2 (by decide)
theorem asmE_long {l : List Av} (h : 16384 < l.length) : asmE l = 3 ∧ asmN l = 0 ∧ asmL l = [] :=
  ⟨by unfold asmE; rw [if_pos h], by unfold asmN; rw [if_pos h], by unfold asmL; rw [if_pos (.inl h)]⟩
theorem asm_badA {l : List Av} {k : Nat} (h : ¬ 16384 < l.length) (hk : k < l.length) (hn : ∀ t, t < k → mayA (l.getD t av0) = true) (hb : mayA (l.getD k av0) = false) : asmE l = 2 ∧ asmN l = k ∧ asmL l = [] := by
  have e : asmA l = k := first_at hk (fun t ht => by rw [hn t ht]; rfl) (by rw [hb]; rfl)
  exact ⟨by unfold asmE; rw [if_neg h, e, if_pos hk], by unfold asmN; rw [if_neg h, e, if_pos hk], by unfold asmL; rw [if_pos (.inr (.inl (by rw [e]; exact hk)))]⟩
theorem asm_badB {l : List Av} {k : Nat} (h : ¬ 16384 < l.length) (ha : ∀ t, t < l.length → mayA (l.getD t av0) = true) (hk : k < l.length) (hn : ∀ t, t < k → badL l t = false) (hb : badL l k = true) : asmE l = 101 ∧ asmN l = k ∧ asmL l = [] := by
  have e0 : asmA l = l.length := first_none (fun t ht => by rw [ha t ht]; rfl)
  have e : asmB l = k := first_at hk hn hb
  exact ⟨by unfold asmE; rw [if_neg h, e0, if_neg (by omega), e, if_pos hk], by unfold asmN; rw [if_neg h, e0, if_neg (by omega), e, if_pos hk], by unfold asmL; rw [if_pos (.inr (.inr (by rw [e]; exact hk)))]⟩
theorem asm_good {l : List Av} (h : ¬ 16384 < l.length) (ha : ∀ t, t < l.length → mayA (l.getD t av0) = true) (hn : ∀ t, t < l.length → badL l t = false) : asmE l = 0 ∧ asmN l = 0 ∧ asmL l = l.map (ins l) := by
  have e0 : asmA l = l.length := first_none (fun t ht => by rw [ha t ht]; rfl)
  have e : asmB l = l.length := first_none hn
  exact ⟨by unfold asmE; rw [if_neg h, e0, if_neg (by omega), e, if_neg (by omega)], by unfold asmN; rw [if_neg h, e0, if_neg (by omega), e, if_neg (by omega)], by unfold asmL; rw [if_neg (by rw [e0, e]; omega)]⟩
def insK (l : List Av) (k : Nat) : List Iv := (l.take k).map (ins l)
theorem insK_succ (l : List Av) (k : Nat) (hk : k < l.length) : insK l (k + 1) = insK l k ++ [ins l (l.getD k av0)] := by
  unfold insK
  rw [List.take_add_one, List.getElem?_eq_getElem hk, List.getD_eq_getElem?_getD, List.getElem?_eq_getElem hk, List.map_append]
  rfl
set_option maxRecDepth 100000 in
set_option maxHeartbeats 6400000 in
theorem rasm_any (l : List Av) (a : Option Addr) (n c : Nat) (hm : n ≤ 1000000) (w : World) (h : ARow w a n l) : Calls Tryz.prog 11 #[.slice a n c] w fun e w' =>
    ∃ v, e = .returned (.tuple #[v, .int .i64 (asmN l : Nat), .int .i64 (asmE l)]) ∧ w'.ownsRow w.heap.size 32 4 v (asmL l).length (encs (asmL l)) ∧ Below w.heap.size w w' := by
  have hln : l.length = n := h.1
  by_cases h1 : 16384 < n
  · have HE := Lib.hid (asmE_long (l := l) (by omega))
    have hd : decide ((16384 : Int) < (n : Int)) = true := decide_eq_true (by omega)
    go_enter Tryz.func11, Tryz.ntmps11
    go_wp2_with fail
    refine bodyPost_ret (v := .tuple #[.slice none 0 0, .int .i64 0, .int .i64 3]) (by simp [results, Tryz.f11, go_sem]) rfl ?_
    obtain ⟨e1, e2, e3⟩ := HE.out
    exact ⟨_, by rw [e1, e2]; rfl, by rw [e3]; exact World.ownsRow_nil _ _ _ _, by go_grown⟩
  have hd1 : decide ((16384 : Int) < (n : Int)) = false := decide_eq_false (by omega)
  have HA := Lib.hid (fun W (hb : Below w.heap.size w W) k (hk : k < n) => (h.below hb (Nat.le_refl _)).at k hk)
  have HFd := Lib.hid (fun s W (hb : Below w.heap.size w W) => rfind_any l s a n c (by omega) W (h.below hb (Nat.le_refl _)))
  have HL := Lib.hid hln
  have HBA := Lib.hid (fun k hk hn hb => asm_badA (l := l) (k := k) (by omega) hk hn hb)
  have HBB := Lib.hid (fun ha k hk hn hb => asm_badB (l := l) (k := k) (by omega) ha hk hn hb)
  have HGo := Lib.hid (fun ha hn => asm_good (l := l) (by omega) ha hn)
  have HIn := Lib.hid (fun k hk => insK_succ l k hk)
  have hn16 : n ≤ 16384 := by omega
  clear h h1
  go_enter Tryz.func11, Tryz.ntmps11
  go_wp2_with fail
  clear hd1
  go_loopw [5] (fun i wr => ∃ k : Nat, k ≤ n ∧ i = .int .i64 k ∧ (∀ t, t < k → mayA (l.getD t av0) = true) ∧ Below w.heap.size w wr) (fun i _ => n - (intOf i).toNat)
  case atStart => exact ⟨0, by omega, rfl, fun t ht => by omega, Below.refl _ _⟩
  case round =>
    obtain ⟨k, hk, rfl, hno, hbel⟩ := hrel
    have HO := Lib.hid hno
    have HBl := Lib.hid hbel
    clear hno hbel
    by_cases hlt : k < n
    · have hd : decide ((k : Int) < (n : Int)) = true := decide_eq_true (by omega)
      have k0 : (0 : Int) ≤ k := by omega
      have k1 : (k : Int) < n := by omega
      obtain ⟨b, off, rfl, hc, hw⟩ := HA.out wr HBl.out k hlt
      obtain ⟨c0, c1, c2, c3, c4, c5⟩ := hc
      have HM := Lib.hid (fun W => rmayA_any (l.getD k av0) hw W)
      have HBk := Lib.hid (HBA.out k (by rw [HL.out]; exact hlt) HO.out)
      have HOk : Hid (mayA (l.getD k av0) = true → ∀ t, t < k + 1 → mayA (l.getD t av0) = true) := fun hh t ht => by
        by_cases e : t = k
        · rw [e]; exact hh
        · exact HO.out t (by omega)
      clear hw
      unfold avV at HM
      generalize l.getD k av0 = x at *
      obtain ⟨lb, ⟨op, ia, ib, ic⟩, tg⟩ := x
      simp only at *
      cases hmx : mayA ⟨lb, ⟨op, ia, ib, ic⟩, tg⟩
      · rw [hmx] at HM
        have HE := Lib.hid (HBk.out hmx)
        clear HBk HOk hmx
        go_wp2_with fail
        refine (HM.out _).mono ?_
        rintro e w2 ⟨rfl, hb2⟩
        have HB2 := Lib.hid (HBl.out.trans (hb2.mono HBl.out.size))
        clear hb2
        go_wp2_with fail
        refine bodyPost_ret (v := .tuple #[.slice none 0 0, .int .i64 k, .int .i64 2]) (by simp [results, Tryz.f11, go_sem]) rfl ?_
        obtain ⟨e1, e2, e3⟩ := HE.out
        exact ⟨_, by rw [e1, e2], by rw [e3]; exact World.ownsRow_nil _ _ _ _, HB2.out⟩
      · have HO2 := Lib.hid (HOk.out hmx)
        rw [hmx] at HM
        clear HBk HOk hmx
        go_wp2_with fail
        refine (HM.out _).mono ?_
        rintro e w2 ⟨rfl, hb2⟩
        have HB2 := Lib.hid (HBl.out.trans (hb2.mono HBl.out.size))
        clear hb2
        go_wp2_with fail
        exact ⟨⟨k + 1, by omega, by simp, HO2.out, HB2.out⟩, by simp [intOf]; omega⟩
    · obtain rfl : n = k := by omega
      have hd : decide ((n : Int) < (n : Int)) = false := decide_eq_false (by omega)
      have HMay : Hid (∀ t, t < l.length → mayA (l.getD t av0) = true) := by show ∀ _, _; rw [HL.out]; exact HO.out
      have HBB2 := Lib.hid (HBB.out HMay.out)
      have HGo2 := Lib.hid (HGo.out HMay.out)
      have HBw := HBl
      clear HO HBA HBB HGo HMay hk hlt HBl
      go_wp2_with fail
      clear hd
      go_loopw [6, 7] (fun v i wr => ∃ k : Nat, k ≤ n ∧ i = .int .i64 k ∧ wr.ownsRow w.heap.size 32 4 v k (encs (insK l k)) ∧ (∀ t, t < k → badL l t = false) ∧ Below w.heap.size w wr) (fun _ i _ => n - (intOf i).toNat)
      case atStart => exact ⟨0, by omega, rfl, World.ownsRow_nil _ _ _ _, fun t ht => by omega, HBw.out⟩
      case round =>
        clear HBw
        obtain ⟨k, hk, rfl, hown, hno, hbel⟩ := hrel
        have HN := Lib.hid hno
        have HBl := Lib.hid hbel
        have HO := Lib.hid hown
        obtain ⟨va, vc, rfl, _, _⟩ := own_shape hown
        clear hno hbel hown
        by_cases hlt : k < n
        · have hd : decide ((k : Int) < (n : Int)) = true := decide_eq_true (by omega)
          have k0 : (0 : Int) ≤ k := by omega
          have k1 : (k : Int) < n := by omega
          obtain ⟨b, off, rfl, hc, hw⟩ := HA.out _ HBl.out k hlt
          obtain ⟨c0, c1, c2, c3, c4, c5⟩ := hc
          have HF1 := Lib.hid (HFd.out (l.getD k av0).lb)
          have HF2 := Lib.hid (HFd.out (l.getD k av0).tg)
          have e1 := empty_is (l.getD k av0).lb
          have e2 := empty_is (l.getD k av0).tg
          have HBk := Lib.hid (HBB2.out k (by rw [HL.out]; exact hlt) HN.out)
          have HDef : Hid (badL l k = ((decide ((l.getD k av0).lb ≠ []) && decide (findA l (l.getD k av0).lb ≠ k)) || (decide ((l.getD k av0).tg ≠ []) && decide (findA l (l.getD k av0).tg < 0)))) := rfl
          have HInk := Lib.hid (HIn.out k (by rw [HL.out]; exact hlt))
          have HIs : Hid (ins l (l.getD k av0) = if (l.getD k av0).tg = [] then (l.getD k av0).i else ⟨(l.getD k av0).i.op, (l.getD k av0).i.a, (l.getD k av0).i.b, findA l (l.getD k av0).tg⟩) := rfl
          have HNk : Hid (badL l k = false → ∀ t, t < k + 1 → badL l t = false) := fun hh t ht => by
            by_cases e : t = k
            · rw [e]; exact hh
            · exact HN.out t (by omega)
          have hfl := find_le l (l.getD k av0).tg
          rw [HL.out] at hfl
          clear hw HA HFd HBB2 HIn HGo2
          generalize findA l (l.getD k av0).lb = f1 at *
          generalize findA l (l.getD k av0).tg = f2 at *
          generalize ins l (l.getD k av0) = J at *
          generalize l.getD k av0 = x at *
          obtain ⟨lb, ⟨op, ia, ib, ic⟩, tg⟩ := x
          simp only at *
          generalize badL l k = bd at *
          generalize hd1 : decide (lb = []) = d1 at *
          generalize hd2 : decide (tg = []) = d2 at *
          have HD1 : Hid (d1 = true ↔ lb = []) := by show _ ↔ _; rw [← hd1]; simp
          have HD2 : Hid (d2 = true ↔ tg = []) := by show _ ↔ _; rw [← hd2]; simp
          have HDf : Hid (bd = ((!d1 && decide (f1 ≠ k)) || (!d2 && decide (f2 < 0)))) := by show _ = _; rw [HDef.out, ← hd1, ← hd2]; simp
          clear hd1 hd2 HDef HN
          generalize sB lb = LB at *
          generalize sB tg = TO at *
          have hw0 : Below w.heap.size w (wr.alloc (.cells #[.string LB, .int .u8 op, .int .u8 ia, .int .u16 ib, .int .u32 ic, .string TO] 34)) := HBl.out.alloc HBl.out.size _
          have HB0 := Lib.hid hw0
          have hx0 := alloc_new wr (.cells #[.string LB, .int .u8 op, .int .u8 ia, .int .u16 ib, .int .u32 ic, .string TO] 34)
          have HO0 := Lib.hid (HO.out.alloc (.cells #[.string LB, .int .u8 op, .int .u8 ia, .int .u16 ib, .int .u32 ic, .string TO] 34))
          obtain ⟨V, hV⟩ : ∃ V, wr.heap.size = V := ⟨_, rfl⟩
          have hVw : w.heap.size ≤ V := by rw [← hV]; exact HBl.out.size
          rw [hV] at hx0
          obtain ⟨y0, y1, y2, y3, y4, y5⟩ := cells6 hx0
          clear hw0
          cases d1
          · by_cases q1 : f1 = k
            · have q := q1
              cases d2
              · by_cases q2 : f2 < 0
                · have HE := Lib.hid (HBk.out (by rw [HDf.out]; simp; omega))
                  have g1 : (f1 != (k : Int)) = false := by simp; omega
                  have g2 : decide (f2 < 0) = true := decide_eq_true (by omega)
                  clear HBk HNk HDf HIs HD1 HD2
                  go_wp2_with fail
                  refine (HF1.out _ HB0.out).mono ?_
                  rintro e w1 ⟨rfl, hb⟩
                  have HB1 := Lib.hid (HB0.out.trans (hb.mono HB0.out.size))
                  have hx1 := (hb.block _ (lt_of_block hx0)).trans hx0
                  have HO1 := Lib.hid (own_below HO0.out hb (Nat.le_refl _))
                  clear hb y0 y1 y2 y3 y4 y5 hx0
                  obtain ⟨y0, y1, y2, y3, y4, y5⟩ := cells6 hx1
                  go_wp2_with fail
                  refine (HF2.out _ HB1.out).mono ?_
                  rintro e w2 ⟨rfl, hb⟩
                  have HB2 := Lib.hid (HB1.out.trans (hb.mono HB1.out.size))
                  have hx2 := (hb.block _ (lt_of_block hx1)).trans hx1
                  have HO2 := Lib.hid (own_below HO1.out hb (Nat.le_refl _))
                  clear hb y0 y1 y2 y3 y4 y5 hx1
                  obtain ⟨y0, y1, y2, y3, y4, y5⟩ := cells6 hx2
                  go_wp2_with fail
                  refine bodyPost_ret (v := .tuple #[.slice none 0 0, .int .i64 k, .int .i64 101]) (by simp [results, Tryz.f11, go_sem]) rfl ?_
                  obtain ⟨e1, e2, e3⟩ := HE.out
                  exact ⟨_, by rw [e1, e2], by rw [e3]; exact World.ownsRow_nil _ _ _ _, HB2.out⟩
                · have HN2 := Lib.hid (HNk.out (by rw [HDf.out]; simp <;> omega))
                  have HJ : Hid (J = ⟨op, ia, ib, f2⟩) := by show _ = _; rw [HIs.out, if_neg (fun e => by have := HD2.out.2 e; cases this)]
                  have g1 : (f1 != (k : Int)) = false := by simp; omega
                  have g2 : decide (f2 < 0) = false := decide_eq_false (by omega)
                  clear HBk HNk HDf HIs HD1 HD2
                  go_wp2_with fail
                  refine (HF1.out _ HB0.out).mono ?_
                  rintro e w1 ⟨rfl, hb⟩
                  have HB1 := Lib.hid (HB0.out.trans (hb.mono HB0.out.size))
                  have hx1 := (hb.block _ (lt_of_block hx0)).trans hx0
                  have HO1 := Lib.hid (own_below HO0.out hb (Nat.le_refl _))
                  clear hb y0 y1 y2 y3 y4 y5 hx0
                  obtain ⟨y0, y1, y2, y3, y4, y5⟩ := cells6 hx1
                  go_wp2_with fail
                  refine (HF2.out _ HB1.out).mono ?_
                  rintro e w2 ⟨rfl, hb⟩
                  have HB2 := Lib.hid (HB1.out.trans (hb.mono HB1.out.size))
                  have hx2 := (hb.block _ (lt_of_block hx1)).trans hx1
                  have HO2 := Lib.hid (own_below HO1.out hb (Nat.le_refl _))
                  clear hb y0 y1 y2 y3 y4 y5 hx1
                  obtain ⟨y0, y1, y2, y3, y4, y5⟩ := cells6 hx2
                  have hf : ∀ j, w2.frozen? ⟨V, j, none⟩ = false := fun j => by simp [World.frozen?, hx2]
                  have hy : (w2.setCell ⟨V, 4, none⟩ (.int .u32 f2)).heap[V]? = some (.cells #[.string LB, .int .u8 op, .int .u8 ia, .int .u16 ib, .int .u32 f2, .string TO] 34) := by
                    have := row_set (j := 4) (u := .int .u32 f2) hx2
                    simpa using this
                  have HBs := Lib.hid (HB2.out.setCell (p := ⟨V, 4, none⟩) hVw (.int .u32 f2))
                  have HOs : Hid ((w2.setCell ⟨V, 4, none⟩ (.int .u32 f2)).ownsRow w.heap.size 32 4 (.slice va k vc) k (encs (insK l k))) := own_kept HO2.out (fun j hj => setCell_other _ _ _ (fun e => own_not HO2.out hx2 (by rw [e] at hj; exact hj)))
                  have hcv : IntKind.u32.wrap f2 = f2 := by simp [IntKind.wrap, IntKind.bits, IntKind.signed]; omega
                  go_upto_region 20 with (simp only [hf])
                  generalize w2.setCell ⟨V, 4, none⟩ (.int .u32 f2) = W8 at *
                  clear y0 y1 y2 y3 y4 y5 hcv hf
                  obtain ⟨y0, y1, y2, y3, y4, y5⟩ := cells6 hy
                  obtain ⟨g, cap, W9, hap, hown2, hb5⟩ := app_el Tryz.underlying25 infoI rfl (by decide) (by decide) HOs.out HBs.out.size (by omega) [.int .u8 op, .int .u8 ia, .int .u16 ib, .int .u32 f2] rfl (by intro u hu; simp at hu; rcases hu with rfl | rfl | rfl | rfl <;> rfl) 25
                  have HO9 := Lib.hid (own_off hown2 (show encs (insK l k) ++ [.int .u8 op, .int .u8 ia, .int .u16 ib, .int .u32 f2] = encs (insK l (k + 1)) from by rw [HInk.out, HJ.out]; unfold encs; rw [List.flatMap_append]; simp [encI]))
                  have HB9 := Lib.hid (HBs.out.trans hb5)
                  clear hown2 hb5
                  try simp only [World.size_alloc, World.size_setCell] at hap
                  go_wp2_with (first | (at_builtin; refine wpList_append_run rfl (.tmp 62) (.tmp 65) 25 25 rfl _ _ _ W9 25 rfl rfl rfl hap ?_))
                  exact ⟨⟨k + 1, by omega, by simp, HO9.out, HN2.out, HB9.out⟩, by simp [intOf]; omega⟩
              · have HN2 := Lib.hid (HNk.out (by rw [HDf.out]; simp <;> omega))
                have HJ : Hid (J = ⟨op, ia, ib, ic⟩) := by show _ = _; rw [HIs.out, if_pos (HD2.out.1 rfl)]
                have g1 : (f1 != (k : Int)) = false := by simp; omega
                clear HBk HNk HDf HIs HD1 HD2
                go_wp2_with fail
                refine (HF1.out _ HB0.out).mono ?_
                rintro e w1 ⟨rfl, hb⟩
                have HB1 := Lib.hid (HB0.out.trans (hb.mono HB0.out.size))
                have hx1 := (hb.block _ (lt_of_block hx0)).trans hx0
                have HO1 := Lib.hid (own_below HO0.out hb (Nat.le_refl _))
                clear hb y0 y1 y2 y3 y4 y5 hx0
                obtain ⟨y0, y1, y2, y3, y4, y5⟩ := cells6 hx1
                obtain ⟨g, cap, W9, hap, hown2, hb5⟩ := app_el Tryz.underlying25 infoI rfl (by decide) (by decide) HO1.out HB1.out.size (by omega) [.int .u8 op, .int .u8 ia, .int .u16 ib, .int .u32 ic] rfl (by intro u hu; simp at hu; rcases hu with rfl | rfl | rfl | rfl <;> rfl) 25
                have HO9 := Lib.hid (own_off hown2 (show encs (insK l k) ++ [.int .u8 op, .int .u8 ia, .int .u16 ib, .int .u32 ic] = encs (insK l (k + 1)) from by rw [HInk.out, HJ.out]; unfold encs; rw [List.flatMap_append]; simp [encI]))
                have HB9 := Lib.hid (HB1.out.trans hb5)
                clear hown2 hb5
                try simp only [World.size_alloc, World.size_setCell] at hap
                go_wp2_with (first | (at_builtin; refine wpList_append_run rfl (.tmp 62) (.tmp 65) 25 25 rfl _ _ _ W9 25 rfl rfl rfl hap ?_))
                exact ⟨⟨k + 1, by omega, by simp, HO9.out, HN2.out, HB9.out⟩, by simp [intOf]; omega⟩
            · have HE := Lib.hid (HBk.out (by rw [HDf.out]; simp; omega))
              have g1 : (f1 != (k : Int)) = true := by simp; omega
              clear HBk HNk HDf HIs HD1 HD2
              go_wp2_with fail
              refine (HF1.out _ HB0.out).mono ?_
              rintro e w1 ⟨rfl, hb⟩
              have HB1 := Lib.hid (HB0.out.trans (hb.mono HB0.out.size))
              have hx1 := (hb.block _ (lt_of_block hx0)).trans hx0
              have HO1 := Lib.hid (own_below HO0.out hb (Nat.le_refl _))
              clear hb y0 y1 y2 y3 y4 y5 hx0
              obtain ⟨y0, y1, y2, y3, y4, y5⟩ := cells6 hx1
              go_wp2_with fail
              refine bodyPost_ret (v := .tuple #[.slice none 0 0, .int .i64 k, .int .i64 101]) (by simp [results, Tryz.f11, go_sem]) rfl ?_
              obtain ⟨e1, e2, e3⟩ := HE.out
              exact ⟨_, by rw [e1, e2], by rw [e3]; exact World.ownsRow_nil _ _ _ _, HB1.out⟩
          · have q := 0
            cases d2
            · by_cases q2 : f2 < 0
              · have HE := Lib.hid (HBk.out (by rw [HDf.out]; simp; omega))
                have g2 : decide (f2 < 0) = true := decide_eq_true (by omega)
                clear HBk HNk HDf HIs HD1 HD2
                go_wp2_with fail
                refine (HF2.out _ HB0.out).mono ?_
                rintro e w1 ⟨rfl, hb⟩
                have HB1 := Lib.hid (HB0.out.trans (hb.mono HB0.out.size))
                have hx1 := (hb.block _ (lt_of_block hx0)).trans hx0
                have HO1 := Lib.hid (own_below HO0.out hb (Nat.le_refl _))
                clear hb y0 y1 y2 y3 y4 y5 hx0
                obtain ⟨y0, y1, y2, y3, y4, y5⟩ := cells6 hx1
                go_wp2_with fail
                refine bodyPost_ret (v := .tuple #[.slice none 0 0, .int .i64 k, .int .i64 101]) (by simp [results, Tryz.f11, go_sem]) rfl ?_
                obtain ⟨e1, e2, e3⟩ := HE.out
                exact ⟨_, by rw [e1, e2], by rw [e3]; exact World.ownsRow_nil _ _ _ _, HB1.out⟩
              · have HN2 := Lib.hid (HNk.out (by rw [HDf.out]; simp <;> omega))
                have HJ : Hid (J = ⟨op, ia, ib, f2⟩) := by show _ = _; rw [HIs.out, if_neg (fun e => by have := HD2.out.2 e; cases this)]
                have g2 : decide (f2 < 0) = false := decide_eq_false (by omega)
                clear HBk HNk HDf HIs HD1 HD2
                go_wp2_with fail
                refine (HF2.out _ HB0.out).mono ?_
                rintro e w1 ⟨rfl, hb⟩
                have HB1 := Lib.hid (HB0.out.trans (hb.mono HB0.out.size))
                have hx1 := (hb.block _ (lt_of_block hx0)).trans hx0
                have HO1 := Lib.hid (own_below HO0.out hb (Nat.le_refl _))
                clear hb y0 y1 y2 y3 y4 y5 hx0
                obtain ⟨y0, y1, y2, y3, y4, y5⟩ := cells6 hx1
                have hf : ∀ j, w1.frozen? ⟨V, j, none⟩ = false := fun j => by simp [World.frozen?, hx1]
                have hy : (w1.setCell ⟨V, 4, none⟩ (.int .u32 f2)).heap[V]? = some (.cells #[.string LB, .int .u8 op, .int .u8 ia, .int .u16 ib, .int .u32 f2, .string TO] 34) := by
                  have := row_set (j := 4) (u := .int .u32 f2) hx1
                  simpa using this
                have HBs := Lib.hid (HB1.out.setCell (p := ⟨V, 4, none⟩) hVw (.int .u32 f2))
                have HOs : Hid ((w1.setCell ⟨V, 4, none⟩ (.int .u32 f2)).ownsRow w.heap.size 32 4 (.slice va k vc) k (encs (insK l k))) := own_kept HO1.out (fun j hj => setCell_other _ _ _ (fun e => own_not HO1.out hx1 (by rw [e] at hj; exact hj)))
                have hcv : IntKind.u32.wrap f2 = f2 := by simp [IntKind.wrap, IntKind.bits, IntKind.signed]; omega
                go_upto_region 20 with (simp only [hf])
                generalize w1.setCell ⟨V, 4, none⟩ (.int .u32 f2) = W8 at *
                clear y0 y1 y2 y3 y4 y5 hcv hf
                obtain ⟨y0, y1, y2, y3, y4, y5⟩ := cells6 hy
                obtain ⟨g, cap, W9, hap, hown2, hb5⟩ := app_el Tryz.underlying25 infoI rfl (by decide) (by decide) HOs.out HBs.out.size (by omega) [.int .u8 op, .int .u8 ia, .int .u16 ib, .int .u32 f2] rfl (by intro u hu; simp at hu; rcases hu with rfl | rfl | rfl | rfl <;> rfl) 25
                have HO9 := Lib.hid (own_off hown2 (show encs (insK l k) ++ [.int .u8 op, .int .u8 ia, .int .u16 ib, .int .u32 f2] = encs (insK l (k + 1)) from by rw [HInk.out, HJ.out]; unfold encs; rw [List.flatMap_append]; simp [encI]))
                have HB9 := Lib.hid (HBs.out.trans hb5)
                clear hown2 hb5
                try simp only [World.size_alloc, World.size_setCell] at hap
                go_wp2_with (first | (at_builtin; refine wpList_append_run rfl (.tmp 62) (.tmp 65) 25 25 rfl _ _ _ W9 25 rfl rfl rfl hap ?_))
                exact ⟨⟨k + 1, by omega, by simp, HO9.out, HN2.out, HB9.out⟩, by simp [intOf]; omega⟩
            · have HN2 := Lib.hid (HNk.out (by rw [HDf.out]; simp <;> omega))
              have HJ : Hid (J = ⟨op, ia, ib, ic⟩) := by show _ = _; rw [HIs.out, if_pos (HD2.out.1 rfl)]
              clear HBk HNk HDf HIs HD1 HD2
              obtain ⟨g, cap, W9, hap, hown2, hb5⟩ := app_el Tryz.underlying25 infoI rfl (by decide) (by decide) HO0.out HB0.out.size (by omega) [.int .u8 op, .int .u8 ia, .int .u16 ib, .int .u32 ic] rfl (by intro u hu; simp at hu; rcases hu with rfl | rfl | rfl | rfl <;> rfl) 25
              have HO9 := Lib.hid (own_off hown2 (show encs (insK l k) ++ [.int .u8 op, .int .u8 ia, .int .u16 ib, .int .u32 ic] = encs (insK l (k + 1)) from by rw [HInk.out, HJ.out]; unfold encs; rw [List.flatMap_append]; simp [encI]))
              have HB9 := Lib.hid (HB0.out.trans hb5)
              clear hown2 hb5
              try simp only [World.size_alloc, World.size_setCell] at hap
              rw [hV] at hap
              go_wp2_with (first | (at_builtin; refine wpList_append_run rfl (.tmp 62) (.tmp 65) 25 25 rfl _ _ _ W9 25 rfl rfl rfl hap ?_))
              exact ⟨⟨k + 1, by omega, by simp, HO9.out, HN2.out, HB9.out⟩, by simp [intOf]; omega⟩
        · obtain rfl : n = k := by omega
          have hd : decide ((n : Int) < (n : Int)) = false := decide_eq_false (by omega)
          obtain ⟨e1, e2, e3⟩ := HGo2.out (by rw [HL.out]; exact HN.out)
          have E1 := Lib.hid e1
          have E2 := Lib.hid e2
          have E3 : Hid (asmL l = insK l n) := by show _ = _; rw [e3]; unfold insK; rw [← HL.out, List.take_length]
          have E4 : Hid ((asmL l).length = n) := by show _ = _; rw [e3, List.length_map, HL.out]
          clear e1 e2 e3
          go_wp2_with fail
          refine bodyPost_ret (v := .tuple #[.slice va n vc, .int .i64 0, .int .i64 0]) (by simp [results, Tryz.f11, go_sem]) rfl ?_
          refine ⟨_, by rw [E1.out, E2.out]; rfl, ?_, HBl.out⟩
          rw [E4.out, E3.out]
          exact HO.out
end Asm
end Go.Proofs.YtgiocecpkhmhhaaGreatDoor
