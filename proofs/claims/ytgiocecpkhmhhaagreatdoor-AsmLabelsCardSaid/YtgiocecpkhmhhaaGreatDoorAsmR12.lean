/- The document's own answers: what a text is parsed as; One's contract is a premise here. (Made by tools/gen_asmr12.py.) -/
import Derived.Test.YtgiocecpkhmhhaaGreatDoorAsmR10
namespace Go.Proofs.YtgiocecpkhmhhaaGreatDoor
open Go.ChangeShapes Go.WideShapes Go.ChangeAt Go.RowKit
namespace Asm
open Isa
set_option linter.unusedVariables false
set_option linter.unusedSimpArgs false
def OneC : Prop := ∀ (l : List (List UInt8)) (a : Option Addr) (n c : Nat), n ≤ c → c ≤ 9223372036854775807 → l ≠ [] → (∀ s ∈ l, s ≠ []) → (∀ s ∈ l, s.length ≤ 1000000000) → ∀ (w : World), SRow w a n l →
    Calls Tryz.prog 53 #[.slice a n c] w fun e w' => ∃ y : Av, e = .returned (.tuple #[avV y, .int .i64 (one l).2]) ∧ ((one l).2 = 0 → y = (one l).1) ∧ Below w.heap.size w w'
theorem wordsGo_all : ∀ (s cur : List UInt8) (B : Nat), cur.length + s.length ≤ B → ∀ v ∈ wordsGo s cur, v ≠ [] ∧ v.length ≤ B
  | [], cur, B, h, v, hv => by
    rw [wordsGo] at hv
    unfold flush at hv
    split at hv
    · simp at hv
    · simp at hv; subst hv; simp at h; exact ⟨by assumption, h⟩
  | x :: s, cur, B, h, v, hv => by
    simp at h
    have hf : ∀ v ∈ flush cur, v ≠ [] ∧ v.length ≤ B := by
      intro v hv
      unfold flush at hv
      split at hv
      · simp at hv
      · simp at hv; subst hv; exact ⟨by assumption, by omega⟩
    rw [wordsGo] at hv
    split at hv
    · exact hf v hv
    · split at hv
      · rcases List.mem_append.1 hv with q | q
        · exact hf v q
        · exact wordsGo_all s [] B (by simp; omega) v q
      · exact wordsGo_all s (cur ++ [x]) B (by simp; omega) v hv
theorem words_all {s : List UInt8} : ∀ v ∈ words s, v ≠ [] ∧ v.length ≤ s.length := wordsGo_all s [] s.length (by simp)
/-- the first line behind a place -/
theorem splitL_at (s : List UInt8) (at_ k : Nat) (h1 : at_ ≤ k) (h2 : k ≤ s.length) (hn : ∀ t, at_ ≤ t → t < k → s.getD t 0 ≠ 10) (he : k = s.length ∨ s.getD k 0 = 10) :
    splitL (s.drop at_) [] = (s.drop at_).take (k - at_) :: (if k < s.length then splitL (s.drop (k + 1)) [] else []) := by
  have hno : ∀ y ∈ (s.drop at_).take (k - at_), y ≠ 10 := by
    intro y hy
    obtain ⟨i, hi, rfl⟩ := List.getElem_of_mem hy
    have hi2 : i < k - at_ := by simp at hi; omega
    have := hn (at_ + i) (by omega) (by omega)
    rw [List.getD_eq_getElem?_getD, List.getElem?_eq_getElem (by omega)] at this
    simpa [List.getElem_take, List.getElem_drop] using this
  by_cases hk : k < s.length
  · rw [if_pos hk]
    have h10 : s.getD k 0 = 10 := he.resolve_left (by omega)
    have e : s.drop at_ = (s.drop at_).take (k - at_) ++ 10 :: s.drop (k + 1) := by
      have e1 := (List.take_append_drop (k - at_) (s.drop at_)).symm
      rw [List.drop_drop, show at_ + (k - at_) = k from by omega, drop_cons s k hk, h10] at e1
      exact e1
    have := splitL_cut ((s.drop at_).take (k - at_)) (s.drop (k + 1)) [] hno
    rw [← e] at this
    exact this
  · rw [if_neg hk]
    have e : (s.drop at_).take (k - at_) = s.drop at_ := List.take_of_length_le (by rw [List.length_drop]; omega)
    rw [e] at hno ⊢
    have : ∀ (u cur : List UInt8), (∀ y ∈ u, y ≠ 10) → splitL u cur = [cur ++ u] := by
      intro u
      induction u with
      | nil => intro cur _; simp [splitL]
      | cons y u ih => intro cur h; rw [splitL, if_neg (h y (by simp)), ih _ (fun z hz => h z (by simp [hz]))]; simp
    exact this _ [] hno
def encAs (l : List Av) : List Value := l.flatMap encA
theorem infoA : (Tryz.prog.info? 34).map (fun i => (i.zero, i.size, i.bytes)) = some (some (.agg #[.string ⟨#[]⟩, .int .u8 0, .int .u8 0, .int .u16 0, .int .u32 0, .string ⟨#[]⟩]), 6, 40) := by kernel_rfl
theorem cut_mid (s : List UInt8) (a b : Nat) (h : a ≤ b) (h2 : b ≤ s.length) : (sB s).extract a b = sB ((s.drop a).take (b - a)) := by
  apply sB_of
  simp [sB]
theorem ret_ps {v : Value} {a b c d : Int} (h : a = b) (h2 : c = d) : Ending.returned (.tuple #[v, .int .i64 a, .int .i64 c]) = .returned (.tuple #[v, .int .i64 b, .int .i64 d]) := by rw [h, h2]
set_option maxRecDepth 100000 in
set_option maxHeartbeats 6400000 in
theorem rparse_any (H1 : OneC) (s : List UInt8) (hm : s.length ≤ 524288) (w : World) : Calls Tryz.prog 22 #[.string (sB s)] w fun e w' =>
    ∃ v, e = .returned (.tuple #[v, .int .i64 (parseA s).2.1, .int .i64 (parseA s).2.2]) ∧ w'.ownsRow w.heap.size 34 6 v (parseA s).1.length (encAs (parseA s).1) ∧ Below w.heap.size w w' := by
  have hP : parseA s = parseGo (splitL (s.drop 0) []) 1 [] := by unfold parseA; rw [if_neg (by omega)]; rfl
  have HP0 := Lib.hid hP.symm
  clear hP
  generalize parseA s = P at *
  have hsz : ((sB s).size : Int) = s.length := by rw [sB_size]
  have hd0 : decide ((524288 : Int) < (s.length : Int)) = false := decide_eq_false (by omega)
  have hix := Lib.hid (fun k (hk : k < s.length) => letter s k hk)
  have HSp := Lib.hid (fun a k h1 h2 hn he => splitL_at s a k h1 h2 hn he)
  have HSl : Hid (∀ (a b : Nat), a ≤ b → b ≤ s.length → ∀ W, (Instr.slice 9 (.string (sB s)) (some (.int .i64 (a : Int))) (some (.int .i64 (b : Int))) none).run Tryz.prog W = .ok (.string (sB ((s.drop a).take (b - a)))) W) := fun a b h1 h2 W => by
    rw [run_slice_string W 9 (sB s) .i64 .i64 a b Tryz.underlying9 (by omega) (by omega) (by rw [sB_size]; omega), Int.toNat_natCast, Int.toNat_natCast, cut_mid s a b h1 h2]
  have HOne := Lib.hid H1
  clear H1
  generalize sB s = S at *
  go_enter Tryz.func22, Tryz.ntmps22
  go_wp2_with fail
  clear hd0
  go_loopw [5, 6, 7] (fun v i m wr => ∃ (at_ n : Nat) (out : List Av), at_ ≤ s.length + 1 ∧ n ≤ at_ + 1 ∧ out.length ≤ n ∧ i = .int .i64 at_ ∧ m = .int .i64 n ∧ wr.ownsRow w.heap.size 34 6 v out.length (encAs out) ∧ ((at_ ≤ s.length ∧ parseGo (splitL (s.drop at_) []) n out = P) ∨ (at_ = s.length + 1 ∧ P = (out, 0, 0))) ∧ Below w.heap.size w wr) (fun _ i _ _ => s.length + 1 - (intOf i).toNat)
  case atStart => exact ⟨0, 1, [], by omega, by omega, by simp, rfl, rfl, World.ownsRow_nil _ _ _ _, .inl ⟨by omega, HP0.out⟩, Below.refl _ _⟩
  case round =>
    clear HP0
    obtain ⟨at_, n, out, hat, hnat, hon, rfl, rfl, hown, hst, hbel⟩ := hrel
    have HO := Lib.hid hown
    have HBl := Lib.hid hbel
    obtain ⟨va, vc, rfl, _, _⟩ := own_shape hown
    clear hown hbel
    by_cases hin : at_ ≤ s.length
    · have hd : decide ((at_ : Int) ≤ (s.length : Int)) = true := decide_eq_true (by omega)
      have HSt : Hid (parseGo (splitL (s.drop at_) []) n out = P) := (hst.resolve_right (fun h => by omega)).2
      clear hst
      go_wp2_with fail
      go_loopw [8] (fun e wr' => ∃ k : Nat, at_ ≤ k ∧ k ≤ s.length ∧ e = .int .i64 k ∧ (∀ t, at_ ≤ t → t < k → s.getD t 0 ≠ 10) ∧ wr' = wr) (fun e _ => s.length - (intOf e).toNat)
      case atStart => exact ⟨at_, Nat.le_refl _, hin, rfl, fun t h1 h2 => by omega, rfl⟩
      case round =>
        obtain ⟨k, hak, hk, rfl, hno, rfl⟩ := hrel
        have HN := Lib.hid hno
        clear hno
        by_cases hlt : k < s.length
        · have hi := hix.out k hlt
          have hd1 : decide ((k : Int) < (s.length : Int)) = true := decide_eq_true (by omega)
          have HX : Hid ((s.getD k 0).toNat = 10 ↔ s.getD k 0 = 10) := ⟨fun e => UInt8.toNat_inj.1 (by rw [e]; rfl), fun e => by rw [e]; rfl⟩
          have HN2 : Hid (s.getD k 0 ≠ 10 → ∀ t, at_ ≤ t → t < k + 1 → s.getD t 0 ≠ 10) := fun hh t h1 h2 => by
            by_cases e : t = k
            · rw [e]; exact hh
            · exact HN.out t h1 (by omega)
          have HX1 := Lib.hid HX.out
          generalize (s.getD k 0).toNat = z at *
          by_cases hz10 : z = 10
          · have h10 : s.getD k 0 = 10 := HX1.out.1 hz10
            have hz : ((z : Nat) : Int) = 10 := by rw [hz10]; rfl
            rw [hz] at hi
            have hsp := HSp.out at_ k hak hk HN.out (.inr h10)
            rw [if_pos hlt] at hsp
            have HQ : Hid (parseGo ((s.drop at_).take (k - at_) :: splitL (s.drop (k + 1)) []) n out = P) := by rw [← hsp]; exact HSt.out
            clear hsp HSt HN HN2 HX HX1 hz h10 hz10
            have hsl := HSl.out at_ k hak hk
            have HW := Lib.hid (words_any ((s.drop at_).take (k - at_)) (by rw [List.length_take, List.length_drop]; omega) wr)
            have hal : ∀ u ∈ words ((s.drop at_).take (k - at_)), u ≠ [] ∧ u.length ≤ 1000000000 := fun u hu => by
              have := words_all u hu
              rw [List.length_take, List.length_drop] at this
              exact ⟨this.1, by omega⟩
            have HAl := Lib.hid hal
            rw [parseGo] at HQ
            clear hal hix HSl HSp
            generalize hL : (s.drop at_).take (k - at_) = L at *
            clear hL
            generalize words L = ws at *
            generalize sB L = LB at *
            go_wp2_with (simp only [hsl, Result.andThen_ok])
            refine HW.out.mono ?_
            rintro e w1 ⟨v, rfl, hwo, hb1⟩
            obtain ⟨a1, c1, rfl, hc1, hc2, hrow⟩ := own_strs hwo
            have HB1 := Lib.hid (HBl.out.trans (hb1.mono HBl.out.size))
            have HO1 := Lib.hid (own_below HO.out hb1 (Nat.le_refl _))
            clear hsl hwo hb1
            by_cases hws : ws = []
            · have HQ2 : Hid (parseGo (splitL (s.drop (k + 1)) []) (n + 1) out = P) := by have := HQ.out; rw [if_pos hws] at this; exact this
              subst hws
              clear HQ HAl HOne HW
              go_wp2_with fail
              refine ⟨⟨k + 1, n + 1, out, by omega, by omega, by omega, by simp, by simp, HO1.out, .inl ⟨by omega, HQ2.out⟩, HB1.out⟩, by simp [intOf]; omega⟩
            · have hlw : ws.length ≠ 0 := fun e => hws (List.length_eq_zero_iff.1 e)
              have gw : ((ws.length : Int) == 0) = false := beq_eq_false_iff_ne.2 (by omega)
              have HQ1 := HQ.out
              rw [if_neg hws] at HQ1
              have HC := Lib.hid (HOne.out ws a1 ws.length c1 hc1 (by unfold maxLen at hc2; omega) hws (fun u hu => (HAl.out u hu).1) (fun u hu => (HAl.out u hu).2) w1 hrow)
              have HQ := Lib.hid HQ1
              clear HQ1 hws HAl HOne hrow HW
              generalize (one ws).2 = E at *
              generalize (one ws).1 = Y at *
              go_wp2_with fail
              refine HC.out.mono ?_
              rintro e w2 ⟨y, rfl, hy, hb2⟩
              have HB2 := Lib.hid (HB1.out.trans (hb2.mono HB1.out.size))
              have HO2 := Lib.hid (own_below HO1.out hb2 (Nat.le_refl _))
              clear hb2
              by_cases hE : E = 0
              · have hyY := hy hE
                subst hyY
                subst hE
                have HQ1 := HQ.out
                rw [if_neg (by simp)] at HQ1
                obtain ⟨lb, ⟨op, ia, ib, ic⟩, tg⟩ := y
                unfold avV
                simp only at *
                have HB3 := Lib.hid (HB2.out.alloc (o := .cells #[.string (sB lb), .int .u8 op, .int .u8 ia, .int .u16 ib, .int .u32 ic, .string (sB tg)] 34) HB2.out.size)
                by_cases hfull : out.length = 16384
                · have HQ2 : Hid ((([], (n : Int), 3) : List Av × Int × Int) = P) := by have := HQ1; rw [if_pos hfull] at this; exact this
                  have gf : ((out.length : Int) == 16384) = true := by rw [hfull]; rfl
                  go_wp2_with fail
                  refine bodyPost_ret (v := .tuple #[.slice none 0 0, .int .i64 n, .int .i64 3]) (by simp [results, Tryz.f22, go_sem]) rfl ?_
                  exact ⟨_, by rw [← HQ2.out], by rw [← HQ2.out]; exact World.ownsRow_nil _ _ _ _, HB3.out⟩
                · have HQ2 : Hid (parseGo (splitL (s.drop (k + 1)) []) (n + 1) (out ++ [⟨lb, ⟨op, ia, ib, ic⟩, tg⟩]) = P) := by have := HQ1; rw [if_neg hfull] at this; exact this
                  have gf : ((out.length : Int) == 16384) = false := beq_eq_false_iff_ne.2 (by omega)
                  have hx := alloc_new w2 (.cells #[.string (sB lb), .int .u8 op, .int .u8 ia, .int .u16 ib, .int .u32 ic, .string (sB tg)] 34)
                  obtain ⟨y0, y1, y2, y3, y4, y5⟩ := cells6 hx
                  obtain ⟨g, cap, W9, hap, hown9, hb9⟩ := app_el Tryz.underlying22 infoA rfl (by decide) (by decide) (HO2.out.alloc (.cells #[.string (sB lb), .int .u8 op, .int .u8 ia, .int .u16 ib, .int .u32 ic, .string (sB tg)] 34)) HB3.out.size (by omega) [.string (sB lb), .int .u8 op, .int .u8 ia, .int .u16 ib, .int .u32 ic, .string (sB tg)] rfl (by intro u hu; simp at hu; rcases hu with rfl | rfl | rfl | rfl | rfl | rfl <;> rfl) 22
                  have hl9 : (out ++ [(⟨lb, ⟨op, ia, ib, ic⟩, tg⟩ : Av)]).length = out.length + 1 := by simp
                  have HO9 : Hid (W9.ownsRow w.heap.size 34 6 (.slice (some ⟨g, 0, none⟩) (out.length + 1 : Nat) cap) (out ++ [(⟨lb, ⟨op, ia, ib, ic⟩, tg⟩ : Av)]).length (encAs (out ++ [⟨lb, ⟨op, ia, ib, ic⟩, tg⟩]))) := by
                    show World.ownsRow _ _ _ _ _ _ _
                    rw [hl9]
                    refine own_off hown9 ?_
                    unfold encAs
                    rw [List.flatMap_append]
                    simp [encA]
                  have HB9 := Lib.hid (HB3.out.trans hb9)
                  clear hown9 hb9 hx
                  rw [World.size_alloc] at hap
                  go_wp2_with (at_builtin; refine wpList_append_run rfl (.tmp 60) (.tmp 62) 22 22 rfl _ _ _ W9 22 rfl rfl rfl hap ?_)
                  refine ⟨⟨k + 1, n + 1, out ++ [⟨lb, ⟨op, ia, ib, ic⟩, tg⟩], by omega, by omega, by rw [hl9]; omega, by simp, by simp, HO9.out, .inl ⟨by omega, HQ2.out⟩, HB9.out⟩, by simp [intOf]; omega⟩
              · have HQ2 : Hid ((([], (n : Int), E) : List Av × Int × Int) = P) := by have := HQ.out; rw [if_pos hE] at this; exact this
                have ge : (E == 0) = false := beq_eq_false_iff_ne.2 hE
                have ge2 : (E != 0) = true := by simp [hE]
                obtain ⟨lb, ⟨op, ia, ib, ic⟩, tg⟩ := y
                unfold avV
                simp only at *
                have HB3 := Lib.hid (HB2.out.alloc (o := .cells #[.string (sB lb), .int .u8 op, .int .u8 ia, .int .u16 ib, .int .u32 ic, .string (sB tg)] 34) HB2.out.size)
                go_wp2_with fail
                refine bodyPost_ret (v := .tuple #[.slice none 0 0, .int .i64 n, .int .i64 E]) (by simp [results, Tryz.f22, go_sem]) rfl ?_
                exact ⟨_, by rw [← HQ2.out], by rw [← HQ2.out]; exact World.ownsRow_nil _ _ _ _, HB3.out⟩
          · have g10 : ((z : Int) != 10) = true := by simp; omega
            have HN3 := Lib.hid (HN2.out (fun e => hz10 (HX1.out.2 e)))
            clear HX HX1 HN2 hz10
            go_wp2_with fail
            exact ⟨⟨k + 1, by omega, by omega, by simp, HN3.out, trivial⟩, by simp [intOf]; omega⟩
        · obtain rfl : k = s.length := by omega
          have hd1 : decide ((s.length : Int) < (s.length : Int)) = false := decide_eq_false (by omega)
          have hsp := HSp.out at_ s.length hak hk HN.out (.inl rfl)
          rw [if_neg (Nat.lt_irrefl _)] at hsp
          have HQ : Hid (parseGo ((s.drop at_).take (s.length - at_) :: []) n out = P) := by rw [← hsp]; exact HSt.out
          clear hsp HSt HN
          have hsl := HSl.out at_ s.length hak hk
          have HW := Lib.hid (words_any ((s.drop at_).take (s.length - at_)) (by rw [List.length_take, List.length_drop]; omega) wr)
          have hal : ∀ u ∈ words ((s.drop at_).take (s.length - at_)), u ≠ [] ∧ u.length ≤ 1000000000 := fun u hu => by
            have := words_all u hu
            rw [List.length_take, List.length_drop] at this
            exact ⟨this.1, by omega⟩
          have HAl := Lib.hid hal
          rw [parseGo] at HQ
          clear hal hix HSl HSp
          generalize hL : (s.drop at_).take (s.length - at_) = L at *
          clear hL
          generalize words L = ws at *
          generalize sB L = LB at *
          go_wp2_with (simp only [hsl, Result.andThen_ok])
          refine HW.out.mono ?_
          rintro e w1 ⟨v, rfl, hwo, hb1⟩
          obtain ⟨a1, c1, rfl, hc1, hc2, hrow⟩ := own_strs hwo
          have HB1 := Lib.hid (HBl.out.trans (hb1.mono HBl.out.size))
          have HO1 := Lib.hid (own_below HO.out hb1 (Nat.le_refl _))
          clear hsl hwo hb1
          by_cases hws : ws = []
          · have HQ2 : Hid (parseGo [] (n + 1) out = P) := by have := HQ.out; rw [if_pos hws] at this; exact this
            subst hws
            clear HQ HAl HOne HW
            go_wp2_with fail
            refine ⟨⟨s.length + 1, n + 1, out, by omega, by omega, by omega, by simp, by simp, HO1.out, .inr ⟨rfl, HQ2.out.symm⟩, HB1.out⟩, by simp [intOf]; omega⟩
          · have hlw : ws.length ≠ 0 := fun e => hws (List.length_eq_zero_iff.1 e)
            have gw : ((ws.length : Int) == 0) = false := beq_eq_false_iff_ne.2 (by omega)
            have HQ1 := HQ.out
            rw [if_neg hws] at HQ1
            have HC := Lib.hid (HOne.out ws a1 ws.length c1 hc1 (by unfold maxLen at hc2; omega) hws (fun u hu => (HAl.out u hu).1) (fun u hu => (HAl.out u hu).2) w1 hrow)
            have HQ := Lib.hid HQ1
            clear HQ1 hws HAl HOne hrow HW
            generalize (one ws).2 = E at *
            generalize (one ws).1 = Y at *
            go_wp2_with fail
            refine HC.out.mono ?_
            rintro e w2 ⟨y, rfl, hy, hb2⟩
            have HB2 := Lib.hid (HB1.out.trans (hb2.mono HB1.out.size))
            have HO2 := Lib.hid (own_below HO1.out hb2 (Nat.le_refl _))
            clear hb2
            by_cases hE : E = 0
            · have hyY := hy hE
              subst hyY
              subst hE
              have HQ1 := HQ.out
              rw [if_neg (by simp)] at HQ1
              obtain ⟨lb, ⟨op, ia, ib, ic⟩, tg⟩ := y
              unfold avV
              simp only at *
              have HB3 := Lib.hid (HB2.out.alloc (o := .cells #[.string (sB lb), .int .u8 op, .int .u8 ia, .int .u16 ib, .int .u32 ic, .string (sB tg)] 34) HB2.out.size)
              by_cases hfull : out.length = 16384
              · have HQ2 : Hid ((([], (n : Int), 3) : List Av × Int × Int) = P) := by have := HQ1; rw [if_pos hfull] at this; exact this
                have gf : ((out.length : Int) == 16384) = true := by rw [hfull]; rfl
                go_wp2_with fail
                refine bodyPost_ret (v := .tuple #[.slice none 0 0, .int .i64 n, .int .i64 3]) (by simp [results, Tryz.f22, go_sem]) rfl ?_
                exact ⟨_, by rw [← HQ2.out], by rw [← HQ2.out]; exact World.ownsRow_nil _ _ _ _, HB3.out⟩
              · have HQ2 : Hid (parseGo [] (n + 1) (out ++ [⟨lb, ⟨op, ia, ib, ic⟩, tg⟩]) = P) := by have := HQ1; rw [if_neg hfull] at this; exact this
                have gf : ((out.length : Int) == 16384) = false := beq_eq_false_iff_ne.2 (by omega)
                have hx := alloc_new w2 (.cells #[.string (sB lb), .int .u8 op, .int .u8 ia, .int .u16 ib, .int .u32 ic, .string (sB tg)] 34)
                obtain ⟨y0, y1, y2, y3, y4, y5⟩ := cells6 hx
                obtain ⟨g, cap, W9, hap, hown9, hb9⟩ := app_el Tryz.underlying22 infoA rfl (by decide) (by decide) (HO2.out.alloc (.cells #[.string (sB lb), .int .u8 op, .int .u8 ia, .int .u16 ib, .int .u32 ic, .string (sB tg)] 34)) HB3.out.size (by omega) [.string (sB lb), .int .u8 op, .int .u8 ia, .int .u16 ib, .int .u32 ic, .string (sB tg)] rfl (by intro u hu; simp at hu; rcases hu with rfl | rfl | rfl | rfl | rfl | rfl <;> rfl) 22
                have hl9 : (out ++ [(⟨lb, ⟨op, ia, ib, ic⟩, tg⟩ : Av)]).length = out.length + 1 := by simp
                have HO9 : Hid (W9.ownsRow w.heap.size 34 6 (.slice (some ⟨g, 0, none⟩) (out.length + 1 : Nat) cap) (out ++ [(⟨lb, ⟨op, ia, ib, ic⟩, tg⟩ : Av)]).length (encAs (out ++ [⟨lb, ⟨op, ia, ib, ic⟩, tg⟩]))) := by
                  show World.ownsRow _ _ _ _ _ _ _
                  rw [hl9]
                  refine own_off hown9 ?_
                  unfold encAs
                  rw [List.flatMap_append]
                  simp [encA]
                have HB9 := Lib.hid (HB3.out.trans hb9)
                clear hown9 hb9 hx
                rw [World.size_alloc] at hap
                go_wp2_with (at_builtin; refine wpList_append_run rfl (.tmp 60) (.tmp 62) 22 22 rfl _ _ _ W9 22 rfl rfl rfl hap ?_)
                refine ⟨⟨s.length + 1, n + 1, out ++ [⟨lb, ⟨op, ia, ib, ic⟩, tg⟩], by omega, by omega, by rw [hl9]; omega, by simp, by simp, HO9.out, .inr ⟨rfl, HQ2.out.symm⟩, HB9.out⟩, by simp [intOf]; omega⟩
            · have HQ2 : Hid ((([], (n : Int), E) : List Av × Int × Int) = P) := by have := HQ.out; rw [if_pos hE] at this; exact this
              have ge : (E == 0) = false := beq_eq_false_iff_ne.2 hE
              have ge2 : (E != 0) = true := by simp [hE]
              obtain ⟨lb, ⟨op, ia, ib, ic⟩, tg⟩ := y
              unfold avV
              simp only at *
              have HB3 := Lib.hid (HB2.out.alloc (o := .cells #[.string (sB lb), .int .u8 op, .int .u8 ia, .int .u16 ib, .int .u32 ic, .string (sB tg)] 34) HB2.out.size)
              go_wp2_with fail
              refine bodyPost_ret (v := .tuple #[.slice none 0 0, .int .i64 n, .int .i64 E]) (by simp [results, Tryz.f22, go_sem]) rfl ?_
              exact ⟨_, by rw [← HQ2.out], by rw [← HQ2.out]; exact World.ownsRow_nil _ _ _ _, HB3.out⟩
    · have hd : decide ((at_ : Int) ≤ (s.length : Int)) = false := decide_eq_false (by omega)
      have HSt : Hid (P = (out, 0, 0)) := (hst.resolve_left (fun h => hin h.1)).2
      clear hst
      go_wp2_with fail
      refine bodyPost_ret (v := .tuple #[.slice va out.length vc, .int .i64 0, .int .i64 0]) (by simp [results, Tryz.f22, go_sem]) rfl ?_
      exact ⟨_, by rw [HSt.out], by rw [HSt.out]; exact HO.out, HBl.out⟩
end Asm
end Go.Proofs.YtgiocecpkhmhhaaGreatDoor
