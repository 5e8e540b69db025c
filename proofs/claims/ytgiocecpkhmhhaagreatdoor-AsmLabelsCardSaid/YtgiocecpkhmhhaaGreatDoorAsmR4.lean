/- The document's own answers: the words of a line. (Made by tools/gen_asmr4.py.) -/
import Derived.Test.YtgiocecpkhmhhaaGreatDoorAsmMem
namespace Go.Proofs.YtgiocecpkhmhhaaGreatDoor
open Go.ChangeShapes Go.WideShapes Go.ChangeAt Go.RowKit
namespace Asm
open Isa
set_option linter.unusedVariables false
set_option linter.unusedSimpArgs false
theorem drop_cons (s : List UInt8) (k : Nat) (hk : k < s.length) : s.drop k = s.getD k 0 :: s.drop (k + 1) := by
  rw [List.getD_eq_getElem?_getD, List.getElem?_eq_getElem hk]
  exact List.drop_eq_getElem_cons hk
theorem cut_one (s : List UInt8) (k : Nat) (hk : k < s.length) : (sB s).extract k (k + 1) = sB [s.getD k 0] := by
  apply sB_of
  rw [List.getD_eq_getElem?_getD, List.getElem?_eq_getElem hk]
  simp [sB]
  apply List.ext_getElem
  · simp; omega
  · intro i h1 h2
    have i0 : i = 0 := by simp at h2; omega
    subst i0
    simp
theorem some_one {s : List UInt8} (h : s ≠ []) : (sB s).toList.isEmpty = false := by
  rw [Lib.toList_data, sB_list]
  cases s with
  | nil => exact absurd rfl h
  | cons x r => rfl
theorem no_one : (sB []).toList.isEmpty = true := by rw [Lib.toList_data, sB_list]; rfl
set_option maxHeartbeats 3200000 in
theorem words_any (s : List UInt8) (hm : s.length ≤ 1000000000) (w : World) : Calls Tryz.prog 52 #[.string (sB s)] w fun e w' =>
    ∃ v, e = .returned v ∧ w'.ownsRow w.heap.size 9 1 v (words s).length (strs (words s)) ∧ Below w.heap.size w w' := by
  have hsz : ((sB s).size : Int) = s.length := by rw [sB_size]
  have hix := Lib.hid (fun k (hk : k < s.length) => letter s k hk)
  have hcu := Lib.hid (fun k (hk : k < s.length) => cut_one s k hk)
  have HS := Lib.hid hsz
  have HWs : Hid (words s = wordsGo (s.drop 0) []) := rfl
  go_enter Tryz.func52, Tryz.ntmps52
  go_wp2_with fail
  go_loopw [3, 4, 5] (fun v c i wr => ∃ (k : Nat) (ws : List (List UInt8)) (cur : List UInt8), k ≤ s.length ∧ i = .int .i64 k ∧ c = .string (sB cur) ∧ wr.ownsRow w.heap.size 9 1 v ws.length (strs ws) ∧ words s = ws ++ wordsGo (s.drop k) cur ∧ cur.length ≤ k ∧ ws.length ≤ k ∧ Below w.heap.size w wr) (fun _ _ i _ => s.length - (intOf i).toNat)
  case atStart => exact ⟨0, [], [], by omega, rfl, rfl, World.ownsRow_nil _ _ _ _, HWs.out, by simp, by simp, Below.refl _ _⟩
  case round =>
    obtain ⟨k, ws, cur, hk, rfl, rfl, hown, hws, hcl, hwl, hbel⟩ := hrel
    have HO := Lib.hid hown
    have HW := Lib.hid hws
    have HB := Lib.hid hbel
    have hcs : (sB cur).size = cur.length := sB_size cur
    obtain ⟨va, vc, rfl, _, _⟩ := own_shape hown
    clear hown hws hbel HWs
    by_cases hlt : k < s.length
    · have hi := hix.out k hlt
      have hd : decide ((k : Int) < (s.length : Int)) = true := decide_eq_true (by omega)
      have hcut := hcu.out k hlt
      have HD := Lib.hid (drop_cons s k hlt)
      generalize s.getD k 0 = x at *
      have HX : Hid (∀ n : Nat, n < 256 → (x.toNat = n ↔ x = UInt8.ofNat n)) := fun n hn => ⟨fun e => UInt8.toNat_inj.1 (by rw [e, UInt8.toNat_ofNat']; omega), fun e => by rw [e, UInt8.toNat_ofNat']; omega⟩
      by_cases h59 : x = 59
      · subst h59
        have HE : Hid (words s = ws ++ flush cur) := by show _ = _; rw [HW.out, HD.out, wordsGo, if_pos rfl]
        have hz : ((59 : UInt8).toNat : Int) = 59 := rfl
        rw [hz] at hi
        clear HW HD HX
        by_cases hc : cur = []
        · subst hc
          have hne := no_one
          have HE2 : Hid (words s = ws) := by show _ = _; rw [HE.out]; exact List.append_nil _
          clear HE
          generalize sB s = S at *
          go_wp2_with fail
          go_ret
          exact ⟨_, rfl, by rw [HE2.out]; exact HO.out, HB.out⟩
        · have hne := some_one hc
          have HE2 : Hid (words s = ws ++ [cur]) := by show _ = _; rw [HE.out]; unfold flush; rw [if_neg hc]
          obtain ⟨g, cap, W', hap, hown2, hb2⟩ := app_str HO.out HB.out.size (by omega) cur 48
          have HO2 := Lib.hid hown2
          have HB2 := Lib.hid (HB.out.trans hb2)
          clear HE hown2 hb2
          generalize sB s = S at *
          generalize sB cur = C at *
          go_wp2_with (at_builtin; refine wpList_append_run rfl (.tmp 37) (.tmp 39) 48 48 rfl _ _ _ W' 48 rfl rfl rfl hap ?_)
          go_ret
          exact ⟨_, rfl, by rw [HE2.out]; exact HO2.out, HB2.out⟩
      · have g59 : ((x.toNat : Int) != 59) = true := by simp; intro e; exact h59 ((HX.out 59 (by omega)).1 (by omega))
        by_cases h32 : x = 32
        · subst h32
          have hz : ((32 : UInt8).toNat : Int) = 32 := rfl
          rw [hz] at hi g59
          clear HX h59
          have HE : Hid (words s = ws ++ (flush cur ++ wordsGo (s.drop (k + 1)) [])) := by show _ = _; rw [HW.out, HD.out, wordsGo, if_neg (by decide), if_pos rfl]
          clear HW HD
          by_cases hc : cur = []
          · subst hc
            have hne := no_one
            have HE2 : Hid (words s = ws ++ wordsGo (s.drop (k + 1)) []) := HE.out
            generalize sB s = S at *
            go_wp2_with fail
            refine ⟨⟨k + 1, ws, [], by omega, by simp, rfl, HO.out, HE2.out, by simp, by omega, HB.out⟩, by simp [intOf]; omega⟩
          · have hne := some_one hc
            have HE2 : Hid (words s = (ws ++ [cur]) ++ wordsGo (s.drop (k + 1)) []) := by show _ = _; rw [HE.out]; unfold flush; rw [if_neg hc]; simp
            obtain ⟨g, cap, W', hap, hown2, hb2⟩ := app_str HO.out HB.out.size (by omega) cur 48
            have HO2 := Lib.hid hown2
            have HB2 := Lib.hid (HB.out.trans hb2)
            clear HE hown2 hb2
            generalize sB s = S at *
            generalize sB cur = C at *
            go_wp2_with (at_builtin; refine wpList_append_run rfl (.tmp 31) (.tmp 33) 48 48 rfl _ _ _ W' 48 rfl rfl rfl hap ?_)
            refine ⟨⟨k + 1, ws ++ [cur], [], by omega, by simp, rfl, HO2.out, HE2.out, by simp, by simp; omega, HB2.out⟩, by simp [intOf]; omega⟩
        · have g32 : ((x.toNat : Int) != 32) = true := by simp; intro e; exact h32 ((HX.out 32 (by omega)).1 (by omega))
          have HE : Hid (words s = ws ++ wordsGo (s.drop (k + 1)) (cur ++ [x])) := by show _ = _; rw [HW.out, HD.out, wordsGo, if_neg h59, if_neg h32]
          have HA : Hid (sB cur ++ sB [x] = sB (cur ++ [x])) := sB_add _ _
          have hx1 : (sB [x]).size = 1 := rfl
          have hk1 : ((k : Int) + 1).toNat = k + 1 := by omega
          have hk2 : ((k : Int)).toNat = k := by omega
          have hsl : ∀ W, (Instr.slice 9 (.string (sB s)) (some (.int .i64 (k : Int))) (some (.int .i64 ((k : Int) + 1))) none).run Tryz.prog W = .ok (.string (sB [x])) W := fun W => by
            rw [run_slice_string W 9 (sB s) .i64 .i64 k ((k : Int) + 1) Tryz.underlying9 (by omega) (by omega) (by rw [sB_size]; omega), hk1, hk2, hcut]
          clear HW HD HX h59 h32 hcut hk1 hk2
          generalize sB s = S at *
          generalize hX : sB [x] = X1 at *
          clear hX
          generalize hC : sB cur = C at *
          clear hC
          generalize x.toNat = z at *
          go_wp2_with (simp only [hsl, Result.andThen_ok])
          refine ⟨⟨k + 1, ws, cur ++ [x], by omega, by simp, by rw [← HA.out], HO.out, HE.out, by simp; omega, by omega, HB.out⟩, by simp [intOf]; omega⟩
    · obtain rfl : k = s.length := by omega
      have HE : Hid (words s = ws ++ flush cur) := by show _ = _; rw [HW.out, List.drop_length]; rfl
      have hd : decide ((s.length : Int) < (s.length : Int)) = false := decide_eq_false (by omega)
      clear HW
      by_cases hc : cur = []
      · subst hc
        have hne := no_one
        have HE2 : Hid (words s = ws) := by show _ = _; rw [HE.out]; exact List.append_nil _
        clear HE
        generalize sB s = S at *
        go_wp2_with fail
        go_ret
        exact ⟨_, rfl, by rw [HE2.out]; exact HO.out, HB.out⟩
      · have hne := some_one hc
        have HE2 : Hid (words s = ws ++ [cur]) := by show _ = _; rw [HE.out]; unfold flush; rw [if_neg hc]
        obtain ⟨g, cap, W', hap, hown2, hb2⟩ := app_str HO.out HB.out.size (by omega) cur 48
        have HO2 := Lib.hid hown2
        have HB2 := Lib.hid (HB.out.trans hb2)
        clear HE hown2 hb2
        generalize sB s = S at *
        generalize sB cur = C at *
        go_wp2_with (at_builtin; refine wpList_append_run rfl (.tmp 37) (.tmp 39) 48 48 rfl _ _ _ W' 48 rfl rfl rfl hap ?_)
        go_ret
        exact ⟨_, rfl, by rw [HE2.out]; exact HO2.out, HB2.out⟩
end Asm
end Go.Proofs.YtgiocecpkhmhhaaGreatDoor
