/- flow.Check, and whether a program is well. -/
import Derived.Test.YtcmbkoghhhhmcaaDoorFlowW1
import Derived.Test.YtcmbkoghhhhmcaaDoorFlowR1
import Derived.Shelf.Abstract
namespace Go.Proofs.YtcmbkoghhhhmcaaDoor
open Go.ChangeShapes Go.WideShapes Go.ChangeAt Go.RowKit
namespace Flw
open Isa
set_option linter.unusedVariables false
set_option linter.unusedSimpArgs false
theorem astB_bad (l : List Iv) (n : Nat) (hn : l.length = n) (k : Nat) : astB n (l.getD k iz) = badB l k := by
  unfold astB badB jumpsI
  rw [hn]
theorem idx_hit {p : Nat → Bool} {n : Nat} (h : 0 ≤ idxA p n) : ∃ k, idxA p n = (k : Nat) ∧ k < n ∧ (∀ t, t < k → p t = false) ∧ p k = true := by
  unfold idxA at h ⊢
  split at h
  · rename_i hlt
    rw [if_pos hlt]
    exact ⟨_, rfl, hlt, fun t ht => first_miss ht, first_hit hlt⟩
  · omega
theorem idx_miss {p : Nat → Bool} {n : Nat} (h : ¬ 0 ≤ idxA p n) : idxA p n = -1 ∧ ∀ t, t < n → p t = false := by
  unfold idxA at h ⊢
  split at h
  · omega
  · rename_i hlt
    rw [if_neg hlt]
    exact ⟨rfl, fun t ht => first_miss (n := n) (by have := first_le p n; omega)⟩
set_option maxHeartbeats 3200000 in
theorem check_any (l : List Iv) (a : Option Addr) (n c : Nat) (w : World) (hT : Tabs w) (hnc : n ≤ c) (hcm : c ≤ 9223372036854775807) (h : IRow w a n l) : Calls Tryd.prog 13 #[.slice a n c] w fun e w' =>
    e = .returned (.tuple #[.int .i64 (chkN l : Nat), .int .i64 (chkE l)]) ∧ Below w.heap.size w w' := by
  have hln : l.length = n := h.1
  have HL := Lib.hid hln
  have HBox := Lib.hid (alloc_new w (.cells #[.slice a n c] 22))
  have HB0 : Hid (Below w.heap.size w (w.alloc (.cells #[.slice a n c] 22))) := (Below.refl _ w).alloc (Nat.le_refl _) _
  have HRow := Lib.hid h
  have HTabs := Lib.hid hT
  clear h hT
  obtain ⟨V, hV⟩ : ∃ V, w.heap.size = V := ⟨_, rfl⟩
  have hn63 : n ≤ 9223372036854775807 := by omega
  by_cases h1 : 16384 < n
  · have hd : decide ((16384 : Int) < (n : Int)) = true := decide_eq_true (by omega)
    have HR := Lib.hid (chk_long (l := l) (by omega))
    clear hln h1
    go_enter Tryd.func13, Tryd.ntmps13
    go_wp2_with fail
    refine bodyPost_ret (v := .tuple #[.int .i64 0, .int .i64 3]) (by simp [results, Tryd.f13, go_sem]) rfl ?_
    exact ⟨tup_eq (b := 0) HR.out, HB0.out⟩
  have hd : decide ((16384 : Int) < (n : Int)) = false := decide_eq_false (by omega)
  have HN := Lib.hid h1
  have hn16 : n ≤ 16384 := by omega
  have HCa := Lib.hid (fun k => chk_a (l := l) (k := k) (by omega))
  have HCb := Lib.hid (fun k hA => chk_b (l := l) (k := k) (by omega) hA)
  have HCc := Lib.hid (chk_c (l := l) (by omega))
  have HI1 := Lib.hid (fun W (hb : Below w.heap.size w W) => indexFunc_any l a n c hn63 25 #[] (enters_of Tryd.func25 (by kernel_rfl) rfl) (badA l) W (HRow.out.below hb (Nat.le_refl _))
    (fun k hk X hX => none_any (l.getD k iz) (HRow.out.2.1 _ (getD_mem _ (by omega))) X (HTabs.out.below (hb.trans (hX.mono hb.size)) (Nat.le_refl _))))
  have HI2 := Lib.hid (fun W (hb : Below w.heap.size w W) (hL : W.cell? ⟨w.heap.size, 0, none⟩ = some (.slice a n c)) => indexFunc_any l a n c hn63 26 #[.pointer (some ⟨w.heap.size, 0, none⟩)] (enters_of Tryd.func26 (by kernel_rfl) rfl) (badB l) W (HRow.out.below hb (Nat.le_refl _))
    (fun k hk X hX => by
      rw [← astB_bad l n hln k]
      exact astray_any (l.getD k iz) (HRow.out.2.1 _ (getD_mem _ (by omega))) X (HTabs.out.below (hb.trans (hX.mono hb.size)) (Nat.le_refl _)) w.heap.size a n c hn16 ((World.cell?_of_block (hX.block _ (World.block_lt_of_cell? _ _ hL))).trans hL)))
  clear hln h1 HTabs
  rw [hV] at HBox HB0 HI1 HI2 ⊢
  have HVe := Lib.hid hV
  go_enter Tryd.func13, Tryd.ntmps13
  go_wp2_with fail
  clear hd
  generalize w.alloc (.cells #[.slice a n c] 22) = w1 at *
  clear hV
  refine (HI1.out _ HB0.out).mono ?_
  rintro e w2 ⟨rfl, hb2⟩
  have q2 : w2.heap[V]? = some (.cells #[.slice a n c] 22 (0, 0)) := (hb2.block _ (lt_of_block HBox.out)).trans HBox.out
  have HQ2 := Lib.hid q2
  have HB2 := Lib.hid (HB0.out.trans (hb2.mono (by have := HB0.out.size; have := HVe.out; omega)))
  clear hb2 HBox HI1
  have f2 := HQ2.out
  by_cases hi1 : 0 ≤ idxA (badA l) n
  · obtain ⟨k, hk, hkn, hno, hyes⟩ := idx_hit hi1
    have HR := Lib.hid (HCa.out k (by have := HL.out; omega) hno hyes)
    have hd : decide ((0 : Int) ≤ ((k : Nat) : Int)) = true := decide_eq_true (by omega)
    rw [hk] at hi1 ⊢
    clear hk hno hyes HI2 f2
    go_wp2_with fail
    refine bodyPost_ret (v := .tuple #[.int .i64 (k : Int), .int .i64 90]) (by simp [results, Tryd.f13, go_sem]) rfl ?_
    exact ⟨tup_eq HR.out, HB2.out⟩
  obtain ⟨hm1, hno⟩ := idx_miss hi1
  have HAll : Hid (∀ t, t < l.length → badA l t = false) := fun t ht => hno t (by have := HL.out; omega)
  have HCb2 := Lib.hid (fun k => HCb.out k HAll.out)
  have HCc2 := Lib.hid (HCc.out HAll.out)
  rw [hm1]
  have qb2 : w2.cell? ⟨V, 0, none⟩ = some (.slice a n c) := by simp [World.cell?, q2]
  have HQb := Lib.hid qb2
  clear hm1 hno hi1 HAll HCb HCc HCa f2 q2
  go_wp2_with fail
  refine (HI2.out _ HB2.out HQb.out).mono ?_
  rintro e w3 ⟨rfl, hb3⟩
  have q3 : w3.cell? ⟨V, 0, none⟩ = some (.slice a n c) := (World.cell?_of_block (hb3.block _ (lt_of_block HQ2.out))).trans HQb.out
  have HB3 := Lib.hid (HB2.out.trans (hb3.mono (by have := HB2.out.size; have := HVe.out; omega)))
  clear hb3 HI2 HQ2 HQb HB2 qb2
  by_cases hi1 : 0 ≤ idxA (badB l) n
  · obtain ⟨k, hk, hkn, hno, hyes⟩ := idx_hit hi1
    have HR := Lib.hid (HCb2.out k (by have := HL.out; omega) hno hyes)
    have hd : decide ((0 : Int) ≤ ((k : Nat) : Int)) = true := decide_eq_true (by omega)
    rw [hk] at hi1 ⊢
    clear hk hno hyes
    go_wp2_with fail
    refine bodyPost_ret (v := .tuple #[.int .i64 (k : Int), .int .i64 110]) (by simp [results, Tryd.f13, go_sem]) rfl ?_
    exact ⟨tup_eq HR.out, HB3.out⟩
  obtain ⟨hm1, hno⟩ := idx_miss hi1
  have HR := Lib.hid (HCc2.out (fun t ht => hno t (by have := HL.out; omega)))
  rw [hm1]
  clear hm1 hno hi1 HCb2 HCc2
  by_cases h0 : n = 0
  · subst h0
    have HR2 : Hid (chkE l = 111 ∧ chkN l = 0) := by
      have := HR.out
      rw [if_pos HL.out, if_pos HL.out] at this
      exact this
    clear HR
    go_wp2_with fail
    refine bodyPost_ret (v := .tuple #[.int .i64 0, .int .i64 111]) (by simp [results, Tryd.f13, go_sem]) rfl ?_
    exact ⟨tup_eq (b := 0) HR2.out, HB3.out⟩
  · have HR2 : Hid (chkE l = (if lastBad l then 111 else 0) ∧ chkN l = (if lastBad l then n - 1 else 0)) := by
      have := HR.out
      have hl0 : ¬ l.length = 0 := by rw [HL.out]; exact h0
      rw [if_neg hl0, if_neg hl0, HL.out] at this
      exact this
    have HLb : Hid (lastBad l = (!((l.getD (n - 1) iz).op == 19) && !((l.getD (n - 1) iz).op == 27))) := by
      show _ = _
      unfold lastBad
      rw [HL.out]
    obtain ⟨b, off, rfl, hc, hw⟩ := (HRow.out.below (by rw [HVe.out]; exact HB3.out) (Nat.le_refl _)).at (n - 1) (by omega)
    obtain ⟨c0, c1, c2, c3⟩ := hc
    have hz : ((n : Int) == 0) = false := by simpa using h0
    have hs : (n : Int) - 1 = ((n - 1 : Nat) : Int) := by omega
    have k0 : (0 : Int) ≤ ((n - 1 : Nat) : Int) := by omega
    have k1 : ((n - 1 : Nat) : Int) < n := by omega
    have hws : IntKind.i64.wrap ((n : Int) - 1) = ((n - 1 : Nat) : Int) := by
      simp [IntKind.wrap, IntKind.bits, IntKind.signed]; omega
    clear HR hw h0
    generalize l.getD (n - 1) iz = x at *
    obtain ⟨op, ia, ib, ic⟩ := x
    simp only at *
    generalize e19 : (op == 19) = b19 at *
    generalize e27 : (op == 27) = b27 at *
    have n19 : (op != 19) = !b19 := by rw [← e19]; rfl
    have n27 : (op != 27) = !b27 := by rw [← e27]; rfl
    cases b19 with
    | true =>
      have HR3 : Hid (chkE l = 0 ∧ chkN l = 0) := by
        have := HR2.out
        rw [HLb.out] at this
        exact this
      clear HR2 HLb
      go_wp2_with fail
      refine bodyPost_ret (v := .tuple #[.int .i64 0, .int .i64 0]) (by simp [results, Tryd.f13, go_sem]) rfl ?_
      exact ⟨tup_eq (b := 0) HR3.out, HB3.out⟩
    | false =>
      cases b27 with
      | true =>
        have HR3 : Hid (chkE l = 0 ∧ chkN l = 0) := by
          have := HR2.out
          rw [HLb.out] at this
          exact this
        clear HR2 HLb
        go_wp2_with fail
        refine bodyPost_ret (v := .tuple #[.int .i64 0, .int .i64 0]) (by simp [results, Tryd.f13, go_sem]) rfl ?_
        exact ⟨tup_eq (b := 0) HR3.out, HB3.out⟩
      | false =>
        have HR3 : Hid (chkE l = 111 ∧ chkN l = n - 1) := by
          have := HR2.out
          rw [HLb.out] at this
          exact this
        clear HR2 HLb
        go_wp2_with fail
        refine bodyPost_ret (v := .tuple #[.int .i64 ((n - 1 : Nat) : Int), .int .i64 111]) (by simp [results, Tryd.f13, go_sem]) rfl ?_
        exact ⟨tup_eq HR3.out, HB3.out⟩
theorem well_any (l : List Iv) (a : Option Addr) (n c : Nat) (w : World) (hT : Tabs w) (hnc : n ≤ c) (hcm : c ≤ 9223372036854775807) (h : IRow w a n l) : Calls Tryd.prog 28 #[.slice a n c] w fun e w' =>
    e = .returned (.bool (chkE l == 0)) ∧ Below w.heap.size w w' := by
  have HC := Lib.hid (check_any l a n c w hT hnc hcm h)
  clear hT h
  generalize chkE l = E at *
  generalize ((chkN l : Nat) : Int) = M at *
  go_enter Tryd.func28, Tryd.ntmps28
  go_wp2_with fail
  refine HC.out.mono ?_
  rintro e w1 ⟨rfl, hb⟩
  go_wp2_with fail
  go_ret
  exact ⟨rfl, hb⟩
end Flw
end Go.Proofs.YtcmbkoghhhhmcaaDoor
