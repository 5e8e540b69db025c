/- flow.Check: what it calls: whether one is no instruction, whether one jumps astray; the first of which something holds. · flow.Check, and whether a program is well. · flow.behind: what comes behind one, gone over: the iterator keeps what it promises. · way.Behind, and what it answers: an iterator. -/
import Derived.Test.YtjoiogdckbaeaaaDoorCodeJumps
import Derived.Test.YtjoiogdckbaeaaaDoorCodeOwn
import Derived.Shelf.Abstract
import Derived.Test.YtjoiogdckbaeaaaDoorFlowS
import Derived.OwnWalkIn
import Derived.TacticsInMore
import Derived.LoopNIn
import Derived.LoopIn
import Derived.Test.YtjoiogdckbaeaaaDoorFlowM
namespace Go.Proofs.YtjoiogdckbaeaaaDoor
open Go.ChangeShapes Go.WideShapes Go.ChangeAt Go.RowKit
namespace Flw
open Isa
set_option linter.unusedVariables false
set_option linter.unusedSimpArgs false
theorem none_any (i : Iv) (h : i.wf) (w : World) (hT : Tabs w) : Calls Tryd.prog 50 #[iv i] w fun e w' => e = .returned (.bool (!mayI i)) ∧ Below w.heap.size w w' := by
  have HM := Lib.hid (fun W (hb : Below w.heap.size w W) => may_any i h W (hT.below hb (Nat.le_refl _)))
  clear hT h
  unfold iv at *
  generalize mayI i = m at *
  obtain ⟨op, a, b, c⟩ := i
  simp only at *
  go_enter Tryd.func50, Tryd.ntmps50
  go_wp2_with fail
  refine (HM.out _ (by go_grown)).mono ?_
  rintro e w1 ⟨rfl, hb⟩
  have HB : Hid (Below w.heap.size w w1) := ((Below.refl _ w).alloc (Nat.le_refl _) _).trans (hb.mono (by simp))
  clear hb
  go_wp2_with fail
  go_ret
  exact ⟨rfl, HB.out⟩
/-- a jump to nowhere -/
def astB (n : Nat) (i : Iv) : Bool := jumpsI i.op && decide ((n : Int) ≤ i.c)
theorem astray_any (i : Iv) (h : i.wf) (w : World) (hT : Tabs w) (L : Nat) (a : Option Addr) (n c : Nat) (hn : n ≤ 16384) (hL : w.cell? ⟨L, 0, none⟩ = some (.slice a n c)) :
    Calls Tryd.prog 51 #[iv i, .pointer (some ⟨L, 0, none⟩)] w fun e w' => e = .returned (.bool (astB n i)) ∧ Below w.heap.size w w' := by
  have HJ := Lib.hid (fun W (hb : Below w.heap.size w W) => jumps_any i.op h.op.1 h.op.2 W (hT.below hb (Nat.le_refl _)))
  have hc := h.c
  clear hT h
  unfold iv astB at *
  generalize jumpsI i.op = j at *
  obtain ⟨op, ia, ib, ic⟩ := i
  simp only at *
  have hwn : IntKind.u64.wrap (n : Int) = (n : Int) := by simp [IntKind.wrap, IntKind.bits, IntKind.signed]; omega
  have hwc : IntKind.u64.wrap ic = ic := by simp [IntKind.wrap, IntKind.bits, IntKind.signed]; omega
  go_enter Tryd.func51, Tryd.ntmps51
  have HL := Lib.hid hL
  have HLt := Lib.hid (World.block_lt_of_cell? _ _ hL)
  clear hL hc
  go_wp2_with fail
  refine (HJ.out _ (by go_grown)).mono ?_
  rintro e w1 ⟨rfl, hb⟩
  have hi := (hb.block _ (by simp)).trans (alloc_new w (.cells #[.int .u8 op, .int .u8 ia, .int .u16 ib, .int .u32 ic] 55))
  obtain ⟨q0, q1, q2, q3⟩ := cells4 hi
  have qL : w1.cell? ⟨L, 0, none⟩ = some (.slice a n c) := (World.cell?_of_block (hb.block _ (by have := HLt.out; simp at this ⊢; omega))).trans ((World.cell?_of_block (Below.heap_alloc _ _ _ HLt.out)).trans HL.out)
  have HB : Hid (Below w.heap.size w w1) := ((Below.refl _ w).alloc (Nat.le_refl _) _).trans (hb.mono (by simp))
  clear hb hi HJ
  generalize hd : decide ((n : Int) ≤ ic) = d at *
  cases j with
  | false =>
    go_wp2_with fail
    go_ret
    exact ⟨rfl, HB.out⟩
  | true =>
    go_wp2_with fail
    go_ret
    exact ⟨ret_bool (by simp [hd]), HB.out⟩
/-- the number of the first, or -1 -/
def idxA (p : Nat → Bool) (n : Nat) : Int := if first p n < n then (first p n : Nat) else -1
set_option maxHeartbeats 1600000 in
theorem indexFunc_any (l : List Iv) (a : Option Addr) (n c : Nat) (hn : n ≤ 9223372036854775807) (g : Nat) (lb : Array Value) (eg : ∀ args w, (callFunc g args).run Tryd.prog w = .ok (.enter g args) w) (p : Nat → Bool) (w : World) (h : IRow w a n l)
    (hp : ∀ k, k < n → ∀ W, Below w.heap.size w W → Calls Tryd.prog g (#[iv (l.getD k iz)] ++ lb) W fun e W' => e = .returned (.bool (p k)) ∧ Below W.heap.size W W') :
    Calls Tryd.prog 49 #[.slice a n c, .func (.func g) #[] lb] w fun e w' => e = .returned (.int .i64 (idxA p n)) ∧ Below w.heap.size w w' := by
  have HA := Lib.hid (fun W (hb : Below w.heap.size w W) k (hk : k < n) => (h.below hb (Nat.le_refl _)).at k hk)
  have HP := Lib.hid hp
  clear h hp
  go_enter Tryd.func49, Tryd.ntmps49
  go_wp2_with fail
  go_loopw [8] (fun i wr => ∃ k : Nat, k ≤ n ∧ i = .int .i64 k ∧ (∀ t, t < k → p t = false) ∧ Below w.heap.size w wr) (fun i _ => n - (intOf i).toNat)
  case atStart => exact ⟨0, by omega, rfl, fun t ht => by omega, Below.refl _ _⟩
  case round =>
    obtain ⟨k, hk, rfl, hno, hbel⟩ := hrel
    have HNo := Lib.hid hno
    have HB := Lib.hid hbel
    clear hno hbel
    by_cases hlt : k < n
    · have hd : decide ((k : Int) < (n : Int)) = true := decide_eq_true (by omega)
      have k0 : (0 : Int) ≤ k := by omega
      have k1 : (k : Int) < n := by omega
      obtain ⟨b, off, rfl, hc, hw⟩ := HA.out wr HB.out k hlt
      obtain ⟨c0, c1, c2, c3⟩ := hc
      have HPk := Lib.hid (HP.out k hlt wr HB.out)
      clear hw
      generalize l.getD k iz = x at *
      obtain ⟨op, ia, ib, ic⟩ := x
      unfold iv at HPk
      simp only at *
      go_wp2_with fail
      refine HPk.out.mono ?_
      rintro e w2 ⟨rfl, hb2⟩
      have HB2 := Lib.hid (HB.out.trans (hb2.mono HB.out.size))
      clear hb2 c0 c1 c2 c3 HPk
      generalize hpk : p k = b2 at *
      have HK := Lib.hid hpk
      clear hpk
      cases b2 with
      | true =>
        have HR : Hid (idxA p n = (k : Nat)) := by
          show _ = _
          unfold idxA
          rw [first_at hlt HNo.out HK.out, if_pos hlt]
        go_wp2_with fail
        go_ret
        exact ⟨ret_int HR.out.symm, HB2.out⟩
      | false =>
        go_wp2_with fail
        refine ⟨⟨k + 1, by omega, by simp, fun t ht => ?_, HB2.out⟩, by simp [intOf]; omega⟩
        by_cases e : t = k
        · rw [e]; exact HK.out
        · exact HNo.out t (by omega)
    · obtain rfl : k = n := by omega
      have hd : decide ((k : Int) < (k : Int)) = false := decide_eq_false (by omega)
      have HR : Hid (idxA p k = -1) := by
        show _ = _
        unfold idxA
        rw [first_none HNo.out, if_neg (Nat.lt_irrefl _)]
      go_wp2_with fail
      go_ret
      exact ⟨ret_int HR.out.symm, HB.out⟩
end Flw
end Go.Proofs.YtjoiogdckbaeaaaDoor
namespace Go.Proofs.YtjoiogdckbaeaaaDoor
open Go.ChangeShapes Go.WideShapes Go.ChangeAt Go.RowKit
namespace Flw
open Isa
set_option linter.unusedVariables false
set_option linter.unusedSimpArgs false
theorem astB_bad (l : List Iv) (n : Nat) (hn : l.length = n) (k : Nat) : astB n (l.getD k iz) = badB l k := by
  unfold astB badB jumpsI
  rw [hn]
theorem idx_hit {p : Nat → Bool} {n : Nat} (h : 0 ≤ idxA p n) : ∃ k, idxA p n = (k : Nat) ∧ k < n ∧ (∀ t, t < k → p t = false) ∧ p k = true := by
  unfold idxA at h ⊢
  split at h
  · rename_i hlt
    rw [if_pos hlt]
    exact ⟨_, rfl, hlt, fun t ht => first_miss ht, first_hit hlt⟩
  · omega
theorem idx_miss {p : Nat → Bool} {n : Nat} (h : ¬ 0 ≤ idxA p n) : idxA p n = -1 ∧ ∀ t, t < n → p t = false := by
  unfold idxA at h ⊢
  split at h
  · omega
  · rename_i hlt
    rw [if_neg hlt]
    exact ⟨rfl, fun t ht => first_miss (n := n) (by have := first_le p n; omega)⟩
set_option maxHeartbeats 3200000 in
theorem check_any (l : List Iv) (a : Option Addr) (n c : Nat) (w : World) (hT : Tabs w) (hnc : n ≤ c) (hcm : c ≤ 9223372036854775807) (h : IRow w a n l) : Calls Tryd.prog 27 #[.slice a n c] w fun e w' =>
    e = .returned (.tuple #[.int .i64 (chkN l : Nat), .int .i64 (chkE l)]) ∧ Below w.heap.size w w' := by
  have hln : l.length = n := h.1
  have HL := Lib.hid hln
  have HBox := Lib.hid (alloc_new w (.cells #[.slice a n c] 22))
  have HB0 : Hid (Below w.heap.size w (w.alloc (.cells #[.slice a n c] 22))) := (Below.refl _ w).alloc (Nat.le_refl _) _
  have HRow := Lib.hid h
  have HTabs := Lib.hid hT
  clear h hT
  obtain ⟨V, hV⟩ : ∃ V, w.heap.size = V := ⟨_, rfl⟩
  have hn63 : n ≤ 9223372036854775807 := by omega
  by_cases h1 : 16384 < n
  · have hd : decide ((16384 : Int) < (n : Int)) = true := decide_eq_true (by omega)
    have HR := Lib.hid (chk_long (l := l) (by omega))
    clear hln h1
    go_enter Tryd.func27, Tryd.ntmps27
    go_wp2_with fail
    refine bodyPost_ret (v := .tuple #[.int .i64 0, .int .i64 3]) (by simp [results, Tryd.f27, go_sem]) rfl ?_
    exact ⟨tup_eq (b := 0) HR.out, HB0.out⟩
  have hd : decide ((16384 : Int) < (n : Int)) = false := decide_eq_false (by omega)
  have HN := Lib.hid h1
  have hn16 : n ≤ 16384 := by omega
  have HCa := Lib.hid (fun k => chk_a (l := l) (k := k) (by omega))
  have HCb := Lib.hid (fun k hA => chk_b (l := l) (k := k) (by omega) hA)
  have HCc := Lib.hid (chk_c (l := l) (by omega))
  have HI1 := Lib.hid (fun W (hb : Below w.heap.size w W) => indexFunc_any l a n c hn63 50 #[] (enters_of Tryd.func50 (by kernel_rfl) rfl) (badA l) W (HRow.out.below hb (Nat.le_refl _))
    (fun k hk X hX => none_any (l.getD k iz) (HRow.out.2.1 _ (getD_mem _ (by omega))) X (HTabs.out.below (hb.trans (hX.mono hb.size)) (Nat.le_refl _))))
  have HI2 := Lib.hid (fun W (hb : Below w.heap.size w W) (hL : W.cell? ⟨w.heap.size, 0, none⟩ = some (.slice a n c)) => indexFunc_any l a n c hn63 51 #[.pointer (some ⟨w.heap.size, 0, none⟩)] (enters_of Tryd.func51 (by kernel_rfl) rfl) (badB l) W (HRow.out.below hb (Nat.le_refl _))
    (fun k hk X hX => by
      rw [← astB_bad l n hln k]
      exact astray_any (l.getD k iz) (HRow.out.2.1 _ (getD_mem _ (by omega))) X (HTabs.out.below (hb.trans (hX.mono hb.size)) (Nat.le_refl _)) w.heap.size a n c hn16 ((World.cell?_of_block (hX.block _ (World.block_lt_of_cell? _ _ hL))).trans hL)))
  clear hln h1 HTabs
  rw [hV] at HBox HB0 HI1 HI2 ⊢
  have HVe := Lib.hid hV
  go_enter Tryd.func27, Tryd.ntmps27
  go_wp2_with fail
  clear hd
  generalize w.alloc (.cells #[.slice a n c] 22) = w1 at *
  clear hV
  refine (HI1.out _ HB0.out).mono ?_
  rintro e w2 ⟨rfl, hb2⟩
  have q2 : w2.heap[V]? = some (.cells #[.slice a n c] 22 (0, 0)) := (hb2.block _ (lt_of_block HBox.out)).trans HBox.out
  have HQ2 := Lib.hid q2
  have HB2 := Lib.hid (HB0.out.trans (hb2.mono (by have := HB0.out.size; have := HVe.out; omega)))
  clear hb2 HBox HI1
  have f2 := HQ2.out
  by_cases hi1 : 0 ≤ idxA (badA l) n
  · obtain ⟨k, hk, hkn, hno, hyes⟩ := idx_hit hi1
    have HR := Lib.hid (HCa.out k (by have := HL.out; omega) hno hyes)
    have hd : decide ((0 : Int) ≤ ((k : Nat) : Int)) = true := decide_eq_true (by omega)
    rw [hk] at hi1 ⊢
    clear hk hno hyes HI2 f2
    go_wp2_with fail
    refine bodyPost_ret (v := .tuple #[.int .i64 (k : Int), .int .i64 90]) (by simp [results, Tryd.f27, go_sem]) rfl ?_
    exact ⟨tup_eq HR.out, HB2.out⟩
  obtain ⟨hm1, hno⟩ := idx_miss hi1
  have HAll : Hid (∀ t, t < l.length → badA l t = false) := fun t ht => hno t (by have := HL.out; omega)
  have HCb2 := Lib.hid (fun k => HCb.out k HAll.out)
  have HCc2 := Lib.hid (HCc.out HAll.out)
  rw [hm1]
  have qb2 : w2.cell? ⟨V, 0, none⟩ = some (.slice a n c) := by simp [World.cell?, q2]
  have HQb := Lib.hid qb2
  clear hm1 hno hi1 HAll HCb HCc HCa f2 q2
  go_wp2_with fail
  refine (HI2.out _ HB2.out HQb.out).mono ?_
  rintro e w3 ⟨rfl, hb3⟩
  have q3 : w3.cell? ⟨V, 0, none⟩ = some (.slice a n c) := (World.cell?_of_block (hb3.block _ (lt_of_block HQ2.out))).trans HQb.out
  have HB3 := Lib.hid (HB2.out.trans (hb3.mono (by have := HB2.out.size; have := HVe.out; omega)))
  clear hb3 HI2 HQ2 HQb HB2 qb2
  by_cases hi1 : 0 ≤ idxA (badB l) n
  · obtain ⟨k, hk, hkn, hno, hyes⟩ := idx_hit hi1
    have HR := Lib.hid (HCb2.out k (by have := HL.out; omega) hno hyes)
    have hd : decide ((0 : Int) ≤ ((k : Nat) : Int)) = true := decide_eq_true (by omega)
    rw [hk] at hi1 ⊢
    clear hk hno hyes
    go_wp2_with fail
    refine bodyPost_ret (v := .tuple #[.int .i64 (k : Int), .int .i64 110]) (by simp [results, Tryd.f27, go_sem]) rfl ?_
    exact ⟨tup_eq HR.out, HB3.out⟩
  obtain ⟨hm1, hno⟩ := idx_miss hi1
  have HR := Lib.hid (HCc2.out (fun t ht => hno t (by have := HL.out; omega)))
  rw [hm1]
  clear hm1 hno hi1 HCb2 HCc2
  by_cases h0 : n = 0
  · subst h0
    have HR2 : Hid (chkE l = 111 ∧ chkN l = 0) := by
      have := HR.out
      rw [if_pos HL.out, if_pos HL.out] at this
      exact this
    clear HR
    go_wp2_with fail
    refine bodyPost_ret (v := .tuple #[.int .i64 0, .int .i64 111]) (by simp [results, Tryd.f27, go_sem]) rfl ?_
    exact ⟨tup_eq (b := 0) HR2.out, HB3.out⟩
  · have HR2 : Hid (chkE l = (if lastBad l then 111 else 0) ∧ chkN l = (if lastBad l then n - 1 else 0)) := by
      have := HR.out
      have hl0 : ¬ l.length = 0 := by rw [HL.out]; exact h0
      rw [if_neg hl0, if_neg hl0, HL.out] at this
      exact this
    have HLb : Hid (lastBad l = (!((l.getD (n - 1) iz).op == 19) && !((l.getD (n - 1) iz).op == 27))) := by
      show _ = _
      unfold lastBad
      rw [HL.out]
    obtain ⟨b, off, rfl, hc, hw⟩ := (HRow.out.below (by rw [HVe.out]; exact HB3.out) (Nat.le_refl _)).at (n - 1) (by omega)
    obtain ⟨c0, c1, c2, c3⟩ := hc
    have hz : ((n : Int) == 0) = false := by simpa using h0
    have hs : (n : Int) - 1 = ((n - 1 : Nat) : Int) := by omega
    have k0 : (0 : Int) ≤ ((n - 1 : Nat) : Int) := by omega
    have k1 : ((n - 1 : Nat) : Int) < n := by omega
    have hws : IntKind.i64.wrap ((n : Int) - 1) = ((n - 1 : Nat) : Int) := by
      simp [IntKind.wrap, IntKind.bits, IntKind.signed]; omega
    clear HR hw h0
    generalize l.getD (n - 1) iz = x at *
    obtain ⟨op, ia, ib, ic⟩ := x
    simp only at *
    generalize e19 : (op == 19) = b19 at *
    generalize e27 : (op == 27) = b27 at *
    have n19 : (op != 19) = !b19 := by rw [← e19]; rfl
    have n27 : (op != 27) = !b27 := by rw [← e27]; rfl
    cases b19 with
    | true =>
      have HR3 : Hid (chkE l = 0 ∧ chkN l = 0) := by
        have := HR2.out
        rw [HLb.out] at this
        exact this
      clear HR2 HLb
      go_wp2_with fail
      refine bodyPost_ret (v := .tuple #[.int .i64 0, .int .i64 0]) (by simp [results, Tryd.f27, go_sem]) rfl ?_
      exact ⟨tup_eq (b := 0) HR3.out, HB3.out⟩
    | false =>
      cases b27 with
      | true =>
        have HR3 : Hid (chkE l = 0 ∧ chkN l = 0) := by
          have := HR2.out
          rw [HLb.out] at this
          exact this
        clear HR2 HLb
        go_wp2_with fail
        refine bodyPost_ret (v := .tuple #[.int .i64 0, .int .i64 0]) (by simp [results, Tryd.f27, go_sem]) rfl ?_
        exact ⟨tup_eq (b := 0) HR3.out, HB3.out⟩
      | false =>
        have HR3 : Hid (chkE l = 111 ∧ chkN l = n - 1) := by
          have := HR2.out
          rw [HLb.out] at this
          exact this
        clear HR2 HLb
        go_wp2_with fail
        refine bodyPost_ret (v := .tuple #[.int .i64 ((n - 1 : Nat) : Int), .int .i64 111]) (by simp [results, Tryd.f27, go_sem]) rfl ?_
        exact ⟨tup_eq HR3.out, HB3.out⟩
theorem well_any (l : List Iv) (a : Option Addr) (n c : Nat) (w : World) (hT : Tabs w) (hnc : n ≤ c) (hcm : c ≤ 9223372036854775807) (h : IRow w a n l) : Calls Tryd.prog 32 #[.slice a n c] w fun e w' =>
    e = .returned (.bool (chkE l == 0)) ∧ Below w.heap.size w w' := by
  have HC := Lib.hid (check_any l a n c w hT hnc hcm h)
  clear hT h
  generalize chkE l = E at *
  generalize ((chkN l : Nat) : Int) = M at *
  go_enter Tryd.func32, Tryd.ntmps32
  go_wp2_with fail
  refine HC.out.mono ?_
  rintro e w1 ⟨rfl, hb⟩
  go_wp2_with fail
  go_ret
  exact ⟨rfl, hb⟩
end Flw
end Go.Proofs.YtjoiogdckbaeaaaDoor
namespace Go.Proofs.YtjoiogdckbaeaaaDoor
open Go.ChangeShapes Go.WideShapes Go.ChangeAt Go.RowKit
namespace Flw
open Isa
open Goes
open Rights (yield_any yield_wide)
set_option linter.unusedVariables false
set_option linter.unusedSimpArgs false
attribute [local go_sem] Oper.semAt_some
/-- a number, handed to a loop's body -/
def encN (k : Nat) : Array Value := #[.int .i64 (k : Nat)]
/-- the two boxes that the iterator reads -/
def two (b1 b2 : Nat) : Nat → Prop := fun k => k = b1 ∨ k = b2
structure BehAt (w : World) (b1 b2 : Nat) (i : Iv) (n : Nat) : Prop where
  ci : w.heap[b1]? = some (.cells #[.int .u8 i.op, .int .u8 i.a, .int .u16 i.b, .int .u32 i.c] 55 (0, 0))
  cn : w.heap[b2]? = some (.cells #[.int .i64 (n : Nat)] 3 (0, 0))
theorem BehAt.kept {w w' : World} {b1 b2 : Nat} {i : Iv} {n : Nat} (h : BehAt w b1 b2 i n) (hk : Rights.Kept (fun k => ¬ two b1 b2 k) w w') : BehAt w' b1 b2 i n :=
  ⟨hk.same h.ci (fun x => x (.inl rfl)), hk.same h.cn (fun x => x (.inr rfl))⟩
set_option maxHeartbeats 4000000 in
theorem seq_behind (b1 b2 : Nat) (i : Iv) (hi : i.wf) (n : Nat) (hn : n ≤ 100000) (w : World) (hB : BehAt w b1 b2 i n) :
    SeqN Tryd.prog 57 #[.pointer (some ⟨b1, 0, none⟩), .pointer (some ⟨b2, 0, none⟩)] encN (two b1 b2) (behI i n) w := by
  intro yl J Jx W hW hY h0
  have HY := Lib.hid hY
  have H0 := Lib.hid h0
  have HK : Hid (∀ V, Rights.Kept (fun k => ¬ two b1 b2 k) W V → BehAt V b1 b2 i n) := fun V hV => (hB.kept hW).kept hV
  obtain ⟨C, hC⟩ := Int.eq_ofNat_of_zero_le hi.c.1
  have hC2 : C ≤ 4294967295 := by have := hi.c.2; omega
  clear hW hY h0 hB
  have hW := HK.out W (Rights.Kept.refl _ _)
  obtain ⟨op, ia, ib, ic⟩ := i
  simp only at *
  subst hC
  obtain ⟨c0, c1, c2, c3⟩ := cells4 hW.ci
  have cn : W.cell? ⟨b2, 0, none⟩ = some (.int .i64 (n : Nat)) := cells_at hW.cn 0
  have hwc : IntKind.i64.wrap (C : Int) = (C : Int) := by simp [IntKind.wrap, IntKind.bits, IntKind.signed]; omega
  clear hW hi
  refine callsIn_of_wp Tryd.func57 rfl trivial ?_ rfl
  simp only [Tryd.ntmps57, List.size_toArray, List.length_cons, List.length_nil, Nat.reduceAdd, Nat.reduceSub, Array.replicate_succ, Array.replicate_zero, List.push_toArray, List.append_toArray, List.nil_append, List.cons_append]
  by_cases e27 : op = 27
  · have hL : behI ⟨op, ia, ib, (C : Int)⟩ n = [] := by unfold behI; rw [if_pos e27]
    rw [hL]
    have g27 : (op == 27) = true := by simpa using e27
    subst e27
    gi_wp2_with fail
    go_end0
    exact ⟨⟨_, rfl⟩, .inl H0.out⟩
  have g27 : (op == 27) = false := by simpa using e27
  by_cases e19 : op = 19
  · have hL : behI ⟨op, ia, ib, (C : Int)⟩ n = [C] := by unfold behI; rw [if_neg e27, if_pos e19]; rfl
    rw [hL] at HY ⊢
    have g19 : (op == 19) = true := by simpa using e19
    subst e19
    obtain ⟨fn, tmps, assign, body, hy, hR⟩ := HY.out [] C W (List.prefix_refl _) H0.out
    dsimp only [encN] at hy
    gi_wp2_with fail
    refine ⟨rfl, RoundIn.mono hR ?_⟩
    rintro e W3 ⟨hk3, h3⟩
    rcases h3 with ⟨rfl, hJ3⟩ | ⟨rfl, hJx3⟩
    · gi_wp2_with fail
      go_end0
      exact ⟨⟨_, rfl⟩, .inl hJ3⟩
    · gi_wp2_with fail
      go_end0
      exact ⟨⟨_, rfl⟩, .inr ⟨_, List.prefix_refl _, hJx3⟩⟩
  have g19 : (op == 19) = false := by simpa using e19
  have hw1 : IntKind.i64.wrap ((n : Int) + 1) = (n : Int) + 1 := by simp [IntKind.wrap, IntKind.bits, IntKind.signed]; omega
  by_cases e20 : op = 20
  · have g20 : (op == 20) = true := by simpa using e20
    by_cases hs : C = n + 1
    · have hL : behI ⟨op, ia, ib, (C : Int)⟩ n = [n + 1] := by unfold behI; rw [if_neg e27, if_neg e19, if_pos e20, if_pos (by simp only; omega)]
      rw [hL] at HY ⊢
      subst hs
      subst e20
      obtain ⟨fn, tmps, assign, body, hy, hR⟩ := HY.out [] (n + 1) W (List.prefix_refl _) H0.out
      dsimp only [encN] at hy
      rw [show (((n + 1 : Nat)) : Int) = (n : Int) + 1 from by omega] at hy
      have hne : (((n + 1 : Nat) : Int) != (n : Int) + 1) = false := by simp
      gi_wp2_with fail
      refine ⟨rfl, RoundIn.mono hR ?_⟩
      rintro e W3 ⟨hk3, h3⟩
      have hB3 := HK.out W3 hk3
      obtain ⟨d0, d1, d2, d3⟩ := cells4 hB3.ci
      have dn : W3.cell? ⟨b2, 0, none⟩ = some (.int .i64 (n : Nat)) := cells_at hB3.cn 0
      simp only at d0 d1 d2 d3
      clear hk3 hB3 c0 c1 c2 c3 cn
      rcases h3 with ⟨rfl, hJ3⟩ | ⟨rfl, hJx3⟩
      · gi_wp2_with fail
        go_end0
        exact ⟨⟨_, rfl⟩, .inl hJ3⟩
      · gi_wp2_with fail
        go_end0
        exact ⟨⟨_, rfl⟩, .inr ⟨_, List.prefix_refl _, hJx3⟩⟩
    · have hL : behI ⟨op, ia, ib, (C : Int)⟩ n = [n + 1, C] := by unfold behI; rw [if_neg e27, if_neg e19, if_pos e20, if_neg (by simp only; omega)]; rfl
      rw [hL] at HY ⊢
      subst e20
      obtain ⟨fn, tmps, assign, body, hy, hR⟩ := HY.out [] (n + 1) W (by simp) H0.out
      dsimp only [encN] at hy
      rw [show (((n + 1 : Nat)) : Int) = (n : Int) + 1 from by omega] at hy
      have hne : ((C : Int) != (n : Int) + 1) = true := by simp; omega
      gi_wp2_with fail
      refine ⟨rfl, RoundIn.mono hR ?_⟩
      rintro e W3 ⟨hk3, h3⟩
      have hB3 := HK.out W3 hk3
      obtain ⟨d0, d1, d2, d3⟩ := cells4 hB3.ci
      have dn : W3.cell? ⟨b2, 0, none⟩ = some (.int .i64 (n : Nat)) := cells_at hB3.cn 0
      simp only at d0 d1 d2 d3
      clear hk3 hB3 c0 c1 c2 c3 cn hy hR
      rcases h3 with ⟨rfl, hJ3⟩ | ⟨rfl, hJx3⟩
      · obtain ⟨fn, tmps, assign, body, hy, hR⟩ := HY.out [n + 1] C W3 (List.prefix_refl _) hJ3
        dsimp only [encN] at hy
        clear hJ3
        gi_wp2_with fail
        refine ⟨rfl, RoundIn.mono hR ?_⟩
        rintro e W4 ⟨hk4, h4⟩
        rcases h4 with ⟨rfl, hJ4⟩ | ⟨rfl, hJx4⟩
        · gi_wp2_with fail
          go_end0
          exact ⟨⟨_, rfl⟩, .inl hJ4⟩
        · gi_wp2_with fail
          go_end0
          exact ⟨⟨_, rfl⟩, .inr ⟨_, List.prefix_refl _, hJx4⟩⟩
      · gi_wp2_with fail
        go_end0
        exact ⟨⟨_, rfl⟩, .inr ⟨[n + 1], by simp, hJx3⟩⟩
  · have g20 : (op == 20) = false := by simpa using e20
    have hL : behI ⟨op, ia, ib, (C : Int)⟩ n = [n + 1] := by unfold behI; rw [if_neg e27, if_neg e19, if_neg e20]
    rw [hL] at HY ⊢
    obtain ⟨fn, tmps, assign, body, hy, hR⟩ := HY.out [] (n + 1) W (List.prefix_refl _) H0.out
    dsimp only [encN] at hy
    rw [show (((n + 1 : Nat)) : Int) = (n : Int) + 1 from by omega] at hy
    gi_wp2_with fail
    refine ⟨rfl, RoundIn.mono hR ?_⟩
    rintro e W3 ⟨hk3, h3⟩
    rcases h3 with ⟨rfl, hJ3⟩ | ⟨rfl, hJx3⟩
    · gi_wp2_with fail
      go_end0
      exact ⟨⟨_, rfl⟩, .inl hJ3⟩
    · gi_wp2_with fail
      go_end0
      exact ⟨⟨_, rfl⟩, .inr ⟨_, List.prefix_refl _, hJx3⟩⟩
end Flw
end Go.Proofs.YtjoiogdckbaeaaaDoor
namespace Go.Proofs.YtjoiogdckbaeaaaDoor
open Go.ChangeShapes Go.WideShapes Go.ChangeAt Go.RowKit
namespace Flw
open Isa
open Goes
open Rights (yield_any yield_wide)
set_option linter.unusedVariables false
set_option linter.unusedSimpArgs false
/-- an iterator over these numbers, just made -/
def SeqP (L : List Nat) (w : World) (v : Value) (w' : World) : Prop :=
  ∃ F lb c, v = .func (.func F) #[] lb ∧ (∀ args X, (callFunc F args).run Tryd.prog X = .ok (.enter F args) X) ∧ SeqN Tryd.prog F lb encN c L w' ∧ Below w.heap.size w w' ∧ ∀ j, c j → w.heap.size ≤ j ∧ j < w'.heap.size
theorem behind_make (i : Iv) (hi : i.wf) (n : Nat) (hn : n ≤ 100000) (w : World) : Calls Tryd.prog 33 #[iv i, .int .i64 (n : Nat)] w fun e w' => ∃ v, e = .returned v ∧ SeqP (behI i n) w v w' := by
  have HI : Hid (∀ w', BehAt w' w.heap.size (w.heap.size + 1) i n → SeqN Tryd.prog 57 #[.pointer (some ⟨w.heap.size, 0, none⟩), .pointer (some ⟨w.heap.size + 1, 0, none⟩)] encN (two w.heap.size (w.heap.size + 1)) (behI i n) w') :=
    fun w' h => seq_behind w.heap.size (w.heap.size + 1) i hi n hn w' h
  have HA : Hid (BehAt ((w.alloc (.cells #[.int .u8 i.op, .int .u8 i.a, .int .u16 i.b, .int .u32 i.c] 55)).alloc (.cells #[.int .i64 (n : Nat)] 3)) w.heap.size (w.heap.size + 1) i n) :=
    ⟨(Below.heap_alloc _ _ _ (by simp)).trans (alloc_new w _), by have := alloc_new (w.alloc (.cells #[.int .u8 i.op, .int .u8 i.a, .int .u16 i.b, .int .u32 i.c] 55)) (.cells #[.int .i64 (n : Nat)] 3); rwa [World.size_alloc] at this⟩
  clear hi
  unfold iv
  generalize behI i n = L at *
  go_enter Tryd.func33, Tryd.ntmps33
  go_wp2_with fail
  go_ret
  refine ⟨_, rfl, _, _, two w.heap.size (w.heap.size + 1), rfl, enters_of Tryd.func57 (by kernel_rfl) rfl, HI.out _ HA.out, by go_grown, ?_⟩
  intro j hj
  simp
  rcases hj with h | h <;> omega
end Flw
end Go.Proofs.YtjoiogdckbaeaaaDoor
