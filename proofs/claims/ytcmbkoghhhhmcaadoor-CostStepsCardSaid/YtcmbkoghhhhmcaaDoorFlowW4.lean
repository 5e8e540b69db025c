/- flow.Behind, and what it answers: an iterator. -/
import Derived.Test.YtcmbkoghhhhmcaaDoorFlowW3
import Derived.Test.YtcmbkoghhhhmcaaDoorFlowVal
namespace Go.Proofs.YtcmbkoghhhhmcaaDoor
open Go.ChangeShapes Go.WideShapes Go.ChangeAt Go.RowKit
namespace Flw
open Isa
open Goes
open Rights (yield_any yield_wide)
set_option linter.unusedVariables false
set_option linter.unusedSimpArgs false
/-- an iterator over these numbers, just made -/
def SeqP (L : List Nat) (w : World) (v : Value) (w' : World) : Prop :=
  ∃ F lb c, v = .func (.func F) #[] lb ∧ (∀ args X, (callFunc F args).run Tryd.prog X = .ok (.enter F args) X) ∧ SeqN Tryd.prog F lb encN c L w' ∧ Below w.heap.size w w' ∧ ∀ j, c j → w.heap.size ≤ j ∧ j < w'.heap.size
theorem behind_make (i : Iv) (hi : i.wf) (n : Nat) (hn : n ≤ 100000) (w : World) : Calls Tryd.prog 29 #[iv i, .int .i64 (n : Nat)] w fun e w' => ∃ v, e = .returned v ∧ SeqP (behI i n) w v w' := by
  have HI : Hid (∀ w', BehAt w' w.heap.size (w.heap.size + 1) i n → SeqN Tryd.prog 41 #[.pointer (some ⟨w.heap.size, 0, none⟩), .pointer (some ⟨w.heap.size + 1, 0, none⟩)] encN (two w.heap.size (w.heap.size + 1)) (behI i n) w') :=
    fun w' h => seq_behind w.heap.size (w.heap.size + 1) i hi n hn w' h
  have HA : Hid (BehAt ((w.alloc (.cells #[.int .u8 i.op, .int .u8 i.a, .int .u16 i.b, .int .u32 i.c] 46)).alloc (.cells #[.int .i64 (n : Nat)] 3)) w.heap.size (w.heap.size + 1) i n) :=
    ⟨(Below.heap_alloc _ _ _ (by simp)).trans (alloc_new w _), by have := alloc_new (w.alloc (.cells #[.int .u8 i.op, .int .u8 i.a, .int .u16 i.b, .int .u32 i.c] 46)) (.cells #[.int .i64 (n : Nat)] 3); rwa [World.size_alloc] at this⟩
  clear hi
  unfold iv
  generalize behI i n = L at *
  go_enter Tryd.func29, Tryd.ntmps29
  go_wp2_with fail
  go_ret
  refine ⟨_, rfl, _, _, two w.heap.size (w.heap.size + 1), rfl, enters_of Tryd.func41 (by kernel_rfl) rfl, HI.out _ HA.out, by go_grown, ?_⟩
  intro j hj
  simp
  rcases hj with h | h <;> omega
theorem seq_nothing (c : Nat → Prop) (w : World) : SeqN Tryd.prog 38 #[] encN c [] w := by
  intro yl J Jx W hW hY h0
  have H0 := Lib.hid h0
  clear hW hY h0
  refine callsIn_of_wp Tryd.func38 rfl trivial ?_ rfl
  simp only [Tryd.ntmps38, List.size_toArray, List.length_cons, List.length_nil, Nat.reduceAdd, Nat.reduceSub, Array.replicate_succ, Array.replicate_zero, List.push_toArray, List.append_toArray, List.nil_append, List.cons_append]
  gi_wp2_with fail
  go_end0
  exact ⟨⟨_, rfl⟩, .inl H0.out⟩
theorem nothing_seq (w w' : World) (hb : Below w.heap.size w w') : SeqP [] w (.func (.func 38) #[] #[]) w' :=
  ⟨_, _, fun _ => False, rfl, enters_of Tryd.func38 (by kernel_rfl) rfl, seq_nothing _ w', hb, fun _ h => h.elim⟩
set_option maxHeartbeats 1600000 in
theorem behind_any (l : List Iv) (a : Option Addr) (n c : Nat) (k : Int) (w : World) (hT : Tabs w) (hnc : n ≤ c) (hcm : c ≤ 9223372036854775807) (h : IRow w a n l) :
    Calls Tryd.prog 23 #[.slice a n c, .int .i64 k] w fun e w' => ∃ v, e = .returned v ∧ SeqP (behA l k) w v w' := by
  have hln : l.length = n := h.1
  have HL := Lib.hid hln
  have HNone := Lib.hid (fun w' hb => nothing_seq w w' hb)
  have HWell := Lib.hid (well_any l a n c w hT hnc hcm h)
  have HRow := Lib.hid h
  clear hT h hln
  by_cases h0 : k < 0
  · have hd : decide (k < (0 : Int)) = true := decide_eq_true h0
    rw [behA_out (.inr (.inl h0))]
    clear h0
    go_enter Tryd.func23, Tryd.ntmps23
    go_wp2_with fail
    go_ret
    exact ⟨_, rfl, HNone.out _ (Below.refl _ _)⟩
  have hd : decide (k < (0 : Int)) = false := decide_eq_false h0
  by_cases h1 : (n : Int) ≤ k
  · have hd2 : decide ((n : Int) ≤ k) = true := decide_eq_true h1
    rw [behA_out (.inr (.inr (by have := HL.out; omega)))]
    clear h0 h1
    go_enter Tryd.func23, Tryd.ntmps23
    go_wp2_with fail
    go_ret
    exact ⟨_, rfl, HNone.out _ (Below.refl _ _)⟩
  have hd2 : decide ((n : Int) ≤ k) = false := decide_eq_false h1
  obtain ⟨j, rfl⟩ := Int.eq_ofNat_of_zero_le (Int.not_lt.1 h0)
  have hd3 : decide (n ≤ j) = false := decide_eq_false (by omega)
  by_cases hE : chkE l = 0
  · have hg : (chkE l == 0) = true := by simpa using hE
    have hn16 : n ≤ 16384 := by have := (fine_of hE).most; have := HL.out; omega
    rw [hg] at HWell
    rw [behA_in hE (by have := HL.out; omega)]
    unfold behL
    have HMk := Lib.hid (fun W => behind_make (l.getD j iz) (HRow.out.2.1 _ (getD_mem _ (by have := HL.out; omega))) j (by omega) W)
    have HAt := Lib.hid (fun W (hb : Below w.heap.size w W) => (HRow.out.below hb (Nat.le_refl _)).at j (by omega))
    have k0 : (0 : Int) ≤ j := by omega
    have k1 : (j : Int) < n := by omega
    clear hg hE h0 h1 HRow HNone HL
    generalize behI (l.getD j iz) j = L at *
    generalize l.getD j iz = x at *
    obtain ⟨op, ia, ib, ic⟩ := x
    unfold iv at HMk
    simp only at *
    go_enter Tryd.func23, Tryd.ntmps23
    go_wp2_with fail
    refine HWell.out.mono ?_
    rintro e w1 ⟨rfl, hb1⟩
    obtain ⟨b, off, rfl, hc, _⟩ := HAt.out _ hb1
    obtain ⟨c0, c1, c2, c3⟩ := hc
    have HB := Lib.hid hb1
    clear hb1 HAt
    go_wp2_with fail
    refine (HMk.out _).mono ?_
    rintro e w2 ⟨v, rfl, hs⟩
    have HS := Lib.hid hs
    clear hs c0 c1 c2 c3
    go_wp2_with fail
    go_ret
    obtain ⟨F, lb, cc, rfl, h1, h2, h3, h4⟩ := HS.out
    exact ⟨_, rfl, F, lb, cc, rfl, h1, h2, HB.out.trans (h3.mono HB.out.size), fun j hj => ⟨Nat.le_trans HB.out.size (h4 j hj).1, (h4 j hj).2⟩⟩
  · have hg : (chkE l == 0) = false := by simpa using hE
    rw [hg] at HWell
    rw [behA_out (.inl hE)]
    clear h0 h1 hE
    go_enter Tryd.func23, Tryd.ntmps23
    go_wp2_with fail
    refine HWell.out.mono ?_
    rintro e w1 ⟨rfl, hb1⟩
    have HB := Lib.hid hb1
    clear hb1
    go_wp2_with fail
    go_ret
    exact ⟨_, rfl, HNone.out _ HB.out⟩
end Flw
end Go.Proofs.YtcmbkoghhhhmcaaDoor
