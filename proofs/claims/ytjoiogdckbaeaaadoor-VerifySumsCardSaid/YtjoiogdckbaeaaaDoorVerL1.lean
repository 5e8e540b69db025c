/- Summaries held against each other. · The law's own functions, and the walk of VerifyChecks, over what the program's Check answers. -/
import Derived.Test.YtjoiogdckbaeaaaDoorVerR2
import Derived.Laws.StructEq
import Derived.Laws.EntriesVeiled
namespace Go.Proofs.YtjoiogdckbaeaaaDoor
open Go.ChangeShapes Go.WideShapes Go.ChangeAt Go.RowKit
namespace Ver
open Isa Flw
set_option linter.unusedVariables false
set_option linter.unusedSimpArgs false
theorem Sm.eq_of {x y : Sm} (h1 : x.h = y.h) (h2 : x.f = y.f) (h3 : x.r = y.r) (h4 : x.w = y.w) (h5 : x.i = y.i) (h6 : x.o = y.o) : x = y := by
  cases x; cases y; simp_all
def smE (x y : Sm) : Bool := x.h == y.h && ((x.f : Int) == y.f && ((x.r : Int) == y.r && ((x.w : Int) == y.w && ((x.i : Int) == y.i && (x.o : Int) == y.o))))
theorem smE_iff (x y : Sm) : smE x y = true ↔ x = y := by
  unfold smE
  simp only [Bool.and_eq_true, beq_iff_eq]
  constructor
  · rintro ⟨h1, h2, h3, h4, h5, h6⟩
    exact Sm.eq_of h1 (by omega) (by omega) (by omega) (by omega) (by omega)
  · rintro rfl
    exact ⟨rfl, rfl, rfl, rfl, rfl, rfl⟩
theorem smE_self (x : Sm) : smE x x = true := (smE_iff x x).2 rfl
/-- the walk's own form -/
theorem eqSm (x y : Sm) (w : World) : (Op.equalIn 10000 37 (.agg (smC x)) (.agg (smC y))).run Tryd.prog w = .ok (smE x y) w := by
  have u1 := Tryd.underlying3
  have a1 := Tryd.isAgg3
  have z1 := Tryd.sizeOf3
  have u3 := Tryd.underlying23
  have a3 := Tryd.isAgg23
  have z3 := Tryd.sizeOf23
  have hS : Tryd.prog.underlying 37 = some (.struct (Tryd.prog.fieldsOf 37)) := by kernel_rfl
  have hp : Tryd.prog.stoodInHeld 37 = false := by kernel_rfl
  unfold smC smE
  rw [show (10000 : Nat) = 9999 + 1 from rfl, run_equalIn_agg w 9999 37 _ _ hS hp]
  simp only [Program.fieldsOf, Tryd.underlying37]
  go_simp
  by_cases h1 : x.h = y.h <;> by_cases h2 : (x.f : Int) = (y.f : Int) <;> by_cases h3 : (x.r : Int) = (y.r : Int) <;> by_cases h4 : (x.w : Int) = (y.w : Int) <;> by_cases h5 : (x.i : Int) = (y.i : Int) <;> by_cases h6 : (x.o : Int) = (y.o : Int) <;> simp [h1, h2, h3, h4, h5, h6]
end Ver
end Go.Proofs.YtjoiogdckbaeaaaDoor
namespace Go.Proofs.YtjoiogdckbaeaaaDoor
open Go.ChangeShapes Go.WideShapes Go.ChangeAt Go.RowKit
namespace Ver
open Isa Flw Hgt Cst
set_option linter.unusedVariables false
set_option linter.unusedSimpArgs false
def KnownC : Prop := ∀ (w : World), Tabs w → Calls Tryd.prog 6 #[] w fun e w' => e = .returned (.bool true) ∧ Below w.heap.size w w'
/-- whether a configuration is more than is gone through -/
def grB (m : Cm) : Bool := decide (1000 < IntKind.i64.wrap (IntKind.i64.wrap ((m.np : Int) + m.nq) + m.ns))
theorem great_any (m : Cm) (w : World) : Calls Tryd.prog 7 #[m.val] w fun e w' => e = .returned (.bool (grB m)) ∧ Below w.heap.size w w' := by
  obtain ⟨S, hS⟩ : ∃ S, w.heap.size = S := ⟨_, rfl⟩
  have HS := Lib.hid hS
  have HX : Hid ((w.alloc (.cells m.cells 33)).heap[S]? = some (.cells m.cells 33 (0, 0))) := by show _ = _; rw [← hS]; exact alloc_new w _
  have HB : Hid (Below S w (w.alloc (.cells m.cells 33))) := by show Below _ _ _; rw [← hS]; exact (Below.refl _ w).alloc (Nat.le_refl _) _
  unfold Cm.val grB
  obtain ⟨s1, hs1⟩ : ∃ s1, IntKind.i64.wrap ((m.np : Int) + m.nq) = s1 := ⟨_, rfl⟩
  obtain ⟨s2, hs2⟩ : ∃ s2, IntKind.i64.wrap (s1 + m.ns) = s2 := ⟨_, rfl⟩
  obtain ⟨G, hG⟩ : ∃ G, decide ((1000 : Int) < s2) = G := ⟨_, rfl⟩
  rw [hs1, hs2, hG]
  go_enter Tryd.func7, Tryd.ntmps7
  go_upto_region 1 with fail
  clear hS
  generalize w.alloc (.cells m.cells 33) = X at *
  obtain ⟨⟨y0, y1, y2, y3, y4, y5, y6⟩, y7, y8, y9, y10, y11, y12, y13⟩ := cfg_all HX.out
  go_wp2_with fail
  go_ret
  exact ⟨rfl, by rw [HS.out]; exact HB.out⟩
set_option maxHeartbeats 6400000 in
theorem checks_walk (w : World) (hT : Tabs w) (hKn : KnownC) (hV : CheckVC) (a : Option Addr) (n cp : Nat) (l : List Iv) (h : IRow w a n l) (hc : n ≤ cp ∧ cp ≤ 9223372036854775807) (part : Int) (hp : -9223372036854775808 ≤ part ∧ part ≤ 9223372036854775807) (m : Cm) (ds : List Pd) (c : Cf) (h2 : CfIn w m ds c) :
    Calls Tryd.prog 3 #[.slice a n cp, .int .i64 part, m.val] w fun e w' => e = .returned (.bool true) ∧ Below w.heap.size w w' := by
  obtain ⟨S, hS⟩ : ∃ S, w.heap.size = S := ⟨_, rfl⟩
  have HS := Lib.hid hS
  have HX : Hid ((w.alloc (.cells m.cells 33)).heap[S]? = some (.cells m.cells 33 (0, 0))) := by show _ = _; rw [← hS]; exact alloc_new w _
  have HB : Hid (Below S w (w.alloc (.cells m.cells 33))) := by show Below _ _ _; rw [← hS]; exact (Below.refl _ w).alloc (Nat.le_refl _) _
  have HK := Lib.hid (fun W (hb : Below S w W) => hKn W (hT.below hb (by omega)))
  have HG := Lib.hid (fun W => great_any m W)
  have HCk := Lib.hid (fun W (hb : Below S w W) => hV l a n cp part m ds c W (hT.below hb (by omega)) hc.1 hc.2 (h.below hb (by omega)) hp (h2.below hb (by omega)))
  have HRc := Lib.hid (fun W (hb : Below S w W) => rcheck_any l a n cp part m ds c W hc.1 hc.2 (h.below hb (by omega)) hp (h2.below hb (by omega)))
  have HSz : Hid (S < (w.alloc (.cells m.cells 33)).heap.size) := by show _ < _; rw [World.size_alloc]; omega
  clear hT hKn hV h h2 hc hp
  unfold Cm.val at *
  unfold smV at *
  obtain ⟨Z, hZ⟩ : ∃ Z, verA l part c = Z := ⟨_, rfl⟩
  rw [hZ] at HCk HRc
  clear hZ
  obtain ⟨⟨sh, sf, sr, sw, si, so⟩, K, E⟩ := Z
  unfold smC at HCk HRc
  simp only at HCk HRc
  unfold Cm.cells at *
  go_enter Tryd.func3, Tryd.ntmps3
  go_upto_region 1 with fail
  clear hS
  generalize w.alloc (.cells #[.int .u32 m.mem, .slice m.ap m.np m.cp, .slice m.aq m.nq m.cq, .int .i64 m.ins, .slice m.sa m.ns m.cs, .int .u32 m.fr, .int .i64 m.fw, .int .u32 m.fl, .int .u32 m.fs, .slice m.al m.nl m.cl, .int .i64 m.vi, .int .u8 m.dg, .int .i64 m.rq, .int .i64 m.sg] 33) = X at *
  go_wp2_with fail
  refine (HK.out X HB.out).mono ?_
  rintro e1 w1 ⟨rfl, hb1⟩
  have hsx := HSz.out
  have HX1 : Hid (w1.heap[S]? = some (.cells m.cells 33 (0, 0))) := (hb1.block _ hsx).trans HX.out
  have HB1 : Hid (Below S w w1) := HB.out.trans (hb1.mono (by omega))
  have HSz1 : Hid (S < w1.heap.size) := by have := hb1.size; show _ < _; omega
  clear hb1 HK HX HB HSz hsx
  obtain ⟨⟨y0, y1, y2, y3, y4, y5, y6⟩, y7, y8, y9, y10, y11, y12, y13⟩ := cfg_all HX1.out
  by_cases hn1 : 200 < n ∧ n ≤ 16384
  · have hd1 : decide ((200 : Int) < (n : Int)) = true := decide_eq_true (by omega)
    have hd2 : decide ((n : Int) ≤ 16384) = true := decide_eq_true (by omega)
    have hd2N : (n ≤ 16384) = True := eq_true (by omega)
    clear hn1
    go_wp2_with fail
    go_ret
    exact ⟨rfl, by rw [HS.out]; exact HB1.out⟩
  have hcase : (decide ((200 : Int) < (n : Int)) = false) ∨ (decide ((200 : Int) < (n : Int)) = true ∧ decide ((n : Int) ≤ 16384) = false ∧ (n ≤ 16384) = False) := by
    by_cases q : 200 < n
    · exact .inr ⟨decide_eq_true (by omega), decide_eq_false (by omega), eq_false (by omega)⟩
    · exact .inl (decide_eq_false (by omega))
  clear hn1
  rcases hcase with hd1 | ⟨hd1, hd2, hd2N⟩
  all_goals
    go_wp2_with fail
    refine (HG.out w1).mono ?_
    rintro e2 w2 ⟨rfl, hb2⟩
    have hsx := HSz1.out
    have HX2 : Hid (w2.heap[S]? = some (.cells m.cells 33 (0, 0))) := (hb2.block _ hsx).trans HX1.out
    have HB2 : Hid (Below S w w2) := HB1.out.trans (hb2.mono (by omega))
    have HSz2 : Hid (S < w2.heap.size) := by have := hb2.size; show _ < _; omega
    clear hb2 y0 y1 y2 y3 y4 y5 y6 y7 y8 y9 y10 y11 y12 y13 HX1 HB1 HSz1 hsx
    generalize grB m = G at *
    cases G with
    | true =>
      go_wp2_with fail
      go_ret
      exact ⟨rfl, by rw [HS.out]; exact HB2.out⟩
    | false =>
      obtain ⟨⟨y0, y1, y2, y3, y4, y5, y6⟩, y7, y8, y9, y10, y11, y12, y13⟩ := cfg_all HX2.out
      go_wp2_with fail
      refine (HCk.out w2 HB2.out).mono ?_
      rintro e3 w3 ⟨rfl, hb3⟩
      have hsx := HSz2.out
      have HX3 : Hid (w3.heap[S]? = some (.cells m.cells 33 (0, 0))) := (hb3.block _ hsx).trans HX2.out
      have HB3 : Hid (Below S w w3) := HB2.out.trans (hb3.mono (by omega))
      have HSz3 : Hid (S < w3.heap.size) := by have := hb3.size; show _ < _; omega
      clear hb3 y0 y1 y2 y3 y4 y5 y6 y7 y8 y9 y10 y11 y12 y13 HX2 HB2 HSz2 hsx HCk
      go_upto_region 6 with fail
      obtain ⟨A1, hA1⟩ : ∃ A1, w3.heap.size = A1 := ⟨_, rfl⟩
      have hsx := HSz3.out
      have HX4 : Hid ((w3.alloc (.cells #[.int .i64 sh, .int .u32 (sf : Int), .int .u32 (sr : Int), .int .u32 (sw : Int), .int .u32 (si : Int), .int .u32 (so : Int)] 37)).heap[S]? = some (.cells m.cells 33 (0, 0))) := (Below.heap_alloc _ _ _ hsx).trans HX3.out
      have HY4 : Hid ((w3.alloc (.cells #[.int .i64 sh, .int .u32 (sf : Int), .int .u32 (sr : Int), .int .u32 (sw : Int), .int .u32 (si : Int), .int .u32 (so : Int)] 37)).heap[A1]? = some (.cells #[.int .i64 sh, .int .u32 (sf : Int), .int .u32 (sr : Int), .int .u32 (sw : Int), .int .u32 (si : Int), .int .u32 (so : Int)] 37 (0, 0))) := by show _ = _; rw [← hA1]; exact alloc_new w3 _
      have HB4 : Hid (Below S w (w3.alloc (.cells #[.int .i64 sh, .int .u32 (sf : Int), .int .u32 (sr : Int), .int .u32 (sw : Int), .int .u32 (si : Int), .int .u32 (so : Int)] 37))) := HB3.out.alloc (by omega) _
      have HSz4 : Hid (A1 < (w3.alloc (.cells #[.int .i64 sh, .int .u32 (sf : Int), .int .u32 (sr : Int), .int .u32 (sw : Int), .int .u32 (si : Int), .int .u32 (so : Int)] 37)).heap.size ∧ S < A1) := ⟨by rw [World.size_alloc]; omega, by omega⟩
      rw [hA1]
      clear hA1 hsx HX3 HB3 HSz3
      generalize w3.alloc (.cells #[.int .i64 sh, .int .u32 (sf : Int), .int .u32 (sr : Int), .int .u32 (sw : Int), .int .u32 (si : Int), .int .u32 (so : Int)] 37) = w4 at *
      obtain ⟨⟨y0, y1, y2, y3, y4, y5, y6⟩, y7, y8, y9, y10, y11, y12, y13⟩ := cfg_all HX4.out
      go_wp2_with fail
      refine (HRc.out w4 HB4.out).mono ?_
      rintro e4 w5 ⟨rfl, hb5⟩
      obtain ⟨A2, hA2⟩ : ∃ A2, w5.heap.size = A2 := ⟨_, rfl⟩
      have hsx := HSz4.out
      have hs5 := hb5.size
      have HY6 : Hid ((w5.alloc (.cells #[.int .i64 sh, .int .u32 (sf : Int), .int .u32 (sr : Int), .int .u32 (sw : Int), .int .u32 (si : Int), .int .u32 (so : Int)] 37)).heap[A1]? = some (.cells #[.int .i64 sh, .int .u32 (sf : Int), .int .u32 (sr : Int), .int .u32 (sw : Int), .int .u32 (si : Int), .int .u32 (so : Int)] 37 (0, 0))) := (Below.heap_alloc _ _ _ (by omega)).trans ((hb5.block _ hsx.1).trans HY4.out)
      have HZ6 : Hid ((w5.alloc (.cells #[.int .i64 sh, .int .u32 (sf : Int), .int .u32 (sr : Int), .int .u32 (sw : Int), .int .u32 (si : Int), .int .u32 (so : Int)] 37)).heap[A2]? = some (.cells #[.int .i64 sh, .int .u32 (sf : Int), .int .u32 (sr : Int), .int .u32 (sw : Int), .int .u32 (si : Int), .int .u32 (so : Int)] 37 (0, 0))) := by show _ = _; rw [← hA2]; exact alloc_new w5 _
      have HB6 : Hid (Below S w (w5.alloc (.cells #[.int .i64 sh, .int .u32 (sf : Int), .int .u32 (sr : Int), .int .u32 (sw : Int), .int .u32 (si : Int), .int .u32 (so : Int)] 37))) := (HB4.out.trans (hb5.mono (by omega))).alloc (by omega) _
      clear y0 y1 y2 y3 y4 y5 y6 y7 y8 y9 y10 y11 y12 y13 hb5 hs5 hsx HX4 HY4 HB4 HSz4 HRc
      go_upto_region 7 with fail
      clear hA2
      generalize w5.alloc (.cells #[.int .i64 sh, .int .u32 (sf : Int), .int .u32 (sr : Int), .int .u32 (sw : Int), .int .u32 (si : Int), .int .u32 (so : Int)] 37) = w6 at *
      obtain ⟨u0, u1, u2, u3, u4, u5⟩ := cells6 HY6.out
      obtain ⟨v0, v1, v2, v3, v4, v5⟩ := cells6 HZ6.out
      have heq := fun W => eqSm ⟨sh, sf, sr, sw, si, so⟩ ⟨sh, sf, sr, sw, si, so⟩ W
      simp only [smE_self] at heq
      unfold smC at heq
      simp only at heq
      go_wp2_with fail
      go_ret
      exact ⟨by first | rfl | (simp; done), by rw [HS.out]; exact HB6.out⟩
end Ver
end Go.Proofs.YtjoiogdckbaeaaaDoor
