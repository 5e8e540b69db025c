/- verify.Check: the whole of it. -/
import Derived.Test.YtjoiogdckbaeaaaDoorVerP
import Derived.Test.YtjoiogdckbaeaaaDoorCostProg
import Derived.Test.YtjoiogdckbaeaaaDoorHeightWb
namespace Go.Proofs.YtjoiogdckbaeaaaDoor
open Go.ChangeShapes Go.WideShapes Go.ChangeAt Go.RowKit
namespace Ver
open Isa Flw Hgt Cst
open Rights (Kept)
set_option linter.unusedVariables false
set_option linter.unusedSimpArgs false
theorem mask_one {j : Nat} : ∀ {n : Nat}, j < n → mask (fun i => decide (i = j)) n = 2 ^ j := by
  intro n hj
  have := mask_add (S := fun _ => false) (T := fun i => decide (i = j)) (a := j) hj rfl (fun i _ => by simp)
  rw [this, mask_none, Nat.zero_add]
theorem bitsK_or {l : List Iv} {p : Int → Bool} {k j : Nat} (hc : comeB l k = true) (hp : p (l.getD k iz).op = true) (ha : (l.getD k iz).a = (j : Int)) (hj : j < 32) : bitsK l p k ||| 2 ^ j = bitsK l p (k + 1) := by
  unfold bitsK
  rw [← mask_one hj]
  refine (mask_or fun i _ => ?_).symm
  rw [used_succ, ha, hc, hp]
  congr 1
  by_cases e : i = j
  · subst e; simp
  · have e1 : decide ((j : Int) = (i : Int)) = false := decide_eq_false (by omega)
    have e2 : decide (i = j) = false := decide_eq_false e
    rw [e1, e2]; rfl
/-- what is noted of the first k -/
noncomputable def skA (l : List Iv) (k : Nat) : Sm := ⟨0, 0, bitsK l rdO k, bitsK l wrO k, bitsK l inO k, bitsK l ouO k⟩
theorem skA_wf (l : List Iv) (k : Nat) : (skA l k).wf := ⟨bitsK_lt _ _ _, bitsK_lt _ _ _, bitsK_lt _ _ _, bitsK_lt _ _ _⟩
theorem skA_skip {l : List Iv} {k : Nat} (h : comeB l k = false) : skA l (k + 1) = skA l k := by
  unfold skA
  rw [bitsK_skip (.inl h), bitsK_skip (.inl h), bitsK_skip (.inl h), bitsK_skip (.inl h)]
theorem skA_note {l : List Iv} {k j : Nat} (hc : comeB l k = true) (ha : (l.getD k iz).a = (j : Int)) (hj : (l.getD k iz).op = 21 ∨ (l.getD k iz).op = 22 ∨ (l.getD k iz).op = 23 ∨ (l.getD k iz).op = 24 ∨ (l.getD k iz).op = 25 ∨ (l.getD k iz).op = 26 → j < 32) :
    noteS (skA l k) (l.getD k iz).op (2 ^ j) = skA l (k + 1) := by
  unfold noteS skA
  have no : ∀ p : Int → Bool, p (l.getD k iz).op = false → bitsK l p (k + 1) = bitsK l p k := fun p h => bitsK_skip (.inr h)
  have ye : ∀ p : Int → Bool, p (l.getD k iz).op = true → j < 32 → bitsK l p k ||| 2 ^ j = bitsK l p (k + 1) := fun p h q => bitsK_or hc h ha q
  clear ha hc
  generalize (l.getD k iz).op = op at *
  by_cases h1 : rdO op = true
  · have hop : op = 23 ∨ op = 24 := by unfold rdO at h1; simpa using h1
    have hq : j < 32 := hj (by omega)
    rw [if_pos h1, no wrO (by unfold wrO; simp; omega), no inO (by unfold inO; simp; omega), no ouO (by unfold ouO; simp; omega), ← ye rdO h1 hq]
  · rw [if_neg h1, no rdO (by simpa using h1)]
    by_cases h2 : wrO op = true
    · have hop : op = 25 ∨ op = 26 := by unfold wrO at h2; simpa using h2
      have hq : j < 32 := hj (by omega)
      rw [if_pos h2, no inO (by unfold inO; simp; omega), no ouO (by unfold ouO; simp; omega), ← ye wrO h2 hq]
    · rw [if_neg h2, no wrO (by simpa using h2)]
      by_cases h3 : inO op = true
      · have hop : op = 21 := by unfold inO at h3; simpa using h3
        have hq : j < 32 := hj (by omega)
        rw [if_pos h3, no ouO (by unfold ouO; simp; omega), ← ye inO h3 hq]
      · rw [if_neg h3, no inO (by simpa using h3)]
        by_cases h4 : ouO op = true
        · have hop : op = 22 := by unfold ouO at h4; simpa using h4
          have hq : j < 32 := hj (by omega)
          rw [if_pos h4, ← ye ouO h4 hq]
        · rw [if_neg h4, no ouO (by simpa using h4)]
set_option maxRecDepth 100000 in
set_option maxHeartbeats 12800000 in
/-- verify.Check, of any program, partition and configuration -/
theorem vcheck_any (l : List Iv) (a : Option Addr) (n cp : Nat) (part : Int) (m : Cm) (ds : List Pd) (c : Cf) (w : World) (hT : Tabs w) (hnc : n ≤ cp) (hcm : cp ≤ 9223372036854775807) (hrow : IRow w a n l) (hp : -9223372036854775808 ≤ part ∧ part ≤ 9223372036854775807) (h : CfIn w m ds c) :
    Calls Tryd.prog 8 #[.slice a n cp, .int .i64 part, m.val] w fun e w' => e = .returned (.tuple #[smV (verA l part c).1, .int .i64 ((verA l part c).2.1 : Nat), .int .i64 (verA l part c).2.2]) ∧ Below w.heap.size w w' := by
  have hln : l.length = n := hrow.1
  obtain ⟨S, hS⟩ : ∃ S, w.heap.size = S := ⟨_, rfl⟩
  have HS := Lib.hid hS
  have HX : Hid (((w.alloc (.cells m.cells 33)).alloc (.cells #[.int .i64 0, .int .u32 0, .int .u32 0, .int .u32 0, .int .u32 0, .int .u32 0] 37)).heap[S]? = some (.cells m.cells 33 (0, 0))) := by
    show _ = _
    rw [← hS]
    exact (Below.heap_alloc _ _ _ (by simp)).trans (alloc_new w _)
  have HY : Hid (((w.alloc (.cells m.cells 33)).alloc (.cells #[.int .i64 0, .int .u32 0, .int .u32 0, .int .u32 0, .int .u32 0, .int .u32 0] 37)).heap[S + 1]? = some (.cells #[.int .i64 0, .int .u32 0, .int .u32 0, .int .u32 0, .int .u32 0, .int .u32 0] 37 (0, 0))) := by
    have := alloc_new (w.alloc (.cells m.cells 33)) (.cells #[.int .i64 0, .int .u32 0, .int .u32 0, .int .u32 0, .int .u32 0, .int .u32 0] 37)
    rwa [World.size_alloc, hS] at this
  have HB : Hid (Below S w ((w.alloc (.cells m.cells 33)).alloc (.cells #[.int .i64 0, .int .u32 0, .int .u32 0, .int .u32 0, .int .u32 0, .int .u32 0] 37))) := by
    show Below _ _ _
    rw [← hS]
    exact ((Below.refl _ w).alloc (Nat.le_refl _) _).alloc (by simp) _
  have HCf := Lib.hid (fun X (hb : Below S w X) => h.below hb (by omega))
  have HIr := Lib.hid (fun X (hb : Below S w X) => hrow.below hb (by omega))
  have HTb := Lib.hid (fun X (hb : Below S w X) => hT.below hb (by omega))
  have HC0 := Lib.hid h
  have HL := Lib.hid hln
  have HW := Lib.hid hrow.2.1
  clear h hrow hT
  unfold Cm.val
  go_enter Tryd.func8, Tryd.ntmps8
  go_upto_region 1 with fail
  generalize (w.alloc (.cells m.cells 33)).alloc (.cells #[.int .i64 0, .int .u32 0, .int .u32 0, .int .u32 0, .int .u32 0, .int .u32 0] 37) = X at *
  obtain ⟨⟨y0, y1, y2, y3, y4, y5, y6⟩, y7, y8, y9, y10, y11, y12, y13⟩ := cfg_all HX.out
  have hcl : c.st.length = m.np := by rw [HC0.out.st, List.length_map]; exact HC0.out.pd.1
  by_cases h0 : part < 0
  · have hd : decide (part < (0 : Int)) = true := decide_eq_true h0
    have HR : Hid (verA l part c = (sz, 0, 2)) := by show _ = _; unfold verA; rw [if_pos (.inl h0)]
    clear h0 hS hcl
    obtain ⟨z0, z1, z2, z3, z4, z5⟩ := cells6 HY.out
    have f0 := fz_at HY.out 0
    have f1 := fz_at HY.out 1
    have f2 := fz_at HY.out 2
    have f3 := fz_at HY.out 3
    have f4 := fz_at HY.out 4
    have f5 := fz_at HY.out 5
    go_wp2_with fail
    have hz := set6 HY.out (.int .i64 0) (.int .u32 0) (.int .u32 0) (.int .u32 0) (.int .u32 0) (.int .u32 0)
    have hbz := bel6 HB.out (R := S + 1) (by omega) (.int .i64 0) (.int .u32 0) (.int .u32 0) (.int .u32 0) (.int .u32 0) (.int .u32 0)
    generalize ((((((X.setCell ⟨S + 1, 0, none⟩ (.int .i64 0)).setCell ⟨S + 1, 1, none⟩ (.int .u32 0)).setCell ⟨S + 1, 2, none⟩ (.int .u32 0)).setCell ⟨S + 1, 3, none⟩ (.int .u32 0)).setCell ⟨S + 1, 4, none⟩ (.int .u32 0)).setCell ⟨S + 1, 5, none⟩ (.int .u32 0)) = X9 at *
    obtain ⟨g0, g1, g2, g3, g4, g5⟩ := cells6 hz
    refine bodyPost_ret (v := .tuple #[.agg #[.int .i64 0, .int .u32 0, .int .u32 0, .int .u32 0, .int .u32 0, .int .u32 0], .int .i64 0, .int .i64 2]) (by simp [results, Tryd.f8, g0, g1, g2, g3, g4, g5, go_sem]) rfl ?_
    rw [HR.out]
    exact ⟨rfl, by rw [HS.out]; exact hbz⟩
  have hd : decide (part < (0 : Int)) = false := decide_eq_false h0
  by_cases h1 : (m.np : Int) ≤ part
  · have hd1 : decide ((m.np : Int) ≤ part) = true := decide_eq_true h1
    have HR : Hid (verA l part c = (sz, 0, 2)) := by show _ = _; unfold verA; rw [if_pos (.inr (by omega))]
    clear h0 h1 hS hcl
    obtain ⟨z0, z1, z2, z3, z4, z5⟩ := cells6 HY.out
    have f0 := fz_at HY.out 0
    have f1 := fz_at HY.out 1
    have f2 := fz_at HY.out 2
    have f3 := fz_at HY.out 3
    have f4 := fz_at HY.out 4
    have f5 := fz_at HY.out 5
    go_wp2_with fail
    have hz := set6 HY.out (.int .i64 0) (.int .u32 0) (.int .u32 0) (.int .u32 0) (.int .u32 0) (.int .u32 0)
    have hbz := bel6 HB.out (R := S + 1) (by omega) (.int .i64 0) (.int .u32 0) (.int .u32 0) (.int .u32 0) (.int .u32 0) (.int .u32 0)
    generalize ((((((X.setCell ⟨S + 1, 0, none⟩ (.int .i64 0)).setCell ⟨S + 1, 1, none⟩ (.int .u32 0)).setCell ⟨S + 1, 2, none⟩ (.int .u32 0)).setCell ⟨S + 1, 3, none⟩ (.int .u32 0)).setCell ⟨S + 1, 4, none⟩ (.int .u32 0)).setCell ⟨S + 1, 5, none⟩ (.int .u32 0)) = X9 at *
    obtain ⟨g0, g1, g2, g3, g4, g5⟩ := cells6 hz
    refine bodyPost_ret (v := .tuple #[.agg #[.int .i64 0, .int .u32 0, .int .u32 0, .int .u32 0, .int .u32 0, .int .u32 0], .int .i64 0, .int .i64 2]) (by simp [results, Tryd.f8, g0, g1, g2, g3, g4, g5, go_sem]) rfl ?_
    rw [HR.out]
    exact ⟨rfl, by rw [HS.out]; exact hbz⟩
  have hd1 : decide ((m.np : Int) ≤ part) = false := decide_eq_false h1
  obtain ⟨q, rfl⟩ := Int.eq_ofNat_of_zero_le (show 0 ≤ part by omega)
  have hqn : q < m.np := by omega
  have hd1N : (m.np ≤ q) = False := eq_false (by omega)
  obtain ⟨pb, po, e1, hat, hwf⟩ := (HCf.out X HB.out).pd.at q hqn
  have hst : c.st.getD q 0 = (ds.getD q dz).st := by
    rw [HC0.out.st, List.getD_eq_getElem?_getD, List.getElem?_map, List.getD_eq_getElem?_getD, List.getElem?_eq_getElem (by have := HC0.out.pd.1; omega)]
    rfl
  have hst2 : (ds.getD q dz).wf := hwf
  generalize ds.getD q dz = d at *
  obtain ⟨s0, s1, s2, s3, s4⟩ := hat
  have HY1p := Lib.hid y1
  rw [e1] at y1
  have HE1 := Lib.hid e1
  clear e1
  obtain ⟨M, hM⟩ : ∃ M, d.st = M := ⟨_, rfl⟩
  rw [hM] at s1 hst
  have hMb : -9223372036854775808 ≤ M ∧ M ≤ 9223372036854775807 := by rw [← hM]; exact hst2
  have HMs := Lib.hid hst
  have q0 : (0 : Int) ≤ q := by omega
  have q1 : (q : Int) < m.np := by omega
  have HHt := Lib.hid (fun W (hb : Below S w W) => heights_any l a n cp M W (HTb.out W hb) hnc hcm hMb.1 hMb.2 (HIr.out W hb))
  clear h0 h1 hwf hst2 s0 s2 s3 s4 hM hst
  by_cases hE : (htA l M).2.2 = 0
  case neg =>
    have hne : ((htA l M).2.2 != 0) = true := by simpa using hE
    have HR : Hid (verA l (q : Int) c = (sz, (htA l M).2.1, (htA l M).2.2)) := by
      show _ = _
      unfold verA
      rw [if_neg (by omega), Int.toNat_natCast, HMs.out, if_pos hE]
    clear hE hS hcl
    generalize (htA l M).2.2 = E at *
    generalize (htA l M).2.1 = K at *
    generalize (htA l M).1 = HH at *
    go_wp2_with fail
    refine (HHt.out X HB.out).mono ?_
    rintro e w1 ⟨v, rfl, ho, hb1⟩
    obtain ⟨va, vc, rfl, _, _⟩ := own_shape ho
    have hXs : S + 2 ≤ X.heap.size := by have := lt_of_block HY.out; omega
    have HB1 : Hid (Below S w w1) := HB.out.trans (hb1.mono (by omega))
    have HY1 : Hid (w1.heap[S + 1]? = some (.cells #[.int .i64 0, .int .u32 0, .int .u32 0, .int .u32 0, .int .u32 0, .int .u32 0] 37 (0, 0))) := (hb1.block _ (by omega)).trans HY.out
    clear hb1 ho hXs y0 y1 y2 y3 y4 y5 y6 y7 y8 y9 y10 y11 y12 y13 s1
    obtain ⟨z0, z1, z2, z3, z4, z5⟩ := cells6 HY1.out
    have f0 := fz_at HY1.out 0
    have f1 := fz_at HY1.out 1
    have f2 := fz_at HY1.out 2
    have f3 := fz_at HY1.out 3
    have f4 := fz_at HY1.out 4
    have f5 := fz_at HY1.out 5
    go_wp2_with fail
    have hz := set6 HY1.out (.int .i64 0) (.int .u32 0) (.int .u32 0) (.int .u32 0) (.int .u32 0) (.int .u32 0)
    have hbz := bel6 HB1.out (R := S + 1) (by omega) (.int .i64 0) (.int .u32 0) (.int .u32 0) (.int .u32 0) (.int .u32 0) (.int .u32 0)
    generalize ((((((w1.setCell ⟨S + 1, 0, none⟩ (.int .i64 0)).setCell ⟨S + 1, 1, none⟩ (.int .u32 0)).setCell ⟨S + 1, 2, none⟩ (.int .u32 0)).setCell ⟨S + 1, 3, none⟩ (.int .u32 0)).setCell ⟨S + 1, 4, none⟩ (.int .u32 0)).setCell ⟨S + 1, 5, none⟩ (.int .u32 0)) = X9 at *
    obtain ⟨g0, g1, g2, g3, g4, g5⟩ := cells6 hz
    refine bodyPost_ret (v := .tuple #[.agg #[.int .i64 0, .int .u32 0, .int .u32 0, .int .u32 0, .int .u32 0, .int .u32 0], .int .i64 (K : Nat), .int .i64 E]) (by simp [results, Tryd.f8, g0, g1, g2, g3, g4, g5, go_sem]) rfl ?_
    rw [HR.out]
    exact ⟨rfl, by rw [HS.out]; exact hbz⟩
  have hgo := htA_go hE
  have hf := hgo.2.2.1
  have hN0 := (htA_well HW.out hE).2
  rw [hE, hN0] at HHt
  have HF := Lib.hid hf
  have hn16 : n ≤ 16384 := by have := hf.most; omega
  have hn0 : 0 < n := by have := hf.some; omega
  have HCo := Lib.hid (fun W (hb : Below S w W) => come_any l a n cp W (HTb.out W hb) hnc hcm (HIr.out W hb))
  have HMo := Lib.hid (fun W (hb : Below S w W) => most_any l a n cp M W (HTb.out W hb) hnc hcm hMb.1 hMb.2 (HIr.out W hb))
  have HFr := Lib.hid (fun W (hb : Below S w W) => worst_any l a n cp W (HTb.out W hb) hnc hcm (HIr.out W hb))
  have HGs := Lib.hid (fun W (hb : Below S w W) => grants_any (q : Int) hp m ds c W (HCf.out W hb))
  have HHt0 := Lib.hid hE
  have hcm1 : comeL l = (List.range n).map (comeB l) := by unfold comeL; rw [if_pos (chk_of hf).1, hln]
  rw [hcm1] at HCo
  simp only [List.length_map, List.length_range] at HCo
  clear hE hgo hf hN0 hS hcm1 HTb
  generalize (htA l M).1 = HH at *
  go_wp2_with fail
  refine (HHt.out X HB.out).mono ?_
  rintro e w1 ⟨v, rfl, ho, hb1⟩
  obtain ⟨va, vc, rfl, _, _⟩ := own_shape ho
  have hXs : S + 2 ≤ X.heap.size := by have := lt_of_block HY.out; omega
  have HB1 : Hid (Below S w w1) := HB.out.trans (hb1.mono (by omega))
  have HX1 : Hid (w1.heap[S]? = some (.cells m.cells 33 (0, 0))) := (hb1.block _ (by omega)).trans HX.out
  have HY1 : Hid (w1.heap[S + 1]? = some (.cells #[.int .i64 0, .int .u32 0, .int .u32 0, .int .u32 0, .int .u32 0, .int .u32 0] 37 (0, 0))) := (hb1.block _ (by omega)).trans HY.out
  have hw1 : S + 2 ≤ w1.heap.size := by have := hb1.size; omega
  clear hb1 ho hXs y0 y1 y2 y3 y4 y5 y6 y7 y8 y9 y10 y11 y12 y13 s1 HX HY HB HHt HY1p
  obtain ⟨⟨y0, y1, y2, y3, y4, y5, y6⟩, y7, y8, y9, y10, y11, y12, y13⟩ := cfg_all HX1.out
  unfold Cm.val Cm.cells at HGs
  have HGs1 := Lib.hid (HGs.out w1 HB1.out)
  go_wp2_with fail
  refine HGs1.out.mono ?_
  rintro e w2 ⟨v, rfl, hgo, hb2⟩
  obtain ⟨ga, gc, rfl, hgc1, hgc2, hgr⟩ := GrO.row hgo
  obtain ⟨gn, hgn⟩ : ∃ gn, (grantsL (q : Int) c).length = gn := ⟨_, rfl⟩
  have hgn6 : gn ≤ 1000000 := by rw [← hgn]; exact Nat.le_trans (grantsL_len _ _) (by omega)
  rw [hgn] at hgr hgc1
  have HB2 : Hid (Below S w w2) := HB1.out.trans (hb2.mono (by omega))
  have HY2 : Hid (w2.heap[S + 1]? = some (.cells #[.int .i64 0, .int .u32 0, .int .u32 0, .int .u32 0, .int .u32 0, .int .u32 0] 37 (0, 0))) := (hb2.block _ (by omega)).trans HY1.out
  obtain ⟨D, hD⟩ : ∃ D, w2.heap.size = D := ⟨_, rfl⟩
  have hDS : S + 2 ≤ D := by have := hb2.size; omega
  have HDS := Lib.hid hDS
  have HGr := Lib.hid (fun X (hb : Below D w2 X) => hgr.below hb (by omega))
  have HY3 : Hid ((w2.alloc (.cells #[.int .i64 0, .int .u32 0, .int .u32 0, .int .u32 0, .int .u32 0, .int .u32 0] 37)).heap[S + 1]? = some (.cells #[.int .i64 0, .int .u32 0, .int .u32 0, .int .u32 0, .int .u32 0, .int .u32 0] 37 (0, 0))) := (Below.heap_alloc _ _ _ (by omega)).trans HY2.out
  have HD3 : Hid ((w2.alloc (.cells #[.int .i64 0, .int .u32 0, .int .u32 0, .int .u32 0, .int .u32 0, .int .u32 0] 37)).heap[D]? = some (.cells #[.int .i64 0, .int .u32 0, .int .u32 0, .int .u32 0, .int .u32 0, .int .u32 0] 37 (0, 0))) := by show _ = _; rw [← hD]; exact alloc_new w2 _
  have HB3 : Hid (Below S w (w2.alloc (.cells #[.int .i64 0, .int .u32 0, .int .u32 0, .int .u32 0, .int .u32 0, .int .u32 0] 37))) := HB2.out.alloc (by omega) _
  have HG3 : Hid (Below D w2 (w2.alloc (.cells #[.int .i64 0, .int .u32 0, .int .u32 0, .int .u32 0, .int .u32 0, .int .u32 0] 37))) := by show Below _ _ _; rw [← hD]; exact (Below.refl _ w2).alloc (Nat.le_refl _) _
  have HZ3 : Hid ((w2.alloc (.cells #[.int .i64 0, .int .u32 0, .int .u32 0, .int .u32 0, .int .u32 0, .int .u32 0] 37)).heap.size = D + 1) := by show _ = _; rw [World.size_alloc, hD]
  clear hb2 hgo hgr hw1 HX1 HY1 HB1 HY2 HB2 HGs HGs1 y0 y1 y2 y3 y4 y5 y6 y7 y8 y9 y10 y11 y12 y13 hDS
  rw [hgn]
  go_upto_region 9 with fail
  clear hD
  generalize w2.alloc (.cells #[.int .i64 0, .int .u32 0, .int .u32 0, .int .u32 0, .int .u32 0, .int .u32 0] 37) = W3 at *
  go_wp2_with fail
  refine (HCo.out W3 HB3.out).mono ?_
  rintro e W4 ⟨v, rfl, ho, hb4⟩
  obtain ⟨ca, cc, rfl, hcc1, hcc2⟩ := own_shape ho
  rw [HZ3.out] at ho hb4
  have HB4 : Hid (Below S w W4) := HB3.out.trans (hb4.mono (by have := HDS.out; omega))
  have HY4 : Hid (W4.heap[S + 1]? = some (.cells #[.int .i64 0, .int .u32 0, .int .u32 0, .int .u32 0, .int .u32 0, .int .u32 0] 37 (0, 0))) := (hb4.block _ (by have := HDS.out; omega)).trans HY3.out
  have HD4 : Hid (W4.heap[D]? = some (.cells (smC (skA l 0)) 37 (0, 0))) := by
    show _ = _
    unfold skA
    rw [bitsK_zero, bitsK_zero, bitsK_zero, bitsK_zero]
    exact (hb4.block _ (by omega)).trans HD3.out
  have HG4 : Hid (Below D w2 W4) := HG3.out.trans (hb4.mono (by omega))
  have HCm := Lib.hid (fun X (hk : Kept (fun k => k = D) W4 X) => Goes.own_kept ho hk (fun g hg e => by have := Goes.own_lt ho hg; omega))
  have HS4 : Hid (D < W4.heap.size) := lt_of_block HD4.out
  obtain ⟨cb, rfl⟩ : ∃ cb, ca = some ⟨cb, 0, none⟩ := by
    obtain ⟨g, cap, e, _⟩ := own_some ho hn0
    injection e with e _ _
    exact ⟨g, e⟩
  clear ho hb4 HB3 HY3 HD3 HG3 HZ3 HCo
  go_wp2_with fail
  go_loopw [52] (fun i wr => ∃ k : Nat, k ≤ n ∧ i = .int .i64 (k : Nat) ∧ (∀ t, t < k → alien l (q : Int) c t = false) ∧ wr.heap[D]? = some (.cells (smC (skA l k)) 37 (0, 0)) ∧ Kept (fun k => k = D) W4 wr) (fun i _ => n - (intOf i).toNat)
  case atStart => exact ⟨0, by omega, rfl, fun t ht => by omega, HD4.out, Kept.refl _ _⟩
  case round =>
    obtain ⟨k, hk, rfl, hal, hdd, hkp⟩ := hrel
    have HAl := Lib.hid hal
    have HD5 := Lib.hid hdd
    have HK5 := Lib.hid hkp
    have HB5 : Hid (Below S w wr) := HB4.out.trans (Goes.below_of hkp (by have := HS4.out; have := HDS.out; omega) (fun j hj => by have := HDS.out; omega))
    have HG5 : Hid (Below D w2 wr) := HG4.out.trans (Goes.below_of hkp (by have := HS4.out; omega) (fun j hj => by omega))
    have HY5 : Hid (wr.heap[S + 1]? = some (.cells #[.int .i64 0, .int .u32 0, .int .u32 0, .int .u32 0, .int .u32 0, .int .u32 0] 37 (0, 0))) := hkp.same HY4.out (by have := HDS.out; omega)
    clear hal hdd hkp
    by_cases hlt : k < n
    · have hd2 : decide ((k : Int) < (n : Int)) = true := decide_eq_true (by omega)
      have k0 : (0 : Int) ≤ k := by omega
      have k1 : (k : Int) < n := by omega
      have qk : wr.cell? ⟨cb, k, none⟩ = some (.bool (comeB l k)) := by
        have := World.ownsRow.cellAt (HCm.out wr HK5.out) k (by omega)
        rw [this, bls_at (by simp; exact hlt)]
        simp [hlt]
      cases hcome : comeB l k with
      | false =>
        rw [hcome] at qk
        have HAl1 : Hid (∀ t, t < k + 1 → alien l (q : Int) c t = false) := fun t ht => by
          by_cases e : t = k
          · rw [e]; unfold alien; rw [hcome]; rfl
          · exact HAl.out t (by omega)
        have HN : Hid (skA l (k + 1) = skA l k) := skA_skip hcome
        clear hcome
        go_wp2_with fail
        refine ⟨⟨k + 1, by omega, by simp, HAl1.out, ?_, HK5.out⟩, by simp [intOf]; omega⟩
        rw [HN.out]
        exact HD5.out
      | true =>
      rw [hcome] at qk
      obtain ⟨b, off, rfl, hc, hwi⟩ := (HIr.out wr HB5.out).at k hlt
      obtain ⟨c0, c1, c2, c3⟩ := hc
      have HMy := Lib.hid (HF.out.may k (by rw [HL.out]; exact hlt))
      have HOe : Hid (holdE (l.getD k iz) (grantsL (q : Int) c) = ownE (l.getD k iz) (q : Int) c) := hold_own ⟨hwi.a.1, hwi.a.2, hwi.b.2⟩ (by have := HC0.out.wr; rw [HC0.out.fr] at this; exact this) (fun d hd => (HC0.out.pt.2.1 d hd).2.2)
      have HOw := Lib.hid (hold_any (l.getD k iz) hwi.b (grantsL (q : Int) c) ga gn gc hgn6 wr (HGr.out wr HG5.out))
      obtain ⟨x, hx⟩ : ∃ x, l.getD k iz = x := ⟨_, rfl⟩
      have HXi := Lib.hid hx
      rw [hx] at hwi HMy HOw HOe c0 c1 c2 c3
      have HWf := Lib.hid hwi
      obtain ⟨xo, xa, xb, xc⟩ := x
      unfold iv at HOw
      simp only at c0 c1 c2 c3 HOw
      obtain ⟨j, rfl⟩ := Int.eq_ofNat_of_zero_le hwi.a.1
      clear hwi hx
      rw [HOe.out] at HOw
      obtain ⟨E, hE⟩ : ∃ E, ownE ⟨xo, (j : Int), xb, xc⟩ (q : Int) c = E := ⟨_, rfl⟩
      rw [hE] at HOw
      have HEo : Hid (ownE (l.getD k iz) (q : Int) c = E) := by show _ = _; rw [HXi.out]; exact hE
      clear hE HOe
      go_wp2_with fail
      refine HOw.out.mono ?_
      rintro e W5 ⟨rfl, hb5⟩
      have HK6 : Hid (Kept (fun k => k = D) W4 W5) := HK5.out.trans (Kept.of_below hb5)
      have HB6 : Hid (Below S w W5) := HB5.out.trans (hb5.mono (by have := HB5.out.size; have := HS.out; omega))
      have HD6 : Hid (W5.heap[D]? = some (.cells (smC (skA l k)) 37 (0, 0))) := (hb5.block _ (lt_of_block HD5.out)).trans HD5.out
      have HY6 : Hid (W5.heap[S + 1]? = some (.cells #[.int .i64 0, .int .u32 0, .int .u32 0, .int .u32 0, .int .u32 0, .int .u32 0] 37 (0, 0))) := (hb5.block _ (lt_of_block HY5.out)).trans HY5.out
      clear hb5 HOw HK5 HB5 HD5 HY5 HG5 c0 c1 c2 c3 qk
      by_cases hE0 : E = 0
      case neg =>
        have hne : (E != 0) = true := by simpa using hE0
        have HR : Hid (verA l (q : Int) c = (sz, k, E)) := by
          have hk1 : alK l (q : Int) c = k := first_at (by rw [HL.out]; exact hlt) HAl.out (by unfold alien; rw [hcome, HEo.out]; simp [hE0])
          show _ = _
          unfold verA
          rw [if_neg (by omega), Int.toNat_natCast, HMs.out, HHt0.out, if_neg (by simp), hk1, if_pos (by rw [HL.out]; exact hlt), HEo.out]
        clear hE0 hcome
        obtain ⟨z0, z1, z2, z3, z4, z5⟩ := cells6 HY6.out
        have f0 := fz_at HY6.out 0
        have f1 := fz_at HY6.out 1
        have f2 := fz_at HY6.out 2
        have f3 := fz_at HY6.out 3
        have f4 := fz_at HY6.out 4
        have f5 := fz_at HY6.out 5
        go_wp2_with fail
        have hz := set6 HY6.out (.int .i64 0) (.int .u32 0) (.int .u32 0) (.int .u32 0) (.int .u32 0) (.int .u32 0)
        have hbz := bel6 HB6.out (R := S + 1) (by omega) (.int .i64 0) (.int .u32 0) (.int .u32 0) (.int .u32 0) (.int .u32 0) (.int .u32 0)
        generalize ((((((W5.setCell ⟨S + 1, 0, none⟩ (.int .i64 0)).setCell ⟨S + 1, 1, none⟩ (.int .u32 0)).setCell ⟨S + 1, 2, none⟩ (.int .u32 0)).setCell ⟨S + 1, 3, none⟩ (.int .u32 0)).setCell ⟨S + 1, 4, none⟩ (.int .u32 0)).setCell ⟨S + 1, 5, none⟩ (.int .u32 0)) = X9 at *
        obtain ⟨g0, g1, g2, g3, g4, g5⟩ := cells6 hz
        refine bodyPost_ret (v := .tuple #[.agg #[.int .i64 0, .int .u32 0, .int .u32 0, .int .u32 0, .int .u32 0, .int .u32 0], .int .i64 (k : Nat), .int .i64 E]) (by simp [results, Tryd.f8, g0, g1, g2, g3, g4, g5, go_sem]) rfl ?_
        rw [HR.out]
        exact ⟨rfl, by rw [HS.out]; exact hbz⟩
      subst hE0
      obtain ⟨b2, off2, e8, hc2, _⟩ := (HIr.out W5 HB6.out).at k hlt
      injection e8 with e8
      injection e8 with e8 e9 _
      subst e8
      subst e9
      rw [HXi.out] at hc2
      obtain ⟨c0, c1, c2, c3⟩ := hc2
      simp only at c0 c1 c2 c3
      have HAl1 : Hid (∀ t, t < k + 1 → alien l (q : Int) c t = false) := fun t ht => by
        by_cases e : t = k
        · rw [e]; unfold alien; rw [hcome, HEo.out]; rfl
        · exact HAl.out t (by omega)
      have hsm : xo = 21 ∨ xo = 22 ∨ xo = 23 ∨ xo = 24 ∨ xo = 25 ∨ xo = 26 → j < 32 := fun hh => by have := may_small (i := ⟨xo, (j : Int), xb, xc⟩) HMy.out hh; simp only at this; omega
      have HNt : Hid (noteS (skA l k) xo (2 ^ j) = skA l (k + 1)) := by
        have := skA_note (l := l) (k := k) (j := j) hcome (by rw [HXi.out]) (by rw [HXi.out]; exact hsm)
        rwa [HXi.out] at this
      have HNo := Lib.hid (note_any ⟨xo, (j : Int), xb, xc⟩ HWf.out (fun hh => by have := hsm hh; show (j : Int) < 32; omega) D (skA l k) (skA_wf l k) W5 HD6.out)
      unfold iv at HNo
      simp only [Int.toNat_natCast] at HNo
      rw [HNt.out] at HNo
      clear hcome hsm HNt
      go_wp2_with fail
      refine HNo.out.mono ?_
      rintro e W7 ⟨rfl, hd7, hk7⟩
      have HD7 := Lib.hid hd7
      have HK7 : Hid (Kept (fun k => k = D) W4 W7) := HK6.out.trans hk7
      clear hd7 hk7 HNo c0 c1 c2 c3
      go_wp2_with fail
      exact ⟨⟨k + 1, by omega, by simp, HAl1.out, HD7.out, HK7.out⟩, by simp [intOf]; omega⟩
    · obtain rfl : k = n := by omega
      have hd2 : decide ((k : Int) < (k : Int)) = false := decide_eq_false (by omega)
      have HV : Hid (verA l (q : Int) c = (sumL l M, 0, 0)) := by
        have hv : Vok l (q : Int) c := ⟨by omega, by omega, by rw [Int.toNat_natCast, HMs.out]; exact HHt0.out, fun t ht hc => by
          have := HAl.out t (by rw [← HL.out]; exact ht)
          unfold alien at this
          rw [hc] at this
          simpa using this⟩
        have := ver_ok hv
        rw [Int.toNat_natCast, HMs.out] at this
        exact this
      have HBs : Hid (bitsK l rdO k = bitsL l rdO ∧ bitsK l wrO k = bitsL l wrO ∧ bitsK l inO k = bitsL l inO ∧ bitsK l ouO k = bitsL l ouO) := by
        unfold bitsL
        rw [HL.out]
        exact ⟨rfl, rfl, rfl, rfl⟩
      unfold skA smC at HD5
      simp only at HD5
      go_wp2_with fail
      refine (HMo.out wr HB5.out).mono ?_
      rintro e w6 ⟨rfl, hb6⟩
      have hDs : D < wr.heap.size := lt_of_block HD5.out
      have hdo := HDS.out
      have hws := HB5.out.size
      have hws2 := HS.out
      have HY6 : Hid (w6.heap[S + 1]? = some (.cells #[.int .i64 0, .int .u32 0, .int .u32 0, .int .u32 0, .int .u32 0, .int .u32 0] 37 (0, 0))) := (hb6.block _ (by omega)).trans HY5.out
      have HD6 : Hid (w6.heap[D]? = some (.cells #[.int .i64 0, .int .u32 ((0 : Nat) : Int), .int .u32 ((bitsK l rdO k : Nat) : Int), .int .u32 ((bitsK l wrO k : Nat) : Int), .int .u32 ((bitsK l inO k : Nat) : Int), .int .u32 ((bitsK l ouO k : Nat) : Int)] 37 (0, 0))) := (hb6.block _ hDs).trans HD5.out
      have HB6 : Hid (Below S w w6) := HB5.out.trans (hb6.mono (by omega))
      clear hb6 HY5 HD5 HB5 HK5 HG5 hDs hws hws2
      obtain ⟨e0, e1', e2, e3, e4, e5'⟩ := cells6 HD6.out
      have fD := fz_at HD6.out 0
      have HD7 := Lib.hid (set_own (k := 0) (.int .i64 (mostA l M).1) HD6.out)
      have HY7 : Hid ((w6.setCell ⟨D, 0, none⟩ (.int .i64 (mostA l M).1)).heap[S + 1]? = some (.cells #[.int .i64 0, .int .u32 0, .int .u32 0, .int .u32 0, .int .u32 0, .int .u32 0] 37 (0, 0))) := set_other (show S + 1 ≠ D by omega) HY6.out
      have HB7 : Hid (Below S w (w6.setCell ⟨D, 0, none⟩ (.int .i64 (mostA l M).1))) := HB6.out.setCell (p := ⟨D, 0, none⟩) (by show S ≤ D; omega) _
      go_upto_region 19 with fail
      clear e0 e1' e2 e3 e4 e5' fD HD6 HY6 HB6
      generalize w6.setCell ⟨D, 0, none⟩ (.int .i64 (mostA l M).1) = w7 at *
      have HFr7 := Lib.hid (HFr.out w7 HB7.out)
      have hDs7 : D < w7.heap.size := lt_of_block HD7.out
      generalize frN l = fn at *
      generalize frE l = fe at *
      generalize (mostA l M).2 = me at *
      go_wp2_with fail
      refine HFr7.out.mono ?_
      rintro e w8 ⟨rfl, hb8⟩
      have HY8 : Hid (w8.heap[S + 1]? = some (.cells #[.int .i64 0, .int .u32 0, .int .u32 0, .int .u32 0, .int .u32 0, .int .u32 0] 37 (0, 0))) := (hb8.block _ (by omega)).trans HY7.out
      have HD8 : Hid (w8.heap[D]? = some (.cells #[.int .i64 (mostA l M).1, .int .u32 ((0 : Nat) : Int), .int .u32 ((bitsK l rdO k : Nat) : Int), .int .u32 ((bitsK l wrO k : Nat) : Int), .int .u32 ((bitsK l inO k : Nat) : Int), .int .u32 ((bitsK l ouO k : Nat) : Int)] 37 (0, 0))) := (hb8.block _ hDs7).trans HD7.out
      have hws8 := HB7.out.size
      have hws2 := HS.out
      have HB8 : Hid (Below S w w8) := HB7.out.trans (hb8.mono (by omega))
      clear hb8 HFr7 HY7 HD7 HB7 hDs7 hws8 hws2
      have fD := fz_at HD8.out 1
      obtain ⟨e0, e1', e2, e3, e4, e5'⟩ := cells6 HD8.out
      have HD9 := Lib.hid (set_own (k := 1) (.int .u32 ((wz l : Nat) : Int)) HD8.out)
      have HY9 : Hid ((w8.setCell ⟨D, 1, none⟩ (.int .u32 ((wz l : Nat) : Int))).heap[S + 1]? = some (.cells #[.int .i64 0, .int .u32 0, .int .u32 0, .int .u32 0, .int .u32 0, .int .u32 0] 37 (0, 0))) := set_other (show S + 1 ≠ D by omega) HY8.out
      have HB9 : Hid (Below S w (w8.setCell ⟨D, 1, none⟩ (.int .u32 ((wz l : Nat) : Int)))) := HB8.out.setCell (p := ⟨D, 1, none⟩) (by show S ≤ D; omega) _
      go_upto_region 20 with fail
      clear e0 e1' e2 e3 e4 e5' fD HD8 HY8 HB8
      generalize w8.setCell ⟨D, 1, none⟩ (.int .u32 ((wz l : Nat) : Int)) = w9 at *
      obtain ⟨e0, e1', e2, e3, e4, e5'⟩ := cells6 HD9.out
      obtain ⟨z0, z1, z2, z3, z4, z5⟩ := cells6 HY9.out
      have f0 := fz_at HY9.out 0
      have f1 := fz_at HY9.out 1
      have f2 := fz_at HY9.out 2
      have f3 := fz_at HY9.out 3
      have f4 := fz_at HY9.out 4
      have f5 := fz_at HY9.out 5
      go_wp2_with fail
      have hz := set6 HY9.out (.int .i64 (mostA l M).1) (.int .u32 ((wz l : Nat) : Int)) (.int .u32 ((bitsK l rdO k : Nat) : Int)) (.int .u32 ((bitsK l wrO k : Nat) : Int)) (.int .u32 ((bitsK l inO k : Nat) : Int)) (.int .u32 ((bitsK l ouO k : Nat) : Int))
      have hbz := bel6 HB9.out (R := S + 1) (by omega) (.int .i64 (mostA l M).1) (.int .u32 ((wz l : Nat) : Int)) (.int .u32 ((bitsK l rdO k : Nat) : Int)) (.int .u32 ((bitsK l wrO k : Nat) : Int)) (.int .u32 ((bitsK l inO k : Nat) : Int)) (.int .u32 ((bitsK l ouO k : Nat) : Int))
      generalize ((((((w9.setCell ⟨S + 1, 0, none⟩ (.int .i64 (mostA l M).1)).setCell ⟨S + 1, 1, none⟩ (.int .u32 ((wz l : Nat) : Int))).setCell ⟨S + 1, 2, none⟩ (.int .u32 ((bitsK l rdO k : Nat) : Int))).setCell ⟨S + 1, 3, none⟩ (.int .u32 ((bitsK l wrO k : Nat) : Int))).setCell ⟨S + 1, 4, none⟩ (.int .u32 ((bitsK l inO k : Nat) : Int))).setCell ⟨S + 1, 5, none⟩ (.int .u32 ((bitsK l ouO k : Nat) : Int))) = X9 at *
      obtain ⟨g0, g1, g2, g3, g4, g5⟩ := cells6 hz
      refine bodyPost_ret (v := .tuple #[.agg #[.int .i64 (mostA l M).1, .int .u32 ((wz l : Nat) : Int), .int .u32 ((bitsK l rdO k : Nat) : Int), .int .u32 ((bitsK l wrO k : Nat) : Int), .int .u32 ((bitsK l inO k : Nat) : Int), .int .u32 ((bitsK l ouO k : Nat) : Int)], .int .i64 0, .int .i64 0]) (by simp [results, Tryd.f8, g0, g1, g2, g3, g4, g5, go_sem]) rfl ?_
      rw [HV.out]
      unfold smV smC sumL
      simp only
      obtain ⟨n1, n2, n3, n4⟩ := HBs.out
      rw [← n1, ← n2, ← n3, ← n4]
      exact ⟨rfl, by rw [HS.out]; exact hbz⟩
end Ver
end Go.Proofs.YtjoiogdckbaeaaaDoor
