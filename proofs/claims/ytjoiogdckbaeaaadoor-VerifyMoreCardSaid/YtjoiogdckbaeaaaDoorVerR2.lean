/- The document's own answers: whether a program may be a partition's. -/
import Derived.Test.YtjoiogdckbaeaaaDoorVerR1
import Derived.Test.YtjoiogdckbaeaaaDoorVerM
import Derived.Test.YtjoiogdckbaeaaaDoorHeightR2
import Derived.Test.YtjoiogdckbaeaaaDoorCostR
import Derived.StillTailTactics
namespace Go.Proofs.YtjoiogdckbaeaaaDoor
open Go.ChangeShapes Go.WideShapes Go.ChangeAt Go.RowKit
namespace Ver
open Isa Flw Hgt Cst
set_option linter.unusedVariables false
set_option linter.unusedSimpArgs false
def RChkC : Prop := ∀ (l : List Iv) (a : Option Addr) (n cp : Nat) (part : Int) (m : Cm) (ds : List Pd) (c : Cf) (w : World), n ≤ cp → cp ≤ 9223372036854775807 → IRow w a n l → (-9223372036854775808 ≤ part ∧ part ≤ 9223372036854775807) → CfIn w m ds c →
  Calls Tryd.prog 9 #[.slice a n cp, .int .i64 part, m.val] w fun e w' => e = .returned (.tuple #[smV (verA l part c).1, .int .i64 ((verA l part c).2.1 : Nat), .int .i64 (verA l part c).2.2]) ∧ Below w.heap.size w w'
set_option maxRecDepth 100000 in
set_option maxHeartbeats 12800000 in
theorem rcheck_any : RChkC := by
  intro l a n cp part m ds c w hnc hcm hrow hp h
  have hln : l.length = n := hrow.1
  obtain ⟨S, hS⟩ : ∃ S, w.heap.size = S := ⟨_, rfl⟩
  have HS := Lib.hid hS
  have HX : Hid (((w.alloc (.cells m.cells 33)).alloc (.cells #[.int .i64 0, .int .u32 0, .int .u32 0, .int .u32 0, .int .u32 0, .int .u32 0] 37)).heap[S]? = some (.cells m.cells 33 (0, 0))) := by
    show _ = _
    rw [← hS]
    exact (Below.heap_alloc _ _ _ (by simp)).trans (alloc_new w _)
  have HY : Hid (((w.alloc (.cells m.cells 33)).alloc (.cells #[.int .i64 0, .int .u32 0, .int .u32 0, .int .u32 0, .int .u32 0, .int .u32 0] 37)).heap[S + 1]? = some (.cells #[.int .i64 0, .int .u32 0, .int .u32 0, .int .u32 0, .int .u32 0, .int .u32 0] 37 (0, 0))) := by
    have := alloc_new (w.alloc (.cells m.cells 33)) (.cells #[.int .i64 0, .int .u32 0, .int .u32 0, .int .u32 0, .int .u32 0, .int .u32 0] 37)
    rwa [World.size_alloc, hS] at this
  have HB : Hid (Below S w ((w.alloc (.cells m.cells 33)).alloc (.cells #[.int .i64 0, .int .u32 0, .int .u32 0, .int .u32 0, .int .u32 0, .int .u32 0] 37))) := by
    show Below _ _ _
    rw [← hS]
    exact ((Below.refl _ w).alloc (Nat.le_refl _) _).alloc (by simp) _
  have HCf := Lib.hid (fun X (hb : Below S w X) => h.below hb (by omega))
  have HIr := Lib.hid (fun X (hb : Below S w X) => hrow.below hb (by omega))
  have HC0 := Lib.hid h
  have HL := Lib.hid hln
  have HW := Lib.hid hrow.2.1
  clear h hrow
  unfold Cm.val
  go_enter Tryd.func9, Tryd.ntmps9
  go_upto_region 1 with fail
  generalize (w.alloc (.cells m.cells 33)).alloc (.cells #[.int .i64 0, .int .u32 0, .int .u32 0, .int .u32 0, .int .u32 0, .int .u32 0] 37) = X at *
  obtain ⟨⟨y0, y1, y2, y3, y4, y5, y6⟩, y7, y8, y9, y10, y11, y12, y13⟩ := cfg_all HX.out
  have hcl : c.st.length = m.np := by rw [HC0.out.st, List.length_map]; exact HC0.out.pd.1
  by_cases h0 : part < 0
  · have hd : decide (part < (0 : Int)) = true := decide_eq_true h0
    have HR : Hid (verA l part c = (sz, 0, 2)) := by show _ = _; unfold verA; rw [if_pos (.inl h0)]
    clear h0 hS hcl
    obtain ⟨z0, z1, z2, z3, z4, z5⟩ := cells6 HY.out
    have f0 := fz_at HY.out 0
    have f1 := fz_at HY.out 1
    have f2 := fz_at HY.out 2
    have f3 := fz_at HY.out 3
    have f4 := fz_at HY.out 4
    have f5 := fz_at HY.out 5
    go_wp2_with fail
    have hz := set6 HY.out (.int .i64 0) (.int .u32 0) (.int .u32 0) (.int .u32 0) (.int .u32 0) (.int .u32 0)
    have hbz := bel6 HB.out (R := S + 1) (by omega) (.int .i64 0) (.int .u32 0) (.int .u32 0) (.int .u32 0) (.int .u32 0) (.int .u32 0)
    generalize ((((((X.setCell ⟨S + 1, 0, none⟩ (.int .i64 0)).setCell ⟨S + 1, 1, none⟩ (.int .u32 0)).setCell ⟨S + 1, 2, none⟩ (.int .u32 0)).setCell ⟨S + 1, 3, none⟩ (.int .u32 0)).setCell ⟨S + 1, 4, none⟩ (.int .u32 0)).setCell ⟨S + 1, 5, none⟩ (.int .u32 0)) = X9 at *
    obtain ⟨g0, g1, g2, g3, g4, g5⟩ := cells6 hz
    refine bodyPost_ret (v := .tuple #[.agg #[.int .i64 0, .int .u32 0, .int .u32 0, .int .u32 0, .int .u32 0, .int .u32 0], .int .i64 0, .int .i64 2]) (by simp [results, Tryd.f9, g0, g1, g2, g3, g4, g5, go_sem]) rfl ?_
    rw [HR.out]
    exact ⟨rfl, by rw [HS.out]; exact hbz⟩
  have hd : decide (part < (0 : Int)) = false := decide_eq_false h0
  by_cases h1 : (m.np : Int) ≤ part
  · have hd1 : decide ((m.np : Int) ≤ part) = true := decide_eq_true h1
    have HR : Hid (verA l part c = (sz, 0, 2)) := by show _ = _; unfold verA; rw [if_pos (.inr (by omega))]
    clear h0 h1 hS hcl
    obtain ⟨z0, z1, z2, z3, z4, z5⟩ := cells6 HY.out
    have f0 := fz_at HY.out 0
    have f1 := fz_at HY.out 1
    have f2 := fz_at HY.out 2
    have f3 := fz_at HY.out 3
    have f4 := fz_at HY.out 4
    have f5 := fz_at HY.out 5
    go_wp2_with fail
    have hz := set6 HY.out (.int .i64 0) (.int .u32 0) (.int .u32 0) (.int .u32 0) (.int .u32 0) (.int .u32 0)
    have hbz := bel6 HB.out (R := S + 1) (by omega) (.int .i64 0) (.int .u32 0) (.int .u32 0) (.int .u32 0) (.int .u32 0) (.int .u32 0)
    generalize ((((((X.setCell ⟨S + 1, 0, none⟩ (.int .i64 0)).setCell ⟨S + 1, 1, none⟩ (.int .u32 0)).setCell ⟨S + 1, 2, none⟩ (.int .u32 0)).setCell ⟨S + 1, 3, none⟩ (.int .u32 0)).setCell ⟨S + 1, 4, none⟩ (.int .u32 0)).setCell ⟨S + 1, 5, none⟩ (.int .u32 0)) = X9 at *
    obtain ⟨g0, g1, g2, g3, g4, g5⟩ := cells6 hz
    refine bodyPost_ret (v := .tuple #[.agg #[.int .i64 0, .int .u32 0, .int .u32 0, .int .u32 0, .int .u32 0, .int .u32 0], .int .i64 0, .int .i64 2]) (by simp [results, Tryd.f9, g0, g1, g2, g3, g4, g5, go_sem]) rfl ?_
    rw [HR.out]
    exact ⟨rfl, by rw [HS.out]; exact hbz⟩
  have hd1 : decide ((m.np : Int) ≤ part) = false := decide_eq_false h1
  obtain ⟨q, rfl⟩ := Int.eq_ofNat_of_zero_le (show 0 ≤ part by omega)
  have hqn : q < m.np := by omega
  have hd1N : (m.np ≤ q) = False := eq_false (by omega)
  obtain ⟨pb, po, e1, hat, hwf⟩ := (HCf.out X HB.out).pd.at q hqn
  have hst : c.st.getD q 0 = (ds.getD q dz).st := by
    rw [HC0.out.st, List.getD_eq_getElem?_getD, List.getElem?_map, List.getD_eq_getElem?_getD, List.getElem?_eq_getElem (by have := HC0.out.pd.1; omega)]
    rfl
  have hst2 : (ds.getD q dz).wf := hwf
  generalize ds.getD q dz = d at *
  obtain ⟨s0, s1, s2, s3, s4⟩ := hat
  rw [e1] at y1
  have HE1 := Lib.hid e1
  clear e1
  obtain ⟨M, hM⟩ : ∃ M, d.st = M := ⟨_, rfl⟩
  rw [hM] at s1 hst
  have hMb : -9223372036854775808 ≤ M ∧ M ≤ 9223372036854775807 := by rw [← hM]; exact hst2
  have HMs := Lib.hid hst
  have q0 : (0 : Int) ≤ q := by omega
  have q1 : (q : Int) < m.np := by omega
  have HHt := Lib.hid (fun W (hb : Below S w W) => rheights_any l a n cp M W (HIr.out W hb))
  clear h0 h1 hwf hst2 s0 s2 s3 s4 hM hst
  by_cases hE : (htA l M).2.2 = 0
  case neg =>
    have hne : ((htA l M).2.2 != 0) = true := by simpa using hE
    have HR : Hid (verA l (q : Int) c = (sz, (htA l M).2.1, (htA l M).2.2)) := by
      show _ = _
      unfold verA
      rw [if_neg (by omega), Int.toNat_natCast, HMs.out, if_pos hE]
    clear hE hS hcl
    generalize (htA l M).2.2 = E at *
    generalize (htA l M).2.1 = K at *
    go_wp2_with fail
    refine (HHt.out X HB.out).mono ?_
    rintro e w1 ⟨v, rfl, ho, hb1⟩
    obtain ⟨va, vc, rfl, _, _⟩ := own_shape ho
    have hXs : S + 2 ≤ X.heap.size := by have := lt_of_block HY.out; omega
    have HB1 : Hid (Below S w w1) := HB.out.trans (hb1.mono (by omega))
    have HY1 : Hid (w1.heap[S + 1]? = some (.cells #[.int .i64 0, .int .u32 0, .int .u32 0, .int .u32 0, .int .u32 0, .int .u32 0] 37 (0, 0))) := (hb1.block _ (by omega)).trans HY.out
    clear hb1 ho hXs y0 y1 y2 y3 y4 y5 y6 y7 y8 y9 y10 y11 y12 y13 s1
    obtain ⟨z0, z1, z2, z3, z4, z5⟩ := cells6 HY1.out
    have f0 := fz_at HY1.out 0
    have f1 := fz_at HY1.out 1
    have f2 := fz_at HY1.out 2
    have f3 := fz_at HY1.out 3
    have f4 := fz_at HY1.out 4
    have f5 := fz_at HY1.out 5
    go_wp2_with fail
    have hz := set6 HY1.out (.int .i64 0) (.int .u32 0) (.int .u32 0) (.int .u32 0) (.int .u32 0) (.int .u32 0)
    have hbz := bel6 HB1.out (R := S + 1) (by omega) (.int .i64 0) (.int .u32 0) (.int .u32 0) (.int .u32 0) (.int .u32 0) (.int .u32 0)
    generalize ((((((w1.setCell ⟨S + 1, 0, none⟩ (.int .i64 0)).setCell ⟨S + 1, 1, none⟩ (.int .u32 0)).setCell ⟨S + 1, 2, none⟩ (.int .u32 0)).setCell ⟨S + 1, 3, none⟩ (.int .u32 0)).setCell ⟨S + 1, 4, none⟩ (.int .u32 0)).setCell ⟨S + 1, 5, none⟩ (.int .u32 0)) = X9 at *
    obtain ⟨g0, g1, g2, g3, g4, g5⟩ := cells6 hz
    refine bodyPost_ret (v := .tuple #[.agg #[.int .i64 0, .int .u32 0, .int .u32 0, .int .u32 0, .int .u32 0, .int .u32 0], .int .i64 (K : Nat), .int .i64 E]) (by simp [results, Tryd.f9, g0, g1, g2, g3, g4, g5, go_sem]) rfl ?_
    rw [HR.out]
    exact ⟨rfl, by rw [HS.out]; exact hbz⟩
  have hgo := htA_go hE
  have hf := hgo.2.2.1
  have hN0 := (htA_well HW.out hE).2
  rw [hE, hN0] at HHt
  have HF := Lib.hid hf
  have hn16 : n ≤ 16384 := by have := hf.most; omega
  have hn0 : 0 < n := by have := hf.some; omega
  have HCo := Lib.hid (fun W (hb : Below S w W) => rcome_any l a n cp hf W (HIr.out W hb))
  have HMo := Lib.hid (fun W (hb : Below S w W) => rmost_any l a n cp M W (HIr.out W hb))
  have HFr := Lib.hid (fun W (hb : Below S w W) => rfrom_any l a n cp W (HIr.out W hb))
  have HHt0 := Lib.hid hE
  clear hE hgo hf hN0 hS
  go_wp2_with fail
  refine (HHt.out X HB.out).mono ?_
  rintro e w1 ⟨v, rfl, ho, hb1⟩
  obtain ⟨va, vc, rfl, _, _⟩ := own_shape ho
  have hXs : S + 2 ≤ X.heap.size := by have := lt_of_block HY.out; omega
  have HB1 : Hid (Below S w w1) := HB.out.trans (hb1.mono (by omega))
  have HX1 : Hid (w1.heap[S]? = some (.cells m.cells 33 (0, 0))) := (hb1.block _ (by omega)).trans HX.out
  have HY1 : Hid (w1.heap[S + 1]? = some (.cells #[.int .i64 0, .int .u32 0, .int .u32 0, .int .u32 0, .int .u32 0, .int .u32 0] 37 (0, 0))) := (hb1.block _ (by omega)).trans HY.out
  have hw1 : S + 2 ≤ w1.heap.size := by have := hb1.size; omega
  clear hb1 ho hXs y0 y1 y2 y3 y4 y5 y6 y7 y8 y9 y10 y11 y12 y13 s1 HX HY HB HHt
  go_wp2_with fail
  refine (HCo.out w1 HB1.out).mono ?_
  rintro e w2 ⟨O, rfl, hO, hbr, hb2⟩
  have HB2 : Hid (Below S w w2) := HB1.out.trans (hb2.mono (by omega))
  have HX2 : Hid (w2.heap[S]? = some (.cells m.cells 33 (0, 0))) := (hb2.block _ (by omega)).trans HX1.out
  have HY2 : Hid (w2.heap[S + 1]? = some (.cells #[.int .i64 0, .int .u32 0, .int .u32 0, .int .u32 0, .int .u32 0, .int .u32 0] 37 (0, 0))) := (hb2.block _ (by omega)).trans HY1.out
  obtain ⟨D, hD⟩ : ∃ D, w2.heap.size = D := ⟨_, rfl⟩
  have HDO : Hid (S + 2 ≤ O ∧ O < D) := ⟨by omega, by rw [← hD]; exact lt_of_block hbr⟩
  have HO3 : Hid (BRow (w2.alloc (.cells #[.int .i64 0, .int .u32 0, .int .u32 0, .int .u32 0, .int .u32 0, .int .u32 0] 37)) O ((List.range n).map (comeB l))) := (Below.heap_alloc _ _ _ (by have := HDO.out; omega)).trans hbr
  have HX3 : Hid ((w2.alloc (.cells #[.int .i64 0, .int .u32 0, .int .u32 0, .int .u32 0, .int .u32 0, .int .u32 0] 37)).heap[S]? = some (.cells m.cells 33 (0, 0))) := (Below.heap_alloc _ _ _ (by have := HDO.out; omega)).trans HX2.out
  have HY3 : Hid ((w2.alloc (.cells #[.int .i64 0, .int .u32 0, .int .u32 0, .int .u32 0, .int .u32 0, .int .u32 0] 37)).heap[S + 1]? = some (.cells #[.int .i64 0, .int .u32 0, .int .u32 0, .int .u32 0, .int .u32 0, .int .u32 0] 37 (0, 0))) := (Below.heap_alloc _ _ _ (by have := HDO.out; omega)).trans HY2.out
  have HD3 : Hid ((w2.alloc (.cells #[.int .i64 0, .int .u32 0, .int .u32 0, .int .u32 0, .int .u32 0, .int .u32 0] 37)).heap[D]? = some (.cells #[.int .i64 0, .int .u32 0, .int .u32 0, .int .u32 0, .int .u32 0, .int .u32 0] 37 (0, 0))) := by show _ = _; rw [← hD]; exact alloc_new w2 _
  have HB3 : Hid (Below S w (w2.alloc (.cells #[.int .i64 0, .int .u32 0, .int .u32 0, .int .u32 0, .int .u32 0, .int .u32 0] 37))) := HB2.out.alloc (by have := HDO.out; omega) _
  clear hb2 hbr hO hw1 HX1 HY1 HB1 HX2 HY2 HB2 HCo
  go_upto_region 8 with fail
  clear hD
  generalize w2.alloc (.cells #[.int .i64 0, .int .u32 0, .int .u32 0, .int .u32 0, .int .u32 0, .int .u32 0] 37) = W3 at *
  go_wp2_with fail
  go_loopw [14] (fun i wr => ∃ k : Nat, k ≤ n ∧ i = .int .i64 (k : Nat) ∧ (∀ t, t < k → alien l (q : Int) c t = false) ∧ wr.heap[S]? = some (.cells m.cells 33 (0, 0)) ∧ wr.heap[S + 1]? = some (.cells #[.int .i64 0, .int .u32 0, .int .u32 0, .int .u32 0, .int .u32 0, .int .u32 0] 37 (0, 0)) ∧ wr.heap[D]? = some (.cells #[.int .i64 0, .int .u32 0, .int .u32 ((bitsK l rdO k : Nat) : Int), .int .u32 ((bitsK l wrO k : Nat) : Int), .int .u32 ((bitsK l inO k : Nat) : Int), .int .u32 ((bitsK l ouO k : Nat) : Int)] 37 (0, 0)) ∧ BRow wr O ((List.range n).map (comeB l)) ∧ Below S w wr) (fun i _ => n - (intOf i).toNat)
  case atStart => exact ⟨0, by omega, rfl, fun t ht => by omega, HX3.out, HY3.out, by rw [bitsK_zero, bitsK_zero, bitsK_zero, bitsK_zero]; exact HD3.out, HO3.out, HB3.out⟩
  case round =>
    obtain ⟨k, hk, rfl, hal, hx, hy, hdd, hbr, hb⟩ := hrel
    have HAl := Lib.hid hal
    have HX4 := Lib.hid hx
    have HY4 := Lib.hid hy
    have HD4 := Lib.hid hdd
    have HO4 := Lib.hid hbr
    have HB4 := Lib.hid hb
    clear hal hx hy hdd hbr hb HX3 HY3 HD3 HO3 HB3
    by_cases hlt : k < n
    · have hd2 : decide ((k : Int) < (n : Int)) = true := decide_eq_true (by omega)
      have k0 : (0 : Int) ≤ k := by omega
      have k1 : (k : Int) < n := by omega
      have qk := HO4.out.at (k := k) (by simp; exact hlt)
      rw [map_at _ hlt] at qk
      cases hcome : comeB l k with
      | false =>
        rw [hcome] at qk
        have HAl1 : Hid (∀ t, t < k + 1 → alien l (q : Int) c t = false) := fun t ht => by
          by_cases e : t = k
          · rw [e]; unfold alien; rw [hcome]; rfl
          · exact HAl.out t (by omega)
        have HN : Hid (bitsK l rdO (k + 1) = bitsK l rdO k ∧ bitsK l wrO (k + 1) = bitsK l wrO k ∧ bitsK l inO (k + 1) = bitsK l inO k ∧ bitsK l ouO (k + 1) = bitsK l ouO k) := ⟨bitsK_skip (.inl hcome), bitsK_skip (.inl hcome), bitsK_skip (.inl hcome), bitsK_skip (.inl hcome)⟩
        clear hcome
        go_wp2_with fail
        refine ⟨⟨k + 1, by omega, by simp, HAl1.out, HX4.out, HY4.out, ?_, HO4.out, HB4.out⟩, by simp [intOf]; omega⟩
        obtain ⟨n1, n2, n3, n4⟩ := HN.out
        rw [n1, n2, n3, n4]
        exact HD4.out
      | true =>
      rw [hcome] at qk
      obtain ⟨⟨y0, y1, y2, y3, y4, y5, y6⟩, y7, y8, y9, y10, y11, y12, y13⟩ := cfg_all HX4.out
      obtain ⟨b, off, rfl, hc, hwi⟩ := (HIr.out wr HB4.out).at k hlt
      obtain ⟨c0, c1, c2, c3⟩ := hc
      have HMy := Lib.hid (HF.out.may k (by rw [HL.out]; exact hlt))
      have HOw := Lib.hid (fun W (hb : Below S w W) => rown_any (l.getD k iz) hwi (q : Int) hp m ds c W (HCf.out W hb))
      obtain ⟨x, hx⟩ : ∃ x, l.getD k iz = x := ⟨_, rfl⟩
      have HXi := Lib.hid hx
      rw [hx] at hwi HMy HOw c0 c1 c2 c3
      obtain ⟨xo, xa, xb, xc⟩ := x
      unfold iv Cm.val at HOw
      simp only at c0 c1 c2 c3 HOw
      obtain ⟨j, rfl⟩ := Int.eq_ofNat_of_zero_le hwi.a.1
      clear hwi hx
      obtain ⟨E, hE⟩ : ∃ E, ownE ⟨xo, (j : Int), xb, xc⟩ (q : Int) c = E := ⟨_, rfl⟩
      rw [hE] at HOw
      have HEo : Hid (ownE (l.getD k iz) (q : Int) c = E) := by show _ = _; rw [HXi.out]; exact hE
      clear hE
      go_upto_region 12 with fail
      go_still_tail 6, (by kernel_rfl)
      change wpList _ _ _ _ _ wr.drew
      have hbd : Below wr.heap.size wr wr.drew := (Below.refl _ wr).drew
      have HX5 : Hid (wr.drew.heap[S]? = some (.cells m.cells 33 (0, 0))) := HX4.out
      have HY5 : Hid (wr.drew.heap[S + 1]? = some (.cells #[.int .i64 0, .int .u32 0, .int .u32 0, .int .u32 0, .int .u32 0, .int .u32 0] 37 (0, 0))) := HY4.out
      have HD5 : Hid (wr.drew.heap[D]? = some (.cells #[.int .i64 0, .int .u32 0, .int .u32 ((bitsK l rdO k : Nat) : Int), .int .u32 ((bitsK l wrO k : Nat) : Int), .int .u32 ((bitsK l inO k : Nat) : Int), .int .u32 ((bitsK l ouO k : Nat) : Int)] 37 (0, 0))) := HD4.out
      have HO5 : Hid (BRow wr.drew O ((List.range n).map (comeB l))) := HO4.out
      have HB5 : Hid (Below S w wr.drew) := HB4.out.drew
      clear y0 y1 y2 y3 y4 y5 y6 y7 y8 y9 y10 y11 y12 y13 c0 c1 c2 c3 qk hbd HX4 HY4 HD4 HO4 HB4
      generalize wr.drew = W4 at *
      unfold Cm.cells at HOw
      go_wp2_with fail
      refine (HOw.out W4 HB5.out).mono ?_
      rintro e W5 ⟨rfl, hb5⟩
      have hDs : D < W4.heap.size := lt_of_block HD5.out
      have hdo := HDO.out
      replace HX5 : Hid (W5.heap[S]? = some (.cells m.cells 33 (0, 0))) := (hb5.block _ (by omega)).trans HX5.out
      replace HY5 : Hid (W5.heap[S + 1]? = some (.cells #[.int .i64 0, .int .u32 0, .int .u32 0, .int .u32 0, .int .u32 0, .int .u32 0] 37 (0, 0))) := (hb5.block _ (by omega)).trans HY5.out
      replace HD5 : Hid (W5.heap[D]? = some (.cells #[.int .i64 0, .int .u32 0, .int .u32 ((bitsK l rdO k : Nat) : Int), .int .u32 ((bitsK l wrO k : Nat) : Int), .int .u32 ((bitsK l inO k : Nat) : Int), .int .u32 ((bitsK l ouO k : Nat) : Int)] 37 (0, 0))) := (hb5.block _ hDs).trans HD5.out
      replace HO5 : Hid (BRow W5 O ((List.range n).map (comeB l))) := (hb5.block _ (by omega)).trans HO5.out
      replace HB5 : Hid (Below S w W5) := HB5.out.trans (hb5.mono (by omega))
      clear hb5 hDs HOw
      clear W4
      by_cases hE0 : E = 0
      case neg =>
        have hne : (E != 0) = true := by simpa using hE0
        have HR : Hid (verA l (q : Int) c = (sz, k, E)) := by
          have hk1 : alK l (q : Int) c = k := first_at (by rw [HL.out]; exact hlt) HAl.out (by unfold alien; rw [hcome, HEo.out]; simp [hE0])
          show _ = _
          unfold verA
          rw [if_neg (by omega), Int.toNat_natCast, HMs.out, HHt0.out, if_neg (by simp), hk1, if_pos (by rw [HL.out]; exact hlt), HEo.out]
        clear hE0 hcome
        obtain ⟨z0, z1, z2, z3, z4, z5⟩ := cells6 HY5.out
        have f0 := fz_at HY5.out 0
        have f1 := fz_at HY5.out 1
        have f2 := fz_at HY5.out 2
        have f3 := fz_at HY5.out 3
        have f4 := fz_at HY5.out 4
        have f5 := fz_at HY5.out 5
        go_wp2_with fail
        have hz := set6 HY5.out (.int .i64 0) (.int .u32 0) (.int .u32 0) (.int .u32 0) (.int .u32 0) (.int .u32 0)
        have hbz := bel6 HB5.out (R := S + 1) (by omega) (.int .i64 0) (.int .u32 0) (.int .u32 0) (.int .u32 0) (.int .u32 0) (.int .u32 0)
        generalize ((((((W5.setCell ⟨S + 1, 0, none⟩ (.int .i64 0)).setCell ⟨S + 1, 1, none⟩ (.int .u32 0)).setCell ⟨S + 1, 2, none⟩ (.int .u32 0)).setCell ⟨S + 1, 3, none⟩ (.int .u32 0)).setCell ⟨S + 1, 4, none⟩ (.int .u32 0)).setCell ⟨S + 1, 5, none⟩ (.int .u32 0)) = X9 at *
        obtain ⟨g0, g1, g2, g3, g4, g5⟩ := cells6 hz
        refine bodyPost_ret (v := .tuple #[.agg #[.int .i64 0, .int .u32 0, .int .u32 0, .int .u32 0, .int .u32 0, .int .u32 0], .int .i64 (k : Nat), .int .i64 E]) (by simp [results, Tryd.f9, g0, g1, g2, g3, g4, g5, go_sem]) rfl ?_
        rw [HR.out]
        exact ⟨rfl, by rw [HS.out]; exact hbz⟩
      subst hE0
      obtain ⟨b2, off2, e8, hc2, _⟩ := (HIr.out W5 HB5.out).at k hlt
      injection e8 with e8
      injection e8 with e8 e9 _
      subst e8
      subst e9
      rw [HXi.out] at hc2
      obtain ⟨c0, c1, c2, c3⟩ := hc2
      simp only at c0 c1 c2 c3
      have HAl1 : Hid (∀ t, t < k + 1 → alien l (q : Int) c t = false) := fun t ht => by
        by_cases e : t = k
        · rw [e]; unfold alien; rw [hcome, HEo.out]; rfl
        · exact HAl.out t (by omega)
      by_cases h23 : xo = 23
      · subst h23
        have hjs : j < 32 := by have := may_small (i := ⟨23, (j : Int), xb, xc⟩) HMy.out (by simp); simp only at this; omega
        obtain ⟨hb1, hb2⟩ := bitsK_with (l := l) (p := rdO) (k := k) (j := j) hcome (by rw [HXi.out]; rfl) (by rw [HXi.out]) hjs
        have HWi := Lib.hid (fun W => with_any (bitsK l rdO k) j (bitsK_lt _ _ _) hjs hb2 W)
        rw [hb1] at HWi
        have HD9 := Lib.hid (set_own (k := 2) (.int .u32 ((bitsK l rdO (k + 1) : Nat) : Int)) HD5.out)
        have HN : Hid (bitsK l wrO (k + 1) = bitsK l wrO k ∧ bitsK l inO (k + 1) = bitsK l inO k ∧ bitsK l ouO (k + 1) = bitsK l ouO k) := ⟨bitsK_skip (.inr (by rw [HXi.out]; rfl)), bitsK_skip (.inr (by rw [HXi.out]; rfl)), bitsK_skip (.inr (by rw [HXi.out]; rfl))⟩
        clear hb1 hb2
        obtain ⟨e0, e1', e2, e3, e4, e5⟩ := cells6 HD5.out
        have fD := fz_at HD5.out 2
        go_upto_region 18 with fail
        go_still_tail 9, (by kernel_rfl)
        still_call (HWi.out _)
        repeat still_step
        refine wpStill_nil ?_
        change wpList _ _ _ _ _ W5.drew
        have e9 : W5.drew.cell? ⟨D, 2, none⟩ = some (.int .u32 ((bitsK l rdO k : Nat) : Int)) := e2
        have f9 : W5.drew.frozen? ⟨D, 2, none⟩ = false := fD
        have HD9' : Hid ((W5.drew.setCell ⟨D, 2, none⟩ (.int .u32 ((bitsK l rdO (k + 1) : Nat) : Int))).heap[D]? = _) := HD9.out
        have HX9 : Hid ((W5.drew.setCell ⟨D, 2, none⟩ (.int .u32 ((bitsK l rdO (k + 1) : Nat) : Int))).heap[S]? = some (.cells m.cells 33 (0, 0))) := set_other (show S ≠ D by have := HDO.out; omega) HX5.out
        have HY9 : Hid ((W5.drew.setCell ⟨D, 2, none⟩ (.int .u32 ((bitsK l rdO (k + 1) : Nat) : Int))).heap[S + 1]? = some (.cells #[.int .i64 0, .int .u32 0, .int .u32 0, .int .u32 0, .int .u32 0, .int .u32 0] 37 (0, 0))) := set_other (show S + 1 ≠ D by have := HDO.out; omega) HY5.out
        have HO9 : Hid (BRow (W5.drew.setCell ⟨D, 2, none⟩ (.int .u32 ((bitsK l rdO (k + 1) : Nat) : Int))) O ((List.range n).map (comeB l))) := set_other (show O ≠ D by have := HDO.out; omega) HO5.out
        have HB9 : Hid (Below S w (W5.drew.setCell ⟨D, 2, none⟩ (.int .u32 ((bitsK l rdO (k + 1) : Nat) : Int)))) := (HB5.out.drew).setCell (p := ⟨D, 2, none⟩) (by have := HDO.out; show S ≤ D; omega) _
        clear e0 e1' e2 e3 e4 e5 fD
        generalize W5.drew = W8 at *
        go_wp2_with fail
        refine ⟨⟨k + 1, by omega, by simp, HAl1.out, HX9.out, HY9.out, ?_, HO9.out, HB9.out⟩, by simp [intOf]; omega⟩
        obtain ⟨n1, n2, n3⟩ := HN.out
        have := HD9'.out
        rw [n1, n2, n3]
        exact this
      by_cases h24 : xo = 24
      · subst h24
        have hjs : j < 32 := by have := may_small (i := ⟨24, (j : Int), xb, xc⟩) HMy.out (by simp); simp only at this; omega
        obtain ⟨hb1, hb2⟩ := bitsK_with (l := l) (p := rdO) (k := k) (j := j) hcome (by rw [HXi.out]; rfl) (by rw [HXi.out]) hjs
        have HWi := Lib.hid (fun W => with_any (bitsK l rdO k) j (bitsK_lt _ _ _) hjs hb2 W)
        rw [hb1] at HWi
        have HD9 := Lib.hid (set_own (k := 2) (.int .u32 ((bitsK l rdO (k + 1) : Nat) : Int)) HD5.out)
        have HN : Hid (bitsK l wrO (k + 1) = bitsK l wrO k ∧ bitsK l inO (k + 1) = bitsK l inO k ∧ bitsK l ouO (k + 1) = bitsK l ouO k) := ⟨bitsK_skip (.inr (by rw [HXi.out]; rfl)), bitsK_skip (.inr (by rw [HXi.out]; rfl)), bitsK_skip (.inr (by rw [HXi.out]; rfl))⟩
        clear hb1 hb2
        obtain ⟨e0, e1', e2, e3, e4, e5⟩ := cells6 HD5.out
        have fD := fz_at HD5.out 2
        go_upto_region 18 with fail
        go_still_tail 9, (by kernel_rfl)
        still_call (HWi.out _)
        repeat still_step
        refine wpStill_nil ?_
        change wpList _ _ _ _ _ W5.drew
        have e9 : W5.drew.cell? ⟨D, 2, none⟩ = some (.int .u32 ((bitsK l rdO k : Nat) : Int)) := e2
        have f9 : W5.drew.frozen? ⟨D, 2, none⟩ = false := fD
        have HD9' : Hid ((W5.drew.setCell ⟨D, 2, none⟩ (.int .u32 ((bitsK l rdO (k + 1) : Nat) : Int))).heap[D]? = _) := HD9.out
        have HX9 : Hid ((W5.drew.setCell ⟨D, 2, none⟩ (.int .u32 ((bitsK l rdO (k + 1) : Nat) : Int))).heap[S]? = some (.cells m.cells 33 (0, 0))) := set_other (show S ≠ D by have := HDO.out; omega) HX5.out
        have HY9 : Hid ((W5.drew.setCell ⟨D, 2, none⟩ (.int .u32 ((bitsK l rdO (k + 1) : Nat) : Int))).heap[S + 1]? = some (.cells #[.int .i64 0, .int .u32 0, .int .u32 0, .int .u32 0, .int .u32 0, .int .u32 0] 37 (0, 0))) := set_other (show S + 1 ≠ D by have := HDO.out; omega) HY5.out
        have HO9 : Hid (BRow (W5.drew.setCell ⟨D, 2, none⟩ (.int .u32 ((bitsK l rdO (k + 1) : Nat) : Int))) O ((List.range n).map (comeB l))) := set_other (show O ≠ D by have := HDO.out; omega) HO5.out
        have HB9 : Hid (Below S w (W5.drew.setCell ⟨D, 2, none⟩ (.int .u32 ((bitsK l rdO (k + 1) : Nat) : Int)))) := (HB5.out.drew).setCell (p := ⟨D, 2, none⟩) (by have := HDO.out; show S ≤ D; omega) _
        clear e0 e1' e2 e3 e4 e5 fD
        generalize W5.drew = W8 at *
        go_wp2_with fail
        refine ⟨⟨k + 1, by omega, by simp, HAl1.out, HX9.out, HY9.out, ?_, HO9.out, HB9.out⟩, by simp [intOf]; omega⟩
        obtain ⟨n1, n2, n3⟩ := HN.out
        have := HD9'.out
        rw [n1, n2, n3]
        exact this
      by_cases h25 : xo = 25
      · subst h25
        have hjs : j < 32 := by have := may_small (i := ⟨25, (j : Int), xb, xc⟩) HMy.out (by simp); simp only at this; omega
        obtain ⟨hb1, hb2⟩ := bitsK_with (l := l) (p := wrO) (k := k) (j := j) hcome (by rw [HXi.out]; rfl) (by rw [HXi.out]) hjs
        have HWi := Lib.hid (fun W => with_any (bitsK l wrO k) j (bitsK_lt _ _ _) hjs hb2 W)
        rw [hb1] at HWi
        have HD9 := Lib.hid (set_own (k := 3) (.int .u32 ((bitsK l wrO (k + 1) : Nat) : Int)) HD5.out)
        have HN : Hid (bitsK l rdO (k + 1) = bitsK l rdO k ∧ bitsK l inO (k + 1) = bitsK l inO k ∧ bitsK l ouO (k + 1) = bitsK l ouO k) := ⟨bitsK_skip (.inr (by rw [HXi.out]; rfl)), bitsK_skip (.inr (by rw [HXi.out]; rfl)), bitsK_skip (.inr (by rw [HXi.out]; rfl))⟩
        clear hb1 hb2
        obtain ⟨e0, e1', e2, e3, e4, e5⟩ := cells6 HD5.out
        have fD := fz_at HD5.out 3
        go_upto_region 21 with fail
        go_still_tail 9, (by kernel_rfl)
        still_call (HWi.out _)
        repeat still_step
        refine wpStill_nil ?_
        change wpList _ _ _ _ _ W5.drew
        have e9 : W5.drew.cell? ⟨D, 3, none⟩ = some (.int .u32 ((bitsK l wrO k : Nat) : Int)) := e3
        have f9 : W5.drew.frozen? ⟨D, 3, none⟩ = false := fD
        have HD9' : Hid ((W5.drew.setCell ⟨D, 3, none⟩ (.int .u32 ((bitsK l wrO (k + 1) : Nat) : Int))).heap[D]? = _) := HD9.out
        have HX9 : Hid ((W5.drew.setCell ⟨D, 3, none⟩ (.int .u32 ((bitsK l wrO (k + 1) : Nat) : Int))).heap[S]? = some (.cells m.cells 33 (0, 0))) := set_other (show S ≠ D by have := HDO.out; omega) HX5.out
        have HY9 : Hid ((W5.drew.setCell ⟨D, 3, none⟩ (.int .u32 ((bitsK l wrO (k + 1) : Nat) : Int))).heap[S + 1]? = some (.cells #[.int .i64 0, .int .u32 0, .int .u32 0, .int .u32 0, .int .u32 0, .int .u32 0] 37 (0, 0))) := set_other (show S + 1 ≠ D by have := HDO.out; omega) HY5.out
        have HO9 : Hid (BRow (W5.drew.setCell ⟨D, 3, none⟩ (.int .u32 ((bitsK l wrO (k + 1) : Nat) : Int))) O ((List.range n).map (comeB l))) := set_other (show O ≠ D by have := HDO.out; omega) HO5.out
        have HB9 : Hid (Below S w (W5.drew.setCell ⟨D, 3, none⟩ (.int .u32 ((bitsK l wrO (k + 1) : Nat) : Int)))) := (HB5.out.drew).setCell (p := ⟨D, 3, none⟩) (by have := HDO.out; show S ≤ D; omega) _
        clear e0 e1' e2 e3 e4 e5 fD
        generalize W5.drew = W8 at *
        go_wp2_with fail
        refine ⟨⟨k + 1, by omega, by simp, HAl1.out, HX9.out, HY9.out, ?_, HO9.out, HB9.out⟩, by simp [intOf]; omega⟩
        obtain ⟨n1, n2, n3⟩ := HN.out
        have := HD9'.out
        rw [n1, n2, n3]
        exact this
      by_cases h26 : xo = 26
      · subst h26
        have hjs : j < 32 := by have := may_small (i := ⟨26, (j : Int), xb, xc⟩) HMy.out (by simp); simp only at this; omega
        obtain ⟨hb1, hb2⟩ := bitsK_with (l := l) (p := wrO) (k := k) (j := j) hcome (by rw [HXi.out]; rfl) (by rw [HXi.out]) hjs
        have HWi := Lib.hid (fun W => with_any (bitsK l wrO k) j (bitsK_lt _ _ _) hjs hb2 W)
        rw [hb1] at HWi
        have HD9 := Lib.hid (set_own (k := 3) (.int .u32 ((bitsK l wrO (k + 1) : Nat) : Int)) HD5.out)
        have HN : Hid (bitsK l rdO (k + 1) = bitsK l rdO k ∧ bitsK l inO (k + 1) = bitsK l inO k ∧ bitsK l ouO (k + 1) = bitsK l ouO k) := ⟨bitsK_skip (.inr (by rw [HXi.out]; rfl)), bitsK_skip (.inr (by rw [HXi.out]; rfl)), bitsK_skip (.inr (by rw [HXi.out]; rfl))⟩
        clear hb1 hb2
        obtain ⟨e0, e1', e2, e3, e4, e5⟩ := cells6 HD5.out
        have fD := fz_at HD5.out 3
        go_upto_region 21 with fail
        go_still_tail 9, (by kernel_rfl)
        still_call (HWi.out _)
        repeat still_step
        refine wpStill_nil ?_
        change wpList _ _ _ _ _ W5.drew
        have e9 : W5.drew.cell? ⟨D, 3, none⟩ = some (.int .u32 ((bitsK l wrO k : Nat) : Int)) := e3
        have f9 : W5.drew.frozen? ⟨D, 3, none⟩ = false := fD
        have HD9' : Hid ((W5.drew.setCell ⟨D, 3, none⟩ (.int .u32 ((bitsK l wrO (k + 1) : Nat) : Int))).heap[D]? = _) := HD9.out
        have HX9 : Hid ((W5.drew.setCell ⟨D, 3, none⟩ (.int .u32 ((bitsK l wrO (k + 1) : Nat) : Int))).heap[S]? = some (.cells m.cells 33 (0, 0))) := set_other (show S ≠ D by have := HDO.out; omega) HX5.out
        have HY9 : Hid ((W5.drew.setCell ⟨D, 3, none⟩ (.int .u32 ((bitsK l wrO (k + 1) : Nat) : Int))).heap[S + 1]? = some (.cells #[.int .i64 0, .int .u32 0, .int .u32 0, .int .u32 0, .int .u32 0, .int .u32 0] 37 (0, 0))) := set_other (show S + 1 ≠ D by have := HDO.out; omega) HY5.out
        have HO9 : Hid (BRow (W5.drew.setCell ⟨D, 3, none⟩ (.int .u32 ((bitsK l wrO (k + 1) : Nat) : Int))) O ((List.range n).map (comeB l))) := set_other (show O ≠ D by have := HDO.out; omega) HO5.out
        have HB9 : Hid (Below S w (W5.drew.setCell ⟨D, 3, none⟩ (.int .u32 ((bitsK l wrO (k + 1) : Nat) : Int)))) := (HB5.out.drew).setCell (p := ⟨D, 3, none⟩) (by have := HDO.out; show S ≤ D; omega) _
        clear e0 e1' e2 e3 e4 e5 fD
        generalize W5.drew = W8 at *
        go_wp2_with fail
        refine ⟨⟨k + 1, by omega, by simp, HAl1.out, HX9.out, HY9.out, ?_, HO9.out, HB9.out⟩, by simp [intOf]; omega⟩
        obtain ⟨n1, n2, n3⟩ := HN.out
        have := HD9'.out
        rw [n1, n2, n3]
        exact this
      by_cases h21 : xo = 21
      · subst h21
        have hjs : j < 32 := by have := may_small (i := ⟨21, (j : Int), xb, xc⟩) HMy.out (by simp); simp only at this; omega
        obtain ⟨hb1, hb2⟩ := bitsK_with (l := l) (p := inO) (k := k) (j := j) hcome (by rw [HXi.out]; rfl) (by rw [HXi.out]) hjs
        have HWi := Lib.hid (fun W => with_any (bitsK l inO k) j (bitsK_lt _ _ _) hjs hb2 W)
        rw [hb1] at HWi
        have HD9 := Lib.hid (set_own (k := 4) (.int .u32 ((bitsK l inO (k + 1) : Nat) : Int)) HD5.out)
        have HN : Hid (bitsK l rdO (k + 1) = bitsK l rdO k ∧ bitsK l wrO (k + 1) = bitsK l wrO k ∧ bitsK l ouO (k + 1) = bitsK l ouO k) := ⟨bitsK_skip (.inr (by rw [HXi.out]; rfl)), bitsK_skip (.inr (by rw [HXi.out]; rfl)), bitsK_skip (.inr (by rw [HXi.out]; rfl))⟩
        clear hb1 hb2
        obtain ⟨e0, e1', e2, e3, e4, e5⟩ := cells6 HD5.out
        have fD := fz_at HD5.out 4
        go_upto_region 23 with fail
        go_still_tail 9, (by kernel_rfl)
        still_call (HWi.out _)
        repeat still_step
        refine wpStill_nil ?_
        change wpList _ _ _ _ _ W5.drew
        have e9 : W5.drew.cell? ⟨D, 4, none⟩ = some (.int .u32 ((bitsK l inO k : Nat) : Int)) := e4
        have f9 : W5.drew.frozen? ⟨D, 4, none⟩ = false := fD
        have HD9' : Hid ((W5.drew.setCell ⟨D, 4, none⟩ (.int .u32 ((bitsK l inO (k + 1) : Nat) : Int))).heap[D]? = _) := HD9.out
        have HX9 : Hid ((W5.drew.setCell ⟨D, 4, none⟩ (.int .u32 ((bitsK l inO (k + 1) : Nat) : Int))).heap[S]? = some (.cells m.cells 33 (0, 0))) := set_other (show S ≠ D by have := HDO.out; omega) HX5.out
        have HY9 : Hid ((W5.drew.setCell ⟨D, 4, none⟩ (.int .u32 ((bitsK l inO (k + 1) : Nat) : Int))).heap[S + 1]? = some (.cells #[.int .i64 0, .int .u32 0, .int .u32 0, .int .u32 0, .int .u32 0, .int .u32 0] 37 (0, 0))) := set_other (show S + 1 ≠ D by have := HDO.out; omega) HY5.out
        have HO9 : Hid (BRow (W5.drew.setCell ⟨D, 4, none⟩ (.int .u32 ((bitsK l inO (k + 1) : Nat) : Int))) O ((List.range n).map (comeB l))) := set_other (show O ≠ D by have := HDO.out; omega) HO5.out
        have HB9 : Hid (Below S w (W5.drew.setCell ⟨D, 4, none⟩ (.int .u32 ((bitsK l inO (k + 1) : Nat) : Int)))) := (HB5.out.drew).setCell (p := ⟨D, 4, none⟩) (by have := HDO.out; show S ≤ D; omega) _
        clear e0 e1' e2 e3 e4 e5 fD
        generalize W5.drew = W8 at *
        go_wp2_with fail
        refine ⟨⟨k + 1, by omega, by simp, HAl1.out, HX9.out, HY9.out, ?_, HO9.out, HB9.out⟩, by simp [intOf]; omega⟩
        obtain ⟨n1, n2, n3⟩ := HN.out
        have := HD9'.out
        rw [n1, n2, n3]
        exact this
      by_cases h22 : xo = 22
      · subst h22
        have hjs : j < 32 := by have := may_small (i := ⟨22, (j : Int), xb, xc⟩) HMy.out (by simp); simp only at this; omega
        obtain ⟨hb1, hb2⟩ := bitsK_with (l := l) (p := ouO) (k := k) (j := j) hcome (by rw [HXi.out]; rfl) (by rw [HXi.out]) hjs
        have HWi := Lib.hid (fun W => with_any (bitsK l ouO k) j (bitsK_lt _ _ _) hjs hb2 W)
        rw [hb1] at HWi
        have HD9 := Lib.hid (set_own (k := 5) (.int .u32 ((bitsK l ouO (k + 1) : Nat) : Int)) HD5.out)
        have HN : Hid (bitsK l rdO (k + 1) = bitsK l rdO k ∧ bitsK l wrO (k + 1) = bitsK l wrO k ∧ bitsK l inO (k + 1) = bitsK l inO k) := ⟨bitsK_skip (.inr (by rw [HXi.out]; rfl)), bitsK_skip (.inr (by rw [HXi.out]; rfl)), bitsK_skip (.inr (by rw [HXi.out]; rfl))⟩
        clear hb1 hb2
        obtain ⟨e0, e1', e2, e3, e4, e5⟩ := cells6 HD5.out
        have fD := fz_at HD5.out 5
        go_upto_region 25 with fail
        go_still_tail 9, (by kernel_rfl)
        still_call (HWi.out _)
        repeat still_step
        refine wpStill_nil ?_
        change wpList _ _ _ _ _ W5.drew
        have e9 : W5.drew.cell? ⟨D, 5, none⟩ = some (.int .u32 ((bitsK l ouO k : Nat) : Int)) := e5
        have f9 : W5.drew.frozen? ⟨D, 5, none⟩ = false := fD
        have HD9' : Hid ((W5.drew.setCell ⟨D, 5, none⟩ (.int .u32 ((bitsK l ouO (k + 1) : Nat) : Int))).heap[D]? = _) := HD9.out
        have HX9 : Hid ((W5.drew.setCell ⟨D, 5, none⟩ (.int .u32 ((bitsK l ouO (k + 1) : Nat) : Int))).heap[S]? = some (.cells m.cells 33 (0, 0))) := set_other (show S ≠ D by have := HDO.out; omega) HX5.out
        have HY9 : Hid ((W5.drew.setCell ⟨D, 5, none⟩ (.int .u32 ((bitsK l ouO (k + 1) : Nat) : Int))).heap[S + 1]? = some (.cells #[.int .i64 0, .int .u32 0, .int .u32 0, .int .u32 0, .int .u32 0, .int .u32 0] 37 (0, 0))) := set_other (show S + 1 ≠ D by have := HDO.out; omega) HY5.out
        have HO9 : Hid (BRow (W5.drew.setCell ⟨D, 5, none⟩ (.int .u32 ((bitsK l ouO (k + 1) : Nat) : Int))) O ((List.range n).map (comeB l))) := set_other (show O ≠ D by have := HDO.out; omega) HO5.out
        have HB9 : Hid (Below S w (W5.drew.setCell ⟨D, 5, none⟩ (.int .u32 ((bitsK l ouO (k + 1) : Nat) : Int)))) := (HB5.out.drew).setCell (p := ⟨D, 5, none⟩) (by have := HDO.out; show S ≤ D; omega) _
        clear e0 e1' e2 e3 e4 e5 fD
        generalize W5.drew = W8 at *
        go_wp2_with fail
        refine ⟨⟨k + 1, by omega, by simp, HAl1.out, HX9.out, HY9.out, ?_, HO9.out, HB9.out⟩, by simp [intOf]; omega⟩
        obtain ⟨n1, n2, n3⟩ := HN.out
        have := HD9'.out
        rw [n1, n2, n3]
        exact this
      have n23 : (xo == 23) = false := by simpa using h23
      have n24 : (xo == 24) = false := by simpa using h24
      have n25 : (xo == 25) = false := by simpa using h25
      have n26 : (xo == 26) = false := by simpa using h26
      have n21 : (xo == 21) = false := by simpa using h21
      have n22 : (xo == 22) = false := by simpa using h22
      have HN : Hid (bitsK l rdO (k + 1) = bitsK l rdO k ∧ bitsK l wrO (k + 1) = bitsK l wrO k ∧ bitsK l inO (k + 1) = bitsK l inO k ∧ bitsK l ouO (k + 1) = bitsK l ouO k) := by
        refine ⟨bitsK_skip (.inr ?_), bitsK_skip (.inr ?_), bitsK_skip (.inr ?_), bitsK_skip (.inr ?_)⟩ <;> rw [HXi.out]
        · simp [rdO, h23, h24]
        · simp [wrO, h25, h26]
        · simp [inO, h21]
        · simp [ouO, h22]
      clear h23 h24 h25 h26 h21 h22
      go_wp2_with fail
      refine ⟨⟨k + 1, by omega, by simp, HAl1.out, HX5.out, HY5.out, ?_, HO5.out, HB5.out⟩, by simp [intOf]; omega⟩
      obtain ⟨n1, n2, n3, n4⟩ := HN.out
      rw [n1, n2, n3, n4]
      exact HD5.out
    · obtain rfl : k = n := by omega
      have hd2 : decide ((k : Int) < (k : Int)) = false := decide_eq_false (by omega)
      obtain ⟨⟨y0, y1, y2, y3, y4, y5, y6⟩, y7, y8, y9, y10, y11, y12, y13⟩ := cfg_all HX4.out
      rw [HE1.out] at y1
      obtain ⟨pb2, po2, e5, hat, _⟩ := (HCf.out wr HB4.out).pd.at q hqn
      rw [HE1.out] at e5
      injection e5 with e5
      injection e5 with e5 e6 _
      subst e5
      subst e6
      have s1 := hat.2.1
      have hdst : (ds.getD q dz).st = M := by
        rw [← HMs.out, HC0.out.st, List.getD_eq_getElem?_getD, List.getD_eq_getElem?_getD, List.getElem?_map, List.getElem?_eq_getElem (by have := HC0.out.pd.1; omega)]
        rfl
      rw [hdst] at s1
      have HV : Hid (verA l (q : Int) c = (sumL l M, 0, 0)) := by
        have hv : Vok l (q : Int) c := ⟨by omega, by omega, by rw [Int.toNat_natCast, HMs.out]; exact HHt0.out, fun t ht hc => by
          have := HAl.out t (by rw [← HL.out]; exact ht)
          unfold alien at this
          rw [hc] at this
          simpa using this⟩
        have := ver_ok hv
        rw [Int.toNat_natCast, HMs.out] at this
        exact this
      have HBs : Hid (bitsK l rdO k = bitsL l rdO ∧ bitsK l wrO k = bitsL l wrO ∧ bitsK l inO k = bitsL l inO ∧ bitsK l ouO k = bitsL l ouO) := by
        unfold bitsL
        rw [HL.out]
        exact ⟨rfl, rfl, rfl, rfl⟩
      clear hat hdst
      go_wp2_with fail
      refine (HMo.out wr HB4.out).mono ?_
      rintro e w6 ⟨rfl, hb6⟩
      have hDs : D < wr.heap.size := lt_of_block HD4.out
      have hdo := HDO.out
      have HX6 : Hid (w6.heap[S]? = some (.cells m.cells 33 (0, 0))) := (hb6.block _ (by omega)).trans HX4.out
      have HY6 : Hid (w6.heap[S + 1]? = some (.cells #[.int .i64 0, .int .u32 0, .int .u32 0, .int .u32 0, .int .u32 0, .int .u32 0] 37 (0, 0))) := (hb6.block _ (by omega)).trans HY4.out
      have HD6 : Hid (w6.heap[D]? = some (.cells #[.int .i64 0, .int .u32 0, .int .u32 ((bitsK l rdO k : Nat) : Int), .int .u32 ((bitsK l wrO k : Nat) : Int), .int .u32 ((bitsK l inO k : Nat) : Int), .int .u32 ((bitsK l ouO k : Nat) : Int)] 37 (0, 0))) := (hb6.block _ hDs).trans HD4.out
      have HB6 : Hid (Below S w w6) := HB4.out.trans (hb6.mono (by omega))
      clear y0 y1 y2 y3 y4 y5 y6 y7 y8 y9 y10 y11 y12 y13 s1 hb6 HX4 HY4 HD4 HO4 HB4 hDs
      obtain ⟨e0, e1', e2, e3, e4, e5'⟩ := cells6 HD6.out
      have fD := fz_at HD6.out 0
      have HD7 := Lib.hid (set_own (k := 0) (.int .i64 (mostA l M).1) HD6.out)
      have HY7 : Hid ((w6.setCell ⟨D, 0, none⟩ (.int .i64 (mostA l M).1)).heap[S + 1]? = some (.cells #[.int .i64 0, .int .u32 0, .int .u32 0, .int .u32 0, .int .u32 0, .int .u32 0] 37 (0, 0))) := set_other (show S + 1 ≠ D by have := HDO.out; omega) HY6.out
      have HB7 : Hid (Below S w (w6.setCell ⟨D, 0, none⟩ (.int .i64 (mostA l M).1))) := HB6.out.setCell (p := ⟨D, 0, none⟩) (by show S ≤ D; omega) _
      go_upto_region 27 with fail
      clear e0 e1' e2 e3 e4 e5' fD HD6 HY6 HB6 HX6
      generalize w6.setCell ⟨D, 0, none⟩ (.int .i64 (mostA l M).1) = w7 at *
      have HFr7 := Lib.hid (HFr.out w7 HB7.out)
      unfold fromP at HFr7
      have hDs7 : D < w7.heap.size := lt_of_block HD7.out
      go_wp2_with fail
      refine HFr7.out.mono ?_
      rintro e w8 ⟨⟨v, rfl, ho⟩, hb8⟩
      have HY8 : Hid (w8.heap[S + 1]? = some (.cells #[.int .i64 0, .int .u32 0, .int .u32 0, .int .u32 0, .int .u32 0, .int .u32 0] 37 (0, 0))) := (hb8.block _ (by omega)).trans HY7.out
      have HD8 : Hid (w8.heap[D]? = some (.cells #[.int .i64 (mostA l M).1, .int .u32 0, .int .u32 ((bitsK l rdO k : Nat) : Int), .int .u32 ((bitsK l wrO k : Nat) : Int), .int .u32 ((bitsK l inO k : Nat) : Int), .int .u32 ((bitsK l ouO k : Nat) : Int)] 37 (0, 0))) := (hb8.block _ hDs7).trans HD7.out
      have HB8 : Hid (Below S w w8) := HB7.out.trans (hb8.mono (by omega))
      clear hb8 HFr7 HY7 HD7 HB7 hDs7
      by_cases hfe : frE l = 0
      · have hlw : (frW l).length = k := by unfold frW; rw [if_pos hfe]; simp [HL.out]
        have h00 : wf (frW l) 0 = ws l 0 := by rw [frW_at hfe (by rw [HL.out]; exact hn0), if_pos (comeB_iff.2 .zero)]
        have HWz : Hid (wz l = ws l 0) := by show _ = _; unfold wz; rw [if_pos hfe]
        rw [hlw] at ho
        obtain ⟨g, cap, rfl, hg0, hg1⟩ := own_some ho hn0
        obtain ⟨a0, c0, e0, hcl0, hcm0⟩ := own_shape ho
        injection e0 with e1 e2 e3
        subst e1
        subst e3
        clear e2
        have hu : UO w7.heap.size g cap k (frW l) w8 := ho
        have q7 := hu.at hn0
        rw [h00] at q7
        rw [hfe]
        have n0 : (0 : Int) < k := by omega
        have fD := fz_at HD8.out 1
        obtain ⟨e0, e1', e2, e3, e4, e5'⟩ := cells6 HD8.out
        have HD9 := Lib.hid (set_own (k := 1) (.int .u32 ((ws l 0 : Nat) : Int)) HD8.out)
        have HY9 : Hid ((w8.setCell ⟨D, 1, none⟩ (.int .u32 ((ws l 0 : Nat) : Int))).heap[S + 1]? = some (.cells #[.int .i64 0, .int .u32 0, .int .u32 0, .int .u32 0, .int .u32 0, .int .u32 0] 37 (0, 0))) := set_other (show S + 1 ≠ D by omega) HY8.out
        have HB9 : Hid (Below S w (w8.setCell ⟨D, 1, none⟩ (.int .u32 ((ws l 0 : Nat) : Int)))) := HB8.out.setCell (p := ⟨D, 1, none⟩) (by show S ≤ D; omega) _
        clear ho hu hlw h00 hfe
        generalize frN l = fn at *
        go_upto_region 30 with fail
        clear e0 e1' e2 e3 e4 e5' fD HD8 HY8 HB8 q7
        generalize w8.setCell ⟨D, 1, none⟩ (.int .u32 ((ws l 0 : Nat) : Int)) = w9 at *
        obtain ⟨e0, e1', e2, e3, e4, e5'⟩ := cells6 HD9.out
        obtain ⟨z0, z1, z2, z3, z4, z5⟩ := cells6 HY9.out
        have f0 := fz_at HY9.out 0
        have f1 := fz_at HY9.out 1
        have f2 := fz_at HY9.out 2
        have f3 := fz_at HY9.out 3
        have f4 := fz_at HY9.out 4
        have f5 := fz_at HY9.out 5
        go_wp2_with fail
        have hz := set6 HY9.out (.int .i64 (mostA l M).1) (.int .u32 ((ws l 0 : Nat) : Int)) (.int .u32 ((bitsK l rdO k : Nat) : Int)) (.int .u32 ((bitsK l wrO k : Nat) : Int)) (.int .u32 ((bitsK l inO k : Nat) : Int)) (.int .u32 ((bitsK l ouO k : Nat) : Int))
        have hbz := bel6 HB9.out (R := S + 1) (by omega) (.int .i64 (mostA l M).1) (.int .u32 ((ws l 0 : Nat) : Int)) (.int .u32 ((bitsK l rdO k : Nat) : Int)) (.int .u32 ((bitsK l wrO k : Nat) : Int)) (.int .u32 ((bitsK l inO k : Nat) : Int)) (.int .u32 ((bitsK l ouO k : Nat) : Int))
        generalize ((((((w9.setCell ⟨S + 1, 0, none⟩ (.int .i64 (mostA l M).1)).setCell ⟨S + 1, 1, none⟩ (.int .u32 ((ws l 0 : Nat) : Int))).setCell ⟨S + 1, 2, none⟩ (.int .u32 ((bitsK l rdO k : Nat) : Int))).setCell ⟨S + 1, 3, none⟩ (.int .u32 ((bitsK l wrO k : Nat) : Int))).setCell ⟨S + 1, 4, none⟩ (.int .u32 ((bitsK l inO k : Nat) : Int))).setCell ⟨S + 1, 5, none⟩ (.int .u32 ((bitsK l ouO k : Nat) : Int))) = X9 at *
        obtain ⟨g0, g1, g2, g3, g4, g5⟩ := cells6 hz
        refine bodyPost_ret (v := .tuple #[.agg #[.int .i64 (mostA l M).1, .int .u32 ((ws l 0 : Nat) : Int), .int .u32 ((bitsK l rdO k : Nat) : Int), .int .u32 ((bitsK l wrO k : Nat) : Int), .int .u32 ((bitsK l inO k : Nat) : Int), .int .u32 ((bitsK l ouO k : Nat) : Int)], .int .i64 0, .int .i64 0]) (by simp [results, Tryd.f9, g0, g1, g2, g3, g4, g5, go_sem]) rfl ?_
        rw [HV.out]
        unfold smV smC sumL
        simp only
        obtain ⟨n1, n2, n3, n4⟩ := HBs.out
        rw [HWz.out, ← n1, ← n2, ← n3, ← n4]
        exact ⟨rfl, by rw [HS.out]; exact hbz⟩
      · have hne : (frE l == 0) = false := by simpa using hfe
        have HWz : Hid (wz l = 0) := by show _ = _; unfold wz; rw [if_neg hfe]
        obtain ⟨va8, vc8, rfl, _, _⟩ := own_shape ho
        clear ho hfe
        generalize frN l = fn at *
        generalize frE l = fe at *
        have HD9 := HD8
        have HY9 := HY8
        have HB9 := HB8
        go_upto_region 30 with fail
        clear HD8 HY8 HB8
        obtain ⟨e0, e1', e2, e3, e4, e5'⟩ := cells6 HD9.out
        obtain ⟨z0, z1, z2, z3, z4, z5⟩ := cells6 HY9.out
        have f0 := fz_at HY9.out 0
        have f1 := fz_at HY9.out 1
        have f2 := fz_at HY9.out 2
        have f3 := fz_at HY9.out 3
        have f4 := fz_at HY9.out 4
        have f5 := fz_at HY9.out 5
        go_wp2_with fail
        have hz := set6 HY9.out (.int .i64 (mostA l M).1) (.int .u32 0) (.int .u32 ((bitsK l rdO k : Nat) : Int)) (.int .u32 ((bitsK l wrO k : Nat) : Int)) (.int .u32 ((bitsK l inO k : Nat) : Int)) (.int .u32 ((bitsK l ouO k : Nat) : Int))
        have hbz := bel6 HB9.out (R := S + 1) (by omega) (.int .i64 (mostA l M).1) (.int .u32 0) (.int .u32 ((bitsK l rdO k : Nat) : Int)) (.int .u32 ((bitsK l wrO k : Nat) : Int)) (.int .u32 ((bitsK l inO k : Nat) : Int)) (.int .u32 ((bitsK l ouO k : Nat) : Int))
        generalize ((((((w8.setCell ⟨S + 1, 0, none⟩ (.int .i64 (mostA l M).1)).setCell ⟨S + 1, 1, none⟩ (.int .u32 0)).setCell ⟨S + 1, 2, none⟩ (.int .u32 ((bitsK l rdO k : Nat) : Int))).setCell ⟨S + 1, 3, none⟩ (.int .u32 ((bitsK l wrO k : Nat) : Int))).setCell ⟨S + 1, 4, none⟩ (.int .u32 ((bitsK l inO k : Nat) : Int))).setCell ⟨S + 1, 5, none⟩ (.int .u32 ((bitsK l ouO k : Nat) : Int))) = X9 at *
        obtain ⟨g0, g1, g2, g3, g4, g5⟩ := cells6 hz
        refine bodyPost_ret (v := .tuple #[.agg #[.int .i64 (mostA l M).1, .int .u32 0, .int .u32 ((bitsK l rdO k : Nat) : Int), .int .u32 ((bitsK l wrO k : Nat) : Int), .int .u32 ((bitsK l inO k : Nat) : Int), .int .u32 ((bitsK l ouO k : Nat) : Int)], .int .i64 0, .int .i64 0]) (by simp [results, Tryd.f9, g0, g1, g2, g3, g4, g5, go_sem]) rfl ?_
        rw [HV.out]
        unfold smV smC sumL
        simp only
        obtain ⟨n1, n2, n3, n4⟩ := HBs.out
        rw [HWz.out, ← n1, ← n2, ← n3, ← n4]
        exact ⟨rfl, by rw [HS.out]; exact hbz⟩
end Ver
end Go.Proofs.YtjoiogdckbaeaaaDoor
