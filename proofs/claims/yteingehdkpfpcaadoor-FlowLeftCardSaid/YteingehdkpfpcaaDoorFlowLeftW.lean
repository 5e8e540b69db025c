/- The walk of FlowLeft. -/
import Derived.Test.YteingehdkpfpcaaDoorFlowLeftM
import Derived.Test.YteingehdkpfpcaaDoorFlowW12
import Derived.Test.YteingehdkpfpcaaDoorFlowKnown
import Derived.Test.YteingehdkpfpcaaDoorCodeOpen
namespace Go.Proofs.YteingehdkpfpcaaDoor
open Go.ChangeShapes Go.WideShapes Go.ChangeAt Go.RowKit
namespace Flw
open Isa
open Goes
open Rights (Kept)
set_option linter.unusedVariables false
set_option linter.unusedSimpArgs false
attribute [local go_sem] Oper.semAt_some
theorem own_crow {w : World} {S : Nat} {v : Value} {l : List Bool} (h : w.ownsRow S 4 1 v l.length (bls l)) : ∃ a c, v = .slice a l.length c ∧ CRow w a l.length l := by
  obtain ⟨a, c, rfl, _, _⟩ := own_shape h
  refine ⟨a, c, rfl, rfl, ?_⟩
  by_cases h0 : l.length = 0
  · exact .inl h0
  · right
    obtain ⟨g, cap, e, _, _⟩ := own_some h (by omega)
    injection e with e _ _
    subst e
    refine ⟨g, 0, rfl, fun j hj => ?_⟩
    have := World.ownsRow.cells h (g := g) rfl j (.bool (l.getD j false)) (bls_at hj)
    rwa [WideShapes.add_plain] at this
theorem CRow.kept {w w' : World} {b off n : Nat} {l : List Bool} {p : Nat → Prop} (h : CRow w (some ⟨b, off, none⟩) n l) (hk : Kept p w w') (hp : ¬ p b) : CRow w' (some ⟨b, off, none⟩) n l := by
  refine ⟨h.1, ?_⟩
  by_cases h0 : n = 0
  · exact .inl h0
  · obtain ⟨b', off', e, hc⟩ := h.2.resolve_left h0
    cases e
    exact .inr ⟨b, off, rfl, fun j hj => (World.cell?_of_block (hk.block b (World.block_lt_of_cell? _ _ (hc j hj)) hp)).trans (hc j hj)⟩
set_option maxRecDepth 100000 in
set_option maxHeartbeats 12800000 in
theorem left_walk (w : World) (hT : Tabs w) (a : Option Addr) (n c : Nat) (l : List Iv) (h : IRow w a n l) (hc : n ≤ c ∧ c ≤ 9223372036854775807) (k : Int) (hk : -9223372036854775808 ≤ k ∧ k ≤ 9223372036854775807) :
    Calls Tryd.prog 5 #[.slice a n c, .int .i64 k] w fun e w' => e = .returned (.bool true) ∧ Below w.heap.size w w' := by
  have hln : l.length = n := h.1
  have HK := Lib.hid (known_any w hT check_any order_any gather_any)
  have HCk := Lib.hid (fun W (hb : Below w.heap.size w W) => check_any l a n c W (hT.below hb (Nat.le_refl _)) hc.1 hc.2 (h.below hb (Nat.le_refl _)))
  have HCm := Lib.hid (fun W (hb : Below w.heap.size w W) => come_any l a n c W (hT.below hb (Nat.le_refl _)) hc.1 hc.2 (h.below hb (Nat.le_refl _)))
  have HOr := Lib.hid (fun W (hb : Below w.heap.size w W) => order_any l a n c W (hT.below hb (Nat.le_refl _)) hc.1 hc.2 (h.below hb (Nat.le_refl _)))
  have HBh := Lib.hid (fun W (hb : Below w.heap.size w W) => behind_any l a n c k W (hT.below hb (Nat.le_refl _)) hc.1 hc.2 (h.below hb (Nat.le_refl _)))
  have HTb := Lib.hid (fun W (hb : Below w.heap.size w W) => hT.below hb (Nat.le_refl _))
  have HRow := Lib.hid h
  have HL := Lib.hid hln
  clear h hT hk
  refine (callsIn_wide (n := 0)).1 ?_
  refine callsIn_of_wp_marks Tryd.func5 rfl trivial ?_ rfl
  simp only [Tryd.ntmps5, List.size_toArray, List.length_cons, List.length_nil, Nat.reduceAdd, Nat.reduceSub, Array.replicate_succ, Array.replicate_zero, List.push_toArray, List.append_toArray, List.nil_append, List.cons_append]
  refine (wpIn_wide (n := 0)).2 ?_
  go_wp2_with fail
  refine HK.out.mono ?_
  rintro e1 w1 ⟨rfl, hb1⟩
  have HB1 := Lib.hid hb1
  clear hb1 HK
  by_cases h2 : 2000 < n
  · have e1 : decide ((2000 : Int) < (n : Int)) = true := decide_eq_true (by omega)
    clear h2
    go_wp2_with fail
    exact ⟨.bool true, by simp [results, Tryd.f5, go_sem], rfl, HB1.out⟩
  have e1 : decide ((2000 : Int) < (n : Int)) = false := decide_eq_false (by omega)
  go_wp2_with fail
  refine (HCk.out _ HB1.out).mono ?_
  rintro e2 w2 ⟨rfl, hb2⟩
  have HB2 := Lib.hid (HB1.out.trans (hb2.mono HB1.out.size))
  clear hb2 HCk HB1
  by_cases hE : chkE l = 0
  rotate_left
  · have hne : (chkE l != 0) = true := by simpa using hE
    generalize chkE l = E at *
    generalize ((chkN l : Nat) : Int) = N at *
    clear hE
    go_wp2_with fail
    exact ⟨.bool true, by simp [results, Tryd.f5, go_sem], rfl, HB2.out⟩
  have hf := fine_of hE
  have HF := Lib.hid hf
  have hcl : (comeL l).length = n := by
    unfold comeL
    rw [if_pos hE]
    simpa using hln
  have HE := Lib.hid hE
  have HCl := Lib.hid hcl
  rw [hE]
  clear hE hf hcl hln
  generalize ((chkN l : Nat) : Int) = N at *
  go_wp2_with fail
  refine (HBh.out _ HB2.out).mono ?_
  rintro e3 w3 ⟨v3, rfl, F, lb, cx, rfl, heg, hseq, hb3, hcc⟩
  have HB3 := Lib.hid (HB2.out.trans (hb3.mono HB2.out.size))
  have HSq := Lib.hid hseq
  have HEg := Lib.hid heg
  have HCc := Lib.hid hcc
  clear hb3 hcc hseq heg HBh HB2
  rename_i K1 hK1 _ _ _ _
  have REST : Hid (∀ (u5 u6 u15 u16 u17 u18 u19 u20 u21 u22 u23 u24 u25 u26 u27 u28 u29 : Value) (B : Nat) (V : World), Below w.heap.size w V → w.heap.size ≤ B → V.heap[B]? = some (.deferred (some [])) → K1 { tmps := #[.slice a n c, .int .i64 k, undef, undef, .bool false, u5, u6, undef, undef, undef, undef, undef, undef, undef, undef, u15, u16, u17, u18, u19, u20, u21, u22, u23, u24, u25, u26, u27, u28, u29, undef, undef, undef, undef, undef, undef, undef, undef, undef, undef, undef, undef, undef, undef, undef, undef, undef, undef, undef, undef, undef, undef, undef, undef, undef, undef, undef, undef, undef, undef, undef, undef, undef, undef, undef, undef, undef, undef, undef, undef, undef, undef, undef, undef, undef, undef, undef, undef, undef, undef, undef, undef, undef, undef, undef, undef, undef, undef, undef, undef, undef, undef, undef, undef, undef, undef, undef, undef, undef, undef, undef, undef, undef, undef, undef, undef, undef, undef, undef], defers := dfs [B] } V) := by
    intro u5 u6 u15 u16 u17 u18 u19 u20 u21 u22 u23 u24 u25 u26 u27 u28 u29 B V hbV hwB hdB
    refine hK1 _ _ ?_
    have HBV := Lib.hid hbV
    have HDB := Lib.hid hdB
    have HWB := Lib.hid hwB
    clear hbV hdB hwB hK1 HSq HEg HCc HB3
    have FIN : Hid (∀ W tm, Below w.heap.size w W → W.heap[B]? = some (.deferred (some [])) → tm[4]? = some (.bool true) → LeavesInM Fence.wide 0 Tryd.prog Tryd.f5 tm (fun e w' => e = .returned (.bool true) ∧ Below w.heap.size w w') (dfs [B]) .returning W) := fun W tm hb hd ht => by
      refine leaves_marks (lo := w.heap.size) [B] W ⟨by simp, fun r hr => by simp at hr; subst hr; exact ⟨HWB.out, hd⟩⟩ fun w' hk => ?_
      refine ⟨.bool true, ?_, rfl, hb.trans (below_of hk hb.size fun k hk => hk.1)⟩
      simp [results, Tryd.f5, go_sem, ht]
    go_wp2_with fail
    refine (HCm.out _ HBV.out).mono ?_
    rintro e4 w4 ⟨v4, rfl, hv4, hb4⟩
    have HB4 := Lib.hid (HBV.out.trans (hb4.mono HBV.out.size))
    have HD4 : Hid (w4.heap[B]? = some (.deferred (some []))) := (hb4.block B (lt_of_block HDB.out)).trans HDB.out
    obtain ⟨ca, cc, rfl, hcr⟩ := own_crow hv4
    rw [HCl.out] at hcr ⊢
    have HCr := Lib.hid hcr
    clear hv4 hb4 hcr HBV HDB
    have hNN : ((n : Int) != (n : Int)) = false := by simp
    have hNE : ((n : Int) == (n : Int)) = true := by simp
    by_cases hk0 : k < 0
    · have d1 : decide (k < 0) = true := decide_eq_true hk0
      clear hk0
      go_wp2_with fail
      exact FIN.out _ _ HB4.out HD4.out rfl
    have d1 : decide (k < 0) = false := decide_eq_false hk0
    by_cases hk1 : (n : Int) ≤ k
    · have d2 : decide ((n : Int) ≤ k) = true := decide_eq_true hk1
      clear hk0 hk1
      go_wp2_with fail
      exact FIN.out _ _ HB4.out HD4.out rfl
    have d2 : decide ((n : Int) ≤ k) = false := decide_eq_false hk1
    obtain ⟨j, rfl⟩ := Int.eq_ofNat_of_zero_le (Int.not_lt.1 hk0)
    have d3 : decide (n ≤ j) = false := decide_eq_false (by omega)
    have hjn : j < n := by omega
    have j0 : (0 : Int) ≤ j := by omega
    have j1 : (j : Int) < n := by omega
    clear hk0 hk1
    obtain ⟨cb, co, rfl, qj⟩ := HCr.out.at j hjn
    cases hcj : (comeL l).getD j false with
    | true =>
      rw [hcj] at qj
      clear hcj
      go_wp2_with fail
      exact FIN.out _ _ HB4.out HD4.out rfl
    | false =>
      rw [hcj] at qj
      have HCj : Hid (comeB l j = false) := by
        show _ = _
        have h1 : (comeL l).getD j false = comeB l j := by
          unfold comeL
          rw [if_pos HE.out]
          exact map_at _ (by have := HL.out; omega)
        rw [← h1]
        exact hcj
      clear hcj
      obtain ⟨g, cap, w5, hrun, hown, hb5⟩ := copy_code (HRow.out.below HB4.out (Nat.le_refl _)) (by omega) (by omega) 22
      have HOwn := Lib.hid hown
      have HBw4 : Hid (∀ i, w4.heap.size ≤ i → w.heap.size ≤ i) := fun i hi => Nat.le_trans HB4.out.size hi
      have HB5 := Lib.hid (HB4.out.trans (hb5.mono HB4.out.size))
      have HD5 : Hid (w5.heap[B]? = some (.deferred (some []))) := (hb5.block B (lt_of_block HD4.out)).trans HD4.out
      have HCr5 := Lib.hid (HCr.out.below hb5 (Nat.le_refl _))
      clear hown hb5
      go_upto_region 13 with (at_builtin; refine Isa.wpList_append_run rfl _ _ 22 22 rfl _ _ _ _ 22 rfl rfl rfl hrun ?_)
      have HCb : Hid (cb < w4.heap.size) := World.block_lt_of_cell? _ _ qj
      clear hrun qj HB4 HD4 HCr
      go_wp2_with fail
      refine (do_any 27 0 w5).mono ?_
      rintro e6 w6 ⟨rfl, hb6⟩
      have HOw6 := Lib.hid (own_below HOwn.out hb6 (Nat.le_refl _))
      have HB6 := Lib.hid (HB5.out.trans (hb6.mono HB5.out.size))
      have HD6 : Hid (w6.heap[B]? = some (.deferred (some []))) := (hb6.block B (lt_of_block HD5.out)).trans HD5.out
      have HCr6 := Lib.hid (HCr5.out.below hb6 (Nat.le_refl _))
      clear hb6 HOwn HB5 HD5 HCr5
      have hlw : l.length = n := HL.out
      obtain ⟨q0, q1, q2, q3⟩ : w6.cell? ⟨g, j * 4, none⟩ = some (.int .u8 (l.getD j iz).op) ∧ w6.cell? ⟨g, j * 4 + 1, none⟩ = some (.int .u8 (l.getD j iz).a) ∧ w6.cell? ⟨g, j * 4 + 2, none⟩ = some (.int .u16 (l.getD j iz).b) ∧ w6.cell? ⟨g, j * 4 + 3, none⟩ = some (.int .u32 (l.getD j iz).c) := by
        have ho := HOw6.out
        have e : ∀ t, t < 4 → w6.cell? ⟨g, j * 4 + t, none⟩ = (encI (l.getD j iz))[t]? := fun t ht => by
          rw [World.ownsRow.cellAt ho (j * 4 + t) (by omega)]
          exact encs_at l j t (by omega) ht
        exact ⟨e 0 (by omega), e 1 (by omega), e 2 (by omega), e 3 (by omega)⟩
      have f0 := World.ownsRow.frozenAt HOw6.out (j * 4)
      have f1 := World.ownsRow.frozenAt HOw6.out (j * 4 + 1)
      have f2 := World.ownsRow.frozenAt HOw6.out (j * 4 + 2)
      have f3 := World.ownsRow.frozenAt HOw6.out (j * 4 + 3)
      have HSet := Lib.hid (set_code HOw6.out hlw j hjn yld ⟨by decide, by decide, by decide, by decide⟩ HRow.out.2.1)
      have hgl := World.ownsRow.lt HOw6.out g rfl
      have HNe : Hid (cb ≠ g) := by have := HCb.out; have := hgl.1; show _ ≠ _; omega
      have HB7 : Hid (Below w.heap.size w ((((w6.setCell ⟨g, j * 4, none⟩ (.int .u8 27)).setCell ⟨g, j * 4 + 1, none⟩ (.int .u8 0)).setCell ⟨g, j * 4 + 2, none⟩ (.int .u16 0)).setCell ⟨g, j * 4 + 3, none⟩ (.int .u32 0))) := by
        have hge : w.heap.size ≤ g := HBw4.out g hgl.1
        exact (((HB6.out.setCell (p := ⟨g, j * 4, none⟩) hge _).setCell (p := ⟨g, j * 4 + 1, none⟩) hge _).setCell (p := ⟨g, j * 4 + 2, none⟩) hge _).setCell (p := ⟨g, j * 4 + 3, none⟩) hge _
      have HKp : Hid (Kept (fun i => i = g) w6 ((((w6.setCell ⟨g, j * 4, none⟩ (.int .u8 27)).setCell ⟨g, j * 4 + 1, none⟩ (.int .u8 0)).setCell ⟨g, j * 4 + 2, none⟩ (.int .u16 0)).setCell ⟨g, j * 4 + 3, none⟩ (.int .u32 0))) :=
        (((kept_set (p := fun i => i = g) w6 g (j * 4) (.int .u8 27) rfl).setCell (x := ⟨g, j * 4 + 1, none⟩) (.inl rfl) _).setCell (x := ⟨g, j * 4 + 2, none⟩) (.inl rfl) _).setCell (x := ⟨g, j * 4 + 3, none⟩) (.inl rfl) _
      clear hlw hgl
      generalize (l.getD j iz).op = x0 at *
      generalize (l.getD j iz).a = x1 at *
      generalize (l.getD j iz).b = x2 at *
      generalize (l.getD j iz).c = x3 at *
      go_upto_region 14 with fail
      have HCr7 := Lib.hid (HCr6.out.kept HKp.out HNe.out)
      have HD7 : Hid (((((w6.setCell ⟨g, j * 4, none⟩ (.int .u8 27)).setCell ⟨g, j * 4 + 1, none⟩ (.int .u8 0)).setCell ⟨g, j * 4 + 2, none⟩ (.int .u16 0)).setCell ⟨g, j * 4 + 3, none⟩ (.int .u32 0)).heap[B]? = some (.deferred (some []))) := HKp.out.same HD6.out (fun e => by
        have e2 : B = g := e
        obtain ⟨cur, hcur⟩ := own_block HOw6.out (g := g) rfl
        have hd := HD6.out
        rw [e2, hcur] at hd
        cases hd)
      have HS7 := HSet
      change Hid (IRow ((((w6.setCell ⟨g, j * 4, none⟩ (.int .u8 27)).setCell ⟨g, j * 4 + 1, none⟩ (.int .u8 0)).setCell ⟨g, j * 4 + 2, none⟩ (.int .u16 0)).setCell ⟨g, j * 4 + 3, none⟩ (.int .u32 0)) (some ⟨g, 0, none⟩) n (l.set j yld) ∧ n ≤ cap ∧ cap ≤ 9223372036854775807) at HS7
      generalize (((w6.setCell ⟨g, j * 4, none⟩ (.int .u8 27)).setCell ⟨g, j * 4 + 1, none⟩ (.int .u8 0)).setCell ⟨g, j * 4 + 2, none⟩ (.int .u16 0)).setCell ⟨g, j * 4 + 3, none⟩ (.int .u32 0) = w7 at *
      clear HSet HKp HNe HOw6 HB6 HD6 HCr6 q0 q1 q2 q3 f0 f1 f2 f3 HCb
      have HCoS : Hid (comeL (l.set j yld) = comeL l) := comeL_set HF.out HRow.out.2.1 HCj.out
      have HOrS : Hid (ordA (l.set j yld) = ordA l) := ordA_set HF.out HRow.out.2.1 HCj.out
      have HCm2 := Lib.hid (come_any (l.set j yld) (some ⟨g, 0, none⟩) n cap w7 (HTb.out w7 HB7.out) HS7.out.2.1 HS7.out.2.2 HS7.out.1)
      rw [HCoS.out] at HCm2
      go_wp2_with fail
      refine HCm2.out.mono ?_
      rintro e8 w8 ⟨v8, rfl, hv8, hb8⟩
      obtain ⟨da, dc, rfl, hdr⟩ := own_crow hv8
      rw [HCl.out] at hdr ⊢
      have HDr8 := Lib.hid hdr
      have HB8 := Lib.hid (HB7.out.trans (hb8.mono HB7.out.size))
      have HD8 : Hid (w8.heap[B]? = some (.deferred (some []))) := (hb8.block B (lt_of_block HD7.out)).trans HD7.out
      have HCr8 := Lib.hid (HCr7.out.below hb8 (Nat.le_refl _))
      have HS8 := Lib.hid (HS7.out.1.below hb8 (Nat.le_refl _))
      clear hv8 hb8 hdr HCr7 HCm2 HB7 HD7
      go_wp2_with fail
      refine (HOr.out _ HB8.out).mono ?_
      rintro e9 w9 ⟨v9, rfl, hv9, hb9⟩
      obtain ⟨oa, oc, rfl, _, _, hor, _⟩ := nums_row hv9
      have HO9 := Lib.hid hor
      have HB9 := Lib.hid (HB8.out.trans (hb9.mono HB8.out.size))
      have HD9 : Hid (w9.heap[B]? = some (.deferred (some []))) := (hb9.block B (lt_of_block HD8.out)).trans HD8.out
      have HCr9 := Lib.hid (HCr8.out.below hb9 (Nat.le_refl _))
      have HDr9 := Lib.hid (HDr8.out.below hb9 (Nat.le_refl _))
      have HOr2 := Lib.hid (order_any (l.set j yld) (some ⟨g, 0, none⟩) n cap w9 (HTb.out w9 HB9.out) HS7.out.2.1 HS7.out.2.2 (HS8.out.below hb9 (Nat.le_refl _)))
      rw [HOrS.out] at HOr2
      clear hv9 hb9 hor HCr8 HDr8 HB8 HD8 HS8
      have HOl : Hid ((ordA l).1.length ≤ 1000000) := by
        show _ ≤ _
        cases hb : (ordA l).2 with
        | true => have := told_len (ord_told hb).1; have := HL.out; omega
        | false => rw [ord_no hb]; simp
      generalize (ordA l).2 = ob at *
      generalize (ordA l).1 = ol at *
      go_wp2_with fail
      refine HOr2.out.mono ?_
      rintro e10 w10 ⟨v10, rfl, hv10, hb10⟩
      obtain ⟨pa, pc, rfl, _, _, hpr, _⟩ := nums_row hv10
      have HSame := Lib.hid (same_any ol ol oa ol.length oc pa ol.length pc (by have := HOl.out; omega) w10 (HO9.out.below hb10 (Nat.le_refl _)) hpr)
      have HB10 := Lib.hid (HB9.out.trans (hb10.mono HB9.out.size))
      have HD10 : Hid (w10.heap[B]? = some (.deferred (some []))) := (hb10.block B (lt_of_block HD9.out)).trans HD9.out
      have HCr10 := Lib.hid (HCr9.out.below hb10 (Nat.le_refl _))
      have HDr10 := Lib.hid (HDr9.out.below hb10 (Nat.le_refl _))
      clear hv10 hb10 hpr HCr9 HDr9 HB9 HD9 HOr2 HO9
      have hbb : (ob != ob) = false := by cases ob <;> rfl
      have e1 : decide (ol = ol) = true := decide_eq_true rfl
      rw [e1] at HSame
      generalize ol.length = oln at *
      clear e1
      go_wp2_with fail
      refine HSame.out.mono ?_
      rintro e11 w11 ⟨rfl, hw11⟩
      subst w11
      clear HSame
      go_wp2_with fail
      go_loopw [96] (fun i wr => ∃ t : Nat, t ≤ n ∧ i = .int .i64 t ∧ Below w10.heap.size w10 wr) (fun i _ => n - (intOf i).toNat)
      case atStart => exact ⟨0, by omega, rfl, Below.refl _ _⟩
      case round =>
        obtain ⟨t, ht, rfl, hbt⟩ := hrel
        have HBt := Lib.hid hbt
        clear hbt
        by_cases htn : t < n
        · have hd : decide ((t : Int) < (n : Int)) = true := decide_eq_true (by omega)
          have t0 : (0 : Int) ≤ t := by omega
          have t1 : (t : Int) < n := by omega
          obtain ⟨db, doff, rfl, qd⟩ := (HDr10.out.below HBt.out (Nat.le_refl _)).at t htn
          obtain ⟨cb2, co2, ec, qc⟩ := (HCr10.out.below HBt.out (Nat.le_refl _)).at t htn
          cases ec
          generalize (comeL l).getD t false = bt at *
          have hbt : (bt != bt) = false := by cases bt <;> rfl
          go_wp2_with fail
          go_quiet (fail)
          go_wp2_with fail
          exact ⟨⟨t + 1, by omega, by simp, below_drewN HBt.out _⟩, by simp [intOf]; omega⟩
        · obtain rfl : t = n := by omega
          have hd : decide ((t : Int) < (t : Int)) = false := decide_eq_false (by omega)
          go_wp2_with fail
          exact FIN.out _ _ (HB10.out.trans (HBt.out.mono HB10.out.size)) ((HBt.out.block B (lt_of_block HD10.out)).trans HD10.out) rfl
  clear hK1
  go_wp2_with fail
  obtain ⟨B, hB⟩ : ∃ B, w3.heap.size = B := ⟨_, rfl⟩
  have HBe := Lib.hid hB
  have HWB : Hid (w.heap.size ≤ B) := by have := HB3.out.size; show _ ≤ _; omega
  clear hB
  refine (wpIn_wide (n := 0)).1 ?_
  refine wpIn_rangeFunc_n (gf := F) (lb := lb) rfl HEg.out HSq.out (Kept.refl _ _) (fun j hj => by have := HCc.out j hj; omega) (fun _ => rfl)
    (fun _ V => Below w.heap.size w V) (fun cd _ V => cd = .exit 0 ∧ Below w.heap.size w V) ?hI ?hIx HB3.out
    (fun z => { tmps := #[.slice a n c, .int .i64 k, undef, undef, .bool false, .int .i64 N, .int .i64 0, undef, undef, undef, undef, undef, undef, undef, undef, .bool true, .bool false, .slice a n c, .int .i64 (n : Nat), .bool false, .tuple #[.int .i64 N, .int .i64 0], .slice a n c, .tuple #[.int .i64 N, .int .i64 0], .int .i64 N, .int .i64 0, .int .i64 0, .bool false, .slice a n c, .int .i64 k, .func (.func F) #[] lb, .int .i64 (z : Nat), undef, undef, undef, undef, undef, undef, undef, undef, undef, undef, undef, undef, undef, undef, undef, undef, undef, undef, undef, undef, undef, undef, undef, undef, undef, undef, undef, undef, undef, undef, undef, undef, undef, undef, undef, undef, undef, undef, undef, undef, undef, undef, undef, undef, undef, undef, undef, undef, undef, undef, undef, undef, undef, undef, undef, undef, undef, undef, undef, undef, undef, undef, undef, undef, undef, undef, undef, undef, undef, undef, undef, undef, undef, undef, undef, undef, undef, undef], defers := [] }) ?assign ?body ?done ?stop
  case hI =>
    intro pre V V' h hk
    exact h.trans (below_of hk h.size (fun k hk => by have := HB3.out.size; omega))
  case hIx =>
    rintro cd pre V V' ⟨h1, h⟩ hk
    exact ⟨h1, h.trans (below_of hk h.size (fun k hk => by have := HB3.out.size; omega))⟩
  case assign =>
    intro l z W K hK
    unfold encN
    gi_wp2_with fail
    exact hK
  case body =>
    rintro l2 pre z V hpx hszV h
    rw [HBe.out] at hszV ⊢
    gi_wp2_with fail
    simp only [Exit.inBlock, postN]
    exact ⟨Kept.refl _ _, by first | trivial | rfl, h⟩
  case done =>
    rintro V h hszV hD
    rw [HBe.out] at hD hszV ⊢
    simp only [Exit.inBlock, Exit.then]
    exact REST.out _ _ _ _ _ _ _ _ _ _ _ _ _ _ _ _ _ B V h HWB.out hD
  case stop =>
    rintro cd pre V hpre ⟨rfl, h⟩ hszV hD
    rw [HBe.out] at hD hszV ⊢
    refine (wpIn_wide (n := 0)).2 ?_
    go_wp2_with fail
    exact REST.out _ _ _ _ _ _ _ _ _ _ _ _ _ _ _ _ _ B V h HWB.out hD
end Flw
end Go.Proofs.YteingehdkpfpcaaDoor
