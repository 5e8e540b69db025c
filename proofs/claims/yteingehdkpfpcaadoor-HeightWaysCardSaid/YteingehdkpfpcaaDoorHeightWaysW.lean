/- The walk of HeightWays. (Made by tools/gen_hways.py.) -/
import Derived.Test.YteingehdkpfpcaaDoorHeightKnown
import Derived.Test.YteingehdkpfpcaaDoorFlowGi
import Derived.Test.YteingehdkpfpcaaDoorFlowMarks
import Derived.Test.YteingehdkpfpcaaDoorRightsPosts
import Derived.Test.YteingehdkpfpcaaDoorRightsTmps
namespace Go.Proofs.YteingehdkpfpcaaDoor
open Go.ChangeShapes Go.WideShapes Go.ChangeAt Go.RowKit
namespace Hgt
open Isa Flw
open Goes
open Rights (Kept)
set_option linter.unusedVariables false
set_option linter.unusedSimpArgs false
attribute [local go_sem] Oper.semAt_some
/-- one way on: where the program stands without an error -/
structure At (l : List Iv) (H : List Int) (n : Nat) (top : Int) (p : Nat) (s : Int) : Prop where
  lt : p < n
  hs : H.getD p 0 = s
  s0 : 0 ≤ s
  st : s ≤ top
  tk : takesI (l.getD p iz).op ≤ s
  bt : s - takesI (l.getD p iz).op + givesI (l.getD p iz).op ≤ top
theorem at_of {l : List Iv} {most : Int} {H : List Int} {n p : Nat} (hw : Well l most H) (hn : l.length = n) (hp : p < n) (h0 : 0 ≤ H.getD p 0) : At l H n (topL l H n) p (H.getD p 0) := by
  obtain ⟨t1, t2⟩ := topL_up l H n p hp h0
  exact ⟨hp, rfl, h0, t1, hw.under p (by omega) h0, t2⟩
theorem at_next {l : List Iv} {most : Int} {H : List Int} {n p m : Nat} {top s : Int} (hf : Fine l) (hwf : ∀ i ∈ l, i.wf) (hw : Well l most H) (hn : l.length = n) (ht : top = topL l H n) (h : At l H n top p s) (hm : m ∈ behL l p) :
    At l H n top m (s - takesI (l.getD p iz).op + givesI (l.getD p iz).op) := by
  have hm2 : m < n := by have := beh_lt hf hwf (by have := h.lt; omega) hm; omega
  have e := hw.next p (by have := h.lt; omega) (by rw [h.hs]; exact h.s0) m hm
  rw [h.hs] at e
  have e2 : H.getD m 0 = s - takesI (l.getD p iz).op + givesI (l.getD p iz).op := e
  have h0 : 0 ≤ H.getD m 0 := by rw [e2]; have := h.tk; have := (givesI_in (l.getD p iz).op).1; omega
  rw [ht, ← e2]
  exact at_of hw hn hm2 h0
set_option maxRecDepth 100000 in
set_option maxHeartbeats 3200000 in
theorem ways_walk (w : World) (hT : Tabs w) (sa : Option Addr) (n c : Nat) (l : List Iv) (h : IRow w sa n l) (hc : n ≤ c ∧ c ≤ 9223372036854775807) (most : Int) (hmo : -9223372036854775808 ≤ most ∧ most ≤ 9223372036854775807)
    (a2 : Option Addr) (m2 c2 : Nat) (ch : List Bool) (h2 : CRow w a2 m2 ch) (hc2 : m2 ≤ c2 ∧ c2 ≤ 9223372036854775807) :
    Calls Tryd.prog 7 #[.slice sa n c, .int .i64 most, .slice a2 m2 c2] w fun e w' => e = .returned (.bool true) ∧ Below w.heap.size w w' := by
  have hln : l.length = n := h.1
  have HKn := Lib.hid (known_any w hT)
  have HH := Lib.hid (fun W (hb : Below w.heap.size w W) => heights_any l sa n c most W (hT.below hb (Nat.le_refl _)) hc.1 hc.2 hmo.1 hmo.2 (h.below hb (Nat.le_refl _)))
  have HMs := Lib.hid (fun W (hb : Below w.heap.size w W) => most_any l sa n c most W (hT.below hb (Nat.le_refl _)) hc.1 hc.2 hmo.1 hmo.2 (h.below hb (Nat.le_refl _)))
  have HBh := Lib.hid (fun (k : Int) W (hb : Below w.heap.size w W) => behind_any l sa n c k W (hT.below hb (Nat.le_refl _)) hc.1 hc.2 (h.below hb (Nat.le_refl _)))
  have HTab := Lib.hid (fun W (hb : Below w.heap.size w W) => hT.below hb (Nat.le_refl _))
  have HRow := Lib.hid (fun W (hb : Below w.heap.size w W) => h.below hb (Nat.le_refl _))
  have HCh := Lib.hid (fun W (hb : Below w.heap.size w W) => h2.below hb (Nat.le_refl _))
  have HWf := Lib.hid h.2.1
  have HL := Lib.hid hln
  have HC2 : Hid (m2 ≤ 9223372036854775807) := by show _ ≤ _; omega
  clear hT h h2 hc hc2
  refine (callsIn_wide (n := 0)).1 ?_
  refine callsIn_of_wp_marks Tryd.func7 rfl trivial ?_ rfl
  simp only [Tryd.ntmps7, List.size_toArray, List.length_cons, List.length_nil, Nat.reduceAdd, Nat.reduceSub, Array.replicate_succ, Array.replicate_zero, List.push_toArray, List.append_toArray, List.nil_append, List.cons_append]
  refine (wpIn_wide (n := 0)).2 ?_
  have FIN : Hid (∀ W tm rs, Below w.heap.size w W → Mk w.heap.size rs W → tm[6]? = some (.bool true) → LeavesInM Fence.wide 0 Tryd.prog Tryd.f7 tm (fun e w' => e = .returned (.bool true) ∧ Below w.heap.size w w') (dfs rs) .returning W) := fun W tm rs hb hd ht => by
    refine leaves_marks (lo := w.heap.size) rs W hd fun w' hk => ?_
    refine ⟨.bool true, ?_, rfl, hb.trans (below_of hk hb.size fun k hk => hk.1)⟩
    simp [results, Tryd.f7, go_sem, ht]
  go_wp2_with fail
  refine HKn.out.mono ?_
  rintro e1 w1 ⟨rfl, hb1⟩
  have HB1 := Lib.hid hb1
  clear hb1 HKn
  by_cases h3 : 2000 < n
  · have e1 : decide ((2000 : Int) < (n : Int)) = true := decide_eq_true (by omega)
    clear h3
    go_wp2_with fail
    exact FIN.out _ _ [] HB1.out (Mk.nil _ _) rfl
  have hd1 : decide ((2000 : Int) < (n : Int)) = false := decide_eq_false (by omega)
  by_cases hE : (htA l most).2.2 = 0
  case neg =>
    have hne : ((htA l most).2.2 != 0) = true := by simpa using hE
    have hH := htA_err hE
    rw [hH] at HH
    clear h3 hE hH
    generalize (htA l most).2.2 = E at *
    generalize (htA l most).2.1 = N at *
    go_wp2_with fail
    refine (HH.out w1 HB1.out).mono ?_
    rintro e w2 ⟨v, rfl, ho, hb2⟩
    obtain ⟨va, vc, rfl, _, _⟩ := own_shape ho
    have HB2 := Lib.hid (HB1.out.trans (hb2.mono HB1.out.size))
    clear hb2 ho
    go_wp2_with fail
    exact FIN.out _ _ [] HB2.out (Mk.nil _ _) rfl
  obtain ⟨hm0, hm64, hf, hgo⟩ := htA_go hE
  obtain ⟨hwell, hN⟩ := htA_well HWf.out hE
  have hMs : mostA l most = (topL l (htA l most).1 n, 0) := by unfold mostA; rw [if_pos hE, hln]
  have htop : topL l (htA l most).1 n ≤ most := by rw [← hln]; exact top_le hf HWf.out hwell hm0
  have htop0 := topL_nn l (htA l most).1 n
  have HchE : Hid (chkE l = 0) := by
    show _ = _
    by_cases q : chkE l = 0
    · exact q
    · exfalso
      unfold htA at hE
      rw [if_neg (by omega), if_pos q] at hE
      exact q hE
  have HF := Lib.hid hf
  rw [hE, hN] at HH
  rw [hMs] at HMs
  have HWell := Lib.hid hwell
  have HA0 : Hid (At l (htA l most).1 n (topL l (htA l most).1 n) 0 0) := by
    have := at_of (p := 0) hwell hln (by have := hf.some; omega) (by rw [hwell.zero]; omega)
    rw [hwell.zero] at this
    exact this
  have hlen : (htA l most).1.length = n := by rw [hwell.len, hln]
  have hn16 : n ≤ 2000 := by omega
  clear h3 hE hgo hN hMs hwell hf
  generalize (htA l most).1 = H at *
  obtain ⟨top, htp⟩ : ∃ t, topL l H n = t := ⟨_, rfl⟩
  have HTp := Lib.hid htp
  rw [htp] at HMs htop htop0 HA0
  have HNext := Lib.hid (fun (p m : Nat) (s : Int) (hA : At l H n top p s) (hm : m ∈ behL l p) => at_next HF.out HWf.out HWell.out HL.out HTp.out.symm hA hm)
  rw [hlen] at HH
  clear htp hln
  go_wp2_with fail
  refine (HH.out w1 HB1.out).mono ?_
  rintro e w2 ⟨v, rfl, ho, hb2⟩
  have HLen := Lib.hid hlen
  rw [← HLen.out] at ho
  obtain ⟨va, vc, rfl, _, _, hz⟩ := own_zrow ho
  rw [HLen.out] at hz ⊢
  have HB2 := Lib.hid (HB1.out.trans (hb2.mono HB1.out.size))
  have HZ2 := Lib.hid hz
  clear hb2 ho hz hlen HH
  go_wp2_with fail
  refine (HMs.out w2 HB2.out).mono ?_
  rintro e w3 ⟨rfl, hb3⟩
  have HB3 := Lib.hid (HB2.out.trans (hb3.mono HB2.out.size))
  have HZ3 := Lib.hid (fun W (hb : Below w3.heap.size w3 W) => (HZ2.out.below hb3 (Nat.le_refl _)).below hb (Nat.le_refl _))
  have hd2 : decide (most < top) = false := decide_eq_false (by omega)
  clear hb3 HZ2 HMs
  go_wp2_with fail
  refine wp_loop_k (fun N a' W' => ∃ (u : Nat → Value) (rs : List Nat) (p t i : Nat) (s : Int), a' = { tmps := #[.slice sa n c, .int .i64 most, .slice a2 m2 c2, undef, undef, undef, .bool false, .slice va n vc, .int .i64 0, .int .i64 0, .int .i64 top, .int .i64 (p : Nat), .int .i64 (t : Nat), .int .i64 s, (u 14), (u 15), .bool true, .bool false, .slice sa n c, .int .i64 (n : Nat), .bool false, .tuple #[.slice va n vc, .int .i64 0, .int .i64 0], .slice sa n c, .int .i64 most, .tuple #[.slice va n vc, .int .i64 0, .int .i64 0], .slice va n vc, .int .i64 0, .int .i64 0, .int .i64 0, .bool false, undef, undef, undef, .tuple #[.int .i64 top, .int .i64 0], .slice sa n c, .int .i64 most, .tuple #[.int .i64 top, .int .i64 0], .int .i64 top, .int .i64 0, .slice va n vc, .int .i64 (n : Nat), .slice sa n c, .int .i64 (n : Nat), .bool false, .bool false, .int .i64 0, .bool false, .bool false, .bool false, .int .i64 top, .int .i64 most, .bool false, .bool false, .int .i64 (i : Nat), (u 54), (u 55), (u 56), (u 57), (u 58), (u 59), (u 60), (u 61), (u 62), (u 63), (u 64), (u 65), (u 66), (u 67), (u 68), (u 69), (u 70), (u 71), (u 72), (u 73), (u 74), (u 75), (u 76), (u 77), (u 78), (u 79), (u 80), (u 81), (u 82), (u 83), (u 84), (u 85), (u 86), (u 87), (u 88), (u 89), (u 90), (u 91), (u 92), (u 93), (u 94), (u 95), (u 96), (u 97), (u 98), (u 99), (u 100), (u 101), (u 102), (u 103), (u 104), (u 105), (u 106), (u 107), (u 108), (u 109), (u 110), (u 111), (u 112), (u 113), (u 114), (u 115), (u 116), (u 117), (u 118), (u 119), (u 120), (u 121), (u 122), (u 123), (u 124), (u 125), (u 126), (u 127), (u 128)], defers := dfs rs } ∧ At l H n top p s ∧ t ≤ i ∧ i ≤ 5000 ∧ Below w3.heap.size w3 W' ∧ Mk w3.heap.size rs W' ∧ N = 5000 - i) 5000
    ⟨fun _ => undef, [], 0, 0, 0, 0, rfl, HA0.out, Nat.le_refl _, by omega, Below.refl _ _, Mk.nil _ _, rfl⟩ ?_
  rintro N a' W ⟨u, rs, p, t, i, s, rfl, hA, hti, hi, hbw, hmk, hN⟩ K hK0
  have hK : ∀ (T : Array Value) (rs : List Nat) (p t i' : Nat) (s : Int) (W' : World), T = (fun u : Nat → Value => #[.slice sa n c, .int .i64 most, .slice a2 m2 c2, undef, undef, undef, .bool false, .slice va n vc, .int .i64 0, .int .i64 0, .int .i64 top, .int .i64 (p : Nat), .int .i64 (t : Nat), .int .i64 s, (u 14), (u 15), .bool true, .bool false, .slice sa n c, .int .i64 (n : Nat), .bool false, .tuple #[.slice va n vc, .int .i64 0, .int .i64 0], .slice sa n c, .int .i64 most, .tuple #[.slice va n vc, .int .i64 0, .int .i64 0], .slice va n vc, .int .i64 0, .int .i64 0, .int .i64 0, .bool false, undef, undef, undef, .tuple #[.int .i64 top, .int .i64 0], .slice sa n c, .int .i64 most, .tuple #[.int .i64 top, .int .i64 0], .int .i64 top, .int .i64 0, .slice va n vc, .int .i64 (n : Nat), .slice sa n c, .int .i64 (n : Nat), .bool false, .bool false, .int .i64 0, .bool false, .bool false, .bool false, .int .i64 top, .int .i64 most, .bool false, .bool false, .int .i64 (i' : Nat), (u 54), (u 55), (u 56), (u 57), (u 58), (u 59), (u 60), (u 61), (u 62), (u 63), (u 64), (u 65), (u 66), (u 67), (u 68), (u 69), (u 70), (u 71), (u 72), (u 73), (u 74), (u 75), (u 76), (u 77), (u 78), (u 79), (u 80), (u 81), (u 82), (u 83), (u 84), (u 85), (u 86), (u 87), (u 88), (u 89), (u 90), (u 91), (u 92), (u 93), (u 94), (u 95), (u 96), (u 97), (u 98), (u 99), (u 100), (u 101), (u 102), (u 103), (u 104), (u 105), (u 106), (u 107), (u 108), (u 109), (u 110), (u 111), (u 112), (u 113), (u 114), (u 115), (u 116), (u 117), (u 118), (u 119), (u 120), (u 121), (u 122), (u 123), (u 124), (u 125), (u 126), (u 127), (u 128)]) (fun k => T.getD k undef) → i' = i + 1 → i < 5000 → At l H n top p s → t ≤ i' → Below w3.heap.size w3 W' → Mk w3.heap.size rs W' → K { tmps := T, defers := dfs rs } W' := by
    intro T rs p t i' s W' e1 e2 e3 h1 h2 h3 h4
    subst e2
    exact hK0 (5000 - (i + 1)) _ _ (by omega) ⟨fun k => T.getD k undef, rs, p, t, i + 1, s, congrArg (fun x => ({ tmps := x, defers := dfs rs } : Act)) e1, h1, h2, by omega, h3, h4, rfl⟩
  clear hK0
  have HK := Lib.hid hK
  have HN := Lib.hid hN
  have HA := Lib.hid hA
  have HBw := Lib.hid hbw
  have HMk := Lib.hid hmk
  have HMk0 : Hid (Mk w.heap.size rs W) := ⟨hmk.1, fun r hr => ⟨Nat.le_trans HB3.out.size (hmk.2 r hr).1, (hmk.2 r hr).2⟩⟩
  have HBW : Hid (Below w.heap.size w W) := HB3.out.trans (hbw.mono HB3.out.size)
  by_cases hlt : i < 5000
  rotate_left
  · have d1 : decide ((i : Int) < 5000) = false := decide_eq_false (by omega)
    clear hK hN hbw hmk hA hlt HA0
    go_wp2_with fail
    exact FIN.out _ _ rs HBW.out HMk0.out rfl
  have d1 : decide ((i : Int) < 5000) = true := decide_eq_true (by omega)
  obtain ⟨b, off, rfl, hcz⟩ := (HZ3.out W hbw).at p hA.lt
  rw [hA.hs] at hcz
  obtain ⟨b2, off2, rfl, hcc, hw⟩ := (HRow.out W HBW.out).at p hA.lt
  obtain ⟨c0, c1, c2, c3⟩ := hcc
  have HTk := Lib.hid (takes_any (l.getD p iz).op hw.op.1 hw.op.2 W (HTab.out W HBW.out))
  have HTkf := Lib.hid (fun X (hX : Below w.heap.size w X) => takes_any (l.getD p iz).op hw.op.1 hw.op.2 X (HTab.out X hX))
  have HGvf := Lib.hid (fun X (hX : Below w.heap.size w X) => gives_any (l.getD p iz).op hw.op.1 hw.op.2 X (HTab.out X hX))
  have Htk := hA.tk
  have Hbt := hA.bt
  have Hst := hA.st
  have Hs0 := hA.s0
  have hkn := hA.lt
  have hg0 := givesI_in (l.getD p iz).op
  have ht0 := takesI_in (l.getD p iz).op
  have HNx := Lib.hid (fun m (hm : m ∈ behL l p) => HNext.out p m s hA hm)
  have k0 : (0 : Int) ≤ p := by omega
  have k1 : (p : Int) < n := by omega
  clear hK hN hbw hmk hA hw HA0 HA
  generalize takesI (l.getD p iz).op = tk at *
  generalize givesI (l.getD p iz).op = gv at *
  generalize (l.getD p iz).op = xo at *
  obtain ⟨s2, hs2⟩ : ∃ s2, s + (gv - tk) = s2 := ⟨_, rfl⟩
  have ww1 : IntKind.i64.wrap (gv - tk) = gv - tk := by simp [IntKind.wrap, IntKind.bits, IntKind.signed]; omega
  have ww2 : IntKind.i64.wrap (s + (gv - tk)) = s2 := by rw [← hs2]; simp [IntKind.wrap, IntKind.bits, IntKind.signed]; omega
  have d2 : decide (s < tk) = false := decide_eq_false (by omega)
  have d3 : decide (top < s) = false := decide_eq_false (by omega)
  have d4 : decide (top < s2) = false := decide_eq_false (by omega)
  have HS2 : Hid (s - tk + gv = s2) := by show _ = _; omega
  clear Htk Hbt Hst Hs0 hg0 ht0 hs2
  go_wp2_with fail
  refine HTk.out.mono ?_
  rintro e w4 ⟨rfl, hb4⟩
  have HB4 := Lib.hid hb4
  have c0' := (World.cell?_of_block (hb4.block _ (World.block_lt_of_cell? _ _ c0))).trans c0
  clear c0 c1 c2 c3 hcz HTk hb4
  have c0 := c0'
  clear c0'
  have HTk2 := Lib.hid (fun X (hX : Below w4.heap.size w4 X) => HTkf.out X (HBW.out.trans ((HB4.out.trans (hX.mono HB4.out.size)).mono HBW.out.size)))
  have HGv := Lib.hid (fun X (hX : Below w4.heap.size w4 X) => HGvf.out X (HBW.out.trans ((HB4.out.trans (hX.mono HB4.out.size)).mono HBW.out.size)))
  clear HTkf HGvf
  go_wp2_with fail
  have hE := Posts.ext_rel
  refine (wpIn_wide (n := 0)).1 (Posts.wpIn_region_tail hE 15 3 (Posts.At [Posts.is (.int .i64 s), Posts.is (.slice (some ⟨b2, off2, none⟩) n c), Posts.is (.int .i64 (p : Nat)), Posts.is (.pointer (some ⟨b2, off2 + p * 4, none⟩)), Posts.is (.pointer (some ⟨b2, off2 + p * 4, none⟩)), Posts.is (.int .u8 xo), Posts.is (.int .i64 gv), Posts.is (.slice (some ⟨b2, off2, none⟩) n c), Posts.is (.int .i64 (p : Nat)), Posts.is (.pointer (some ⟨b2, off2 + p * 4, none⟩)), Posts.is (.pointer (some ⟨b2, off2 + p * 4, none⟩)), Posts.is (.int .u8 xo), Posts.is (.int .i64 tk), Posts.is (.int .i64 (gv - tk)), Posts.is (.int .i64 s2)]) (fun a _ => a.eval (.tmp 13) = .int .i64 s) (by kernel_rfl) (by decide) (by kernel_rfl) (by kernel_rfl) (by kernel_rfl)
    (Posts.stable_at _ (by repeat' (first | exact trivial | (refine And.intro ?_ ?_) | exact Posts.is_stable _ | exact Posts.on_stable _ _ | assumption))) (by simp [Act.eval, go_sem]) ?_ ?_)
  · refine ⟨?_, ?_, ?_, ?_, ?_, ?_, ?_, ?_, ?_, ?_, ?_, ?_, ?_, ?_, ?_, trivial⟩
    · intro a X hX hS hD hJ hU
      have x0 := (World.cell?_of_block (Posts.Ext.blk hX _ (World.block_lt_of_cell? _ _ c0))).trans c0
      have d13 := Posts.slot (show a.eval (.tmp 13) = .int .i64 s from hJ)
      exact Posts.op_value (fun _ => trivial) rfl rfl (by intro c h; cases h) rfl (by rw [hS.size]; simp) (v := .int .i64 s) (by simp [execOp, d13,  go_sem, x0, k0, k1, ww1, ww2]) rfl (hE.refl _) ((Posts.put_other _ _ _ _ (by decide)).trans hJ)
    · intro a X hX hS hD hJ hU
      have x0 := (World.cell?_of_block (Posts.Ext.blk hX _ (World.block_lt_of_cell? _ _ c0))).trans c0
      have d0 := Posts.slot (show a.eval (.tmp 0) = .slice (some ⟨b2, off2, none⟩) n c from hS.other 0 rfl)
      exact Posts.op_value (fun _ => trivial) rfl rfl (by intro c h; cases h) rfl (by rw [hS.size]; simp) (v := .slice (some ⟨b2, off2, none⟩) n c) (by simp [execOp, d0,  go_sem, x0, k0, k1, ww1, ww2]) rfl (hE.refl _) ((Posts.put_other _ _ _ _ (by decide)).trans hJ)
    · intro a X hX hS hD hJ hU
      have x0 := (World.cell?_of_block (Posts.Ext.blk hX _ (World.block_lt_of_cell? _ _ c0))).trans c0
      have d11 := Posts.slot (show a.eval (.tmp 11) = .int .i64 (p : Nat) from hS.other 11 rfl)
      exact Posts.op_value (fun _ => trivial) rfl rfl (by intro c h; cases h) rfl (by rw [hS.size]; simp) (v := .int .i64 (p : Nat)) (by simp [execOp, d11,  go_sem, x0, k0, k1, ww1, ww2]) rfl (hE.refl _) ((Posts.put_other _ _ _ _ (by decide)).trans hJ)
    · intro a X hX hS hD hJ hU
      have x0 := (World.cell?_of_block (Posts.Ext.blk hX _ (World.block_lt_of_cell? _ _ c0))).trans c0
      have d77 := Posts.slot (show a.eval (.tmp 77) = .slice (some ⟨b2, off2, none⟩) n c from hD.1)
      have d78 := Posts.slot (show a.eval (.tmp 78) = .int .i64 (p : Nat) from hD.2.1)
      exact Posts.op_value (fun _ => trivial) rfl rfl (by intro c h; cases h) rfl (by rw [hS.size]; simp) (v := .pointer (some ⟨b2, off2 + p * 4, none⟩)) (by simp [execOp, d77, d78,  go_sem, x0, k0, k1, ww1, ww2]) rfl (hE.refl _) ((Posts.put_other _ _ _ _ (by decide)).trans hJ)
    · intro a X hX hS hD hJ hU
      have x0 := (World.cell?_of_block (Posts.Ext.blk hX _ (World.block_lt_of_cell? _ _ c0))).trans c0
      have d79 := Posts.slot (show a.eval (.tmp 79) = .pointer (some ⟨b2, off2 + p * 4, none⟩) from hD.1)
      exact Posts.op_value (fun _ => trivial) rfl rfl (by intro c h; cases h) rfl (by rw [hS.size]; simp) (v := .pointer (some ⟨b2, off2 + p * 4, none⟩)) (by simp [execOp, d79,  go_sem, x0, k0, k1, ww1, ww2]) rfl (hE.refl _) ((Posts.put_other _ _ _ _ (by decide)).trans hJ)
    · intro a X hX hS hD hJ hU
      have x0 := (World.cell?_of_block (Posts.Ext.blk hX _ (World.block_lt_of_cell? _ _ c0))).trans c0
      have d80 := Posts.slot (show a.eval (.tmp 80) = .pointer (some ⟨b2, off2 + p * 4, none⟩) from hD.1)
      exact Posts.op_value (fun _ => trivial) rfl rfl (by intro c h; cases h) rfl (by rw [hS.size]; simp) (v := .int .u8 xo) (by simp [execOp, d80,  go_sem, x0, k0, k1, ww1, ww2]) rfl (hE.refl _) ((Posts.put_other _ _ _ _ (by decide)).trans hJ)
    · intro a X hX hS hD hJ hU
      have x0 := (World.cell?_of_block (Posts.Ext.blk hX _ (World.block_lt_of_cell? _ _ c0))).trans c0
      have d81 := Posts.slot (show a.eval (.tmp 81) = .int .u8 xo from hD.1)
      refine Posts.op_call (fun _ => trivial) rfl rfl rfl (by intro c h; cases h) rfl (by rw [hS.size]; simp) 28 #[.int .u8 xo] (by simp [execOp, d81, go_sem]) ?_
      refine callsIn_wide.2 ((HGv.out X hX).mono ?_)
      rintro e Y ⟨rfl, hb⟩
      exact ⟨_, rfl, rfl, hb, (Posts.put_other _ _ _ _ (by decide)).trans hJ⟩
    · intro a X hX hS hD hJ hU
      have x0 := (World.cell?_of_block (Posts.Ext.blk hX _ (World.block_lt_of_cell? _ _ c0))).trans c0
      have d0 := Posts.slot (show a.eval (.tmp 0) = .slice (some ⟨b2, off2, none⟩) n c from hS.other 0 rfl)
      exact Posts.op_value (fun _ => trivial) rfl rfl (by intro c h; cases h) rfl (by rw [hS.size]; simp) (v := .slice (some ⟨b2, off2, none⟩) n c) (by simp [execOp, d0,  go_sem, x0, k0, k1, ww1, ww2]) rfl (hE.refl _) ((Posts.put_other _ _ _ _ (by decide)).trans hJ)
    · intro a X hX hS hD hJ hU
      have x0 := (World.cell?_of_block (Posts.Ext.blk hX _ (World.block_lt_of_cell? _ _ c0))).trans c0
      have d11 := Posts.slot (show a.eval (.tmp 11) = .int .i64 (p : Nat) from hS.other 11 rfl)
      exact Posts.op_value (fun _ => trivial) rfl rfl (by intro c h; cases h) rfl (by rw [hS.size]; simp) (v := .int .i64 (p : Nat)) (by simp [execOp, d11,  go_sem, x0, k0, k1, ww1, ww2]) rfl (hE.refl _) ((Posts.put_other _ _ _ _ (by decide)).trans hJ)
    · intro a X hX hS hD hJ hU
      have x0 := (World.cell?_of_block (Posts.Ext.blk hX _ (World.block_lt_of_cell? _ _ c0))).trans c0
      have d83 := Posts.slot (show a.eval (.tmp 83) = .slice (some ⟨b2, off2, none⟩) n c from hD.1)
      have d84 := Posts.slot (show a.eval (.tmp 84) = .int .i64 (p : Nat) from hD.2.1)
      exact Posts.op_value (fun _ => trivial) rfl rfl (by intro c h; cases h) rfl (by rw [hS.size]; simp) (v := .pointer (some ⟨b2, off2 + p * 4, none⟩)) (by simp [execOp, d83, d84,  go_sem, x0, k0, k1, ww1, ww2]) rfl (hE.refl _) ((Posts.put_other _ _ _ _ (by decide)).trans hJ)
    · intro a X hX hS hD hJ hU
      have x0 := (World.cell?_of_block (Posts.Ext.blk hX _ (World.block_lt_of_cell? _ _ c0))).trans c0
      have d85 := Posts.slot (show a.eval (.tmp 85) = .pointer (some ⟨b2, off2 + p * 4, none⟩) from hD.1)
      exact Posts.op_value (fun _ => trivial) rfl rfl (by intro c h; cases h) rfl (by rw [hS.size]; simp) (v := .pointer (some ⟨b2, off2 + p * 4, none⟩)) (by simp [execOp, d85,  go_sem, x0, k0, k1, ww1, ww2]) rfl (hE.refl _) ((Posts.put_other _ _ _ _ (by decide)).trans hJ)
    · intro a X hX hS hD hJ hU
      have x0 := (World.cell?_of_block (Posts.Ext.blk hX _ (World.block_lt_of_cell? _ _ c0))).trans c0
      have d86 := Posts.slot (show a.eval (.tmp 86) = .pointer (some ⟨b2, off2 + p * 4, none⟩) from hD.1)
      exact Posts.op_value (fun _ => trivial) rfl rfl (by intro c h; cases h) rfl (by rw [hS.size]; simp) (v := .int .u8 xo) (by simp [execOp, d86,  go_sem, x0, k0, k1, ww1, ww2]) rfl (hE.refl _) ((Posts.put_other _ _ _ _ (by decide)).trans hJ)
    · intro a X hX hS hD hJ hU
      have x0 := (World.cell?_of_block (Posts.Ext.blk hX _ (World.block_lt_of_cell? _ _ c0))).trans c0
      have d87 := Posts.slot (show a.eval (.tmp 87) = .int .u8 xo from hD.1)
      refine Posts.op_call (fun _ => trivial) rfl rfl rfl (by intro c h; cases h) rfl (by rw [hS.size]; simp) 27 #[.int .u8 xo] (by simp [execOp, d87, go_sem]) ?_
      refine callsIn_wide.2 ((HTk2.out X hX).mono ?_)
      rintro e Y ⟨rfl, hb⟩
      exact ⟨_, rfl, rfl, hb, (Posts.put_other _ _ _ _ (by decide)).trans hJ⟩
    · intro a X hX hS hD hJ hU
      have x0 := (World.cell?_of_block (Posts.Ext.blk hX _ (World.block_lt_of_cell? _ _ c0))).trans c0
      have d82 := Posts.slot (show a.eval (.tmp 82) = .int .i64 gv from hD.1)
      have d88 := Posts.slot (show a.eval (.tmp 88) = .int .i64 tk from hD.2.1)
      exact Posts.op_value (fun _ => trivial) rfl rfl (by intro c h; cases h) rfl (by rw [hS.size]; simp) (v := .int .i64 (gv - tk)) (by simp [execOp, d82, d88,  go_sem, x0, k0, k1, ww1, ww2]) rfl (hE.refl _) ((Posts.put_other _ _ _ _ (by decide)).trans hJ)
    · intro a X hX hS hD hJ hU
      have x0 := (World.cell?_of_block (Posts.Ext.blk hX _ (World.block_lt_of_cell? _ _ c0))).trans c0
      have d76 := Posts.slot (show a.eval (.tmp 76) = .int .i64 s from hD.1)
      have d89 := Posts.slot (show a.eval (.tmp 89) = .int .i64 (gv - tk) from hD.2.1)
      exact Posts.op_value (fun _ => trivial) rfl rfl (by intro c h; cases h) rfl (by rw [hS.size]; simp) (v := .int .i64 s2) (by simp [execOp, d76, d89,  go_sem, x0, k0, k1, ww1, ww2]) rfl (hE.refl _) ((Posts.put_other _ _ _ _ (by decide)).trans hJ)
  · intro a0 Y hY hS hJt hL
    have p76 := Posts.slot (show a0.eval (.tmp 76) = .int .i64 s from hL.1)
    have p77 := Posts.slot (show a0.eval (.tmp 77) = .slice (some ⟨b2, off2, none⟩) n c from hL.2.1)
    have p78 := Posts.slot (show a0.eval (.tmp 78) = .int .i64 (p : Nat) from hL.2.2.1)
    have p79 := Posts.slot (show a0.eval (.tmp 79) = .pointer (some ⟨b2, off2 + p * 4, none⟩) from hL.2.2.2.1)
    have p80 := Posts.slot (show a0.eval (.tmp 80) = .pointer (some ⟨b2, off2 + p * 4, none⟩) from hL.2.2.2.2.1)
    have p81 := Posts.slot (show a0.eval (.tmp 81) = .int .u8 xo from hL.2.2.2.2.2.1)
    have p82 := Posts.slot (show a0.eval (.tmp 82) = .int .i64 gv from hL.2.2.2.2.2.2.1)
    have p83 := Posts.slot (show a0.eval (.tmp 83) = .slice (some ⟨b2, off2, none⟩) n c from hL.2.2.2.2.2.2.2.1)
    have p84 := Posts.slot (show a0.eval (.tmp 84) = .int .i64 (p : Nat) from hL.2.2.2.2.2.2.2.2.1)
    have p85 := Posts.slot (show a0.eval (.tmp 85) = .pointer (some ⟨b2, off2 + p * 4, none⟩) from hL.2.2.2.2.2.2.2.2.2.1)
    have p86 := Posts.slot (show a0.eval (.tmp 86) = .pointer (some ⟨b2, off2 + p * 4, none⟩) from hL.2.2.2.2.2.2.2.2.2.2.1)
    have p87 := Posts.slot (show a0.eval (.tmp 87) = .int .u8 xo from hL.2.2.2.2.2.2.2.2.2.2.2.1)
    have p88 := Posts.slot (show a0.eval (.tmp 88) = .int .i64 tk from hL.2.2.2.2.2.2.2.2.2.2.2.2.1)
    have p89 := Posts.slot (show a0.eval (.tmp 89) = .int .i64 (gv - tk) from hL.2.2.2.2.2.2.2.2.2.2.2.2.2.1)
    have p90 := Posts.slot (show a0.eval (.tmp 90) = .int .i64 s2 from hL.2.2.2.2.2.2.2.2.2.2.2.2.2.2.1)
    have pJ := Posts.slot hJt
    have hfr := hS.frame [76, 77, 78, 79, 80, 81, 82, 83, 84, 85, 86, 87, 88, 89, 90, 13] (fun t ht => by simp [Posts.isDst] at ht; first | (rcases ht with h | h | h | h | h | h | h | h | h | h | h | h | h | h | h | h <;> subst h <;> simp) | (subst ht; simp))
    simp only [List.foldl_cons, List.foldl_nil] at hfr
    have hdf := hS.defers
    simp only [Array.getD_eq_getD_getElem?] at hfr
    clear hL hS
    generalize a0.tmps[76]?.getD undef = v76 at *
    generalize a0.tmps[77]?.getD undef = v77 at *
    generalize a0.tmps[78]?.getD undef = v78 at *
    generalize a0.tmps[79]?.getD undef = v79 at *
    generalize a0.tmps[80]?.getD undef = v80 at *
    generalize a0.tmps[81]?.getD undef = v81 at *
    generalize a0.tmps[82]?.getD undef = v82 at *
    generalize a0.tmps[83]?.getD undef = v83 at *
    generalize a0.tmps[84]?.getD undef = v84 at *
    generalize a0.tmps[85]?.getD undef = v85 at *
    generalize a0.tmps[86]?.getD undef = v86 at *
    generalize a0.tmps[87]?.getD undef = v87 at *
    generalize a0.tmps[88]?.getD undef = v88 at *
    generalize a0.tmps[89]?.getD undef = v89 at *
    generalize a0.tmps[90]?.getD undef = v90 at *
    generalize a0.tmps[13]?.getD undef = v13 at *
    obtain rfl := p76
    obtain rfl := p77
    obtain rfl := p78
    obtain rfl := p79
    obtain rfl := p80
    obtain rfl := p81
    obtain rfl := p82
    obtain rfl := p83
    obtain rfl := p84
    obtain rfl := p85
    obtain rfl := p86
    obtain rfl := p87
    obtain rfl := p88
    obtain rfl := p89
    obtain rfl := p90
    obtain rfl := pJ
    obtain ⟨tm, df⟩ := a0
    simp only [List.setIfInBounds_toArray, List.set_cons_succ, List.set_cons_zero] at hfr hdf
    subst hfr
    subst hdf
    refine Posts.tail_op 15 (by kernel_rfl) (Posts.op_val (fun _ => trivial) rfl rfl (by intro c h; cases h) (v := .int .i64 s2) (Y := Y) (by simp [execOp, Act.eval, go_sem]) ?_)
    refine ⟨by kernel_rfl, ?_⟩
    simp only [Exit.inBlock, Exit.then]
    first
      | (rename_i hK; refine hK _ _ ?_)
      | (rename_i hK _; refine hK _ _ ?_)
      | (rename_i hK _ _; refine hK _ _ ?_)
    simp only [Act.put]
    have HY4 : Hid (Below W.heap.size W Y) := HB4.out.trans (hY.mono HB4.out.size)
    clear hY hE c0 HTk2 HGv hK
    go_upto_region 20 with fail
    have HBY : Hid (Below w.heap.size w Y) := HBW.out.trans (HY4.out.mono HBW.out.size)
    have HBox : Hid (Box (Y.alloc (.cells #[.slice none 0 0] 29)) Y.heap.size 29 (.slice none 0 0)) := Box.new _ _ _
    have HBy5 : Hid (Below Y.heap.size Y (Y.alloc (.cells #[.slice none 0 0] 29))) := (Below.refl _ Y).alloc (Nat.le_refl _) _
    have hsq0 := HBh.out (p : Int) (Y.alloc (.cells #[.slice none 0 0] 29)) (HBY.out.trans (HBy5.out.mono HBY.out.size))
    have hbe : behA l (p : Int) = behL l p := behA_in HchE.out (by have := HL.out; omega)
    rw [hbe] at hsq0
    have HSq0 := Lib.hid hsq0
    have HLen2 : Hid ((behL l p).length ≤ 2) := beh_len l p
    have HSz5 : Hid (Y.heap.size < (Y.alloc (.cells #[.slice none 0 0] 29)).heap.size) := by show _ < _; simp
    clear hsq0 hbe
    generalize behL l p = L at *
    obtain ⟨S, hS⟩ : ∃ x, Y.heap.size = x := ⟨_, rfl⟩
    have HS := Lib.hid hS
    rw [hS] at HBox HBy5 HSz5 ⊢
    clear hS
    generalize Y.alloc (.cells #[.slice none 0 0] 29) = W5 at *
    go_wp2_with fail
    refine HSq0.out.mono ?_
    rintro e w6 ⟨v, rfl, F, lb, cc, rfl, heg, hseq, hb6, hcc⟩
    obtain ⟨B, hB⟩ : ∃ x, w6.heap.size = x := ⟨_, rfl⟩
    have HBe := Lib.hid hB
    have HSB : Hid (S < B) := by show _ < _; have := hb6.size; have := HSz5.out; omega
    have HX6 := Lib.hid (HBox.out.below hb6 (Nat.le_refl _))
    have HB6 : Hid (Below S Y w6) := HBy5.out.trans (hb6.mono (by have := HSz5.out; omega))
    have HCC : Hid (∀ j, cc j → S < j ∧ j < B) := fun j hj => by have := hcc j hj; have := HSz5.out; omega
    have HSq := Lib.hid hseq
    have HEg := Lib.hid heg
    clear hb6 hcc hseq heg hB HSq0 HBox HBy5 HSz5
    go_wp2_with fail
    refine (wpIn_wide (n := 0)).1 ?_
    refine wpIn_rangeFunc_n (gf := F) (lb := lb) rfl HEg.out HSq.out (Kept.refl _ _) (fun j hj => by rw [HBe.out]; exact (HCC.out j hj).2) (fun _ => rfl)
      (fun pre V => ∃ v, GI S B Y pre v V) (fun _ _ _ => False) (by rw [HBe.out]; exact gi_steady S B Y) (fun _ _ _ _ h _ => h.elim) ⟨_, HX6.out, World.ownsRow_nil _ _ _ _, HSB.out, HB6.out⟩
      (fun z => { tmps := #[.slice (some ⟨b2, off2, none⟩) n c, .int .i64 most, .slice a2 m2 c2, undef, undef, undef, .bool false, .slice (some ⟨b, off, none⟩) n vc, .int .i64 0, .int .i64 0, .int .i64 top, .int .i64 (p : Nat), .int .i64 (t : Nat), .int .i64 s2, .pointer (some ⟨S, 0, none⟩), .int .i64 (z : Nat), .bool true, .bool false, .slice (some ⟨b2, off2, none⟩) n c, .int .i64 (n : Nat), .bool false, .tuple #[.slice (some ⟨b, off, none⟩) n vc, .int .i64 0, .int .i64 0], .slice (some ⟨b2, off2, none⟩) n c, .int .i64 most, .tuple #[.slice (some ⟨b, off, none⟩) n vc, .int .i64 0, .int .i64 0], .slice (some ⟨b, off, none⟩) n vc, .int .i64 0, .int .i64 0, .int .i64 0, .bool false, undef, undef, undef, .tuple #[.int .i64 top, .int .i64 0], .slice (some ⟨b2, off2, none⟩) n c, .int .i64 most, .tuple #[.int .i64 top, .int .i64 0], .int .i64 top, .int .i64 0, .slice (some ⟨b, off, none⟩) n vc, .int .i64 (n : Nat), .slice (some ⟨b2, off2, none⟩) n c, .int .i64 (n : Nat), .bool false, .bool false, .int .i64 0, .bool false, .bool false, .bool false, .int .i64 top, .int .i64 most, .bool false, .bool false, .int .i64 (i : Nat), .bool true, .slice (some ⟨b, off, none⟩) n vc, .int .i64 (p : Nat), .pointer (some ⟨b, off + p, none⟩), .int .i64 s, .int .i64 s, .bool false, .bool false, .int .i64 s, .slice (some ⟨b2, off2, none⟩) n c, .int .i64 (p : Nat), .pointer (some ⟨b2, off2 + p * 4, none⟩), .pointer (some ⟨b2, off2 + p * 4, none⟩), .int .u8 xo, .int .i64 tk, .bool false, .bool false, .bool false, .int .i64 s, .int .i64 top, .bool false, .bool false, .int .i64 s, .slice (some ⟨b2, off2, none⟩) n c, .int .i64 (p : Nat), .pointer (some ⟨b2, off2 + p * 4, none⟩), .pointer (some ⟨b2, off2 + p * 4, none⟩), .int .u8 xo, .int .i64 gv, .slice (some ⟨b2, off2, none⟩) n c, .int .i64 (p : Nat), .pointer (some ⟨b2, off2 + p * 4, none⟩), .pointer (some ⟨b2, off2 + p * 4, none⟩), .int .u8 xo, .int .i64 tk, .int .i64 (gv - tk), .int .i64 s2, .int .i64 s2, .int .i64 top, .bool false, .slice (some ⟨b2, off2, none⟩) n c, .int .i64 (p : Nat), .func (.func F) #[] lb, .int .i64 (z : Nat), (u 98), (u 99), (u 100), (u 101), (u 102), (u 103), (u 104), (u 105), (u 106), (u 107), (u 108), (u 109), (u 110), (u 111), (u 112), (u 113), (u 114), (u 115), (u 116), (u 117), (u 118), (u 119), (u 120), (u 121), (u 122), (u 123), (u 124), (u 125), (u 126), (u 127), (u 128)], defers := [] }) ?assign ?body ?done ?stop
    case assign =>
      intro l z W K hK
      unfold encN
      gi_wp2_with fail
      exact hK
    case body =>
      rintro l2 pre z V hpx hszV ⟨v, h⟩
      rw [HBe.out] at hszV ⊢
      have hpl : pre.length ≤ 2 := by have h1 := hpx.length_le; have h2 := HLen2.out; simp at h1; omega
      obtain ⟨ta, tc, rfl, _, _⟩ := own_shape h.own
      obtain ⟨ta', tc', Yy, hrun, hown, hgr, hat⟩ := app_num h.own hszV (by omega) z 29
      have HN2 := Lib.hid (gi_next h hszV hgr hown)
      have qc := h.box.cell
      have qS := (h.box.kept (((Kept.refl (fun k => B + 2 ≤ k) V).alloc _).trans ((kept_grown hgr).mono fun k _ e => (own_lt h.own e).1)) (by have := h.sb; omega))
      have qs1 := qS.cell
      have qs2 := qS.free
      clear h hszV hpx hown hgr hat qS
      gi_wp2_with (gi_at_builtin; refine wpListIn_append_run rfl _ _ 29 29 rfl _ _ _ _ 29 rfl rfl rfl hrun ?_)
      simp only [Exit.inBlock, postN]
      refine ⟨HN2.out.1.mono fun k _ e => ?_, _, HN2.out.2⟩
      have := HSB.out
      rcases e with e | e
      · exact ⟨fun q => by have := HCC.out k q; omega, by omega, by omega⟩
      · exact ⟨fun q => by have := HCC.out k q; omega, by omega, by omega⟩
    case done =>
      rintro V ⟨v, h⟩ hszV hD
      rw [HBe.out] at hD hszV ⊢
      have hYs : Y.heap.size = S := HS.out
      have hBV : Below W.heap.size W V := HY4.out.trans (h.bel.mono (by have := HY4.out.size; omega))
      have hkV : Kept (fun _ => False) W V := kept_of hBV fun k h1 h2 => absurd h1 (by omega)
      have HBwV : Hid (Below w3.heap.size w3 V) := HBw.out.trans (hBV.mono HBw.out.size)
      have HBWV : Hid (Below w.heap.size w V) := HBW.out.trans (hBV.mono HBW.out.size)
      have hWB : W.heap.size ≤ B := by have := HY4.out.size; have := HSB.out; omega
      have HMkV : Hid (Mk w3.heap.size (B :: rs) V) := (HMk.out.kept hkV (fun _ _ x => x)).cons hD (by have := HBw.out.size; omega) (fun hr => by have := HMk.out.lt hr; omega)
      have HMk0V : Hid (Mk w.heap.size (B :: rs) V) := ⟨HMkV.out.1, fun r hr => ⟨Nat.le_trans HB3.out.size (HMkV.out.2 r hr).1, (HMkV.out.2 r hr).2⟩⟩
      have qS := h.box.cell
      have HOw := Lib.hid h.own
      obtain ⟨na, nc, rfl, hn1, _⟩ := own_shape h.own
      have hw1 : IntKind.i64.wrap ((i : Int) + 1) = (i : Int) + 1 := by simp [IntKind.wrap, IntKind.bits, IntKind.signed]; omega
      have hw2 : IntKind.i64.wrap ((t : Int) + 1) = (t : Int) + 1 := by simp [IntKind.wrap, IntKind.bits, IntKind.signed]; omega
      clear h hszV hD hBV hkV hYs
      rcases L with _ | ⟨x, L⟩
      · go_wp2_with fail
        exact FIN.out _ _ (B :: rs) HBWV.out HMk0V.out rfl
      obtain ⟨g, cap, hv, hg0, hg1⟩ := own_some HOw.out (by simp)
      injection hv with e1 e2 e3
      subst e1
      have qx : V.cell? ⟨g, 0, none⟩ = some (.int .i64 (x : Nat)) := by
        have := World.ownsRow.cells HOw.out (g := g) rfl 0 (.int .i64 (x : Nat)) (by simp [nums])
        rwa [WideShapes.add_plain, Nat.zero_add] at this
      have HAx : Hid (At l H n top x s2) := by
        have := HNx.out x (by simp)
        rw [HS2.out] at this
        exact this
      rcases L with _ | ⟨y, L⟩
      · have hl1 : [x].length = 1 := rfl
        rw [hl1] at qS hn1
        go_wp2_with fail
        rw [show ((i : Int) + 1) = ((i + 1 : Nat) : Int) from by omega]
        exact HK.out _ (B :: rs) x t (i + 1) s2 _ rfl rfl hlt HAx.out (by omega) HBwV.out HMkV.out
      obtain rfl : L = [] := by
        have := HLen2.out
        simp at this
        exact this
      have hl2 : [x, y].length = 2 := rfl
      rw [hl2] at qS hn1
      have qy : V.cell? ⟨g, 1, none⟩ = some (.int .i64 (y : Nat)) := by
        have := World.ownsRow.cells HOw.out (g := g) rfl 1 (.int .i64 (y : Nat)) (by simp [nums])
        rwa [WideShapes.add_plain, Nat.zero_add] at this
      have HAy : Hid (At l H n top y s2) := by
        have := HNx.out y (by simp)
        rw [HS2.out] at this
        exact this
      by_cases hm2 : m2 = 0
      · subst hm2
        go_wp2_with fail
        rw [show ((i : Int) + 1) = ((i + 1 : Nat) : Int) from by omega, show ((t : Int) + 1) = ((t + 1 : Nat) : Int) from by omega]
        exact HK.out _ (B :: rs) x (t + 1) (i + 1) s2 _ rfl rfl hlt HAx.out (by omega) HBwV.out HMkV.out
      have dm : decide ((0 : Int) < (m2 : Int)) = true := decide_eq_true (by omega)
      have dm2 : decide (0 < m2) = true := decide_eq_true (by omega)
      obtain ⟨b3, off3, rfl, qch⟩ := (HCh.out V HBWV.out).at (t % m2) (Nat.mod_lt _ (by omega))
      generalize ch.getD (t % m2) false = cb at *
      have r0 : (0 : Int) ≤ (t : Int) % (m2 : Int) := Int.emod_nonneg _ (by omega)
      have r1 : (t : Int) % (m2 : Int) < (m2 : Int) := Int.emod_lt_of_pos _ (by omega)
      cases cb with
      | true =>
        go_wp2_with fail
        rw [show ((i : Int) + 1) = ((i + 1 : Nat) : Int) from by omega, show ((t : Int) + 1) = ((t + 1 : Nat) : Int) from by omega]
        exact HK.out _ (B :: rs) y (t + 1) (i + 1) s2 _ rfl rfl hlt HAy.out (by omega) HBwV.out HMkV.out
      | false =>
        go_wp2_with fail
        rw [show ((i : Int) + 1) = ((i + 1 : Nat) : Int) from by omega, show ((t : Int) + 1) = ((t + 1 : Nat) : Int) from by omega]
        exact HK.out _ (B :: rs) x (t + 1) (i + 1) s2 _ rfl rfl hlt HAx.out (by omega) HBwV.out HMkV.out
    case stop =>
      rintro cd pre V hpre h
      exact h.elim
end Hgt
end Go.Proofs.YteingehdkpfpcaaDoor
