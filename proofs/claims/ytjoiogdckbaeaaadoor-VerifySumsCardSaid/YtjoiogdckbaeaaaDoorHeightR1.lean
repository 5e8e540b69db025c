/- The document's own answers: the heights. (Made by tools/gen_heightr1.py.) -/
import Derived.Test.YtjoiogdckbaeaaaDoorCodeOwn
import Derived.Test.YtjoiogdckbaeaaaDoorCodeRTG
import Derived.Test.YtjoiogdckbaeaaaDoorFlowR1
import Derived.Test.YtjoiogdckbaeaaaDoorFlowR3
import Derived.Test.YtjoiogdckbaeaaaDoorHeightM
import Derived.Test.YtjoiogdckbaeaaaDoorRightsPosts
namespace Go.Proofs.YtjoiogdckbaeaaaDoor
open Go.ChangeShapes Go.WideShapes Go.ChangeAt Go.RowKit
namespace Hgt
open Isa Flw
set_option linter.unusedVariables false
set_option linter.unusedSimpArgs false
theorem infoNn : (Tryd.prog.info? 3).map (fun i => (i.zero, i.size, i.bytes)) = some (some (.int .i64 0), 1, 8) := by kernel_rfl
/-- how many of a block's first n bools are false -/
def fln (n : Nat) : Option Obj → Nat
  | some (.cells cs _ _) => ((cs.toList.take n).map isF).sum
  | _ => 0
theorem fls_list : ∀ l : List Bool, ((bls l).map isF).sum = fcount l
  | [] => rfl
  | b :: r => by
    have := fls_list r
    unfold bls at this ⊢
    simp only [List.map_cons, List.sum_cons, fcount]
    rw [this]
    rfl
theorem fln_row {S g cap n : Nat} {l : List Bool} {w : World} (h : BoolO S g cap n l w) : fln n (w.heap[g]?) = fcount l := by
  rcases h.2 with ⟨e, _⟩ | ⟨g', cap', cur, e, _, hh, _, _, _, ht⟩
  · cases e
  · simp only [Value.slice.injEq, Option.some.injEq, Addr.mk.injEq, and_true, true_and] at e
    obtain ⟨rfl, rfl⟩ := e
    rw [hh]
    show ((cur.toList.take n).map isF).sum = _
    rw [Nat.mul_one] at ht
    rw [ht]
    exact fls_list l
set_option maxRecDepth 100000 in
set_option maxHeartbeats 12800000 in
theorem rheights_any (l : List Iv) (a : Option Addr) (n c : Nat) (most : Int) (w : World) (h : IRow w a n l) : Calls Tryd.prog 19 #[.slice a n c, .int .i64 most] w fun e w' =>
    ∃ v, e = .returned (.tuple #[v, .int .i64 ((htA l most).2.1 : Nat), .int .i64 (htA l most).2.2]) ∧ w'.ownsRow w.heap.size 3 1 v (htA l most).1.length (ints (htA l most).1) ∧ Below w.heap.size w w' := by
  have hln : l.length = n := h.1
  by_cases hm0 : most < 0
  · have HR : Hid (htA l most = ([], 0, 5)) := by show _ = _; unfold htA; rw [if_pos (.inl hm0)]
    have hd : decide (most < 0) = true := decide_eq_true hm0
    clear h hm0
    go_enter Tryd.func19, Tryd.ntmps19
    go_wp2_with fail
    refine bodyPost_ret (v := .tuple #[.slice none 0 0, .int .i64 0, .int .i64 5]) (by simp [results, Tryd.f19, go_sem]) rfl ?_
    rw [HR.out]
    exact ⟨_, rfl, World.ownsRow_nil _ _ _ _, Below.refl _ _⟩
  have hd1 : decide (most < 0) = false := decide_eq_false hm0
  by_cases hm64 : 64 < most
  · have HR : Hid (htA l most = ([], 0, 5)) := by show _ = _; unfold htA; rw [if_pos (.inr hm64)]
    have hd : decide (64 < most) = true := decide_eq_true hm64
    clear h hm0 hm64
    go_enter Tryd.func19, Tryd.ntmps19
    go_wp2_with fail
    refine bodyPost_ret (v := .tuple #[.slice none 0 0, .int .i64 0, .int .i64 5]) (by simp [results, Tryd.f19, go_sem]) rfl ?_
    rw [HR.out]
    exact ⟨_, rfl, World.ownsRow_nil _ _ _ _, Below.refl _ _⟩
  have hd2 : decide (64 < most) = false := decide_eq_false hm64
  have HCk := Lib.hid (rcheck_any l a n c w h)
  by_cases hE : chkE l = 0
  case neg =>
    have HR : Hid (htA l most = ([], chkN l, chkE l)) := by show _ = _; unfold htA; rw [if_neg (by omega), if_pos hE]
    have hne : (chkE l != 0) = true := by simpa using hE
    clear h hm0 hm64 hE
    generalize chkE l = E at *
    generalize chkN l = N at *
    go_enter Tryd.func19, Tryd.ntmps19
    go_wp2_with fail
    refine HCk.out.mono ?_
    rintro e w1 ⟨rfl, hb1⟩
    go_wp2_with fail
    refine bodyPost_ret (v := .tuple #[.slice none 0 0, .int .i64 (N : Int), .int .i64 E]) (by simp [results, Tryd.f19, go_sem]) rfl ?_
    rw [HR.out]
    exact ⟨_, rfl, World.ownsRow_nil _ _ _ _, hb1⟩
  have hf := fine_of hE
  have HR : Hid (htA l most = htGo l most (n + 1) (H0 l) (D0 l)) := by show _ = _; unfold htA; rw [if_neg (by omega), if_neg (by simpa using hE), hln]
  have hn16 : n ≤ 16384 := by have := hf.most; omega
  have hn0 : 0 < n := by have := hf.some; omega
  have HL := Lib.hid hln
  have HA := Lib.hid (fun W (hb : Below w.heap.size w W) k (hk : k < n) => (h.below hb (Nat.le_refl _)).at k hk)
  have HBe := Lib.hid (fun W (hb : Below w.heap.size w W) k (hk : k < n) => rbehind_any l a n c (by omega) k hk W (h.below hb (Nat.le_refl _)))
  have HMx := Lib.hid (fun (k : Nat) (hk : k < n) m (hm : m ∈ behL l k) => beh_lt hf h.2.1 (by omega) hm)
  have HSt := Lib.hid (fun H D (hM : Mid l most H D) n hn h0 hd hu ho he => mid_step (n := n) hf h.2.1 hM hn h0 hd hu (givesI_in _).1 ho he)
  have HM0 := Lib.hid (mid_start (most := most) hf)
  have HW := Lib.hid h.2.1
  have hc0 : chkN l = 0 := (chk_of hf).2
  rw [hE, hc0] at HCk
  have hmm0 : 0 ≤ most := by omega
  have hmm1 : most ≤ 64 := by omega
  clear h hf hln hE hm0 hm64 hc0
  go_enter Tryd.func19, Tryd.ntmps19
  go_wp2_with fail
  refine HCk.out.mono ?_
  rintro e w1 ⟨rfl, hb1⟩
  have HB1 := Lib.hid hb1
  clear hb1 HCk
  go_wp2_with fail
  clear hd1 hd2
  go_loopw [9, 10, 11] (fun v d i wr => ∃ k : Nat, k ≤ n ∧ i = .int .i64 k ∧ wr.ownsRow w.heap.size 3 1 v k (ints (List.replicate k (-1))) ∧ wr.ownsRow w.heap.size 4 1 d k (bls (List.replicate k false)) ∧ Below w.heap.size w wr) (fun _ _ i _ => n - (intOf i).toNat)
  case atStart => exact ⟨0, by omega, rfl, World.ownsRow_nil _ _ _ _, World.ownsRow_nil _ _ _ _, HB1.out⟩
  case round =>
    obtain ⟨k, hk, rfl, hv, hdn, hbel⟩ := hrel
    have HV := Lib.hid hv
    have HDn := Lib.hid hdn
    have HB := Lib.hid hbel
    obtain ⟨va, vc, rfl, _, _⟩ := own_shape hv
    obtain ⟨da, dc, rfl, _, _⟩ := own_shape hdn
    clear hv hdn hbel
    by_cases hlt : k < n
    · have hd : decide ((k : Int) < (n : Int)) = true := decide_eq_true (by omega)
      obtain ⟨g, cap, w2, hap, ho2, hb2, hk2⟩ := app_keep Tryd.underlying58 infoNn rfl (by decide) (by decide) HV.out HB.out.size (by omega) [.int .i64 (-1)] rfl (by intro u hu; simp at hu; subst hu; rfl) 58
      have hD2 := hk2 _ _ _ _ _ _ HDn.out (by decide)
      have HB2 := Lib.hid (HB.out.trans hb2)
      obtain ⟨g', cap', w3, hap3, ho3, hb3, hk3⟩ := app_keep Tryd.underlying63 infoBo rfl (by decide) (by decide) hD2 HB2.out.size (by omega) [.bool false] rfl (by intro u hu; simp at hu; subst hu; rfl) 63
      have HV3 := Lib.hid (own_off (hk3 _ _ _ _ _ _ ho2 (by decide)) (show _ = ints (List.replicate (k + 1) (-1)) from by rw [List.replicate_succ']; unfold ints; rw [List.map_append]; rfl))
      have HD3 := Lib.hid (own_off ho3 (show _ = bls (List.replicate (k + 1) false) from by rw [List.replicate_succ']; unfold bls; rw [List.map_append]; rfl))
      have HB3 := Lib.hid (HB2.out.trans hb3)
      clear hk2 hk3 ho2 ho3 hb2 hb3 hD2 HV HDn HB HB2
      go_upto_region 12 with (at_builtin; refine wpList_append_run rfl (.tmp 37) (.tmp 38) 58 58 rfl _ _ _ w2 58 rfl rfl rfl hap ?_)
      clear hap
      go_wp2_with (at_builtin; refine wpList_append_run rfl (.tmp 40) (.tmp 41) 63 63 rfl _ _ _ w3 63 rfl rfl rfl hap3 ?_)
      exact ⟨⟨k + 1, by omega, by simp, HV3.out, HD3.out, HB3.out⟩, by simp [intOf]; omega⟩
    · obtain rfl : k = n := by omega
      have hd : decide ((k : Int) < (k : Int)) = false := decide_eq_false (by omega)
      obtain ⟨g, cap, hg1, _, _⟩ := own_some HV.out hn0
      obtain ⟨g2, cap2, hg2, _, _⟩ := own_some HDn.out hn0
      injection hg1 with q1 q2 q3
      injection hg2 with q4 q5 q6
      subst q1 q3 q4 q6
      clear q2 q5
      have HI0 : Hid (NumO w.heap.size g vc k (List.replicate k (-1)) wr) := HV.out
      have HD0 : Hid (BoolO w.heap.size g2 dc k (List.replicate k false) wr) := HDn.out
      clear HV HDn hlt
      obtain ⟨n, hnk⟩ : ∃ n, n = k := ⟨_, rfl⟩
      subst hnk
      have q0 := HI0.out.at hn0
      have f0 := HI0.out.free 0
      have HI1 := Lib.hid (HI0.out.set 0 0)
      have HD1 := Lib.hid (HD0.out.other HI0.out 0 (.int .i64 0))
      have HB1 := Lib.hid (HB.out.setCell (p := ⟨g, 0, none⟩) HI0.out.ge.1 (.int .i64 0))
      have e1 : (List.replicate n (-1 : Int)).set 0 0 = H0 l := by unfold H0; rw [HL.out]
      have e2 : List.replicate n false = D0 l := by unfold D0; rw [HL.out]
      rw [e1] at HI1
      rw [e2] at HD1
      have HG0 : Hid (htGo l most (fcount (D0 l) + 1) (H0 l) (D0 l) = htA l most) := by
        show _ = _
        rw [HR.out, ← e2, fcount_rep]
      have HHi : Hid (∀ j, -1 ≤ (H0 l).getD j 0 ∧ (H0 l).getD j 0 ≤ 64) := fun j => by
        rw [← e1, getDI_set (by simpa using hn0)]
        split
        · omega
        · rw [List.getD_eq_getElem?_getD, List.getElem?_replicate]
          split <;> simp
      have n0 : (0 : Int) < n := by omega
      clear HI0 HD0 HB e1 e2 HR
      generalize (List.replicate n (-1 : Int)).getD 0 0 = z0 at *
      go_upto_region 14 with fail
      generalize wr.setCell ⟨g, 0, none⟩ (.int .i64 0) = w2 at *
      generalize H0 l = HH0 at *
      generalize D0 l = DD0 at *
      generalize vc = cap at *
      generalize dc = cap2 at *
      clear q0 f0 hd
      obtain ⟨wq, hwq⟩ : ∃ wq : World, wq = wr := ⟨_, rfl⟩
      subst hwq
      go_loopw [12] (fun _ wr => ∃ (H : List Int) (D : List Bool), NumO w.heap.size g cap n H wr ∧ BoolO w.heap.size g2 cap2 n D wr ∧ Mid l most H D ∧ (∀ j, -1 ≤ H.getD j 0 ∧ H.getD j 0 ≤ 64) ∧ htGo l most (fcount D + 1) H D = htA l most ∧ Below w.heap.size w wr) (fun _ wr => fln n (wr.heap[g2]?))
      case atStart => exact ⟨HH0, DD0, HI1.out, HD1.out, HM0.out, HHi.out, HG0.out, HB1.out⟩
      case round =>
        clear HI1 HD1 HM0 HHi HG0 HB1
        obtain ⟨H, D, hio, hbo, hmid, hhi, hgo, hbel⟩ := hrel
        have HI := Lib.hid hio
        have HD := Lib.hid hbo
        have HM := Lib.hid hmid
        have HG := Lib.hid hgo
        have HB := Lib.hid hbel
        have HFl := Lib.hid (fln_row HD.out)
        clear hio hbo hmid hgo hbel
        obtain ⟨wo, hwo⟩ : ∃ wo : World, wo = wr := ⟨_, rfl⟩
        subst hwo
        go_wp2_with fail
        go_loopw [12] (fun i wr => ∃ s : Nat, s ≤ n ∧ i = .int .i64 s ∧ (∀ x, x < s → nextB H D x = false) ∧ wr = wo) (fun i _ => n - (intOf i).toNat)
        case atStart => exact ⟨0, by omega, rfl, fun x hx => by omega, rfl⟩
        case round =>
          obtain ⟨s, hs, rfl, hno, rfl⟩ := hrel
          have HNo := Lib.hid hno
          clear hno
          by_cases hst : s < n
          · have hd : decide ((s : Int) < (n : Int)) = true := decide_eq_true (by omega)
            have s0 : (0 : Int) ≤ s := by omega
            have s1 : (s : Int) < n := by omega
            have sne : ((s : Int) == (n : Int)) = false := by simp; omega
            have qh := HI.out.at hst
            have qd := HD.out.at hst
            have hhb := hhi s
            have HN2 : Hid (nextB H D s = false → ∀ x, x < s + 1 → nextB H D x = false) := fun h x hx => by
              by_cases e : x = s
              · rw [e]; exact h
              · exact HNo.out x (by omega)
            by_cases hneg : H.getD s 0 < 0
            · have e1 : decide (H.getD s 0 < 0) = true := decide_eq_true hneg
              have Hn := Lib.hid (HN2.out (by unfold nextB; rw [decide_eq_false (by omega)]; rfl))
              clear HNo HN2 hneg hhb qd
              generalize H.getD s 0 = hv at *
              go_wp2_with fail
              exact ⟨⟨s + 1, by omega, by simp, Hn.out, trivial⟩, by simp [intOf]; omega⟩
            · have e1 : decide (H.getD s 0 < 0) = false := decide_eq_false hneg
              cases hds : D.getD s false with
              | true =>
                have Hn := Lib.hid (HN2.out (by unfold nextB; rw [hds]; simp))
                rw [hds] at qd
                clear HNo HN2 hneg hhb hds
                generalize H.getD s 0 = hv at *
                go_wp2_with fail
                exact ⟨⟨s + 1, by omega, by simp, Hn.out, trivial⟩, by simp [intOf]; omega⟩
              | false =>
                have hnx : nextN l H D = s := by
                  unfold nextN
                  rw [HL.out]
                  exact first_at hst HNo.out (by unfold nextB; rw [hds, decide_eq_true (by omega)]; rfl)
                have hsl : s < l.length := by rw [HL.out]; exact hst
                have hgo := HG.out
                have HI4 := Lib.hid (HI.out.other HD.out s (.bool true))
                have HD4 := Lib.hid (HD.out.set s true)
                have HB4 := Lib.hid (HB.out.setCell (p := ⟨g2, s, none⟩) HD.out.ge.1 (.bool true))
                obtain ⟨b, off, rfl, hc, hw⟩ := HA.out _ HB4.out s hst
                obtain ⟨c0, c1, c2, c3⟩ := hc
                have HTk := Lib.hid (fun W => rtakes_any (l.getD s iz).op hw.op.1 hw.op.2 W)
                have HGv := Lib.hid (fun W => rgives_any (l.getD s iz).op hw.op.1 hw.op.2 W)
                have htk := takesI_in (l.getD s iz).op
                have hgv := givesI_in (l.getD s iz).op
                have HU : Hid (H.getD s 0 - takesI (l.getD s iz).op < 0 → htA l most = ([], s, 121)) := fun q => hgo.symm.trans (go_under hnx hsl q)
                have HO : Hid (¬ H.getD s 0 - takesI (l.getD s iz).op < 0 → most < H.getD s 0 - takesI (l.getD s iz).op + givesI (l.getD s iz).op → htA l most = ([], s, 122)) := fun q1 q2 => hgo.symm.trans (go_over hnx hsl q1 q2)
                have HH : Hid (¬ H.getD s 0 - takesI (l.getD s iz).op < 0 → ¬ most < H.getD s 0 - takesI (l.getD s iz).op + givesI (l.getD s iz).op → ∀ p, (push (H.getD s 0 - takesI (l.getD s iz).op + givesI (l.getD s iz).op) (behL l s) H).2 = some p → htA l most = ([], p, 120)) := fun q1 q2 p q3 => hgo.symm.trans (go_height hnx hsl q1 q2 q3)
                have HFd := Lib.hid (fcount_down (by rw [HD.out.len]; exact hst) hds)
                have HNext : Hid (∀ H', push (H.getD s 0 - takesI (l.getD s iz).op + givesI (l.getD s iz).op) (behL l s) H = (H', none) → ¬ H.getD s 0 - takesI (l.getD s iz).op < 0 → ¬ most < H.getD s 0 - takesI (l.getD s iz).op + givesI (l.getD s iz).op → Mid l most H' (D.set s true) ∧ htGo l most (fcount (D.set s true) + 1) H' (D.set s true) = htA l most) := fun H' hp q1 q2 => by
                  have hst2 := HSt.out H D HM.out s hsl (by omega) hds (by have q : ¬ H.getD s 0 - tkL l s < 0 := q1; omega) (by have q : ¬ most < H.getD s 0 - tkL l s + gvL l s := q2; omega) (by show (push _ _ _).2 = _; unfold tkL gvL; rw [hp])
                  unfold tkL gvL at hst2
                  rw [hp] at hst2
                  refine ⟨hst2.1, ?_⟩
                  rw [← hgo, ← HFd.out]
                  exact (go_next hnx hsl q1 q2 hp).symm
                have HBh := Lib.hid (fun W (hb : Below w.heap.size w W) => HBe.out W hb s hst)
                have fd := HD.out.free s
                rw [hds] at qd
                have hwd : IntKind.i64.wrap (H.getD s 0 - takesI (l.getD s iz).op) = H.getD s 0 - takesI (l.getD s iz).op := by
                  generalize takesI (l.getD s iz).op = tk at *
                  generalize H.getD s 0 = hs at *
                  simp [IntKind.wrap, IntKind.bits, IntKind.signed]; omega
                clear HNo HN2 hnx hsl hgo hw c1 c2 c3 HI HD HB HA HG HM HSt HBe
                have hsn := hst
                generalize takesI (l.getD s iz).op = tk at *
                generalize givesI (l.getD s iz).op = gv at *
                obtain ⟨hs, hhs⟩ : ∃ hs, H.getD s 0 = hs := ⟨_, rfl⟩
                have HHs := Lib.hid hhs
                rw [hhs] at HU HO HH HNext hwd hhb e1 hneg
                clear hhs
                generalize l.getD s iz = x at *
                obtain ⟨op, ia, ib, ic⟩ := x
                simp only at *
                have qh4 := HI4.out.at hst
                rw [show H.getD s 0 = hs from HHs.out] at qh4 qh
                go_upto_region 20 with fail
                generalize wr.setCell ⟨g2, s, none⟩ (.bool true) = w4 at *
                clear qd fd e1 sne hd hneg hds qh
                have hE := Posts.ext_rel
                refine (wpIn_wide (n := 0)).1 (Posts.wpIn_region_tail hE 11 0 (Posts.At [Posts.is (.slice (some ⟨g, 0, none⟩) n cap), Posts.is (.int .i64 (s : Int)), Posts.is (.pointer (some ⟨g, s, none⟩)), Posts.is (.int .i64 hs), Posts.is (.slice (some ⟨b, off, none⟩) n c), Posts.is (.int .i64 (s : Int)), Posts.is (.pointer (some ⟨b, off + s * 4, none⟩)), Posts.is (.pointer (some ⟨b, off + s * 4, none⟩)), Posts.is (.int .u8 op), Posts.is (.int .i64 tk), Posts.is (.int .i64 (hs - tk))]) (fun _ _ => True) (by kernel_rfl) (by decide) (by kernel_rfl) (by kernel_rfl) (by kernel_rfl)
                  (Posts.stable_at _ (by repeat' (first | exact trivial | (refine And.intro ?_ ?_) | exact Posts.is_stable _ | exact Posts.on_stable _ _ | assumption))) trivial ?_ ?_)
                · refine ⟨?_, ?_, ?_, ?_, ?_, ?_, ?_, ?_, ?_, ?_, ?_, trivial⟩
                  · intro a X hX hS hD hJ hU
                    have z0 := (World.cell?_of_block (Posts.Ext.blk hX _ (World.block_lt_of_cell? _ _ qh4))).trans qh4
                    have z1 := (World.cell?_of_block (Posts.Ext.blk hX _ (World.block_lt_of_cell? _ _ c0))).trans c0
                    have d9 := Posts.slot (show a.eval (.tmp 9) = .slice (some ⟨g, 0, none⟩) n cap from hS.other 9 rfl)
                    exact Posts.op_value (fun _ => trivial) rfl rfl (by intro c h; cases h) rfl (by rw [hS.size]; simp) (v := .slice (some ⟨g, 0, none⟩) n cap) (by simp [execOp, d9,  go_sem, z0, z1, hwd, s0, s1, hsn]) rfl (hE.refl _) trivial
                  · intro a X hX hS hD hJ hU
                    have z0 := (World.cell?_of_block (Posts.Ext.blk hX _ (World.block_lt_of_cell? _ _ qh4))).trans qh4
                    have z1 := (World.cell?_of_block (Posts.Ext.blk hX _ (World.block_lt_of_cell? _ _ c0))).trans c0
                    have d12 := Posts.slot (show a.eval (.tmp 12) = .int .i64 (s : Int) from hS.other 12 rfl)
                    exact Posts.op_value (fun _ => trivial) rfl rfl (by intro c h; cases h) rfl (by rw [hS.size]; simp) (v := .int .i64 (s : Int)) (by simp [execOp, d12,  go_sem, z0, z1, hwd, s0, s1, hsn]) rfl (hE.refl _) trivial
                  · intro a X hX hS hD hJ hU
                    have z0 := (World.cell?_of_block (Posts.Ext.blk hX _ (World.block_lt_of_cell? _ _ qh4))).trans qh4
                    have z1 := (World.cell?_of_block (Posts.Ext.blk hX _ (World.block_lt_of_cell? _ _ c0))).trans c0
                    have d72 := Posts.slot (show a.eval (.tmp 72) = .slice (some ⟨g, 0, none⟩) n cap from hD.1)
                    have d73 := Posts.slot (show a.eval (.tmp 73) = .int .i64 (s : Int) from hD.2.1)
                    exact Posts.op_value (fun _ => trivial) rfl rfl (by intro c h; cases h) rfl (by rw [hS.size]; simp) (v := .pointer (some ⟨g, s, none⟩)) (by simp [execOp, d72, d73,  go_sem, z0, z1, hwd, s0, s1, hsn]) rfl (hE.refl _) trivial
                  · intro a X hX hS hD hJ hU
                    have z0 := (World.cell?_of_block (Posts.Ext.blk hX _ (World.block_lt_of_cell? _ _ qh4))).trans qh4
                    have z1 := (World.cell?_of_block (Posts.Ext.blk hX _ (World.block_lt_of_cell? _ _ c0))).trans c0
                    have d74 := Posts.slot (show a.eval (.tmp 74) = .pointer (some ⟨g, s, none⟩) from hD.1)
                    exact Posts.op_value (fun _ => trivial) rfl rfl (by intro c h; cases h) rfl (by rw [hS.size]; simp) (v := .int .i64 hs) (by simp [execOp, d74,  go_sem, z0, z1, hwd, s0, s1, hsn]) rfl (hE.refl _) trivial
                  · intro a X hX hS hD hJ hU
                    have z0 := (World.cell?_of_block (Posts.Ext.blk hX _ (World.block_lt_of_cell? _ _ qh4))).trans qh4
                    have z1 := (World.cell?_of_block (Posts.Ext.blk hX _ (World.block_lt_of_cell? _ _ c0))).trans c0
                    have d0 := Posts.slot (show a.eval (.tmp 0) = .slice (some ⟨b, off, none⟩) n c from hS.other 0 rfl)
                    exact Posts.op_value (fun _ => trivial) rfl rfl (by intro c h; cases h) rfl (by rw [hS.size]; simp) (v := .slice (some ⟨b, off, none⟩) n c) (by simp [execOp, d0,  go_sem, z0, z1, hwd, s0, s1, hsn]) rfl (hE.refl _) trivial
                  · intro a X hX hS hD hJ hU
                    have z0 := (World.cell?_of_block (Posts.Ext.blk hX _ (World.block_lt_of_cell? _ _ qh4))).trans qh4
                    have z1 := (World.cell?_of_block (Posts.Ext.blk hX _ (World.block_lt_of_cell? _ _ c0))).trans c0
                    have d12 := Posts.slot (show a.eval (.tmp 12) = .int .i64 (s : Int) from hS.other 12 rfl)
                    exact Posts.op_value (fun _ => trivial) rfl rfl (by intro c h; cases h) rfl (by rw [hS.size]; simp) (v := .int .i64 (s : Int)) (by simp [execOp, d12,  go_sem, z0, z1, hwd, s0, s1, hsn]) rfl (hE.refl _) trivial
                  · intro a X hX hS hD hJ hU
                    have z0 := (World.cell?_of_block (Posts.Ext.blk hX _ (World.block_lt_of_cell? _ _ qh4))).trans qh4
                    have z1 := (World.cell?_of_block (Posts.Ext.blk hX _ (World.block_lt_of_cell? _ _ c0))).trans c0
                    have d76 := Posts.slot (show a.eval (.tmp 76) = .slice (some ⟨b, off, none⟩) n c from hD.1)
                    have d77 := Posts.slot (show a.eval (.tmp 77) = .int .i64 (s : Int) from hD.2.1)
                    exact Posts.op_value (fun _ => trivial) rfl rfl (by intro c h; cases h) rfl (by rw [hS.size]; simp) (v := .pointer (some ⟨b, off + s * 4, none⟩)) (by simp [execOp, d76, d77,  go_sem, z0, z1, hwd, s0, s1, hsn]) rfl (hE.refl _) trivial
                  · intro a X hX hS hD hJ hU
                    have z0 := (World.cell?_of_block (Posts.Ext.blk hX _ (World.block_lt_of_cell? _ _ qh4))).trans qh4
                    have z1 := (World.cell?_of_block (Posts.Ext.blk hX _ (World.block_lt_of_cell? _ _ c0))).trans c0
                    have d78 := Posts.slot (show a.eval (.tmp 78) = .pointer (some ⟨b, off + s * 4, none⟩) from hD.1)
                    exact Posts.op_value (fun _ => trivial) rfl rfl (by intro c h; cases h) rfl (by rw [hS.size]; simp) (v := .pointer (some ⟨b, off + s * 4, none⟩)) (by simp [execOp, d78,  go_sem, z0, z1, hwd, s0, s1, hsn]) rfl (hE.refl _) trivial
                  · intro a X hX hS hD hJ hU
                    have z0 := (World.cell?_of_block (Posts.Ext.blk hX _ (World.block_lt_of_cell? _ _ qh4))).trans qh4
                    have z1 := (World.cell?_of_block (Posts.Ext.blk hX _ (World.block_lt_of_cell? _ _ c0))).trans c0
                    have d79 := Posts.slot (show a.eval (.tmp 79) = .pointer (some ⟨b, off + s * 4, none⟩) from hD.1)
                    exact Posts.op_value (fun _ => trivial) rfl rfl (by intro c h; cases h) rfl (by rw [hS.size]; simp) (v := .int .u8 op) (by simp [execOp, d79,  go_sem, z0, z1, hwd, s0, s1, hsn]) rfl (hE.refl _) trivial
                  · intro a X hX hS hD hJ hU
                    have z0 := (World.cell?_of_block (Posts.Ext.blk hX _ (World.block_lt_of_cell? _ _ qh4))).trans qh4
                    have z1 := (World.cell?_of_block (Posts.Ext.blk hX _ (World.block_lt_of_cell? _ _ c0))).trans c0
                    have d80 := Posts.slot (show a.eval (.tmp 80) = .int .u8 op from hD.1)
                    refine Posts.op_call (fun _ => trivial) rfl rfl rfl (by intro c h; cases h) rfl (by rw [hS.size]; simp) 38 #[.int .u8 op] (by simp [execOp, d80, go_sem]) ?_
                    refine callsIn_wide.2 ((HTk.out X).mono ?_)
                    rintro e Y ⟨rfl, hb⟩
                    exact ⟨_, rfl, rfl, hb, trivial⟩
                  · intro a X hX hS hD hJ hU
                    have z0 := (World.cell?_of_block (Posts.Ext.blk hX _ (World.block_lt_of_cell? _ _ qh4))).trans qh4
                    have z1 := (World.cell?_of_block (Posts.Ext.blk hX _ (World.block_lt_of_cell? _ _ c0))).trans c0
                    have d75 := Posts.slot (show a.eval (.tmp 75) = .int .i64 hs from hD.1)
                    have d81 := Posts.slot (show a.eval (.tmp 81) = .int .i64 tk from hD.2.1)
                    exact Posts.op_value (fun _ => trivial) rfl rfl (by intro c h; cases h) rfl (by rw [hS.size]; simp) (v := .int .i64 (hs - tk)) (by simp [execOp, d75, d81,  go_sem, z0, z1, hwd, s0, s1, hsn]) rfl (hE.refl _) trivial
                · intro a0 Y hY hS hJt hL
                  have p72 := Posts.slot (show a0.eval (.tmp 72) = .slice (some ⟨g, 0, none⟩) n cap from hL.1)
                  have p73 := Posts.slot (show a0.eval (.tmp 73) = .int .i64 (s : Int) from hL.2.1)
                  have p74 := Posts.slot (show a0.eval (.tmp 74) = .pointer (some ⟨g, s, none⟩) from hL.2.2.1)
                  have p75 := Posts.slot (show a0.eval (.tmp 75) = .int .i64 hs from hL.2.2.2.1)
                  have p76 := Posts.slot (show a0.eval (.tmp 76) = .slice (some ⟨b, off, none⟩) n c from hL.2.2.2.2.1)
                  have p77 := Posts.slot (show a0.eval (.tmp 77) = .int .i64 (s : Int) from hL.2.2.2.2.2.1)
                  have p78 := Posts.slot (show a0.eval (.tmp 78) = .pointer (some ⟨b, off + s * 4, none⟩) from hL.2.2.2.2.2.2.1)
                  have p79 := Posts.slot (show a0.eval (.tmp 79) = .pointer (some ⟨b, off + s * 4, none⟩) from hL.2.2.2.2.2.2.2.1)
                  have p80 := Posts.slot (show a0.eval (.tmp 80) = .int .u8 op from hL.2.2.2.2.2.2.2.2.1)
                  have p81 := Posts.slot (show a0.eval (.tmp 81) = .int .i64 tk from hL.2.2.2.2.2.2.2.2.2.1)
                  have p82 := Posts.slot (show a0.eval (.tmp 82) = .int .i64 (hs - tk) from hL.2.2.2.2.2.2.2.2.2.2.1)
                  have hfr := hS.frame [72, 73, 74, 75, 76, 77, 78, 79, 80, 81, 82, 13] (fun t ht => by simp [Posts.isDst] at ht; first | (rcases ht with h | h | h | h | h | h | h | h | h | h | h | h <;> subst h <;> simp) | (subst ht; simp))
                  simp only [List.foldl_cons, List.foldl_nil] at hfr
                  have hdf := hS.defers
                  simp only [Array.getD_eq_getD_getElem?] at hfr
                  clear hL hS
                  generalize a0.tmps[72]?.getD undef = v72 at *
                  generalize a0.tmps[73]?.getD undef = v73 at *
                  generalize a0.tmps[74]?.getD undef = v74 at *
                  generalize a0.tmps[75]?.getD undef = v75 at *
                  generalize a0.tmps[76]?.getD undef = v76 at *
                  generalize a0.tmps[77]?.getD undef = v77 at *
                  generalize a0.tmps[78]?.getD undef = v78 at *
                  generalize a0.tmps[79]?.getD undef = v79 at *
                  generalize a0.tmps[80]?.getD undef = v80 at *
                  generalize a0.tmps[81]?.getD undef = v81 at *
                  generalize a0.tmps[82]?.getD undef = v82 at *
                  generalize a0.tmps[13]?.getD undef = v13 at *
                  obtain rfl := p72
                  obtain rfl := p73
                  obtain rfl := p74
                  obtain rfl := p75
                  obtain rfl := p76
                  obtain rfl := p77
                  obtain rfl := p78
                  obtain rfl := p79
                  obtain rfl := p80
                  obtain rfl := p81
                  obtain rfl := p82
                  obtain ⟨tm, df⟩ := a0
                  simp only [List.setIfInBounds_toArray, List.set_cons_succ, List.set_cons_zero] at hfr hdf
                  subst hfr
                  subst hdf
                  refine Posts.tail_op 11 (by kernel_rfl) (Posts.op_val (fun _ => trivial) rfl rfl (by intro c h; cases h) (v := .int .i64 (hs - tk)) (Y := Y) (by simp [execOp, Act.eval, go_sem]) ?_)
                  refine ⟨by kernel_rfl, ?_⟩
                  simp only [Exit.inBlock, Exit.then]
                  rename_i hK
                  refine hK _ _ ?_
                  have HI5 := Lib.hid (HI4.out.below hY (Nat.le_refl _))
                  have HD5 := Lib.hid (HD4.out.below hY (Nat.le_refl _))
                  have HB5 := Lib.hid (HB4.out.trans (hY.mono HB4.out.size))
                  have d0 := (World.cell?_of_block (Posts.Ext.blk hY _ (World.block_lt_of_cell? _ _ c0))).trans c0
                  clear hY hE hwd qh4 c0 HI4 HD4 HB4 hK
                  by_cases hu : hs - tk < 0
                  · have hd : decide (hs - tk < 0) = true := decide_eq_true hu
                    have HR := Lib.hid (HU.out hu)
                    clear hu HU HO HH HBh HNext
                    go_wp2_with fail
                    refine bodyPost_ret (v := .tuple #[.slice none 0 0, .int .i64 (s : Int), .int .i64 121]) (by simp [results, Tryd.f19, go_sem]) rfl ?_
                    rw [HR.out]
                    exact ⟨_, rfl, World.ownsRow_nil _ _ _ _, HB5.out⟩
                  have hd : decide (hs - tk < 0) = false := decide_eq_false hu
                  have hwg : IntKind.i64.wrap (hs - tk + gv) = hs - tk + gv := by
                    simp [IntKind.wrap, IntKind.bits, IntKind.signed]; omega
                  have HGv2 := Lib.hid (HGv.out Y)
                  go_wp2_with fail
                  refine HGv2.out.mono ?_
                  rintro e w6 ⟨rfl, hb6⟩
                  have HI6 := Lib.hid (HI5.out.below hb6 (Nat.le_refl _))
                  have HD6 := Lib.hid (HD5.out.below hb6 (Nat.le_refl _))
                  have HB6 := Lib.hid (HB5.out.trans (hb6.mono HB5.out.size))
                  have HC := Lib.hid (HBh.out w6 HB6.out)
                  clear hb6 d0 HI5 HD5 HB5 HGv2 HBh hd
                  go_upto_region 24 with fail
                  clear hwg
                  by_cases ho : most < hs - tk + gv
                  · have hd : decide (most < hs - tk + gv) = true := decide_eq_true ho
                    have HR := Lib.hid (HO.out (by omega) (by omega))
                    clear hu ho HU HO HH HC HNext
                    go_wp2_with fail
                    refine bodyPost_ret (v := .tuple #[.slice none 0 0, .int .i64 (s : Int), .int .i64 122]) (by simp [results, Tryd.f19, go_sem]) rfl ?_
                    rw [HR.out]
                    exact ⟨_, rfl, World.ownsRow_nil _ _ _ _, HB6.out⟩
                  have hd : decide (most < hs - tk + gv) = false := decide_eq_false ho
                  have HH2 := Lib.hid (HH.out (by omega) (by omega))
                  have HN2 := Lib.hid (fun H' hp => HNext.out H' hp (by omega) (by omega))
                  have hh0 : 0 ≤ hs - tk + gv := by omega
                  have hh1 : hs - tk + gv ≤ 64 := by omega
                  clear hu ho HU HO HH HNext
                  generalize hs - tk + gv = hh at *
                  go_wp2_with fail
                  refine HC.out.mono ?_
                  rintro e w7 ⟨v, rfl, hnm, hb7⟩
                  obtain ⟨ab, cb, rfl, _, _, hnr, hge⟩ := nums_row hnm
                  have HI7 := Lib.hid (HI6.out.below hb7 (Nat.le_refl _))
                  have HD7 := Lib.hid (HD6.out.below hb7 (Nat.le_refl _))
                  have HB7 := Lib.hid (HB6.out.trans (hb7.mono HB6.out.size))
                  have HNr := Lib.hid hnr
                  have HNe : Hid (∀ b off, ab = some ⟨b, off, none⟩ → b ≠ g) := fun b off e => by
                    have h1 := hge b off e
                    have h2 := HI6.out.ge.2
                    omega
                  have HMt := Lib.hid (HMx.out s hst)
                  have hl2 := beh_len l s
                  clear hnm hb7 hnr hge HC HI6 HD6 HB6 hd
                  generalize hNL : (behL l s).length = m at *
                  have HNL := Lib.hid hNL
                  clear hNL
                  have HP0 : Hid (push hh (behL l s) H = push hh ((behL l s).drop 0) H) := rfl
                  have hhi7 := hhi
                  obtain ⟨wo, hwo⟩ : ∃ wo : World, wo = wr := ⟨_, rfl⟩
                  subst hwo
                  go_wp2_with fail
                  go_loopw [15] (fun i wr => ∃ (j : Nat) (H' : List Int), j ≤ m ∧ i = .int .i64 j ∧ push hh (behL l s) H = push hh ((behL l s).drop j) H' ∧ (∀ j, -1 ≤ H'.getD j 0 ∧ H'.getD j 0 ≤ 64) ∧ NRow wr ab m (behL l s) ∧ NumO w.heap.size g cap n H' wr ∧ BoolO w.heap.size g2 cap2 n (D.set s true) wr ∧ Below w.heap.size w wr) (fun i _ => m - (intOf i).toNat)
                  case atStart => exact ⟨0, H, by omega, rfl, HP0.out, hhi7, HNr.out, HI7.out, HD7.out, HB7.out⟩
                  case round =>
                    clear HP0 HNr HI7 HD7 HB7 hhi7
                    obtain ⟨j, H', hj, rfl, hp, hhi', hnr, hio, hbo, hbel⟩ := hrel
                    have HP := Lib.hid hp
                    have HNr := Lib.hid hnr
                    have HI := Lib.hid hio
                    have HD := Lib.hid hbo
                    have HB := Lib.hid hbel
                    clear hp hnr hio hbo hbel
                    by_cases hjm : j < m
                    · have hd : decide ((j : Int) < (m : Int)) = true := decide_eq_true (by omega)
                      obtain ⟨bv, ov, rfl, hcv⟩ := HNr.out.at j hjm
                      have hdrop : (behL l s).drop j = (behL l s).getD j 0 :: (behL l s).drop (j + 1) := by
                        rw [List.getD_eq_getElem?_getD, List.getElem?_eq_getElem (by rw [HNL.out]; exact hjm)]
                        exact List.drop_eq_getElem_cons _
                      have hpn : (behL l s).getD j 0 < n := by
                        have := HMt.out _ (getD_mem 0 (by rw [HNL.out]; exact hjm))
                        have := HL.out
                        omega
                      have hp2 := HP.out
                      rw [hdrop] at hp2
                      clear hdrop HP
                      generalize (behL l s).getD j 0 = p at *
                      have qp := HI.out.at hpn
                      have hpb := hhi' p
                      have hpc : push hh (p :: (behL l s).drop (j + 1)) H' = if 0 ≤ H'.getD p 0 ∧ H'.getD p 0 ≠ hh then (H', some p) else push hh ((behL l s).drop (j + 1)) (H'.set p hh) := rfl
                      rw [hpc] at hp2
                      have m0 : (0 : Int) ≤ p := by omega
                      have m1 : (p : Int) < n := by omega
                      have j0 : (0 : Int) ≤ j := by omega
                      have j1 : (j : Int) < m := by omega
                      have hbv := HNe.out bv ov rfl
                      have hlH := HI.out.len
                      have hset : ∀ k, (H'.set p hh).getD k 0 = if p = k then hh else H'.getD k 0 := fun k => getDI_set (by omega) k
                      have HHi2 : Hid (∀ k, -1 ≤ (H'.set p hh).getD k 0 ∧ (H'.set p hh).getD k 0 ≤ 64) := fun k => by
                        rw [hset]
                        split
                        · omega
                        · exact hhi' k
                      clear hpc hset hlH hhi'
                      by_cases hc1 : 0 ≤ H'.getD p 0
                      · by_cases hc2 : H'.getD p 0 = hh
                        · have e1 : decide (0 ≤ H'.getD p 0) = true := decide_eq_true hc1
                          have e2 : (H'.getD p 0 != hh) = false := by simpa using hc2
                          rw [if_neg (fun q => q.2 hc2)] at hp2
                          have HP2 := Lib.hid hp2
                          have HI8 := Lib.hid (HI.out.set p hh)
                          have HD8 := Lib.hid (HD.out.other HI.out p (.int .i64 hh))
                          have HN8 := Lib.hid (nrow_set HNr.out (o := g) (fun b off e => HNe.out b off e) p (.int .i64 hh))
                          have HB8 := Lib.hid (HB.out.setCell (p := ⟨g, p, none⟩) HI.out.ge.1 (.int .i64 hh))
                          have fp := HI.out.free p
                          clear hp2 hc1 HI HD HNr HB HH2 hc2
                          generalize H'.getD p 0 = hv at *
                          go_wp2_with fail
                          exact ⟨⟨j + 1, H'.set p hh, by omega, by simp, HP2.out, HHi2.out, HN8.out, HI8.out, HD8.out, HB8.out⟩, by simp [intOf]; omega⟩
                        · have e1 : decide (0 ≤ H'.getD p 0) = true := decide_eq_true hc1
                          have e2 : (H'.getD p 0 != hh) = true := by simpa using hc2
                          rw [if_pos ⟨hc1, hc2⟩] at hp2
                          have HR := Lib.hid (HH2.out p (by rw [hp2]))
                          clear hp2 hc1 hc2
                          generalize H'.getD p 0 = hv at *
                          go_wp2_with fail
                          go_quiet (fail)
                          go_wp2_with fail
                          refine bodyPost_ret (v := .tuple #[.slice none 0 0, .int .i64 (p : Int), .int .i64 120]) (by simp [results, Tryd.f19, go_sem]) rfl ?_
                          rw [HR.out]
                          exact ⟨_, rfl, World.ownsRow_nil _ _ _ _, below_drewN HB.out _⟩
                      · have e1 : decide (0 ≤ H'.getD p 0) = false := decide_eq_false hc1
                        rw [if_neg (fun q => hc1 q.1)] at hp2
                        have HP2 := Lib.hid hp2
                        have HI8 := Lib.hid (HI.out.set p hh)
                        have HD8 := Lib.hid (HD.out.other HI.out p (.int .i64 hh))
                        have HN8 := Lib.hid (nrow_set HNr.out (o := g) (fun b off e => HNe.out b off e) p (.int .i64 hh))
                        have HB8 := Lib.hid (HB.out.setCell (p := ⟨g, p, none⟩) HI.out.ge.1 (.int .i64 hh))
                        have fp := HI.out.free p
                        clear hp2 hc1 HI HD HNr HB HH2
                        generalize H'.getD p 0 = hv at *
                        go_wp2_with fail
                        exact ⟨⟨j + 1, H'.set p hh, by omega, by simp, HP2.out, HHi2.out, HN8.out, HI8.out, HD8.out, HB8.out⟩, by simp [intOf]; omega⟩
                    · obtain rfl : j = m := by omega
                      have hd : decide ((j : Int) < (j : Int)) = false := decide_eq_false (by omega)
                      have HPe : Hid (push hh (behL l s) H = (H', none)) := by
                        have := HP.out
                        rw [List.drop_of_length_le (by rw [HNL.out]; exact Nat.le_refl _)] at this
                        exact this
                      have HNx := Lib.hid (HN2.out H' HPe.out)
                      clear HP hjm
                      go_wp2_with fail
                      refine ⟨⟨H', D.set s true, HI.out, HD.out, HNx.out.1, hhi', HNx.out.2, HB.out⟩, ?_⟩
                      rw [fln_row HD.out, HFl.out]
                      have := HFd.out
                      omega
          · obtain rfl : s = n := by omega
            have hd : decide ((s : Int) < (s : Int)) = false := decide_eq_false (by omega)
            have hself : ((s : Int) == (s : Int)) = true := by simp
            have hnx : nextN l H D = l.length := by
              unfold nextN
              rw [HL.out]
              exact first_none HNo.out
            have HR : Hid (htA l most = (H, 0, 0)) := HG.out.symm.trans (go_end hnx)
            have hlH := HI.out.len
            clear HNo hst hnx HG
            go_wp2_with fail
            refine bodyPost_ret (v := .tuple #[.slice (some ⟨g, 0, none⟩) s cap, .int .i64 0, .int .i64 0]) (by simp [results, Tryd.f19, go_sem]) rfl ?_
            rw [HR.out]
            refine ⟨_, rfl, ?_, HB.out⟩
            have := HI.out
            unfold NumO at this
            simp only
            rw [hlH]
            exact this
end Hgt
end Go.Proofs.YtjoiogdckbaeaaaDoor
