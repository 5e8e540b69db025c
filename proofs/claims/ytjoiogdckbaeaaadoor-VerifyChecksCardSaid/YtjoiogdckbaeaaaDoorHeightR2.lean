/- The document's own answers: the most words. (Made by tools/gen_heightr2.py.) -/
import Derived.Test.YtjoiogdckbaeaaaDoorHeightR1
namespace Go.Proofs.YtjoiogdckbaeaaaDoor
open Go.ChangeShapes Go.WideShapes Go.ChangeAt Go.RowKit
namespace Hgt
open Isa Flw
set_option linter.unusedVariables false
set_option linter.unusedSimpArgs false
theorem ret_i {a b : Int} (h : a = b) : Value.int .i64 a = Value.int .i64 b := by rw [h]
set_option maxRecDepth 100000 in
set_option maxHeartbeats 6400000 in
theorem rmost_any (l : List Iv) (a : Option Addr) (n c : Nat) (most : Int) (w : World) (h : IRow w a n l) : Calls Tryd.prog 23 #[.slice a n c, .int .i64 most] w fun e w' =>
    e = .returned (.tuple #[.int .i64 (mostA l most).1, .int .i64 (mostA l most).2]) ∧ Below w.heap.size w w' := by
  have HH := Lib.hid (rheights_any l a n c most w h)
  have HA := Lib.hid (fun W (hb : Below w.heap.size w W) k (hk : k < n) => (h.below hb (Nat.le_refl _)).at k hk)
  have hln : l.length = n := h.1
  by_cases hE : (htA l most).2.2 = 0
  case neg =>
    have HR : Hid (mostA l most = (0, (htA l most).2.2)) := by show _ = _; unfold mostA; rw [if_neg hE]
    have hne : ((htA l most).2.2 != 0) = true := by simpa using hE
    clear h hE HA
    generalize (htA l most).2.2 = E at *
    generalize (htA l most).2.1 = N at *
    go_enter Tryd.func23, Tryd.ntmps23
    go_wp2_with fail
    refine HH.out.mono ?_
    rintro e w1 ⟨v, rfl, ho, hb1⟩
    obtain ⟨va, vc, rfl, _, _⟩ := own_shape ho
    clear ho HH
    go_wp2_with fail
    refine bodyPost_ret (v := .tuple #[.int .i64 0, .int .i64 E]) (by simp [results, Tryd.f23, go_sem]) rfl ?_
    rw [HR.out]
    exact ⟨rfl, hb1⟩
  obtain ⟨hm0, hm64, hf, _⟩ := htA_go hE
  obtain ⟨hwl, hN⟩ := htA_well h.2.1 hE
  have hn0 : 0 < n := by have := hf.some; omega
  have hn16 : n ≤ 16384 := by have := hf.most; omega
  have HR : Hid (mostA l most = (topL l (htA l most).1 n, 0)) := by show _ = _; unfold mostA; rw [if_pos hE, hln]
  have HLe := Lib.hid (fun k (hk : k < n) => And.intro (fun q => (well_le hf h.2.1 hwl hm0 k (by omega) q).1) (And.intro (hwl.under k (by omega)) (hwl.low k (by omega))))
  have hlen := hwl.len
  rw [hE, hN] at HH
  clear h hE hf hwl hN
  generalize (htA l most).1 = H at *
  have HLn : Hid (H.length = n) := by show _ = _; omega
  rw [HLn.out] at HH
  clear hlen hln
  go_enter Tryd.func23, Tryd.ntmps23
  go_wp2_with fail
  refine HH.out.mono ?_
  rintro e w1 ⟨v, rfl, ho, hb1⟩
  obtain ⟨g, cap, rfl, _, _⟩ := own_some ho hn0
  have HI1 : Hid (NumO w.heap.size g cap n H w1) := ho
  have HB1 := Lib.hid hb1
  clear ho hb1 HH
  go_wp2_with fail
  go_loopw [9, 10] (fun o i wr => ∃ k : Nat, k ≤ n ∧ o = .int .i64 (topL l H k) ∧ i = .int .i64 k ∧ NumO w.heap.size g cap n H wr ∧ Below w.heap.size w wr) (fun _ i _ => n - (intOf i).toNat)
  case atStart => exact ⟨0, by omega, rfl, rfl, HI1.out, HB1.out⟩
  case round =>
    clear HI1 HB1
    obtain ⟨k, hk, rfl, rfl, hio, hbel⟩ := hrel
    have HI := Lib.hid hio
    have HB := Lib.hid hbel
    clear hio hbel
    by_cases hlt : k < n
    · have hd : decide ((k : Int) < (n : Int)) = true := decide_eq_true (by omega)
      have k0 : (0 : Int) ≤ k := by omega
      have k1 : (k : Int) < n := by omega
      have hkn := hlt
      obtain ⟨b, off, rfl, hc, hw⟩ := HA.out wr HB.out k hlt
      obtain ⟨c0, c1, c2, c3⟩ := hc
      have qh := HI.out.at hlt
      have hle := HLe.out k hlt
      have HTop : Hid (topL l H (k + 1) = if H.getD k 0 < 0 then topL l H k else max (max (topL l H k) (H.getD k 0)) (H.getD k 0 - takesI (l.getD k iz).op + givesI (l.getD k iz).op)) := rfl
      by_cases hneg : H.getD k 0 < 0
      · have e1 : decide (H.getD k 0 < 0) = true := decide_eq_true hneg
        have HTo : Hid (topL l H (k + 1) = topL l H k) := by
          show _ = _
          rw [HTop.out, if_pos hneg]
        clear hneg hle HTop hw c1 c2 c3
        generalize topL l H k = o at *
        generalize H.getD k 0 = hk at *
        go_wp2_with fail
        exact ⟨⟨k + 1, by omega, ret_i HTo.out.symm, by simp, HI.out, HB.out⟩, by simp [intOf]; omega⟩
      · have e0 : decide (H.getD k 0 < 0) = false := decide_eq_false hneg
        have HTk := Lib.hid (fun W => rtakes_any (l.getD k iz).op hw.op.1 hw.op.2 W)
        have HGv := Lib.hid (fun W => rgives_any (l.getD k iz).op hw.op.1 hw.op.2 W)
        have htk := takesI_in (l.getD k iz).op
        have hgv := givesI_in (l.getD k iz).op
        have hkb : 0 ≤ H.getD k 0 ∧ H.getD k 0 ≤ 64 := ⟨by omega, by have := hle.1 (by omega); omega⟩
        rw [if_neg hneg] at HTop
        clear hw hle c1 c2 c3 hneg
        generalize takesI (l.getD k iz).op = tk at *
        generalize givesI (l.getD k iz).op = gv at *
        generalize H.getD k 0 = hk at *
        generalize l.getD k iz = x at *
        obtain ⟨op, ia, ib, ic⟩ := x
        simp only at *
        have hwd : IntKind.i64.wrap (hk - tk) = hk - tk := by simp [IntKind.wrap, IntKind.bits, IntKind.signed]; omega
        have hwg : IntKind.i64.wrap (hk - tk + gv) = hk - tk + gv := by simp [IntKind.wrap, IntKind.bits, IntKind.signed]; omega
        obtain ⟨o, ho⟩ : ∃ o, topL l H k = o := ⟨_, rfl⟩
        have HOo := Lib.hid ho
        rw [ho] at HTop ⊢
        clear ho
        go_upto_region 9 with fail
        clear hd e0
        have hE := Posts.ext_rel
        refine (wpIn_wide (n := 0)).1 (Posts.wpIn_region_tail hE 18 0 (Posts.At [Posts.is (.slice (some ⟨g, 0, none⟩) n cap), Posts.is (.int .i64 (k : Int)), Posts.is (.pointer (some ⟨g, k, none⟩)), Posts.is (.int .i64 hk), Posts.is (.slice (some ⟨b, off, none⟩) n c), Posts.is (.int .i64 (k : Int)), Posts.is (.pointer (some ⟨b, off + k * 4, none⟩)), Posts.is (.pointer (some ⟨b, off + k * 4, none⟩)), Posts.is (.int .u8 op), Posts.is (.int .i64 tk), Posts.is (.int .i64 (hk - tk)), Posts.is (.slice (some ⟨b, off, none⟩) n c), Posts.is (.int .i64 (k : Int)), Posts.is (.pointer (some ⟨b, off + k * 4, none⟩)), Posts.is (.pointer (some ⟨b, off + k * 4, none⟩)), Posts.is (.int .u8 op), Posts.is (.int .i64 gv), Posts.is (.int .i64 (hk - tk + gv))]) (fun _ _ => True) (by kernel_rfl) (by decide) (by kernel_rfl) (by kernel_rfl) (by kernel_rfl)
          (Posts.stable_at _ (by repeat' (first | exact trivial | (refine And.intro ?_ ?_) | exact Posts.is_stable _ | exact Posts.on_stable _ _ | assumption))) trivial ?_ ?_)
        · refine ⟨?_, ?_, ?_, ?_, ?_, ?_, ?_, ?_, ?_, ?_, ?_, ?_, ?_, ?_, ?_, ?_, ?_, ?_, trivial⟩
          · intro a X hX hS hD hJ hU
            have z0 := (World.cell?_of_block (Posts.Ext.blk hX _ (World.block_lt_of_cell? _ _ qh))).trans qh
            have z1 := (World.cell?_of_block (Posts.Ext.blk hX _ (World.block_lt_of_cell? _ _ c0))).trans c0
            have d6 := Posts.slot (show a.eval (.tmp 6) = .slice (some ⟨g, 0, none⟩) n cap from hS.other 6 rfl)
            exact Posts.op_value (fun _ => trivial) rfl rfl (by intro c h; cases h) rfl (by rw [hS.size]; simp) (v := .slice (some ⟨g, 0, none⟩) n cap) (by simp [execOp, d6,  go_sem, z0, z1, hwd, hwg, k0, k1, hkn]) rfl (hE.refl _) trivial
          · intro a X hX hS hD hJ hU
            have z0 := (World.cell?_of_block (Posts.Ext.blk hX _ (World.block_lt_of_cell? _ _ qh))).trans qh
            have z1 := (World.cell?_of_block (Posts.Ext.blk hX _ (World.block_lt_of_cell? _ _ c0))).trans c0
            have d10 := Posts.slot (show a.eval (.tmp 10) = .int .i64 (k : Int) from hS.other 10 rfl)
            exact Posts.op_value (fun _ => trivial) rfl rfl (by intro c h; cases h) rfl (by rw [hS.size]; simp) (v := .int .i64 (k : Int)) (by simp [execOp, d10,  go_sem, z0, z1, hwd, hwg, k0, k1, hkn]) rfl (hE.refl _) trivial
          · intro a X hX hS hD hJ hU
            have z0 := (World.cell?_of_block (Posts.Ext.blk hX _ (World.block_lt_of_cell? _ _ qh))).trans qh
            have z1 := (World.cell?_of_block (Posts.Ext.blk hX _ (World.block_lt_of_cell? _ _ c0))).trans c0
            have d33 := Posts.slot (show a.eval (.tmp 33) = .slice (some ⟨g, 0, none⟩) n cap from hD.1)
            have d34 := Posts.slot (show a.eval (.tmp 34) = .int .i64 (k : Int) from hD.2.1)
            exact Posts.op_value (fun _ => trivial) rfl rfl (by intro c h; cases h) rfl (by rw [hS.size]; simp) (v := .pointer (some ⟨g, k, none⟩)) (by simp [execOp, d33, d34,  go_sem, z0, z1, hwd, hwg, k0, k1, hkn]) rfl (hE.refl _) trivial
          · intro a X hX hS hD hJ hU
            have z0 := (World.cell?_of_block (Posts.Ext.blk hX _ (World.block_lt_of_cell? _ _ qh))).trans qh
            have z1 := (World.cell?_of_block (Posts.Ext.blk hX _ (World.block_lt_of_cell? _ _ c0))).trans c0
            have d35 := Posts.slot (show a.eval (.tmp 35) = .pointer (some ⟨g, k, none⟩) from hD.1)
            exact Posts.op_value (fun _ => trivial) rfl rfl (by intro c h; cases h) rfl (by rw [hS.size]; simp) (v := .int .i64 hk) (by simp [execOp, d35,  go_sem, z0, z1, hwd, hwg, k0, k1, hkn]) rfl (hE.refl _) trivial
          · intro a X hX hS hD hJ hU
            have z0 := (World.cell?_of_block (Posts.Ext.blk hX _ (World.block_lt_of_cell? _ _ qh))).trans qh
            have z1 := (World.cell?_of_block (Posts.Ext.blk hX _ (World.block_lt_of_cell? _ _ c0))).trans c0
            have d0 := Posts.slot (show a.eval (.tmp 0) = .slice (some ⟨b, off, none⟩) n c from hS.other 0 rfl)
            exact Posts.op_value (fun _ => trivial) rfl rfl (by intro c h; cases h) rfl (by rw [hS.size]; simp) (v := .slice (some ⟨b, off, none⟩) n c) (by simp [execOp, d0,  go_sem, z0, z1, hwd, hwg, k0, k1, hkn]) rfl (hE.refl _) trivial
          · intro a X hX hS hD hJ hU
            have z0 := (World.cell?_of_block (Posts.Ext.blk hX _ (World.block_lt_of_cell? _ _ qh))).trans qh
            have z1 := (World.cell?_of_block (Posts.Ext.blk hX _ (World.block_lt_of_cell? _ _ c0))).trans c0
            have d10 := Posts.slot (show a.eval (.tmp 10) = .int .i64 (k : Int) from hS.other 10 rfl)
            exact Posts.op_value (fun _ => trivial) rfl rfl (by intro c h; cases h) rfl (by rw [hS.size]; simp) (v := .int .i64 (k : Int)) (by simp [execOp, d10,  go_sem, z0, z1, hwd, hwg, k0, k1, hkn]) rfl (hE.refl _) trivial
          · intro a X hX hS hD hJ hU
            have z0 := (World.cell?_of_block (Posts.Ext.blk hX _ (World.block_lt_of_cell? _ _ qh))).trans qh
            have z1 := (World.cell?_of_block (Posts.Ext.blk hX _ (World.block_lt_of_cell? _ _ c0))).trans c0
            have d37 := Posts.slot (show a.eval (.tmp 37) = .slice (some ⟨b, off, none⟩) n c from hD.1)
            have d38 := Posts.slot (show a.eval (.tmp 38) = .int .i64 (k : Int) from hD.2.1)
            exact Posts.op_value (fun _ => trivial) rfl rfl (by intro c h; cases h) rfl (by rw [hS.size]; simp) (v := .pointer (some ⟨b, off + k * 4, none⟩)) (by simp [execOp, d37, d38,  go_sem, z0, z1, hwd, hwg, k0, k1, hkn]) rfl (hE.refl _) trivial
          · intro a X hX hS hD hJ hU
            have z0 := (World.cell?_of_block (Posts.Ext.blk hX _ (World.block_lt_of_cell? _ _ qh))).trans qh
            have z1 := (World.cell?_of_block (Posts.Ext.blk hX _ (World.block_lt_of_cell? _ _ c0))).trans c0
            have d39 := Posts.slot (show a.eval (.tmp 39) = .pointer (some ⟨b, off + k * 4, none⟩) from hD.1)
            exact Posts.op_value (fun _ => trivial) rfl rfl (by intro c h; cases h) rfl (by rw [hS.size]; simp) (v := .pointer (some ⟨b, off + k * 4, none⟩)) (by simp [execOp, d39,  go_sem, z0, z1, hwd, hwg, k0, k1, hkn]) rfl (hE.refl _) trivial
          · intro a X hX hS hD hJ hU
            have z0 := (World.cell?_of_block (Posts.Ext.blk hX _ (World.block_lt_of_cell? _ _ qh))).trans qh
            have z1 := (World.cell?_of_block (Posts.Ext.blk hX _ (World.block_lt_of_cell? _ _ c0))).trans c0
            have d40 := Posts.slot (show a.eval (.tmp 40) = .pointer (some ⟨b, off + k * 4, none⟩) from hD.1)
            exact Posts.op_value (fun _ => trivial) rfl rfl (by intro c h; cases h) rfl (by rw [hS.size]; simp) (v := .int .u8 op) (by simp [execOp, d40,  go_sem, z0, z1, hwd, hwg, k0, k1, hkn]) rfl (hE.refl _) trivial
          · intro a X hX hS hD hJ hU
            have z0 := (World.cell?_of_block (Posts.Ext.blk hX _ (World.block_lt_of_cell? _ _ qh))).trans qh
            have z1 := (World.cell?_of_block (Posts.Ext.blk hX _ (World.block_lt_of_cell? _ _ c0))).trans c0
            have d41 := Posts.slot (show a.eval (.tmp 41) = .int .u8 op from hD.1)
            refine Posts.op_call (fun _ => trivial) rfl rfl rfl (by intro c h; cases h) rfl (by rw [hS.size]; simp) 38 #[.int .u8 op] (by simp [execOp, d41, go_sem]) ?_
            refine callsIn_wide.2 ((HTk.out X).mono ?_)
            rintro e Y ⟨rfl, hb⟩
            exact ⟨_, rfl, rfl, hb, trivial⟩
          · intro a X hX hS hD hJ hU
            have z0 := (World.cell?_of_block (Posts.Ext.blk hX _ (World.block_lt_of_cell? _ _ qh))).trans qh
            have z1 := (World.cell?_of_block (Posts.Ext.blk hX _ (World.block_lt_of_cell? _ _ c0))).trans c0
            have d36 := Posts.slot (show a.eval (.tmp 36) = .int .i64 hk from hD.1)
            have d42 := Posts.slot (show a.eval (.tmp 42) = .int .i64 tk from hD.2.1)
            exact Posts.op_value (fun _ => trivial) rfl rfl (by intro c h; cases h) rfl (by rw [hS.size]; simp) (v := .int .i64 (hk - tk)) (by simp [execOp, d36, d42,  go_sem, z0, z1, hwd, hwg, k0, k1, hkn]) rfl (hE.refl _) trivial
          · intro a X hX hS hD hJ hU
            have z0 := (World.cell?_of_block (Posts.Ext.blk hX _ (World.block_lt_of_cell? _ _ qh))).trans qh
            have z1 := (World.cell?_of_block (Posts.Ext.blk hX _ (World.block_lt_of_cell? _ _ c0))).trans c0
            have d0 := Posts.slot (show a.eval (.tmp 0) = .slice (some ⟨b, off, none⟩) n c from hS.other 0 rfl)
            exact Posts.op_value (fun _ => trivial) rfl rfl (by intro c h; cases h) rfl (by rw [hS.size]; simp) (v := .slice (some ⟨b, off, none⟩) n c) (by simp [execOp, d0,  go_sem, z0, z1, hwd, hwg, k0, k1, hkn]) rfl (hE.refl _) trivial
          · intro a X hX hS hD hJ hU
            have z0 := (World.cell?_of_block (Posts.Ext.blk hX _ (World.block_lt_of_cell? _ _ qh))).trans qh
            have z1 := (World.cell?_of_block (Posts.Ext.blk hX _ (World.block_lt_of_cell? _ _ c0))).trans c0
            have d10 := Posts.slot (show a.eval (.tmp 10) = .int .i64 (k : Int) from hS.other 10 rfl)
            exact Posts.op_value (fun _ => trivial) rfl rfl (by intro c h; cases h) rfl (by rw [hS.size]; simp) (v := .int .i64 (k : Int)) (by simp [execOp, d10,  go_sem, z0, z1, hwd, hwg, k0, k1, hkn]) rfl (hE.refl _) trivial
          · intro a X hX hS hD hJ hU
            have z0 := (World.cell?_of_block (Posts.Ext.blk hX _ (World.block_lt_of_cell? _ _ qh))).trans qh
            have z1 := (World.cell?_of_block (Posts.Ext.blk hX _ (World.block_lt_of_cell? _ _ c0))).trans c0
            have d44 := Posts.slot (show a.eval (.tmp 44) = .slice (some ⟨b, off, none⟩) n c from hD.1)
            have d45 := Posts.slot (show a.eval (.tmp 45) = .int .i64 (k : Int) from hD.2.1)
            exact Posts.op_value (fun _ => trivial) rfl rfl (by intro c h; cases h) rfl (by rw [hS.size]; simp) (v := .pointer (some ⟨b, off + k * 4, none⟩)) (by simp [execOp, d44, d45,  go_sem, z0, z1, hwd, hwg, k0, k1, hkn]) rfl (hE.refl _) trivial
          · intro a X hX hS hD hJ hU
            have z0 := (World.cell?_of_block (Posts.Ext.blk hX _ (World.block_lt_of_cell? _ _ qh))).trans qh
            have z1 := (World.cell?_of_block (Posts.Ext.blk hX _ (World.block_lt_of_cell? _ _ c0))).trans c0
            have d46 := Posts.slot (show a.eval (.tmp 46) = .pointer (some ⟨b, off + k * 4, none⟩) from hD.1)
            exact Posts.op_value (fun _ => trivial) rfl rfl (by intro c h; cases h) rfl (by rw [hS.size]; simp) (v := .pointer (some ⟨b, off + k * 4, none⟩)) (by simp [execOp, d46,  go_sem, z0, z1, hwd, hwg, k0, k1, hkn]) rfl (hE.refl _) trivial
          · intro a X hX hS hD hJ hU
            have z0 := (World.cell?_of_block (Posts.Ext.blk hX _ (World.block_lt_of_cell? _ _ qh))).trans qh
            have z1 := (World.cell?_of_block (Posts.Ext.blk hX _ (World.block_lt_of_cell? _ _ c0))).trans c0
            have d47 := Posts.slot (show a.eval (.tmp 47) = .pointer (some ⟨b, off + k * 4, none⟩) from hD.1)
            exact Posts.op_value (fun _ => trivial) rfl rfl (by intro c h; cases h) rfl (by rw [hS.size]; simp) (v := .int .u8 op) (by simp [execOp, d47,  go_sem, z0, z1, hwd, hwg, k0, k1, hkn]) rfl (hE.refl _) trivial
          · intro a X hX hS hD hJ hU
            have z0 := (World.cell?_of_block (Posts.Ext.blk hX _ (World.block_lt_of_cell? _ _ qh))).trans qh
            have z1 := (World.cell?_of_block (Posts.Ext.blk hX _ (World.block_lt_of_cell? _ _ c0))).trans c0
            have d48 := Posts.slot (show a.eval (.tmp 48) = .int .u8 op from hD.1)
            refine Posts.op_call (fun _ => trivial) rfl rfl rfl (by intro c h; cases h) rfl (by rw [hS.size]; simp) 39 #[.int .u8 op] (by simp [execOp, d48, go_sem]) ?_
            refine callsIn_wide.2 ((HGv.out X).mono ?_)
            rintro e Y ⟨rfl, hb⟩
            exact ⟨_, rfl, rfl, hb, trivial⟩
          · intro a X hX hS hD hJ hU
            have z0 := (World.cell?_of_block (Posts.Ext.blk hX _ (World.block_lt_of_cell? _ _ qh))).trans qh
            have z1 := (World.cell?_of_block (Posts.Ext.blk hX _ (World.block_lt_of_cell? _ _ c0))).trans c0
            have d43 := Posts.slot (show a.eval (.tmp 43) = .int .i64 (hk - tk) from hD.1)
            have d49 := Posts.slot (show a.eval (.tmp 49) = .int .i64 gv from hD.2.1)
            exact Posts.op_value (fun _ => trivial) rfl rfl (by intro c h; cases h) rfl (by rw [hS.size]; simp) (v := .int .i64 (hk - tk + gv)) (by simp [execOp, d43, d49,  go_sem, z0, z1, hwd, hwg, k0, k1, hkn]) rfl (hE.refl _) trivial
        · intro a0 Y hY hS hJt hL
          have p33 := Posts.slot (show a0.eval (.tmp 33) = .slice (some ⟨g, 0, none⟩) n cap from hL.1)
          have p34 := Posts.slot (show a0.eval (.tmp 34) = .int .i64 (k : Int) from hL.2.1)
          have p35 := Posts.slot (show a0.eval (.tmp 35) = .pointer (some ⟨g, k, none⟩) from hL.2.2.1)
          have p36 := Posts.slot (show a0.eval (.tmp 36) = .int .i64 hk from hL.2.2.2.1)
          have p37 := Posts.slot (show a0.eval (.tmp 37) = .slice (some ⟨b, off, none⟩) n c from hL.2.2.2.2.1)
          have p38 := Posts.slot (show a0.eval (.tmp 38) = .int .i64 (k : Int) from hL.2.2.2.2.2.1)
          have p39 := Posts.slot (show a0.eval (.tmp 39) = .pointer (some ⟨b, off + k * 4, none⟩) from hL.2.2.2.2.2.2.1)
          have p40 := Posts.slot (show a0.eval (.tmp 40) = .pointer (some ⟨b, off + k * 4, none⟩) from hL.2.2.2.2.2.2.2.1)
          have p41 := Posts.slot (show a0.eval (.tmp 41) = .int .u8 op from hL.2.2.2.2.2.2.2.2.1)
          have p42 := Posts.slot (show a0.eval (.tmp 42) = .int .i64 tk from hL.2.2.2.2.2.2.2.2.2.1)
          have p43 := Posts.slot (show a0.eval (.tmp 43) = .int .i64 (hk - tk) from hL.2.2.2.2.2.2.2.2.2.2.1)
          have p44 := Posts.slot (show a0.eval (.tmp 44) = .slice (some ⟨b, off, none⟩) n c from hL.2.2.2.2.2.2.2.2.2.2.2.1)
          have p45 := Posts.slot (show a0.eval (.tmp 45) = .int .i64 (k : Int) from hL.2.2.2.2.2.2.2.2.2.2.2.2.1)
          have p46 := Posts.slot (show a0.eval (.tmp 46) = .pointer (some ⟨b, off + k * 4, none⟩) from hL.2.2.2.2.2.2.2.2.2.2.2.2.2.1)
          have p47 := Posts.slot (show a0.eval (.tmp 47) = .pointer (some ⟨b, off + k * 4, none⟩) from hL.2.2.2.2.2.2.2.2.2.2.2.2.2.2.1)
          have p48 := Posts.slot (show a0.eval (.tmp 48) = .int .u8 op from hL.2.2.2.2.2.2.2.2.2.2.2.2.2.2.2.1)
          have p49 := Posts.slot (show a0.eval (.tmp 49) = .int .i64 gv from hL.2.2.2.2.2.2.2.2.2.2.2.2.2.2.2.2.1)
          have p50 := Posts.slot (show a0.eval (.tmp 50) = .int .i64 (hk - tk + gv) from hL.2.2.2.2.2.2.2.2.2.2.2.2.2.2.2.2.2.1)
          have hfr := hS.frame [33, 34, 35, 36, 37, 38, 39, 40, 41, 42, 43, 44, 45, 46, 47, 48, 49, 50, 11] (fun t ht => by simp [Posts.isDst] at ht; first | (rcases ht with h | h | h | h | h | h | h | h | h | h | h | h | h | h | h | h | h | h | h <;> subst h <;> simp) | (subst ht; simp))
          simp only [List.foldl_cons, List.foldl_nil] at hfr
          have hdf := hS.defers
          simp only [Array.getD_eq_getD_getElem?] at hfr
          clear hL hS
          generalize a0.tmps[33]?.getD undef = v33 at *
          generalize a0.tmps[34]?.getD undef = v34 at *
          generalize a0.tmps[35]?.getD undef = v35 at *
          generalize a0.tmps[36]?.getD undef = v36 at *
          generalize a0.tmps[37]?.getD undef = v37 at *
          generalize a0.tmps[38]?.getD undef = v38 at *
          generalize a0.tmps[39]?.getD undef = v39 at *
          generalize a0.tmps[40]?.getD undef = v40 at *
          generalize a0.tmps[41]?.getD undef = v41 at *
          generalize a0.tmps[42]?.getD undef = v42 at *
          generalize a0.tmps[43]?.getD undef = v43 at *
          generalize a0.tmps[44]?.getD undef = v44 at *
          generalize a0.tmps[45]?.getD undef = v45 at *
          generalize a0.tmps[46]?.getD undef = v46 at *
          generalize a0.tmps[47]?.getD undef = v47 at *
          generalize a0.tmps[48]?.getD undef = v48 at *
          generalize a0.tmps[49]?.getD undef = v49 at *
          generalize a0.tmps[50]?.getD undef = v50 at *
          generalize a0.tmps[11]?.getD undef = v11 at *
          obtain rfl := p33
          obtain rfl := p34
          obtain rfl := p35
          obtain rfl := p36
          obtain rfl := p37
          obtain rfl := p38
          obtain rfl := p39
          obtain rfl := p40
          obtain rfl := p41
          obtain rfl := p42
          obtain rfl := p43
          obtain rfl := p44
          obtain rfl := p45
          obtain rfl := p46
          obtain rfl := p47
          obtain rfl := p48
          obtain rfl := p49
          obtain rfl := p50
          obtain ⟨tm, df⟩ := a0
          simp only [List.setIfInBounds_toArray, List.set_cons_succ, List.set_cons_zero] at hfr hdf
          subst hfr
          subst hdf
          refine Posts.tail_op 18 (by kernel_rfl) (Posts.op_val (fun _ => trivial) rfl rfl (by intro c h; cases h) (v := .int .i64 (hk - tk + gv)) (Y := Y) (by simp [execOp, Act.eval, go_sem]) ?_)
          refine ⟨by kernel_rfl, ?_⟩
          simp only [Exit.inBlock, Exit.then]
          rename_i hK
          refine hK _ _ ?_
          have HI5 := Lib.hid (HI.out.below hY (Nat.le_refl _))
          have HB5 := Lib.hid (HB.out.trans (hY.mono HB.out.size))
          have d0 := (World.cell?_of_block (Posts.Ext.blk hY _ (World.block_lt_of_cell? _ _ qh))).trans qh
          clear hY hE hwd hwg qh c0 HI HB hK
          generalize hk - tk + gv = bh at *
          clear hgv htk hkb
          by_cases h1 : o < hk
          · have e1 : decide (o < hk) = true := decide_eq_true h1
            by_cases h2 : hk < bh
            · have e2 : decide (hk < bh) = true := decide_eq_true h2
              go_wp2_with fail
              exact ⟨⟨k + 1, by omega, ret_i (by rw [HTop.out]; omega), by simp, HI5.out, HB5.out⟩, by simp [intOf]; omega⟩
            · have e2 : decide (hk < bh) = false := decide_eq_false h2
              go_wp2_with fail
              exact ⟨⟨k + 1, by omega, ret_i (by rw [HTop.out]; omega), by simp, HI5.out, HB5.out⟩, by simp [intOf]; omega⟩
          · have e1 : decide (o < hk) = false := decide_eq_false h1
            by_cases h2 : o < bh
            · have e2 : decide (o < bh) = true := decide_eq_true h2
              go_wp2_with fail
              exact ⟨⟨k + 1, by omega, ret_i (by rw [HTop.out]; omega), by simp, HI5.out, HB5.out⟩, by simp [intOf]; omega⟩
            · have e2 : decide (o < bh) = false := decide_eq_false h2
              go_wp2_with fail
              exact ⟨⟨k + 1, by omega, ret_i (by rw [HTop.out]; omega), by simp, HI5.out, HB5.out⟩, by simp [intOf]; omega⟩
    · obtain rfl : k = n := by omega
      have hd : decide ((k : Int) < (k : Int)) = false := decide_eq_false (by omega)
      generalize topL l H k = o at *
      go_wp2_with fail
      refine bodyPost_ret (v := .tuple #[.int .i64 o, .int .i64 0]) (by simp [results, Tryd.f23, go_sem]) rfl ?_
      rw [HR.out]
      exact ⟨rfl, HB.out⟩
end Hgt
end Go.Proofs.YtjoiogdckbaeaaaDoor
