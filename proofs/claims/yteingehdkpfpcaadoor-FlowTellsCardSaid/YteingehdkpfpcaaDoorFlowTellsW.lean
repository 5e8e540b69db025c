/- The walk of FlowTells, over what the program's calls answer. (Made by tools/gen_flowtells.py.) -/
import Derived.Test.YteingehdkpfpcaaDoorFlowKnown
import Derived.Test.YteingehdkpfpcaaDoorFlowR1
import Derived.Test.YteingehdkpfpcaaDoorFlowR4
import Derived.Test.YteingehdkpfpcaaDoorCodeOwn
namespace Go.Proofs.YteingehdkpfpcaaDoor
open Go.ChangeShapes Go.WideShapes Go.ChangeAt Go.RowKit
namespace Flw
open Isa
set_option linter.unusedVariables false
set_option linter.unusedSimpArgs false
/-- a slice with these numbers -/
def numsQ (l : List Nat) : Value → World → Prop := fun v X => ∃ a c, v = .slice a l.length c ∧ NRow X a l.length l
theorem numsQ_stable (l : List Nat) : Posts.Stable Posts.Ext (numsQ l) := by
  rintro v X Y ⟨a, c, rfl, h⟩ hE
  exact ⟨a, c, rfl, h.below hE (Nat.le_refl _)⟩
set_option maxRecDepth 100000 in
set_option maxHeartbeats 6400000 in
theorem tells_walk (w : World) (hT : Tabs w) (hC : CheckC) (hCo : ComeC) (hO : OrderC) (hB : BehindC) (a : Option Addr) (n c : Nat) (l : List Iv) (h : IRow w a n l) (hc : n ≤ c ∧ c ≤ 9223372036854775807) (k : Int) (hk : -9223372036854775808 ≤ k ∧ k ≤ 9223372036854775807) :
    Calls Tryd.prog 3 #[.slice a n c, .int .i64 k] w fun e w' => e = .returned (.bool true) ∧ Below w.heap.size w w' := by
  have hln : l.length = n := h.1
  have HK := Lib.hid (known_any w hT hC hO hB)
  have HCk := Lib.hid (fun W (hb : Below w.heap.size w W) => hC l a n c W (hT.below hb (Nat.le_refl _)) hc.1 hc.2 (h.below hb (Nat.le_refl _)))
  have HRk := Lib.hid (fun W (hb : Below w.heap.size w W) => rcheck_any l a n c W (h.below hb (Nat.le_refl _)))
  have HCm := Lib.hid (fun W (hb : Below w.heap.size w W) => hCo l a n c W (hT.below hb (Nat.le_refl _)) hc.1 hc.2 (h.below hb (Nat.le_refl _)))
  have HOr := Lib.hid (fun W (hb : Below w.heap.size w W) => hO l a n c W (hT.below hb (Nat.le_refl _)) hc.1 hc.2 (h.below hb (Nat.le_refl _)))
  have HBh := Lib.hid (fun (k : Int) h1 h2 W (hb : Below w.heap.size w W) => hB l a n c k W (hT.below hb (Nat.le_refl _)) hc.1 hc.2 h1 h2 (h.below hb (Nat.le_refl _)))
  have HRow := Lib.hid (fun W (hb : Below w.heap.size w W) => h.below hb (Nat.le_refl _))
  have HL := Lib.hid hln
  have HKr := Lib.hid hk
  clear h hT hC hCo hO hB hc hk
  go_enter Tryd.func3, Tryd.ntmps3
  go_wp2_with fail
  refine HK.out.mono ?_
  rintro e1 w1 ⟨rfl, hb1⟩
  have HB1 := Lib.hid hb1
  clear hb1 HK
  by_cases h3 : 300 < n ∧ n ≤ 16384
  · have e1 : decide ((300 : Int) < (n : Int)) = true := decide_eq_true (by omega)
    have e2 : decide ((n : Int) ≤ (16384 : Int)) = true := decide_eq_true (by omega)
    clear h3
    go_wp2_with fail
    go_ret
    exact ⟨rfl, HB1.out⟩
  by_cases hE : chkE l = 0
  case neg =>
    have hbe : behA l k = [] := behA_out (.inl hE)
    have hco : comeL l = [] := by unfold comeL; rw [if_neg hE]
    have hor : ordA l = ([], false) := by unfold ordA; rw [if_neg hE]
    have HBk := Lib.hid (HBh.out k HKr.out.1 HKr.out.2)
    rw [hbe] at HBk
    rw [hco] at HCm
    rw [hor] at HOr
    have hne : (chkE l != 0) = true := by simpa using hE
    have hN : (((chkN l : Nat) : Int) != ((chkN l : Nat) : Int)) = false := by simp
    have hE2 : (chkE l != chkE l) = false := by simp
    have hcase : (decide ((300 : Int) < (n : Int)) = false) ∨ (decide ((300 : Int) < (n : Int)) = true ∧ decide ((n : Int) ≤ (16384 : Int)) = false) := by
      by_cases q : 300 < n
      · exact .inr ⟨decide_eq_true (by omega), decide_eq_false (by omega)⟩
      · exact .inl (decide_eq_false (by omega))
    clear h3 hE hbe hco hor HBh HKr
    generalize chkE l = E at *
    generalize chkN l = N at *
    rcases hcase with e1 | ⟨e1, e2⟩
    all_goals
      go_wp2_with fail
      refine (HCk.out w1 HB1.out).mono ?_
      rintro e w2 ⟨rfl, hb2⟩
      have HB2 := Lib.hid (HB1.out.trans (hb2.mono HB1.out.size))
      clear hb2
      go_wp2_with fail
      refine (HRk.out w2 HB2.out).mono ?_
      rintro e w3 ⟨rfl, hb3⟩
      have HB3 := Lib.hid (HB2.out.trans (hb3.mono HB2.out.size))
      clear hb3
      go_wp2_with fail
      refine (HCm.out w3 HB3.out).mono ?_
      rintro e w4 ⟨v, rfl, ho, hb4⟩
      obtain ⟨a4, c4, rfl, _, _⟩ := own_shape ho
      have HB4 := Lib.hid (HB3.out.trans (hb4.mono HB3.out.size))
      clear hb4 ho
      go_wp2_with fail
      refine (HOr.out w4 HB4.out).mono ?_
      rintro e w5 ⟨v, rfl, ho, hb5⟩
      obtain ⟨a5, c5, rfl, _, _, _, _⟩ := nums_row ho
      have HB5 := Lib.hid (HB4.out.trans (hb5.mono HB4.out.size))
      clear hb5 ho
      go_wp2_with fail
      refine (HBk.out w5 HB5.out).mono ?_
      rintro e w6 ⟨v, rfl, ho, hb6⟩
      obtain ⟨a6, c6, rfl, _, _, _, _⟩ := nums_row ho
      have HB6 := Lib.hid (HB5.out.trans (hb6.mono HB5.out.size))
      clear hb6 ho
      go_wp2_with fail
      go_ret
      exact ⟨rfl, HB6.out⟩
  have hf := fine_of hE
  have hn0 : 0 < n := by have := hf.some; omega
  have hn3 : n ≤ 300 := by have := hf.most; omega
  have hN0 : chkN l = 0 := (chk_of hf).2
  have hco : comeL l = (List.range n).map (comeB l) := by unfold comeL; rw [if_pos hE, hln]
  have HRO := Lib.hid (fun W (hb : Below w.heap.size w W) => rorder_any l a n c hf W (HRow.out W hb))
  have HRC := Lib.hid (fun W (hb : Below w.heap.size w W) => rcome_any l a n c hf W (HRow.out W hb))
  have HRB := Lib.hid (fun i (hi : i < n) W (hb : Below w.heap.size w W) => rbehind_any l a n c (by omega) i hi W (HRow.out W hb))
  have HBin : Hid (∀ i, i < n → ∀ W, Below w.heap.size w W → Calls Tryd.prog 14 #[.slice a n c, .int .i64 (i : Int)] W fun e w' => ∃ v, e = .returned v ∧ numsP W.heap.size (behL l i) w' v ∧ Below W.heap.size W w') := fun i hi W hb => by
    have := HBh.out (i : Int) (by omega) (by omega) W hb
    rwa [behA_in hE (by omega)] at this
  have HB0 : Hid (∀ W, Below w.heap.size w W → Calls Tryd.prog 14 #[.slice a n c, .int .i64 (-1)] W fun e w' => ∃ v, e = .returned v ∧ numsP W.heap.size [] w' v ∧ Below W.heap.size W w') := fun W hb => by
    have := HBh.out (-1) (by omega) (by omega) W hb
    rwa [behA_out (.inr (.inl (by omega)))] at this
  have HBn : Hid (∀ W, Below w.heap.size w W → Calls Tryd.prog 14 #[.slice a n c, .int .i64 (n : Int)] W fun e w' => ∃ v, e = .returned v ∧ numsP W.heap.size [] w' v ∧ Below W.heap.size W w') := fun W hb => by
    have := HBh.out (n : Int) (by omega) (by omega) W hb
    rwa [behA_out (.inr (.inr (by omega)))] at this
  rw [hE, hN0] at HCk HRk
  rw [hco] at HCm
  have hlo : (ordA l).1.length ≤ n := by
    cases q : (ordA l).2 with
    | true => have := told_len (ord_told q).1; omega
    | false => rw [ord_no q]; simp
  have hd1 : decide ((300 : Int) < (n : Int)) = false := decide_eq_false (by omega)
  have hnn : ((n : Int) != (n : Int)) = false := by simp
  clear h3 hE hf hN0 hco hln HBh HKr
  generalize hOA : ordA l = OA at *
  obtain ⟨T, ok⟩ := OA
  simp only at *
  clear hOA
  have hok : (ok != ok) = false := by cases ok <;> rfl
  go_wp2_with fail
  refine (HCk.out w1 HB1.out).mono ?_
  rintro e w2 ⟨rfl, hb2⟩
  have HB2 := Lib.hid (HB1.out.trans (hb2.mono HB1.out.size))
  clear hb2
  go_wp2_with fail
  refine (HRk.out w2 HB2.out).mono ?_
  rintro e w3 ⟨rfl, hb3⟩
  have HB3 := Lib.hid (HB2.out.trans (hb3.mono HB2.out.size))
  clear hb3
  go_wp2_with fail
  refine (HCm.out w3 HB3.out).mono ?_
  rintro e w4 ⟨v, rfl, ho, hb4⟩
  have hlc : ((List.range n).map (comeB l)).length = n := by simp
  rw [hlc] at ho
  obtain ⟨g, cap, rfl, _, _⟩ := own_some ho hn0
  have HC4 : Hid (BoolO w3.heap.size g cap n ((List.range n).map (comeB l)) w4) := ho
  have HB4 := Lib.hid (HB3.out.trans (hb4.mono HB3.out.size))
  clear hb4 ho hlc
  go_wp2_with fail
  refine (HOr.out w4 HB4.out).mono ?_
  rintro e w5 ⟨v, rfl, ho, hb5⟩
  obtain ⟨a5, c5, rfl, _, _, hr5, _⟩ := nums_row ho
  have HC5 := Lib.hid (HC4.out.below hb5 (Nat.le_refl _))
  have HO5 := Lib.hid hr5
  have HB5 := Lib.hid (HB4.out.trans (hb5.mono HB4.out.size))
  clear hb5 ho hr5 HC4
  go_wp2_with fail
  refine (HRO.out w5 HB5.out).mono ?_
  rintro e w6 ⟨v, rfl, ho, hb6⟩
  obtain ⟨a6, c6, rfl, _, _, hr6, _⟩ := nums_row ho
  have HC6 := Lib.hid (HC5.out.below hb6 (Nat.le_refl _))
  have HO6 := Lib.hid (HO5.out.below hb6 (Nat.le_refl _))
  have HP6 := Lib.hid hr6
  have HB6 := Lib.hid (HB5.out.trans (hb6.mono HB5.out.size))
  clear hb6 ho hr6 HC5 HO5
  go_wp2_with fail
  refine (HRC.out w6 HB6.out).mono ?_
  rintro e w7 ⟨O, rfl, _, hr7, hb7⟩
  have HC7 := Lib.hid (fun W (hb : Below w7.heap.size w7 W) => ((HC6.out.below hb7 (Nat.le_refl _)).below hb (Nat.le_refl _)))
  have HR7 := Lib.hid (fun W (hb : Below w7.heap.size w7 W) => hr7.below hb (Nat.le_refl _))
  have HSm := Lib.hid (same_any T T a5 T.length c5 a6 T.length c6 (by omega) w7 (HO6.out.below hb7 (Nat.le_refl _)) (HP6.out.below hb7 (Nat.le_refl _)))
  rw [decide_eq_true (rfl : T = T)] at HSm
  have HB7 := Lib.hid (fun W (hb : Below w7.heap.size w7 W) => (HB6.out.trans (hb7.mono HB6.out.size)).trans (hb.mono (HB6.out.trans (hb7.mono HB6.out.size)).size))
  clear hb7 hr7 HC6 HO6 HP6 HB1 HB2 HB3 HB4 HB5 HB6 HCk HRk HCm HOr HRO HRC hd1 hlo
  go_wp2_with fail
  refine HSm.out.mono ?_
  rintro e w8 ⟨rfl, rfl⟩
  clear HSm hok hnn
  go_wp2_with fail
  go_loopw [97] (fun x wr => ∃ i : Nat, i ≤ n ∧ x = .int .i64 i ∧ Below w8.heap.size w8 wr) (fun x _ => n - (intOf x).toNat)
  case atStart => exact ⟨0, by omega, rfl, Below.refl _ _⟩
  case round =>
    obtain ⟨i, hi, rfl, hbel⟩ := hrel
    have HBw := Lib.hid hbel
    clear hbel
    by_cases hlt : i < n
    · have hd : decide ((i : Int) < (n : Int)) = true := decide_eq_true (by omega)
      have i0 : (0 : Int) ≤ i := by omega
      have i1 : (i : Int) < n := by omega
      have q0 := (HC7.out wr HBw.out).at hlt
      have q1 := (HR7.out wr HBw.out).at (k := i) (by simp; exact hlt)
      rw [map_at _ hlt] at q0 q1
      have HBi := Lib.hid (HBin.out i hlt)
      have HRi := Lib.hid (HRB.out i hlt)
      have HBr := Lib.hid (fun X (hX : Posts.Ext wr X) => HB7.out X (HBw.out.trans (hX.mono HBw.out.size)))
      generalize comeB l i = bi at *
      go_upto_region 20 with fail
      have hE := Posts.ext_rel
      clear hd
      refine (wpIn_wide (n := 0)).1 (Posts.wpIn_region_tail hE 19 0 (Posts.At [Posts.is (.slice (some ⟨g, 0, none⟩) n cap), Posts.is (.int .i64 (i : Int)), Posts.is (.pointer (some ⟨g, i, none⟩)), Posts.is (.bool bi), Posts.is (.slice (some ⟨O, 0, none⟩) n n), Posts.is (.int .i64 (i : Int)), Posts.is (.pointer (some ⟨O, i, none⟩)), Posts.is (.bool bi), Posts.is (.bool false), Posts.is (.bool false), Posts.is (.slice a n c), Posts.is (.int .i64 (i : Int)), numsQ (behL l i), Posts.is (.slice a n c), Posts.is (.int .i64 (i : Int)), numsQ (behL l i), Posts.is (.bool true), Posts.is (.bool false), Posts.is (.bool false)]) (fun _ _ => True) (by kernel_rfl) (by decide) (by kernel_rfl) (by kernel_rfl) (by kernel_rfl)
        (Posts.stable_at _ (by repeat' (first | exact trivial | (refine And.intro ?_ ?_) | exact Posts.is_stable _ | exact numsQ_stable _ | assumption))) trivial ?_ ?_)
      · refine ⟨?_, ?_, ?_, ?_, ?_, ?_, ?_, ?_, ?_, ?_, ?_, ?_, ?_, ?_, ?_, ?_, ?_, ?_, ?_, trivial⟩
        · intro av X hX hS hD hJ hU
          have z0 := (World.cell?_of_block (Posts.Ext.blk hX _ (World.block_lt_of_cell? _ _ q0))).trans q0
          have z1 := (World.cell?_of_block (Posts.Ext.blk hX _ (World.block_lt_of_cell? _ _ q1))).trans q1
          have d9 := Posts.slot (show av.eval (.tmp 9) = .slice (some ⟨g, 0, none⟩) n cap from hS.other 9 rfl)
          exact Posts.op_value (fun _ => trivial) rfl rfl (by intro c h; cases h) rfl (by rw [hS.size]; simp) (v := .slice (some ⟨g, 0, none⟩) n cap) (by simp [execOp, d9,  go_sem, z0, z1, i0, i1]) rfl (hE.refl _) trivial
        · intro av X hX hS hD hJ hU
          have z0 := (World.cell?_of_block (Posts.Ext.blk hX _ (World.block_lt_of_cell? _ _ q0))).trans q0
          have z1 := (World.cell?_of_block (Posts.Ext.blk hX _ (World.block_lt_of_cell? _ _ q1))).trans q1
          have d15 := Posts.slot (show av.eval (.tmp 15) = .int .i64 (i : Int) from hS.other 15 rfl)
          exact Posts.op_value (fun _ => trivial) rfl rfl (by intro c h; cases h) rfl (by rw [hS.size]; simp) (v := .int .i64 (i : Int)) (by simp [execOp, d15,  go_sem, z0, z1, i0, i1]) rfl (hE.refl _) trivial
        · intro av X hX hS hD hJ hU
          have z0 := (World.cell?_of_block (Posts.Ext.blk hX _ (World.block_lt_of_cell? _ _ q0))).trans q0
          have z1 := (World.cell?_of_block (Posts.Ext.blk hX _ (World.block_lt_of_cell? _ _ q1))).trans q1
          have d100 := Posts.slot (show av.eval (.tmp 100) = .slice (some ⟨g, 0, none⟩) n cap from hD.1)
          have d101 := Posts.slot (show av.eval (.tmp 101) = .int .i64 (i : Int) from hD.2.1)
          exact Posts.op_value (fun _ => trivial) rfl rfl (by intro c h; cases h) rfl (by rw [hS.size]; simp) (v := .pointer (some ⟨g, i, none⟩)) (by simp [execOp, d100, d101,  go_sem, z0, z1, i0, i1]) rfl (hE.refl _) trivial
        · intro av X hX hS hD hJ hU
          have z0 := (World.cell?_of_block (Posts.Ext.blk hX _ (World.block_lt_of_cell? _ _ q0))).trans q0
          have z1 := (World.cell?_of_block (Posts.Ext.blk hX _ (World.block_lt_of_cell? _ _ q1))).trans q1
          have d102 := Posts.slot (show av.eval (.tmp 102) = .pointer (some ⟨g, i, none⟩) from hD.1)
          exact Posts.op_value (fun _ => trivial) rfl rfl (by intro c h; cases h) rfl (by rw [hS.size]; simp) (v := .bool bi) (by simp [execOp, d102,  go_sem, z0, z1, i0, i1]) rfl (hE.refl _) trivial
        · intro av X hX hS hD hJ hU
          have z0 := (World.cell?_of_block (Posts.Ext.blk hX _ (World.block_lt_of_cell? _ _ q0))).trans q0
          have z1 := (World.cell?_of_block (Posts.Ext.blk hX _ (World.block_lt_of_cell? _ _ q1))).trans q1
          have d14 := Posts.slot (show av.eval (.tmp 14) = .slice (some ⟨O, 0, none⟩) n n from hS.other 14 rfl)
          exact Posts.op_value (fun _ => trivial) rfl rfl (by intro c h; cases h) rfl (by rw [hS.size]; simp) (v := .slice (some ⟨O, 0, none⟩) n n) (by simp [execOp, d14,  go_sem, z0, z1, i0, i1]) rfl (hE.refl _) trivial
        · intro av X hX hS hD hJ hU
          have z0 := (World.cell?_of_block (Posts.Ext.blk hX _ (World.block_lt_of_cell? _ _ q0))).trans q0
          have z1 := (World.cell?_of_block (Posts.Ext.blk hX _ (World.block_lt_of_cell? _ _ q1))).trans q1
          have d15 := Posts.slot (show av.eval (.tmp 15) = .int .i64 (i : Int) from hS.other 15 rfl)
          exact Posts.op_value (fun _ => trivial) rfl rfl (by intro c h; cases h) rfl (by rw [hS.size]; simp) (v := .int .i64 (i : Int)) (by simp [execOp, d15,  go_sem, z0, z1, i0, i1]) rfl (hE.refl _) trivial
        · intro av X hX hS hD hJ hU
          have z0 := (World.cell?_of_block (Posts.Ext.blk hX _ (World.block_lt_of_cell? _ _ q0))).trans q0
          have z1 := (World.cell?_of_block (Posts.Ext.blk hX _ (World.block_lt_of_cell? _ _ q1))).trans q1
          have d104 := Posts.slot (show av.eval (.tmp 104) = .slice (some ⟨O, 0, none⟩) n n from hD.1)
          have d105 := Posts.slot (show av.eval (.tmp 105) = .int .i64 (i : Int) from hD.2.1)
          exact Posts.op_value (fun _ => trivial) rfl rfl (by intro c h; cases h) rfl (by rw [hS.size]; simp) (v := .pointer (some ⟨O, i, none⟩)) (by simp [execOp, d104, d105,  go_sem, z0, z1, i0, i1]) rfl (hE.refl _) trivial
        · intro av X hX hS hD hJ hU
          have z0 := (World.cell?_of_block (Posts.Ext.blk hX _ (World.block_lt_of_cell? _ _ q0))).trans q0
          have z1 := (World.cell?_of_block (Posts.Ext.blk hX _ (World.block_lt_of_cell? _ _ q1))).trans q1
          have d106 := Posts.slot (show av.eval (.tmp 106) = .pointer (some ⟨O, i, none⟩) from hD.1)
          exact Posts.op_value (fun _ => trivial) rfl rfl (by intro c h; cases h) rfl (by rw [hS.size]; simp) (v := .bool bi) (by simp [execOp, d106,  go_sem, z0, z1, i0, i1]) rfl (hE.refl _) trivial
        · intro av X hX hS hD hJ hU
          have z0 := (World.cell?_of_block (Posts.Ext.blk hX _ (World.block_lt_of_cell? _ _ q0))).trans q0
          have z1 := (World.cell?_of_block (Posts.Ext.blk hX _ (World.block_lt_of_cell? _ _ q1))).trans q1
          have d103 := Posts.slot (show av.eval (.tmp 103) = .bool bi from hD.1)
          have d107 := Posts.slot (show av.eval (.tmp 107) = .bool bi from hD.2.1)
          exact Posts.op_value (fun _ => trivial) rfl rfl (by intro c h; cases h) rfl (by rw [hS.size]; simp) (v := .bool false) (by simp [execOp, d103, d107,  go_sem, z0, z1, i0, i1]) rfl (hE.refl _) trivial
        · intro av X hX hS hD hJ hU
          have z0 := (World.cell?_of_block (Posts.Ext.blk hX _ (World.block_lt_of_cell? _ _ q0))).trans q0
          have z1 := (World.cell?_of_block (Posts.Ext.blk hX _ (World.block_lt_of_cell? _ _ q1))).trans q1
          have d108 := Posts.slot (show av.eval (.tmp 108) = .bool false from hD.1)
          exact Posts.op_value (fun _ => trivial) rfl rfl (by intro c h; cases h) rfl (by rw [hS.size]; simp) (v := .bool false) (by simp [execOp, d108,  go_sem, z0, z1, i0, i1]) rfl (hE.refl _) trivial
        · intro av X hX hS hD hJ hU
          have z0 := (World.cell?_of_block (Posts.Ext.blk hX _ (World.block_lt_of_cell? _ _ q0))).trans q0
          have z1 := (World.cell?_of_block (Posts.Ext.blk hX _ (World.block_lt_of_cell? _ _ q1))).trans q1
          have d0 := Posts.slot (show av.eval (.tmp 0) = .slice a n c from hS.other 0 rfl)
          exact Posts.op_value (fun _ => trivial) rfl (Posts.wanted_yes rfl rfl rfl (show av.eval (.tmp 109) = .bool false from hD.1)) (by intro c h; cases h) rfl (by rw [hS.size]; simp) (v := .slice a n c) (by simp [execOp, d0,  go_sem, z0, z1, i0, i1]) rfl (hE.refl _) trivial
        · intro av X hX hS hD hJ hU
          have z0 := (World.cell?_of_block (Posts.Ext.blk hX _ (World.block_lt_of_cell? _ _ q0))).trans q0
          have z1 := (World.cell?_of_block (Posts.Ext.blk hX _ (World.block_lt_of_cell? _ _ q1))).trans q1
          have d15 := Posts.slot (show av.eval (.tmp 15) = .int .i64 (i : Int) from hS.other 15 rfl)
          exact Posts.op_value (fun _ => trivial) rfl (Posts.wanted_yes rfl rfl rfl (show av.eval (.tmp 109) = .bool false from hD.1)) (by intro c h; cases h) rfl (by rw [hS.size]; simp) (v := .int .i64 (i : Int)) (by simp [execOp, d15,  go_sem, z0, z1, i0, i1]) rfl (hE.refl _) trivial
        · intro av X hX hS hD hJ hU
          have z0 := (World.cell?_of_block (Posts.Ext.blk hX _ (World.block_lt_of_cell? _ _ q0))).trans q0
          have z1 := (World.cell?_of_block (Posts.Ext.blk hX _ (World.block_lt_of_cell? _ _ q1))).trans q1
          have d110 := Posts.slot (show av.eval (.tmp 110) = .slice a n c from hD.1)
          have d111 := Posts.slot (show av.eval (.tmp 111) = .int .i64 (i : Int) from hD.2.1)
          refine Posts.op_call (fun _ => trivial) rfl rfl (Posts.wanted_yes rfl rfl rfl (show av.eval (.tmp 109) = .bool false from hD.2.2.1)) (by intro c h; cases h) rfl (by rw [hS.size]; simp) 14 #[.slice a n c, .int .i64 (i : Int)] (by simp [execOp, d110, d111, go_sem]) ?_
          refine callsIn_wide.2 ((HBi.out X (HBr.out X hX)).mono ?_)
          rintro e Y ⟨v, rfl, ho, hb⟩
          obtain ⟨b', c', rfl, _, _, hr, _⟩ := nums_row ho
          exact ⟨_, rfl, ⟨b', c', rfl, hr⟩, hb, trivial⟩
        · intro av X hX hS hD hJ hU
          have z0 := (World.cell?_of_block (Posts.Ext.blk hX _ (World.block_lt_of_cell? _ _ q0))).trans q0
          have z1 := (World.cell?_of_block (Posts.Ext.blk hX _ (World.block_lt_of_cell? _ _ q1))).trans q1
          have d0 := Posts.slot (show av.eval (.tmp 0) = .slice a n c from hS.other 0 rfl)
          exact Posts.op_value (fun _ => trivial) rfl (Posts.wanted_yes rfl rfl rfl (show av.eval (.tmp 109) = .bool false from hD.1)) (by intro c h; cases h) rfl (by rw [hS.size]; simp) (v := .slice a n c) (by simp [execOp, d0,  go_sem, z0, z1, i0, i1]) rfl (hE.refl _) trivial
        · intro av X hX hS hD hJ hU
          have z0 := (World.cell?_of_block (Posts.Ext.blk hX _ (World.block_lt_of_cell? _ _ q0))).trans q0
          have z1 := (World.cell?_of_block (Posts.Ext.blk hX _ (World.block_lt_of_cell? _ _ q1))).trans q1
          have d15 := Posts.slot (show av.eval (.tmp 15) = .int .i64 (i : Int) from hS.other 15 rfl)
          exact Posts.op_value (fun _ => trivial) rfl (Posts.wanted_yes rfl rfl rfl (show av.eval (.tmp 109) = .bool false from hD.1)) (by intro c h; cases h) rfl (by rw [hS.size]; simp) (v := .int .i64 (i : Int)) (by simp [execOp, d15,  go_sem, z0, z1, i0, i1]) rfl (hE.refl _) trivial
        · intro av X hX hS hD hJ hU
          have z0 := (World.cell?_of_block (Posts.Ext.blk hX _ (World.block_lt_of_cell? _ _ q0))).trans q0
          have z1 := (World.cell?_of_block (Posts.Ext.blk hX _ (World.block_lt_of_cell? _ _ q1))).trans q1
          have d113 := Posts.slot (show av.eval (.tmp 113) = .slice a n c from hD.1)
          have d114 := Posts.slot (show av.eval (.tmp 114) = .int .i64 (i : Int) from hD.2.1)
          refine Posts.op_call (fun _ => trivial) rfl rfl (Posts.wanted_yes rfl rfl rfl (show av.eval (.tmp 109) = .bool false from hD.2.2.2.1)) (by intro c h; cases h) rfl (by rw [hS.size]; simp) 18 #[.slice a n c, .int .i64 (i : Int)] (by simp [execOp, d113, d114, go_sem]) ?_
          refine callsIn_wide.2 ((HRi.out X (HBr.out X hX)).mono ?_)
          rintro e Y ⟨v, rfl, ho, hb⟩
          obtain ⟨b', c', rfl, _, _, hr, _⟩ := nums_row ho
          exact ⟨_, rfl, ⟨b', c', rfl, hr⟩, hb, trivial⟩
        · intro av X hX hS hD hJ hU
          have z0 := (World.cell?_of_block (Posts.Ext.blk hX _ (World.block_lt_of_cell? _ _ q0))).trans q0
          have z1 := (World.cell?_of_block (Posts.Ext.blk hX _ (World.block_lt_of_cell? _ _ q1))).trans q1
          obtain ⟨b1, c1, e1, h1⟩ : numsQ (behL l i) (av.eval (.tmp 112)) X := hD.1
          obtain ⟨b2, c2, e2, h2⟩ : numsQ (behL l i) (av.eval (.tmp 115)) X := hD.2.1
          have d112 := Posts.slot e1
          have d115 := Posts.slot e2
          have hl2 := beh_len l i
          refine Posts.op_call (fun _ => trivial) rfl rfl (Posts.wanted_yes rfl rfl rfl (show av.eval (.tmp 109) = .bool false from hD.2.2.2.1)) (by intro c h; cases h) rfl (by rw [hS.size]; simp) 17 #[.slice b1 (behL l i).length c1, .slice b2 (behL l i).length c2] (by simp [execOp, d112, d115, go_sem]) ?_
          refine callsIn_wide.2 ((same_any _ _ b1 _ c1 b2 _ c2 (by omega) X h1 h2).mono ?_)
          rintro e Y ⟨rfl, rfl⟩
          exact ⟨_, rfl, by rw [decide_eq_true rfl]; rfl, hE.refl _, trivial⟩
        · intro av X hX hS hD hJ hU
          have z0 := (World.cell?_of_block (Posts.Ext.blk hX _ (World.block_lt_of_cell? _ _ q0))).trans q0
          have z1 := (World.cell?_of_block (Posts.Ext.blk hX _ (World.block_lt_of_cell? _ _ q1))).trans q1
          have d116 := Posts.slot (show av.eval (.tmp 116) = .bool true from hD.1)
          exact Posts.op_value (fun _ => trivial) rfl (Posts.wanted_yes rfl rfl rfl (show av.eval (.tmp 109) = .bool false from hD.2.1)) (by intro c h; cases h) rfl (by rw [hS.size]; simp) (v := .bool false) (by simp [execOp, d116,  go_sem, z0, z1, i0, i1]) rfl (hE.refl _) trivial
        · intro av X hX hS hD hJ hU
          have z0 := (World.cell?_of_block (Posts.Ext.blk hX _ (World.block_lt_of_cell? _ _ q0))).trans q0
          have z1 := (World.cell?_of_block (Posts.Ext.blk hX _ (World.block_lt_of_cell? _ _ q1))).trans q1
          have dc := Posts.slot (show av.eval (.tmp 109) = .bool false from hD.1)
          have dx := Posts.slot (show av.eval (.tmp 117) = .bool false from hD.2.1)
          exact Posts.op_value (fun _ => trivial) rfl rfl (by intro c h; cases h) rfl (by rw [hS.size]; simp) (v := .bool false) (by simp [execOp, dc, dx, go_sem]) rfl (hE.refl _) trivial
      · intro a0 Y hY hS hJt hL
        have p118 := Posts.slot (show a0.eval (.tmp 118) = .bool false from hL.2.2.2.2.2.2.2.2.2.2.2.2.2.2.2.2.2.2.1)
        have hfr := hS.frame [100, 101, 102, 103, 104, 105, 106, 107, 108, 109, 110, 111, 112, 113, 114, 115, 116, 117, 118] (fun t ht => by simp [Posts.isDst] at ht; rcases ht with h | h | h | h | h | h | h | h | h | h | h | h | h | h | h | h | h | h | h <;> subst h <;> simp)
        simp only [List.foldl_cons, List.foldl_nil] at hfr
        have hdf := hS.defers
        simp only [Array.getD_eq_getD_getElem?] at hfr
        clear hL hS
        generalize a0.tmps[100]?.getD undef = v100 at *
        generalize a0.tmps[101]?.getD undef = v101 at *
        generalize a0.tmps[102]?.getD undef = v102 at *
        generalize a0.tmps[103]?.getD undef = v103 at *
        generalize a0.tmps[104]?.getD undef = v104 at *
        generalize a0.tmps[105]?.getD undef = v105 at *
        generalize a0.tmps[106]?.getD undef = v106 at *
        generalize a0.tmps[107]?.getD undef = v107 at *
        generalize a0.tmps[108]?.getD undef = v108 at *
        generalize a0.tmps[109]?.getD undef = v109 at *
        generalize a0.tmps[110]?.getD undef = v110 at *
        generalize a0.tmps[111]?.getD undef = v111 at *
        generalize a0.tmps[112]?.getD undef = v112 at *
        generalize a0.tmps[113]?.getD undef = v113 at *
        generalize a0.tmps[114]?.getD undef = v114 at *
        generalize a0.tmps[115]?.getD undef = v115 at *
        generalize a0.tmps[116]?.getD undef = v116 at *
        generalize a0.tmps[117]?.getD undef = v117 at *
        generalize a0.tmps[118]?.getD undef = v118 at *
        obtain rfl := p118
        obtain ⟨tm, df⟩ := a0
        simp only [List.setIfInBounds_toArray, List.set_cons_succ, List.set_cons_zero] at hfr hdf
        subst hfr
        subst hdf
        refine ⟨by kernel_rfl, ?_⟩
        simp only [Exit.inBlock, Exit.then]
        rename_i hK
        refine hK _ _ ?_
        have HY1 := Lib.hid (HBw.out.trans (hY.mono HBw.out.size))
        clear hY hE q0 q1
        go_wp2_with fail
        exact ⟨⟨i + 1, by omega, by simp, HY1.out⟩, by simp [intOf]; omega⟩
    · obtain rfl : i = n := by omega
      have hd : decide ((i : Int) < (i : Int)) = false := decide_eq_false (by omega)
      have HBe := Lib.hid (HB7.out wr HBw.out)
      clear hlt HC7 HR7 HB7 HBw
      go_wp2_with fail
      refine (HB0.out wr HBe.out).mono ?_
      rintro e w9 ⟨v, rfl, ho, hb9⟩
      obtain ⟨a9, c9, rfl, _, _, _, _⟩ := nums_row ho
      have HB9 := Lib.hid (HBe.out.trans (hb9.mono HBe.out.size))
      clear hb9 ho
      go_wp2_with fail
      refine (HBn.out w9 HB9.out).mono ?_
      rintro e w10 ⟨v, rfl, ho, hb10⟩
      obtain ⟨a10, c10, rfl, _, _, _, _⟩ := nums_row ho
      have HB10 := Lib.hid (HB9.out.trans (hb10.mono HB9.out.size))
      clear hb10 ho
      go_wp2_with fail
      go_ret
      exact ⟨rfl, HB10.out⟩
end Flw
end Go.Proofs.YteingehdkpfpcaaDoor
