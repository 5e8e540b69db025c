/- Turns: what waits, the least one first, over and over. -/
import Derived.Test.YtcmbkoghhhhmcaaDoorFlowW8
import Derived.Test.YtcmbkoghhhhmcaaDoorFlowSeqD
import Derived.Test.YtcmbkoghhhhmcaaDoorFlowMath5
import Derived.Test.YtcmbkoghhhhmcaaDoorFlowW4
import Derived.Test.YtcmbkoghhhhmcaaDoorRightsPosts
import Derived.Test.YtcmbkoghhhhmcaaDoorRightsTmps
import Derived.LoopNIn
import Derived.LoopIn
import Derived.Sort.LoopGhostIn
namespace Go.Proofs.YtcmbkoghhhhmcaaDoor
open Go.ChangeShapes Go.WideShapes Go.ChangeAt Go.RowKit
namespace Flw
open Isa
open Goes
open Ins
open Rights (Kept yield_any yield_wide)
set_option linter.unusedVariables false
set_option linter.unusedSimpArgs false
attribute [local go_sem] Oper.semAt_some
/-- those that wait, in memory: x: the iterator's box; g: their block; S: where rows of the call's own begin -/
structure WAt (S g x : Nat) (s : List Nat × Value) (V : World) : Prop where
  bx : Box V x 71 (.pointer (some ⟨g, 0, none⟩))
  bw : Box V g 63 s.2
  own : V.ownsRow S 3 1 s.2 s.1.length (nums s.1)
  len : s.1.length ≤ 1000000
def wFin (s : List Nat × Value) : Prop := s.1 = []
/-- the least one is taken out -/
def wStep (g : Nat) (s : List Nat × Value) (k : Nat) (s' : List Nat × Value) (V V' : World) : Prop := s.1 = s'.1 ++ [k] ∧ s'.2.ownBlock = s.2.ownBlock ∧ Kept (fun j => j = g) V V'
theorem turns_make (g : Nat) (w : World) : Calls Tryd.prog 32 #[.pointer (some ⟨g, 0, none⟩)] w fun e w' =>
    e = .returned (.func (.func 45) #[] #[.pointer (some ⟨w.heap.size, 0, none⟩)]) ∧ w' = w.alloc (.cells #[.pointer (some ⟨g, 0, none⟩)] 71) := by
  go_enter Tryd.func32, Tryd.ntmps32
  go_wp2_with fail
  go_ret
  exact ⟨rfl, rfl⟩
theorem turns_enters : ∀ args X, (callFunc 45 args).run Tryd.prog X = .ok (.enter 45 args) X := enters_of Tryd.func45 (by kernel_rfl) rfl
theorem WAt.pop {S g x : Nat} {rest : List Nat} {k b r cap : Nat} {V Y : World} (hr : rest.length = r) (h : WAt S g x (rest ++ [k], .slice (some ⟨b, 0, none⟩) (r + 1 : Nat) cap) V) (hb : Below V.heap.size V Y) :
    wStep g (rest ++ [k], .slice (some ⟨b, 0, none⟩) (r + 1 : Nat) cap) k (rest, .slice (some ⟨b, 0, none⟩) r cap) V (Y.setCell ⟨g, 0, none⟩ (.slice (some ⟨b, 0, none⟩) r cap)) ∧ WAt S g x (rest, .slice (some ⟨b, 0, none⟩) r cap) (Y.setCell ⟨g, 0, none⟩ (.slice (some ⟨b, 0, none⟩) r cap)) := by
  subst hr
  have hY : Kept (fun j => j = g) V Y := Kept.of_below hb
  have bw : Box Y g 63 (.slice (some ⟨b, 0, none⟩) (rest.length + 1 : Nat) cap) := h.bw.below hb (Nat.le_refl _)
  have hk : Kept (fun j => j = g) V (Y.setCell ⟨g, 0, none⟩ (.slice (some ⟨b, 0, none⟩) rest.length cap)) := hY.trans (kept_set _ _ _ _ rfl)
  have h1 := h.own
  have e : nums (rest ++ [k]) = nums rest ++ [.int .i64 (k : Nat)] := by simp [nums]
  simp only at h1
  rw [e, List.length_append, List.length_singleton] at h1
  refine ⟨⟨rfl, rfl, hk⟩, h.bx.kept hk (ne_kind h.bx h.bw (by intro e; injection e with _ e _; exact absurd e (by decide))), bw.set _, ?_, by have := h.len; simp at this; simp; omega⟩
  exact own_kept (own_take h1 (k := rest.length) (by simp [nums]) (by omega)) hk (fun j hj => own_ne_wait (by decide) h1 h.bw hj)
set_option maxHeartbeats 4000000 in
set_option maxRecDepth 100000 in
theorem seq_turns (S g x : Nat) : SeqD Tryd.prog 45 #[.pointer (some ⟨x, 0, none⟩)] encN (WAt S g x) wFin (wStep g) := by
  intro yl J Jx W m0 s0 hAt hY h0
  have HAt := Lib.hid hAt
  have HY := Lib.hid hY
  have H0 := Lib.hid h0
  clear hAt hY h0
  refine callsIn_of_wp Tryd.func45 rfl trivial ?_ rfl
  simp only [Tryd.ntmps45, List.size_toArray, List.length_cons, List.length_nil, Nat.reduceAdd, Nat.reduceSub, Array.replicate_succ, Array.replicate_zero, List.push_toArray, List.append_toArray, List.nil_append, List.cons_append]
  gi_wp2_with fail
  gi_loopg [] m0 (fun m wr => ∃ s, J m s wr)
  case atStart => exact ⟨s0, H0.out⟩
  case round =>
    obtain ⟨s, hJ⟩ := hrel
    have hW := HAt.out _ _ _ hJ
    have HJ := Lib.hid hJ
    have HWt := Lib.hid hW
    clear hJ hW H0
    obtain ⟨R, v⟩ := s
    have q1 := HWt.out.bx.cell
    have q2 := HWt.out.bw.cell
    have f2 := HWt.out.bw.free
    simp only at q2
    obtain ⟨va, vc, hve, hv1, hv2⟩ := own_shape HWt.out.own
    simp only at hve hv1
    subst hve
    rcases snoc_cases R with rfl | ⟨rest, k, rfl⟩
    · gi_wp2_with fail
      go_end0
      exact ⟨⟨_, rfl⟩, .inl ⟨gk, ([], _), rfl, HJ.out⟩⟩
    · have hml : (rest ++ [k]).length = rest.length + 1 := by simp
      rw [hml] at q2 hv1
      obtain ⟨b, cap, hv, hg0, hg1⟩ := own_some HWt.out.own (by simp)
      rw [hml] at hv
      injection hv with e1 _ e3
      subst e1
      subst e3
      have hcell : wr.cell? ⟨b, rest.length, none⟩ = some (.int .i64 (k : Nat)) := by
        have := World.ownsRow.cells HWt.out.own (g := b) rfl rest.length (.int .i64 (k : Nat)) (by simp [nums])
        rwa [WideShapes.add_plain, Nat.zero_add] at this
      have hrl : rest.length ≤ 1000000 := by have := HWt.out.len; simp at this; omega
      obtain ⟨r, hm⟩ : ∃ r, rest.length = r := ⟨_, rfl⟩
      rw [hm] at q2 hv1 hcell hrl hml
      rw [hml] at HJ HWt
      have HPop := Lib.hid (fun Y hb => HWt.out.pop (Y := Y) hm hb)
      clear hm hml HWt
      have hnv : ¬ vc < r := by omega
      have m0 : (0 : Int) ≤ r := by omega
      have m1 : (r : Int) < (r : Int) + 1 := by omega
      gi_wp2_with fail
      have hE := Posts.ext_rel
      refine (Posts.wpIn_region_tail hE 9 4 (Posts.At [Posts.is (.pointer (some ⟨g, 0, none⟩)), Posts.is (.pointer (some ⟨g, 0, none⟩)), Posts.is (.pointer (some ⟨g, 0, none⟩)), Posts.is (.pointer (some ⟨g, 0, none⟩)), Posts.is (.slice (some ⟨b, 0, none⟩) (r + 1 : Nat) vc), Posts.is (.int .i64 (r : Nat)), Posts.is (.slice (some ⟨b, 0, none⟩) r vc), Posts.is (.pointer (some ⟨g, 0, none⟩)), Posts.is (.pointer (some ⟨g, 0, none⟩))]) (fun _ _ => True) (by kernel_rfl) (by decide) (by kernel_rfl) (by kernel_rfl) (by kernel_rfl)
        (Posts.stable_at _ (by repeat' (first | exact trivial | (refine And.intro ?_ ?_) | exact Posts.is_stable _ | exact Posts.on_stable _ _ | assumption))) trivial ?_ ?_)
      · refine ⟨?_, ?_, ?_, ?_, ?_, ?_, ?_, ?_, ?_, trivial⟩
        · intro a X hX hS hD hJ hU
          have x0 := (World.cell?_of_block (Posts.Ext.blk hX _ (World.block_lt_of_cell? _ _ q1))).trans q1
          have x1 := (World.cell?_of_block (Posts.Ext.blk hX _ (World.block_lt_of_cell? _ _ q2))).trans q2
          have d1 := Posts.slot (show a.eval (.tmp 1) = .pointer (some ⟨x, 0, none⟩) from hS.other 1 rfl)
          exact Posts.op_value (fun _ => trivial) rfl rfl (by intro c h; cases h) rfl (by rw [hS.size]; simp) (v := .pointer (some ⟨g, 0, none⟩)) (by simp [execOp, d1,  go_sem, x0, x1, hnv]) rfl (hE.refl _) trivial
        · intro a X hX hS hD hJ hU
          have x0 := (World.cell?_of_block (Posts.Ext.blk hX _ (World.block_lt_of_cell? _ _ q1))).trans q1
          have x1 := (World.cell?_of_block (Posts.Ext.blk hX _ (World.block_lt_of_cell? _ _ q2))).trans q2
          have d1 := Posts.slot (show a.eval (.tmp 1) = .pointer (some ⟨x, 0, none⟩) from hS.other 1 rfl)
          exact Posts.op_value (fun _ => trivial) rfl rfl (by intro c h; cases h) rfl (by rw [hS.size]; simp) (v := .pointer (some ⟨g, 0, none⟩)) (by simp [execOp, d1,  go_sem, x0, x1, hnv]) rfl (hE.refl _) trivial
        · intro a X hX hS hD hJ hU
          have x0 := (World.cell?_of_block (Posts.Ext.blk hX _ (World.block_lt_of_cell? _ _ q1))).trans q1
          have x1 := (World.cell?_of_block (Posts.Ext.blk hX _ (World.block_lt_of_cell? _ _ q2))).trans q2
          have d25 := Posts.slot (show a.eval (.tmp 25) = .pointer (some ⟨g, 0, none⟩) from hD.1)
          exact Posts.op_value (fun _ => trivial) rfl rfl (by intro c h; cases h) rfl (by rw [hS.size]; simp) (v := .pointer (some ⟨g, 0, none⟩)) (by simp [execOp, d25,  go_sem, x0, x1, hnv]) rfl (hE.refl _) trivial
        · intro a X hX hS hD hJ hU
          have x0 := (World.cell?_of_block (Posts.Ext.blk hX _ (World.block_lt_of_cell? _ _ q1))).trans q1
          have x1 := (World.cell?_of_block (Posts.Ext.blk hX _ (World.block_lt_of_cell? _ _ q2))).trans q2
          have d26 := Posts.slot (show a.eval (.tmp 26) = .pointer (some ⟨g, 0, none⟩) from hD.1)
          exact Posts.op_value (fun _ => trivial) rfl rfl (by intro c h; cases h) rfl (by rw [hS.size]; simp) (v := .pointer (some ⟨g, 0, none⟩)) (by simp [execOp, d26,  go_sem, x0, x1, hnv]) rfl (hE.refl _) trivial
        · intro a X hX hS hD hJ hU
          have x0 := (World.cell?_of_block (Posts.Ext.blk hX _ (World.block_lt_of_cell? _ _ q1))).trans q1
          have x1 := (World.cell?_of_block (Posts.Ext.blk hX _ (World.block_lt_of_cell? _ _ q2))).trans q2
          have d27 := Posts.slot (show a.eval (.tmp 27) = .pointer (some ⟨g, 0, none⟩) from hD.1)
          exact Posts.op_value (fun _ => trivial) rfl rfl (by intro c h; cases h) rfl (by rw [hS.size]; simp) (v := .slice (some ⟨b, 0, none⟩) (r + 1 : Nat) vc) (by simp [execOp, d27,  go_sem, x0, x1, hnv]) rfl (hE.refl _) trivial
        · intro a X hX hS hD hJ hU
          have x0 := (World.cell?_of_block (Posts.Ext.blk hX _ (World.block_lt_of_cell? _ _ q1))).trans q1
          have x1 := (World.cell?_of_block (Posts.Ext.blk hX _ (World.block_lt_of_cell? _ _ q2))).trans q2
          have d3 := Posts.slot (show a.eval (.tmp 3) = .int .i64 (r : Nat) from hS.other 3 rfl)
          exact Posts.op_value (fun _ => trivial) rfl rfl (by intro c h; cases h) rfl (by rw [hS.size]; simp) (v := .int .i64 (r : Nat)) (by simp [execOp, d3,  go_sem, x0, x1, hnv]) rfl (hE.refl _) trivial
        · intro a X hX hS hD hJ hU
          have x0 := (World.cell?_of_block (Posts.Ext.blk hX _ (World.block_lt_of_cell? _ _ q1))).trans q1
          have x1 := (World.cell?_of_block (Posts.Ext.blk hX _ (World.block_lt_of_cell? _ _ q2))).trans q2
          have d28 := Posts.slot (show a.eval (.tmp 28) = .slice (some ⟨b, 0, none⟩) (r + 1 : Nat) vc from hD.1)
          have d29 := Posts.slot (show a.eval (.tmp 29) = .int .i64 (r : Nat) from hD.2.1)
          exact Posts.op_value (fun _ => trivial) rfl rfl (by intro c h; cases h) rfl (by rw [hS.size]; simp) (v := .slice (some ⟨b, 0, none⟩) r vc) (by simp [execOp, d28, d29,  go_sem, x0, x1, hnv]) rfl (hE.refl _) trivial
        · intro a X hX hS hD hJ hU
          have x0 := (World.cell?_of_block (Posts.Ext.blk hX _ (World.block_lt_of_cell? _ _ q1))).trans q1
          have x1 := (World.cell?_of_block (Posts.Ext.blk hX _ (World.block_lt_of_cell? _ _ q2))).trans q2
          have d24 := Posts.slot (show a.eval (.tmp 24) = .pointer (some ⟨g, 0, none⟩) from hD.1)
          exact Posts.op_value (fun _ => trivial) rfl rfl (by intro c h; cases h) rfl (by rw [hS.size]; simp) (v := .pointer (some ⟨g, 0, none⟩)) (by simp [execOp, d24,  go_sem, x0, x1, hnv]) rfl (hE.refl _) trivial
        · intro a X hX hS hD hJ hU
          have x0 := (World.cell?_of_block (Posts.Ext.blk hX _ (World.block_lt_of_cell? _ _ q1))).trans q1
          have x1 := (World.cell?_of_block (Posts.Ext.blk hX _ (World.block_lt_of_cell? _ _ q2))).trans q2
          have d31 := Posts.slot (show a.eval (.tmp 31) = .pointer (some ⟨g, 0, none⟩) from hD.1)
          exact Posts.op_value (fun _ => trivial) rfl rfl (by intro c h; cases h) rfl (by rw [hS.size]; simp) (v := .pointer (some ⟨g, 0, none⟩)) (by simp [execOp, d31,  go_sem, x0, x1, hnv]) rfl (hE.refl _) trivial
      · intro a0 Y hY hS hJt hL
        have p24 := Posts.slot (show a0.eval (.tmp 24) = .pointer (some ⟨g, 0, none⟩) from hL.1)
        have p25 := Posts.slot (show a0.eval (.tmp 25) = .pointer (some ⟨g, 0, none⟩) from hL.2.1)
        have p26 := Posts.slot (show a0.eval (.tmp 26) = .pointer (some ⟨g, 0, none⟩) from hL.2.2.1)
        have p27 := Posts.slot (show a0.eval (.tmp 27) = .pointer (some ⟨g, 0, none⟩) from hL.2.2.2.1)
        have p28 := Posts.slot (show a0.eval (.tmp 28) = .slice (some ⟨b, 0, none⟩) (r + 1 : Nat) vc from hL.2.2.2.2.1)
        have p29 := Posts.slot (show a0.eval (.tmp 29) = .int .i64 (r : Nat) from hL.2.2.2.2.2.1)
        have p30 := Posts.slot (show a0.eval (.tmp 30) = .slice (some ⟨b, 0, none⟩) r vc from hL.2.2.2.2.2.2.1)
        have p31 := Posts.slot (show a0.eval (.tmp 31) = .pointer (some ⟨g, 0, none⟩) from hL.2.2.2.2.2.2.2.1)
        have p32 := Posts.slot (show a0.eval (.tmp 32) = .pointer (some ⟨g, 0, none⟩) from hL.2.2.2.2.2.2.2.2.1)
        have hfr := hS.frame [24, 25, 26, 27, 28, 29, 30, 31, 32] (fun t ht => by simp [Posts.isDst] at ht; first | (rcases ht with h | h | h | h | h | h | h | h | h <;> subst h <;> simp) | (subst ht; simp))
        simp only [List.foldl_cons, List.foldl_nil] at hfr
        have hdf := hS.defers
        simp only [Array.getD_eq_getD_getElem?] at hfr
        clear hL hS
        generalize a0.tmps[24]?.getD undef = v24 at *
        generalize a0.tmps[25]?.getD undef = v25 at *
        generalize a0.tmps[26]?.getD undef = v26 at *
        generalize a0.tmps[27]?.getD undef = v27 at *
        generalize a0.tmps[28]?.getD undef = v28 at *
        generalize a0.tmps[29]?.getD undef = v29 at *
        generalize a0.tmps[30]?.getD undef = v30 at *
        generalize a0.tmps[31]?.getD undef = v31 at *
        generalize a0.tmps[32]?.getD undef = v32 at *
        obtain rfl := p24
        obtain rfl := p25
        obtain rfl := p26
        obtain rfl := p27
        obtain rfl := p28
        obtain rfl := p29
        obtain rfl := p30
        obtain rfl := p31
        obtain rfl := p32
        obtain ⟨tm, df⟩ := a0
        simp only [List.setIfInBounds_toArray, List.set_cons_succ, List.set_cons_zero] at hfr hdf
        subst hfr
        subst hdf
        have HPy := Lib.hid (HPop.out Y hY)
        have y2 := (World.cell?_of_block (Posts.Ext.blk hY _ (World.block_lt_of_cell? _ _ q2))).trans q2
        have yf : Y.frozen? ⟨g, 0, none⟩ = false := by have := Posts.Ext.blk hY g (World.block_lt_of_cell? _ _ q2); unfold World.frozen? at f2 ⊢; rw [this]; exact f2
        refine Posts.tail_op 9 (by kernel_rfl) (Posts.op_done (fun _ => trivial) rfl rfl (by intro c h; cases h) (Y := Y.setCell ⟨g, 0, none⟩ (.slice (some ⟨b, 0, none⟩) r vc)) (by simp [execOp, Act.eval, go_sem, y2, yf]) ?_)
        refine ⟨by kernel_rfl, ?_⟩
        simp only [Exit.inBlock, Exit.then]
        first
          | (rename_i hK; refine hK _ _ ?_)
          | (rename_i hK _; refine hK _ _ ?_)
          | (rename_i hK _ _; refine hK _ _ ?_)
        simp only [Act.put]
        clear hY y2 yf q1 q2 f2 hcell
        generalize Y.setCell ⟨g, 0, none⟩ (.slice (some ⟨b, 0, none⟩) r vc) = Y2 at *
        obtain ⟨fn, tmps, assign, body, hy, hR⟩ := HY.out _ _ k _ _ _ HJ.out HPy.out.1 HPy.out.2
        clear HPy HPop
        dsimp only [encN] at hy
        gi_wp2_with fail
        refine ⟨rfl, RoundIn.mono hR ?_⟩
        rintro e W3 h3
        clear hy hR
        rcases h3 with ⟨rfl, m', s', hlm, hJ3⟩ | ⟨rfl, hJx3⟩
        · gi_wp2_with fail
          gi_roundg m'
          case rel => exact ⟨s', hJ3⟩
          case measure => exact hlm
        · gi_wp2_with fail
          refine bodyPost_ret (results_none rfl _ _ _) rfl ?_
          exact ⟨⟨_, rfl⟩, .inr hJx3⟩
end Flw
end Go.Proofs.YtcmbkoghhhhmcaaDoor
