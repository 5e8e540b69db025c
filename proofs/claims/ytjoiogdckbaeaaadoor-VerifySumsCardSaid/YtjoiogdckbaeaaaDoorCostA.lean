/- Which one of the greatest worst comes behind, and how great that is: what cost.along answers. -/
import Derived.Test.YtjoiogdckbaeaaaDoorCostM
import Derived.Test.YtjoiogdckbaeaaaDoorFlowP1
import Derived.Test.YtjoiogdckbaeaaaDoorFlowS
import Derived.Test.YtjoiogdckbaeaaaDoorRightsPosts
import Derived.StillTailTactics
import Derived.Sort.CutIn
namespace Go.Proofs.YtjoiogdckbaeaaaDoor
open Go.ChangeShapes Go.WideShapes Go.ChangeAt Go.RowKit
namespace Cst
open Isa Flw
open Goes
open Rights (Kept)
set_option linter.unusedVariables false
set_option linter.unusedSimpArgs false
attribute [local go_sem] Oper.semAt_some
/-- the first one of the greatest, and that one -/
def bestS (W : Nat → Nat) (s : Nat × Nat) (m : Nat) : Nat × Nat := if s.2 < W m then (m, W m) else s
def bestF (W : Nat → Nat) (L : List Nat) : Nat × Nat := L.foldl (bestS W) (0, 0)
theorem bestF_snoc (W : Nat → Nat) (L : List Nat) (m : Nat) : bestF W (L ++ [m]) = bestS W (bestF W L) m := by unfold bestF; rw [List.foldl_append]; rfl
theorem maxL_cons (f : Nat → Nat) (m : Nat) (r : List Nat) : maxL f (m :: r) = max (f m) (maxL f r) := rfl
theorem best_go (W : Nat → Nat) : ∀ (L : List Nat) (s : Nat × Nat), (L.foldl (bestS W) s).2 = max s.2 (maxL W L)
  | [], s => by unfold maxL; show s.2 = _; omega
  | m :: r, s => by
    show (r.foldl (bestS W) (bestS W s m)).2 = _
    rw [best_go W r, maxL_cons]
    unfold bestS
    split
    · show max (W m) _ = _; omega
    · omega
theorem best_most (W : Nat → Nat) (L : List Nat) : (bestF W L).2 = maxL W L := by
  unfold bestF
  rw [best_go]
  show max 0 _ = _
  omega
theorem best_lo (W : Nat → Nat) : ∀ (L : List Nat) (s : Nat × Nat), maxL W L ≤ s.2 → L.foldl (bestS W) s = s
  | [], s, _ => rfl
  | m :: r, s, h => by
    rw [maxL_cons] at h
    show r.foldl (bestS W) (bestS W s m) = s
    have e : bestS W s m = s := by unfold bestS; rw [if_neg (by omega)]
    rw [e]
    exact best_lo W r s (by omega)
theorem best_hi (W : Nat → Nat) : ∀ (L : List Nat) (s : Nat × Nat), s.2 < maxL W L → (L.foldl (bestS W) s).1 = (L.find? (fun m => decide (W m = maxL W L))).getD 0
  | [], s, h => by unfold maxL at h; omega
  | m :: r, s, h => by
    show (r.foldl (bestS W) (bestS W s m)).1 = _
    by_cases q : maxL W r ≤ W m
    · have e : maxL W (m :: r) = W m := by rw [maxL_cons]; omega
      rw [e] at h ⊢
      have e2 : bestS W s m = (m, W m) := by unfold bestS; rw [if_pos h]
      rw [e2, best_lo W r _ q, List.find?_cons_of_pos (by simp)]
      rfl
    · have e : maxL W (m :: r) = maxL W r := by rw [maxL_cons]; omega
      rw [e] at h ⊢
      rw [List.find?_cons_of_neg (by simp; omega)]
      refine best_hi W r _ ?_
      unfold bestS
      split
      · show W m < _; omega
      · exact h
/-- as the way goes on -/
theorem best_bst {l : List Iv} {n : Nat} {W : Nat → Nat} (hW : ∀ m ∈ behL l n, W m = ws l m) (hne : behL l n ≠ []) : (bestF W (behL l n)).1 = bst l n := by
  have e : maxL W (behL l n) = maxL (ws l) (behL l n) := maxL_congr hW
  have h0 := maxL_pos (ws_pos l) hne
  unfold bestF
  rw [best_hi W _ _ (by rw [e]; exact h0)]
  unfold bst
  congr 1
  rw [e]
  generalize maxL (ws l) (behL l n) = M
  have : ∀ L : List Nat, (∀ m ∈ L, W m = ws l m) → L.find? (fun m => decide (W m = M)) = L.find? (fun m => decide (ws l m = M)) := by
    intro L
    induction L with
    | nil => intro _; rfl
    | cons a r ih =>
      intro hL
      rw [List.find?_cons, List.find?_cons, hL a (by simp), ih fun m hm => hL m (by simp [hm])]
  exact this _ hW
/-- between two rounds -/
structure AI (S A A2 g n : Nat) (w : World) (sl : Value) (cap : Nat) (Wk : List Nat) (s : Nat × Nat) (V : World) : Prop where
  b0 : Box V S 3 (.int .i64 (s.1 : Nat))
  b1 : Box V (S + 1) 23 (.int .u32 (s.2 : Nat))
  bel : Below S w V
  b2 : Box V A2 26 (.slice (some ⟨g, 0, none⟩) n cap)
  row : ∀ m, m < n → V.cell? ⟨g, m, none⟩ = some (.int .u32 ((wf Wk m : Nat) : Int))
theorem ai_steady {S A A2 g n B : Nat} {w : World} {sl : Value} {cap : Nat} {Wk : List Nat} (hx : S + 1 < B ∧ A2 < S ∧ w.heap.size = S ∧ g < S) : Steady B (fun (pre : List Nat) V => AI S A A2 g n w sl cap Wk (bestF (wf Wk) pre) V) := by
  obtain ⟨h1, h2, h3, h4⟩ := hx
  rintro pre X Y ⟨b0, b1, bel, b2, row⟩ hk
  exact ⟨b0.kept hk (by omega), b1.kept hk (by omega), bel.trans (below_of hk (by have := bel.size; omega) (fun k hk => by omega)), b2.kept hk (by omega), fun m hm => hk.cell (row m hm) (by show ¬ (g = B ∨ g = B + 1); omega)⟩
/-- all blocks but R stay as they are; R stays, or becomes FC -/
structure EK (R : Nat) (FC : Obj) (X Y : World) : Prop where
  os : Y.os = X.os
  tape : Y.tape = X.tape
  output : Y.output = X.output
  size : X.heap.size ≤ Y.heap.size
  block : ∀ k, k < X.heap.size → k ≠ R → Y.heap[k]? = X.heap[k]?
  own : R < X.heap.size → Y.heap[R]? = X.heap[R]? ∨ Y.heap[R]? = some FC
theorem ek_rel (R : Nat) (FC : Obj) : Posts.Rel (EK R FC) where
  refl := fun X => ⟨rfl, rfl, rfl, Nat.le_refl _, fun _ _ _ => rfl, fun _ => .inl rfl⟩
  trans := fun X Y Z h k => ⟨k.os.trans h.os, k.tape.trans h.tape, k.output.trans h.output, Nat.le_trans h.size k.size, fun j hj hne => (k.block j (Nat.lt_of_lt_of_le hj h.size) hne).trans (h.block j hj hne), fun hR => by
    rcases k.own (Nat.lt_of_lt_of_le hR h.size) with e | e
    · rcases h.own hR with e2 | e2
      · exact .inl (e.trans e2)
      · exact .inr (e.trans e2)
    · exact .inr e⟩
  drew := fun X => ⟨rfl, rfl, rfl, Nat.le_refl _, fun _ _ _ => rfl, fun _ => .inl rfl⟩
theorem EK.of {R : Nat} {FC : Obj} {X Y : World} (h : Below X.heap.size X Y) : EK R FC X Y :=
  ⟨h.os, h.tape, h.output, h.size, fun k hk _ => h.block k hk, fun hR => .inl (h.block R hR)⟩
theorem EK.below {R : Nat} {FC : Obj} {X Y w : World} (h : EK R FC X Y) (hb : Below R w X) (hR : R ≤ X.heap.size) : Below R w Y :=
  ⟨h.os.trans hb.os, h.tape.trans hb.tape, h.output.trans hb.output, Nat.le_trans hb.size h.size, fun k hk => (h.block k (Nat.lt_of_lt_of_le hk hR) (by omega)).trans (hb.block k hk)⟩
theorem EK.stable {R : Nat} {FC : Obj} : Posts.Stable (EK R FC) (fun _ X => R < X.heap.size ∧ X.heap[R]? = some FC) := fun v X Y hp h => ⟨Nat.lt_of_lt_of_le hp.1 h.size, by
  rcases h.own hp.1 with e | e
  · exact e.trans hp.2
  · exact e⟩
theorem EK.kept {R : Nat} {FC : Obj} {X Y : World} (h : EK R FC X Y) : Kept (fun k => k = R) X Y := ⟨h.os, h.tape, h.output, h.size, fun k hk hn => h.block k hk hn⟩
theorem ek_store1 {R : Nat} {X : World} {u v : Value} {t : TypeId} (h : Box X R t u) : EK R (.cells #[v] t (0, 0)) X (X.setCell ⟨R, 0, none⟩ v) :=
  ⟨rfl, rfl, rfl, by simp [World.setCell], fun k hk hne => Below.heap_setCell _ _ _ _ hne, fun _ => .inr (h.set v)⟩
set_option maxRecDepth 100000 in
set_option maxHeartbeats 6400000 in
theorem onward_any (l : List Iv) (a : Option Addr) (n c : Nat) (w : World) (hf : Fine l) (h : IRow w a n l) (A A2 g cap : Nat) (Wk : List Nat) (k : Nat) (hkn : k < n) (hA : Box w A 22 (.slice a n c)) (hA2 : Box w A2 26 (.slice (some ⟨g, 0, none⟩) n cap)) (hW : ∀ m, m < n → w.cell? ⟨g, m, none⟩ = some (.int .u32 ((wf Wk m : Nat) : Int))) (hg : g < w.heap.size) :
    Calls Tryd.prog 65 #[.int .i64 (k : Nat), .pointer (some ⟨A, 0, none⟩), .pointer (some ⟨A2, 0, none⟩)] w fun e w' => e = .returned (.tuple #[.int .i64 ((bestF (wf Wk) (behL l k)).1 : Nat), .int .u32 ((bestF (wf Wk) (behL l k)).2 : Nat)]) ∧ Below w.heap.size w w' := by
  have hln : l.length = n := h.1
  have hn16 : n ≤ 16384 := by have := hf.most; omega
  have HL := Lib.hid hln
  have HF := Lib.hid hf
  have HRow := Lib.hid h
  obtain ⟨S, hS⟩ : ∃ S, w.heap.size = S := ⟨_, rfl⟩
  have HS := Lib.hid hS
  have HLA : Hid (A < S ∧ A2 < S ∧ g < S) := ⟨by rw [← hS]; exact hA.lt, by rw [← hS]; exact hA2.lt, by rw [← hS]; exact hg⟩
  obtain ⟨X0, hX0⟩ : ∃ X0, (w.alloc (.cells #[.int .i64 0] 3)).alloc (.cells #[.int .u32 0] 23) = X0 := ⟨_, rfl⟩
  have hk0 : Kept (fun _ => False) w X0 := by rw [← hX0]; exact ((Kept.refl _ w).alloc _).alloc _
  have HKw := Lib.hid hk0
  have HI0 : Hid (AI S A A2 g n w (.slice a n c) cap Wk (0, 0) X0) := by
    refine ⟨?_, ?_, ?_, hA2.kept hk0 (fun x => x), fun m hm => hk0.cell (hW m hm) (fun x => x)⟩
    · rw [← hX0, ← hS]; exact (Box.new w _ _).kept ((Kept.refl (fun _ => False) _).alloc _) (fun x => x)
    · have := Box.new (w.alloc (.cells #[.int .i64 0] 3)) 23 (.int .u32 0)
      rw [World.size_alloc, hS] at this
      rw [← hX0]; exact this
    · rw [← hX0, ← hS]; exact ((Below.refl _ w).alloc (Nat.le_refl _) _).alloc (by simp) _
  have HSz0 : Hid (X0.heap.size = S + 2) := by show _ = _; rw [← hX0, World.size_alloc, World.size_alloc, hS]
  have HA1 : Hid (Box X0 A 22 (.slice a n c)) := hA.kept hk0 (fun x => x)
  clear hf h hA hA2 hW hg hln hk0
  refine (callsIn_wide (n := 0)).1 ?_
  refine callsIn_of_wp_marks Tryd.func65 rfl trivial ?_ rfl
  simp only [Tryd.ntmps65, List.size_toArray, List.length_cons, List.length_nil, Nat.reduceAdd, Nat.reduceSub, Array.replicate_succ, Array.replicate_zero, List.push_toArray, List.append_toArray, List.nil_append, List.cons_append]
  refine (wpIn_wide (n := 0)).2 ?_
  go_upto_region 1 with fail
  clear hX0 hS
  have ql := HA1.out.cell
  obtain ⟨b, off, rfl, hc, hw⟩ := (HRow.out.below HI0.out.bel (by rw [HS.out]; exact Nat.le_refl _)).at k hkn
  obtain ⟨c0, c1, c2, c3⟩ := hc
  have k0 : (0 : Int) ≤ k := by omega
  have k1 : (k : Int) < n := by omega
  have HMake := Lib.hid (fun W => behind_make (l.getD k iz) hw k (by omega) W)
  have HLk : Hid (behI (l.getD k iz) k = behL l k) := rfl
  clear hw
  generalize l.getD k iz = x at *
  obtain ⟨xo, xa, xb, xc⟩ := x
  unfold iv at HMake
  simp only at *
  have HI1 := HI0
  have HSz1 := HSz0
  clear HKw
  go_wp2_with fail
  refine (HMake.out _).mono ?_
  rintro e W5 ⟨v5, rfl, F, lb, cc, rfl, heg, hseq, hb5, hcc⟩
  rw [HLk.out] at hseq
  clear HI0 HSz0 HA1 ql c0 c1 c2 c3
  obtain ⟨B, hB⟩ : ∃ B, W5.heap.size = B := ⟨_, rfl⟩
  have HBs : Hid (S + 2 ≤ B) := by have h1 := hb5.size; have h2 := HSz1.out; show _ ≤ _; omega
  have HCc : Hid (∀ j, cc j → S + 2 ≤ j ∧ j < B) := fun j hj => by have h1 := hcc j hj; have h2 := HSz1.out; omega
  have HI5 : Hid (AI S A A2 g n w (.slice (some ⟨b, off, none⟩) n c) cap Wk (bestF (wf Wk) []) W5) := by
    have h := HI1.out
    have kk : Kept (fun _ => False) X0 W5 := kept_of hb5 fun j h1 h2 => absurd h1 (by omega)
    exact ⟨h.b0.kept kk (fun x => x), h.b1.kept kk (fun x => x), h.bel.trans (below_of kk (by have := HSz1.out; omega) (fun _ x => x.elim)), h.b2.kept kk (fun x => x), fun m hm => kk.cell (h.row m hm) (fun x => x)⟩
  have HBe := Lib.hid hB
  have HSq := Lib.hid hseq
  have HEg := Lib.hid heg
  clear hB hb5 hcc hseq heg HMake HI1 HSz1 k0 k1
  go_wp2_with fail
  refine (wpIn_wide (n := 0)).1 ?_
  rename_i K2 hK2
  refine wpIn_rangeFunc_n (gf := F) (lb := lb) rfl HEg.out HSq.out (Kept.refl _ _) (fun j hj => by rw [HBe.out]; exact (HCc.out j hj).2) (fun _ => rfl)
    (fun pre V' => AI S A A2 g n w (.slice (some ⟨b, off, none⟩) n c) cap Wk (bestF (wf Wk) pre) V') (fun _ _ _ => False) (by rw [HBe.out]; exact ai_steady (by have h1 := HBs.out; have h2 := HLA.out; have h3 := HS.out; omega)) (fun _ _ _ _ h _ => h.elim) HI5.out
    (fun z => { tmps := #[.int .i64 (k : Nat), .pointer (some ⟨A, 0, none⟩), .pointer (some ⟨A2, 0, none⟩), undef, .pointer (some ⟨S, 0, none⟩), .pointer (some ⟨S + 1, 0, none⟩), .int .i64 (z : Nat), .slice (some ⟨b, off, none⟩) n c, .int .i64 (k : Nat), .pointer (some ⟨b, off + k * 4, none⟩), .agg #[.int .u8 xo, .int .u8 xa, .int .u16 xb, .int .u32 xc], .int .i64 (k : Nat), .func (.func F) #[] lb, .int .i64 (z : Nat), undef, undef, undef, undef, undef, undef, undef, undef, undef, undef, undef, undef, undef], defers := [] }) ?assign ?body ?done ?stop
  case assign =>
    intro l2 z W K hK
    unfold encN
    gi_wp2_with fail
    exact hK
  case body =>
    rintro l2 pre z W hpx hszW h
    rw [HBe.out] at hszW ⊢
    have hzm : z ∈ behL l k := hpx.subset (by simp)
    have hzn : z < n := by have := beh_lt HF.out HRow.out.2.1 (by rw [HL.out]; exact hkn) hzm; have := HL.out; omega
    have HR := Lib.hid h
    have z0 : (0 : Int) ≤ z := by omega
    have z1 : (z : Int) < n := by omega
    have qw := h.b2.cell
    have qz := h.row z hzn
    have q1 := h.b1.cell
    obtain ⟨x, hx⟩ : ∃ x, wf Wk z = x := ⟨_, rfl⟩
    obtain ⟨y, hy⟩ : ∃ y, (bestF (wf Wk) pre).2 = y := ⟨_, rfl⟩
    rw [hx] at qz
    rw [hy] at q1
    have HX := Lib.hid hx
    have HY := Lib.hid hy
    have hE := Posts.ext_rel
    clear hpx hszW h hzm hK2 hx hy
    by_cases hlt : y < x
    · have hq : decide ((y : Int) < (x : Int)) = true := decide_eq_true (by omega)
      have hqN : (y < x) = True := eq_true hlt
      have HLt := Lib.hid hlt
      clear hlt
      gi_upto_region 3 with fail
      refine (Posts.wpIn_region_tail hE 6 0 (Posts.At [Posts.is (.slice (some ⟨g, 0, none⟩) n cap), Posts.is (.int .i64 (z : Nat)), Posts.is (.pointer (some ⟨g, z, none⟩)), Posts.is (.int .u32 (x : Nat)), Posts.is (.int .u32 (y : Nat)), Posts.is (.bool true)]) (fun _ _ => True) (by kernel_rfl) (by decide) (by kernel_rfl) (by kernel_rfl) (by kernel_rfl)
        (Posts.stable_at _ (by repeat' (first | exact trivial | (refine And.intro ?_ ?_) | exact Posts.is_stable _ | exact Posts.on_stable _ _ | assumption))) trivial ?_ ?_)
      · refine ⟨?_, ?_, ?_, ?_, ?_, ?_, trivial⟩
        · intro a X hX hS hD hJ hU
          have x0 := (World.cell?_of_block (Posts.Ext.blk hX _ (World.block_lt_of_cell? _ _ qw))).trans qw
          have x1 := (World.cell?_of_block (Posts.Ext.blk hX _ (World.block_lt_of_cell? _ _ qz))).trans qz
          have x2 := (World.cell?_of_block (Posts.Ext.blk hX _ (World.block_lt_of_cell? _ _ q1))).trans q1
          have d2 := Posts.slot (show a.eval (.tmp 2) = .pointer (some ⟨A2, 0, none⟩) from hS.other 2 rfl)
          exact Posts.op_value (fun _ => trivial) rfl rfl (by intro c h; cases h) rfl (by rw [hS.size]; simp) (v := .slice (some ⟨g, 0, none⟩) n cap) (by simp [execOp, d2,  go_sem, x0, x1, x2, z0, z1, hq, hqN]) rfl (hE.refl _) trivial
        · intro a X hX hS hD hJ hU
          have x0 := (World.cell?_of_block (Posts.Ext.blk hX _ (World.block_lt_of_cell? _ _ qw))).trans qw
          have x1 := (World.cell?_of_block (Posts.Ext.blk hX _ (World.block_lt_of_cell? _ _ qz))).trans qz
          have x2 := (World.cell?_of_block (Posts.Ext.blk hX _ (World.block_lt_of_cell? _ _ q1))).trans q1
          have d6 := Posts.slot (show a.eval (.tmp 6) = .int .i64 (z : Nat) from hS.other 6 rfl)
          exact Posts.op_value (fun _ => trivial) rfl rfl (by intro c h; cases h) rfl (by rw [hS.size]; simp) (v := .int .i64 (z : Nat)) (by simp [execOp, d6,  go_sem, x0, x1, x2, z0, z1, hq, hqN]) rfl (hE.refl _) trivial
        · intro a X hX hS hD hJ hU
          have x0 := (World.cell?_of_block (Posts.Ext.blk hX _ (World.block_lt_of_cell? _ _ qw))).trans qw
          have x1 := (World.cell?_of_block (Posts.Ext.blk hX _ (World.block_lt_of_cell? _ _ qz))).trans qz
          have x2 := (World.cell?_of_block (Posts.Ext.blk hX _ (World.block_lt_of_cell? _ _ q1))).trans q1
          have d14 := Posts.slot (show a.eval (.tmp 14) = .slice (some ⟨g, 0, none⟩) n cap from hD.1)
          have d15 := Posts.slot (show a.eval (.tmp 15) = .int .i64 (z : Nat) from hD.2.1)
          exact Posts.op_value (fun _ => trivial) rfl rfl (by intro c h; cases h) rfl (by rw [hS.size]; simp) (v := .pointer (some ⟨g, z, none⟩)) (by simp [execOp, d14, d15,  go_sem, x0, x1, x2, z0, z1, hq, hqN]) rfl (hE.refl _) trivial
        · intro a X hX hS hD hJ hU
          have x0 := (World.cell?_of_block (Posts.Ext.blk hX _ (World.block_lt_of_cell? _ _ qw))).trans qw
          have x1 := (World.cell?_of_block (Posts.Ext.blk hX _ (World.block_lt_of_cell? _ _ qz))).trans qz
          have x2 := (World.cell?_of_block (Posts.Ext.blk hX _ (World.block_lt_of_cell? _ _ q1))).trans q1
          have d16 := Posts.slot (show a.eval (.tmp 16) = .pointer (some ⟨g, z, none⟩) from hD.1)
          exact Posts.op_value (fun _ => trivial) rfl rfl (by intro c h; cases h) rfl (by rw [hS.size]; simp) (v := .int .u32 (x : Nat)) (by simp [execOp, d16,  go_sem, x0, x1, x2, z0, z1, hq, hqN]) rfl (hE.refl _) trivial
        · intro a X hX hS hD hJ hU
          have x0 := (World.cell?_of_block (Posts.Ext.blk hX _ (World.block_lt_of_cell? _ _ qw))).trans qw
          have x1 := (World.cell?_of_block (Posts.Ext.blk hX _ (World.block_lt_of_cell? _ _ qz))).trans qz
          have x2 := (World.cell?_of_block (Posts.Ext.blk hX _ (World.block_lt_of_cell? _ _ q1))).trans q1
          have d5 := Posts.slot (show a.eval (.tmp 5) = .pointer (some ⟨S + 1, 0, none⟩) from hS.other 5 rfl)
          exact Posts.op_value (fun _ => trivial) rfl rfl (by intro c h; cases h) rfl (by rw [hS.size]; simp) (v := .int .u32 (y : Nat)) (by simp [execOp, d5,  go_sem, x0, x1, x2, z0, z1, hq, hqN]) rfl (hE.refl _) trivial
        · intro a X hX hS hD hJ hU
          have x0 := (World.cell?_of_block (Posts.Ext.blk hX _ (World.block_lt_of_cell? _ _ qw))).trans qw
          have x1 := (World.cell?_of_block (Posts.Ext.blk hX _ (World.block_lt_of_cell? _ _ qz))).trans qz
          have x2 := (World.cell?_of_block (Posts.Ext.blk hX _ (World.block_lt_of_cell? _ _ q1))).trans q1
          have d17 := Posts.slot (show a.eval (.tmp 17) = .int .u32 (x : Nat) from hD.1)
          have d18 := Posts.slot (show a.eval (.tmp 18) = .int .u32 (y : Nat) from hD.2.1)
          exact Posts.op_value (fun _ => trivial) rfl rfl (by intro c h; cases h) rfl (by rw [hS.size]; simp) (v := .bool true) (by simp [execOp, d17, d18,  go_sem, x0, x1, x2, z0, z1, hq, hqN]) rfl (hE.refl _) trivial
      · intro a0 Y hY hS hJt hL
        have p14 := Posts.slot (show a0.eval (.tmp 14) = .slice (some ⟨g, 0, none⟩) n cap from hL.1)
        have p15 := Posts.slot (show a0.eval (.tmp 15) = .int .i64 (z : Nat) from hL.2.1)
        have p16 := Posts.slot (show a0.eval (.tmp 16) = .pointer (some ⟨g, z, none⟩) from hL.2.2.1)
        have p17 := Posts.slot (show a0.eval (.tmp 17) = .int .u32 (x : Nat) from hL.2.2.2.1)
        have p18 := Posts.slot (show a0.eval (.tmp 18) = .int .u32 (y : Nat) from hL.2.2.2.2.1)
        have p19 := Posts.slot (show a0.eval (.tmp 19) = .bool true from hL.2.2.2.2.2.1)
        have hfr := hS.frame [14, 15, 16, 17, 18, 19] (fun t ht => by simp [Posts.isDst] at ht; first | (rcases ht with h | h | h | h | h | h <;> subst h <;> simp) | (subst ht; simp))
        simp only [List.foldl_cons, List.foldl_nil] at hfr
        have hdf := hS.defers
        simp only [Array.getD_eq_getD_getElem?] at hfr
        clear hL hS
        generalize a0.tmps[14]?.getD undef = v14 at *
        generalize a0.tmps[15]?.getD undef = v15 at *
        generalize a0.tmps[16]?.getD undef = v16 at *
        generalize a0.tmps[17]?.getD undef = v17 at *
        generalize a0.tmps[18]?.getD undef = v18 at *
        generalize a0.tmps[19]?.getD undef = v19 at *
        obtain rfl := p14
        obtain rfl := p15
        obtain rfl := p16
        obtain rfl := p17
        obtain rfl := p18
        obtain rfl := p19
        obtain ⟨tm, df⟩ := a0
        simp only [List.setIfInBounds_toArray, List.set_cons_succ, List.set_cons_zero] at hfr hdf
        subst hfr
        subst hdf
        refine ⟨by kernel_rfl, ?_⟩
        simp only [Exit.inBlock, Exit.then]
        first
          | (rename_i hK; refine hK _ _ ?_)
          | (rename_i hK _; refine hK _ _ ?_)
          | (rename_i hK _ _; refine hK _ _ ?_)
        have HIy : Hid (AI S A A2 g n w (.slice (some ⟨b, off, none⟩) n c) cap Wk (bestF (wf Wk) pre) Y) := by
          have h := HR.out
          have kk : Kept (fun _ => False) W Y := kept_of hY fun j h1 h2 => absurd h1 (by omega)
          exact ⟨h.b0.kept kk (fun x => x), h.b1.kept kk (fun x => x), h.bel.trans (below_of kk (by have := h.b0.lt; omega) (fun _ x => x.elim)), h.b2.kept kk (fun x => x), fun m hm => kk.cell (h.row m hm) (fun x => x)⟩
        have HKy : Hid (Kept (fun _ => False) W Y) := kept_of hY fun j h1 h2 => absurd h1 (by omega)
        clear hE hY qw qz q1 hK
        have hE := ek_rel S (.cells #[.int .i64 (z : Nat)] 3 (0, 0))
        have hES : Posts.Stable (EK S (.cells #[.int .i64 (z : Nat)] 3 (0, 0))) (fun _ X => S < X.heap.size ∧ X.heap[S]? = some (.cells #[.int .i64 (z : Nat)] 3 (0, 0))) := EK.stable
        have hb0 := HIy.out.b0
        have neA2 : A2 ≠ S := by have := HLA.out; omega
        have neg : g ≠ S := by have := HLA.out; omega
        have qw := HIy.out.b2.cell
        have qz := HIy.out.row z hzn
        rw [HX.out] at qz
        gi_upto_region 4 with fail
        refine (Posts.wpIn_region_tail hE 6 4 (Posts.At [Posts.is (.int .i64 (z : Nat)), Posts.is (.slice (some ⟨g, 0, none⟩) n cap), Posts.is (.int .i64 (z : Nat)), Posts.is (.pointer (some ⟨g, z, none⟩)), Posts.is (.int .u32 (x : Nat)), (fun _ X => S < X.heap.size ∧ X.heap[S]? = some (.cells #[.int .i64 (z : Nat)] 3 (0, 0)))]) (fun _ _ => True) (by kernel_rfl) (by decide) (by kernel_rfl) (by kernel_rfl) (by kernel_rfl)
          (Posts.stable_at _ (by repeat' (first | exact trivial | (refine And.intro ?_ ?_) | exact Posts.is_stable _ | exact Posts.on_stable _ _ | assumption))) trivial ?_ ?_)
        · refine ⟨?_, ?_, ?_, ?_, ?_, ?_, trivial⟩
          · intro a X hX hS hD hJ hU
            have x0 := (World.cell?_of_block (hX.block _ (World.block_lt_of_cell? _ _ qw) neA2)).trans qw
            have x1 := (World.cell?_of_block (hX.block _ (World.block_lt_of_cell? _ _ qz) neg)).trans qz
            have d6 := Posts.slot (show a.eval (.tmp 6) = .int .i64 (z : Nat) from hS.other 6 rfl)
            exact Posts.op_value (fun _ => trivial) rfl rfl (by intro c h; cases h) rfl (by rw [hS.size]; simp) (v := .int .i64 (z : Nat)) (by simp [execOp, d6,  go_sem, x0, x1, z0, z1]) rfl (hE.refl _) trivial
          · intro a X hX hS hD hJ hU
            have x0 := (World.cell?_of_block (hX.block _ (World.block_lt_of_cell? _ _ qw) neA2)).trans qw
            have x1 := (World.cell?_of_block (hX.block _ (World.block_lt_of_cell? _ _ qz) neg)).trans qz
            have d2 := Posts.slot (show a.eval (.tmp 2) = .pointer (some ⟨A2, 0, none⟩) from hS.other 2 rfl)
            exact Posts.op_value (fun _ => trivial) rfl rfl (by intro c h; cases h) rfl (by rw [hS.size]; simp) (v := .slice (some ⟨g, 0, none⟩) n cap) (by simp [execOp, d2,  go_sem, x0, x1, z0, z1]) rfl (hE.refl _) trivial
          · intro a X hX hS hD hJ hU
            have x0 := (World.cell?_of_block (hX.block _ (World.block_lt_of_cell? _ _ qw) neA2)).trans qw
            have x1 := (World.cell?_of_block (hX.block _ (World.block_lt_of_cell? _ _ qz) neg)).trans qz
            have d6 := Posts.slot (show a.eval (.tmp 6) = .int .i64 (z : Nat) from hS.other 6 rfl)
            exact Posts.op_value (fun _ => trivial) rfl rfl (by intro c h; cases h) rfl (by rw [hS.size]; simp) (v := .int .i64 (z : Nat)) (by simp [execOp, d6,  go_sem, x0, x1, z0, z1]) rfl (hE.refl _) trivial
          · intro a X hX hS hD hJ hU
            have x0 := (World.cell?_of_block (hX.block _ (World.block_lt_of_cell? _ _ qw) neA2)).trans qw
            have x1 := (World.cell?_of_block (hX.block _ (World.block_lt_of_cell? _ _ qz) neg)).trans qz
            have d21 := Posts.slot (show a.eval (.tmp 21) = .slice (some ⟨g, 0, none⟩) n cap from hD.1)
            have d22 := Posts.slot (show a.eval (.tmp 22) = .int .i64 (z : Nat) from hD.2.1)
            exact Posts.op_value (fun _ => trivial) rfl rfl (by intro c h; cases h) rfl (by rw [hS.size]; simp) (v := .pointer (some ⟨g, z, none⟩)) (by simp [execOp, d21, d22,  go_sem, x0, x1, z0, z1]) rfl (hE.refl _) trivial
          · intro a X hX hS hD hJ hU
            have x0 := (World.cell?_of_block (hX.block _ (World.block_lt_of_cell? _ _ qw) neA2)).trans qw
            have x1 := (World.cell?_of_block (hX.block _ (World.block_lt_of_cell? _ _ qz) neg)).trans qz
            have d23 := Posts.slot (show a.eval (.tmp 23) = .pointer (some ⟨g, z, none⟩) from hD.1)
            exact Posts.op_value (fun _ => trivial) rfl rfl (by intro c h; cases h) rfl (by rw [hS.size]; simp) (v := .int .u32 (x : Nat)) (by simp [execOp, d23,  go_sem, x0, x1, z0, z1]) rfl (hE.refl _) trivial
          · intro a X hX hS hD hJ hU
            have x0 := (World.cell?_of_block (hX.block _ (World.block_lt_of_cell? _ _ qw) neA2)).trans qw
            have x1 := (World.cell?_of_block (hX.block _ (World.block_lt_of_cell? _ _ qz) neg)).trans qz
            obtain ⟨u, hz⟩ : ∃ u, Box X S 3 u := by
              rcases hX.own hb0.lt with e | e
              · exact ⟨_, e.trans hb0⟩
              · exact ⟨_, e⟩
            have zc0 := hz.cell
            have zf0 := hz.free
            have hfin : (X.setCell ⟨S, 0, none⟩ (.int .i64 (z : Nat))).heap[S]? = some (.cells #[.int .i64 (z : Nat)] 3 (0, 0)) := hz.set (.int .i64 (z : Nat))
            have hek := ek_store1 (v := .int .i64 (z : Nat)) hz
            have d4 := Posts.slot (show a.eval (.tmp 4) = .pointer (some ⟨S, 0, none⟩) from hS.other 4 rfl)
            have d20 := Posts.slot (show a.eval (.tmp 20) = .int .i64 (z : Nat) from hD.1)
            exact Posts.op_done (fun _ => trivial) rfl rfl (by intro c h; cases h) (Y := X.setCell ⟨S, 0, none⟩ (.int .i64 (z : Nat))) (by simp [execOp, d4, d20, zc0, zf0, go_sem]) ⟨⟨⟨undef, rfl⟩, ⟨Nat.lt_of_lt_of_le hz.lt hek.size, hfin⟩, hek⟩, trivial⟩
        · intro a0 Y hY hS hJt hL
          have p20 := Posts.slot (show a0.eval (.tmp 20) = .int .i64 (z : Nat) from hL.1)
          have p21 := Posts.slot (show a0.eval (.tmp 21) = .slice (some ⟨g, 0, none⟩) n cap from hL.2.1)
          have p22 := Posts.slot (show a0.eval (.tmp 22) = .int .i64 (z : Nat) from hL.2.2.1)
          have p23 := Posts.slot (show a0.eval (.tmp 23) = .pointer (some ⟨g, z, none⟩) from hL.2.2.2.1)
          have p24 := Posts.slot (show a0.eval (.tmp 24) = .int .u32 (x : Nat) from hL.2.2.2.2.1)
          have p_5 := (show _ from hL.2.2.2.2.2.1)
          have hfr := hS.frame [20, 21, 22, 23, 24] (fun t ht => by simp [Posts.isDst] at ht; first | (rcases ht with h | h | h | h | h <;> subst h <;> simp) | (subst ht; simp))
          simp only [List.foldl_cons, List.foldl_nil] at hfr
          have hdf := hS.defers
          simp only [Array.getD_eq_getD_getElem?] at hfr
          clear hL hS
          generalize a0.tmps[20]?.getD undef = v20 at *
          generalize a0.tmps[21]?.getD undef = v21 at *
          generalize a0.tmps[22]?.getD undef = v22 at *
          generalize a0.tmps[23]?.getD undef = v23 at *
          generalize a0.tmps[24]?.getD undef = v24 at *
          obtain rfl := p20
          obtain rfl := p21
          obtain rfl := p22
          obtain rfl := p23
          obtain rfl := p24
          obtain ⟨tm, df⟩ := a0
          simp only [List.setIfInBounds_toArray, List.set_cons_succ, List.set_cons_zero] at hfr hdf
          subst hfr
          subst hdf
          obtain ⟨_, hfy⟩ := p_5
          have hky0 := hY.kept
          have h := HIy.out
          have k0' : Box Y S 3 (.int .i64 (z : Nat)) := hfy
          have b1' := h.b1.kept hky0 (by omega)
          have y1 := b1'.cell
          have f1 := b1'.free
          have k2 : Kept (fun j => j = S + 1) Y (Y.setCell ⟨S + 1, 0, none⟩ (.int .u32 (x : Nat))) := kept_set _ _ _ _ rfl
          refine Posts.tail_op 6 (by kernel_rfl) (Posts.op_done (fun _ => trivial) rfl rfl (by intro c h; cases h) (Y := Y.setCell ⟨S + 1, 0, none⟩ (.int .u32 (x : Nat))) (by simp [execOp, Act.eval, Act.put, y1, f1, go_sem]) ?_)
          refine ⟨by kernel_rfl, ?_⟩
          have kk := (hky0.mono (q := fun j => j = S ∨ j = S + 1) fun j _ e => .inl e).trans (k2.mono fun j _ e => .inr e)
          have kall := (HKy.out.mono (q := fun j => j = S ∨ j = S + 1) fun _ _ x => x.elim).trans kk
          have hla := HLA.out
          have hss := HS.out
          have hbs := HBs.out
          simp only [Exit.inBlock, postN]
          refine ⟨kall.mono fun j _ e => ⟨fun q => by have := HCc.out j q; omega, by omega, by omega⟩, ?_⟩
          have eb : bestF (wf Wk) (pre ++ [z]) = (z, x) := by
            rw [bestF_snoc]
            unfold bestS
            rw [HY.out, HX.out, if_pos HLt.out]
          show AI S A A2 g n w _ cap Wk (bestF (wf Wk) (pre ++ [z])) _
          rw [eb]
          exact ⟨k0'.kept k2 (by omega), b1'.set _, h.bel.trans (below_of kk (by have := h.b0.lt; omega) (fun j hj => by omega)), h.b2.kept kk (by omega), fun m hm => kk.cell (h.row m hm) (by show ¬ (g = S ∨ g = S + 1); omega)⟩
    · have hq : decide ((y : Int) < (x : Int)) = false := decide_eq_false (by omega)
      have hqN : (y < x) = False := eq_false hlt
      have HLt := Lib.hid hlt
      clear hlt
      gi_upto_region 3 with fail
      refine (Posts.wpIn_region_tail hE 6 0 (Posts.At [Posts.is (.slice (some ⟨g, 0, none⟩) n cap), Posts.is (.int .i64 (z : Nat)), Posts.is (.pointer (some ⟨g, z, none⟩)), Posts.is (.int .u32 (x : Nat)), Posts.is (.int .u32 (y : Nat)), Posts.is (.bool false)]) (fun _ _ => True) (by kernel_rfl) (by decide) (by kernel_rfl) (by kernel_rfl) (by kernel_rfl)
        (Posts.stable_at _ (by repeat' (first | exact trivial | (refine And.intro ?_ ?_) | exact Posts.is_stable _ | exact Posts.on_stable _ _ | assumption))) trivial ?_ ?_)
      · refine ⟨?_, ?_, ?_, ?_, ?_, ?_, trivial⟩
        · intro a X hX hS hD hJ hU
          have x0 := (World.cell?_of_block (Posts.Ext.blk hX _ (World.block_lt_of_cell? _ _ qw))).trans qw
          have x1 := (World.cell?_of_block (Posts.Ext.blk hX _ (World.block_lt_of_cell? _ _ qz))).trans qz
          have x2 := (World.cell?_of_block (Posts.Ext.blk hX _ (World.block_lt_of_cell? _ _ q1))).trans q1
          have d2 := Posts.slot (show a.eval (.tmp 2) = .pointer (some ⟨A2, 0, none⟩) from hS.other 2 rfl)
          exact Posts.op_value (fun _ => trivial) rfl rfl (by intro c h; cases h) rfl (by rw [hS.size]; simp) (v := .slice (some ⟨g, 0, none⟩) n cap) (by simp [execOp, d2,  go_sem, x0, x1, x2, z0, z1, hq, hqN]) rfl (hE.refl _) trivial
        · intro a X hX hS hD hJ hU
          have x0 := (World.cell?_of_block (Posts.Ext.blk hX _ (World.block_lt_of_cell? _ _ qw))).trans qw
          have x1 := (World.cell?_of_block (Posts.Ext.blk hX _ (World.block_lt_of_cell? _ _ qz))).trans qz
          have x2 := (World.cell?_of_block (Posts.Ext.blk hX _ (World.block_lt_of_cell? _ _ q1))).trans q1
          have d6 := Posts.slot (show a.eval (.tmp 6) = .int .i64 (z : Nat) from hS.other 6 rfl)
          exact Posts.op_value (fun _ => trivial) rfl rfl (by intro c h; cases h) rfl (by rw [hS.size]; simp) (v := .int .i64 (z : Nat)) (by simp [execOp, d6,  go_sem, x0, x1, x2, z0, z1, hq, hqN]) rfl (hE.refl _) trivial
        · intro a X hX hS hD hJ hU
          have x0 := (World.cell?_of_block (Posts.Ext.blk hX _ (World.block_lt_of_cell? _ _ qw))).trans qw
          have x1 := (World.cell?_of_block (Posts.Ext.blk hX _ (World.block_lt_of_cell? _ _ qz))).trans qz
          have x2 := (World.cell?_of_block (Posts.Ext.blk hX _ (World.block_lt_of_cell? _ _ q1))).trans q1
          have d14 := Posts.slot (show a.eval (.tmp 14) = .slice (some ⟨g, 0, none⟩) n cap from hD.1)
          have d15 := Posts.slot (show a.eval (.tmp 15) = .int .i64 (z : Nat) from hD.2.1)
          exact Posts.op_value (fun _ => trivial) rfl rfl (by intro c h; cases h) rfl (by rw [hS.size]; simp) (v := .pointer (some ⟨g, z, none⟩)) (by simp [execOp, d14, d15,  go_sem, x0, x1, x2, z0, z1, hq, hqN]) rfl (hE.refl _) trivial
        · intro a X hX hS hD hJ hU
          have x0 := (World.cell?_of_block (Posts.Ext.blk hX _ (World.block_lt_of_cell? _ _ qw))).trans qw
          have x1 := (World.cell?_of_block (Posts.Ext.blk hX _ (World.block_lt_of_cell? _ _ qz))).trans qz
          have x2 := (World.cell?_of_block (Posts.Ext.blk hX _ (World.block_lt_of_cell? _ _ q1))).trans q1
          have d16 := Posts.slot (show a.eval (.tmp 16) = .pointer (some ⟨g, z, none⟩) from hD.1)
          exact Posts.op_value (fun _ => trivial) rfl rfl (by intro c h; cases h) rfl (by rw [hS.size]; simp) (v := .int .u32 (x : Nat)) (by simp [execOp, d16,  go_sem, x0, x1, x2, z0, z1, hq, hqN]) rfl (hE.refl _) trivial
        · intro a X hX hS hD hJ hU
          have x0 := (World.cell?_of_block (Posts.Ext.blk hX _ (World.block_lt_of_cell? _ _ qw))).trans qw
          have x1 := (World.cell?_of_block (Posts.Ext.blk hX _ (World.block_lt_of_cell? _ _ qz))).trans qz
          have x2 := (World.cell?_of_block (Posts.Ext.blk hX _ (World.block_lt_of_cell? _ _ q1))).trans q1
          have d5 := Posts.slot (show a.eval (.tmp 5) = .pointer (some ⟨S + 1, 0, none⟩) from hS.other 5 rfl)
          exact Posts.op_value (fun _ => trivial) rfl rfl (by intro c h; cases h) rfl (by rw [hS.size]; simp) (v := .int .u32 (y : Nat)) (by simp [execOp, d5,  go_sem, x0, x1, x2, z0, z1, hq, hqN]) rfl (hE.refl _) trivial
        · intro a X hX hS hD hJ hU
          have x0 := (World.cell?_of_block (Posts.Ext.blk hX _ (World.block_lt_of_cell? _ _ qw))).trans qw
          have x1 := (World.cell?_of_block (Posts.Ext.blk hX _ (World.block_lt_of_cell? _ _ qz))).trans qz
          have x2 := (World.cell?_of_block (Posts.Ext.blk hX _ (World.block_lt_of_cell? _ _ q1))).trans q1
          have d17 := Posts.slot (show a.eval (.tmp 17) = .int .u32 (x : Nat) from hD.1)
          have d18 := Posts.slot (show a.eval (.tmp 18) = .int .u32 (y : Nat) from hD.2.1)
          exact Posts.op_value (fun _ => trivial) rfl rfl (by intro c h; cases h) rfl (by rw [hS.size]; simp) (v := .bool false) (by simp [execOp, d17, d18,  go_sem, x0, x1, x2, z0, z1, hq, hqN]) rfl (hE.refl _) trivial
      · intro a0 Y hY hS hJt hL
        have p14 := Posts.slot (show a0.eval (.tmp 14) = .slice (some ⟨g, 0, none⟩) n cap from hL.1)
        have p15 := Posts.slot (show a0.eval (.tmp 15) = .int .i64 (z : Nat) from hL.2.1)
        have p16 := Posts.slot (show a0.eval (.tmp 16) = .pointer (some ⟨g, z, none⟩) from hL.2.2.1)
        have p17 := Posts.slot (show a0.eval (.tmp 17) = .int .u32 (x : Nat) from hL.2.2.2.1)
        have p18 := Posts.slot (show a0.eval (.tmp 18) = .int .u32 (y : Nat) from hL.2.2.2.2.1)
        have p19 := Posts.slot (show a0.eval (.tmp 19) = .bool false from hL.2.2.2.2.2.1)
        have hfr := hS.frame [14, 15, 16, 17, 18, 19] (fun t ht => by simp [Posts.isDst] at ht; first | (rcases ht with h | h | h | h | h | h <;> subst h <;> simp) | (subst ht; simp))
        simp only [List.foldl_cons, List.foldl_nil] at hfr
        have hdf := hS.defers
        simp only [Array.getD_eq_getD_getElem?] at hfr
        clear hL hS
        generalize a0.tmps[14]?.getD undef = v14 at *
        generalize a0.tmps[15]?.getD undef = v15 at *
        generalize a0.tmps[16]?.getD undef = v16 at *
        generalize a0.tmps[17]?.getD undef = v17 at *
        generalize a0.tmps[18]?.getD undef = v18 at *
        generalize a0.tmps[19]?.getD undef = v19 at *
        obtain rfl := p14
        obtain rfl := p15
        obtain rfl := p16
        obtain rfl := p17
        obtain rfl := p18
        obtain rfl := p19
        obtain ⟨tm, df⟩ := a0
        simp only [List.setIfInBounds_toArray, List.set_cons_succ, List.set_cons_zero] at hfr hdf
        subst hfr
        subst hdf
        refine ⟨by kernel_rfl, ?_⟩
        simp only [Exit.inBlock, Exit.then]
        first
          | (rename_i hK; refine hK _ _ ?_)
          | (rename_i hK _; refine hK _ _ ?_)
          | (rename_i hK _ _; refine hK _ _ ?_)
        have HIy : Hid (AI S A A2 g n w (.slice (some ⟨b, off, none⟩) n c) cap Wk (bestF (wf Wk) pre) Y) := by
          have h := HR.out
          have kk : Kept (fun _ => False) W Y := kept_of hY fun j h1 h2 => absurd h1 (by omega)
          exact ⟨h.b0.kept kk (fun x => x), h.b1.kept kk (fun x => x), h.bel.trans (below_of kk (by have := h.b0.lt; omega) (fun _ x => x.elim)), h.b2.kept kk (fun x => x), fun m hm => kk.cell (h.row m hm) (fun x => x)⟩
        have HKy : Hid (Kept (fun _ => False) W Y) := kept_of hY fun j h1 h2 => absurd h1 (by omega)
        clear hE hY qw qz q1 hK
        gi_wp2_with fail
        have hla := HLA.out
        have hss := HS.out
        have hbs := HBs.out
        simp only [Exit.inBlock, postN]
        refine ⟨HKy.out.mono fun j _ e => e.elim, ?_⟩
        have eb : bestF (wf Wk) (pre ++ [z]) = bestF (wf Wk) pre := by
          rw [bestF_snoc]
          unfold bestS
          rw [HY.out, HX.out, if_neg HLt.out]
        rw [eb]
        exact HIy.out
  case done =>
    rintro W h hszW hD
    rw [HBe.out] at hD hszW ⊢
    have HR := Lib.hid h
    have HD := Lib.hid hD
    have hb0 := h.b0
    have hb1 := h.b1
    clear h hD hszW
    simp only [Exit.inBlock, Exit.then]
    refine hK2 _ _ ?_
    clear hK2
    obtain ⟨t, ht⟩ : ∃ t, (bestF (wf Wk) (behL l k)).1 = t := ⟨_, rfl⟩
    obtain ⟨u, hu⟩ : ∃ u, (bestF (wf Wk) (behL l k)).2 = u := ⟨_, rfl⟩
    rw [ht] at hb0
    rw [hu] at hb1
    have HT := Lib.hid ht
    have HU := Lib.hid hu
    clear ht hu
    go_upto_region 5 with fail
    have hE := ek_rel S (.cells #[.int .i64 (t : Nat)] 3 (0, 0))
    have hES : Posts.Stable (EK S (.cells #[.int .i64 (t : Nat)] 3 (0, 0))) (fun _ X => S < X.heap.size ∧ X.heap[S]? = some (.cells #[.int .i64 (t : Nat)] 3 (0, 0))) := EK.stable
    refine (wpIn_wide (n := 0)).1 (Posts.wpIn_region_tail hE 3 4 (Posts.At [Posts.is (.int .i64 (t : Nat)), Posts.is (.int .u32 (u : Nat)), (fun _ X => S < X.heap.size ∧ X.heap[S]? = some (.cells #[.int .i64 (t : Nat)] 3 (0, 0)))]) (fun _ _ => True) (by kernel_rfl) (by decide) (by kernel_rfl) (by kernel_rfl) (by kernel_rfl)
      (Posts.stable_at _ (by repeat' (first | exact trivial | (refine And.intro ?_ ?_) | exact Posts.is_stable _ | exact Posts.on_stable _ _ | assumption))) trivial ?_ ?_)
    · refine ⟨?_, ?_, ?_, trivial⟩
      · intro a X hX hS hD hJ hU
        have hx0 : Box X S 3 (.int .i64 (t : Nat)) := by
          rcases hX.own hb0.lt with e | e
          · exact e.trans hb0
          · exact e
        have hx1 : Box X (S + 1) 23 (.int .u32 (u : Nat)) := (hX.block _ hb1.lt (by omega)).trans hb1
        have x0 := hx0.cell
        have x1 := hx1.cell
        have d4 := Posts.slot (show a.eval (.tmp 4) = .pointer (some ⟨S, 0, none⟩) from hS.other 4 rfl)
        exact Posts.op_value (fun _ => trivial) rfl rfl (by intro c h; cases h) rfl (by rw [hS.size]; simp) (v := .int .i64 (t : Nat)) (by simp [execOp, d4,  go_sem, x0, x1]) rfl (hE.refl _) trivial
      · intro a X hX hS hD hJ hU
        have hx0 : Box X S 3 (.int .i64 (t : Nat)) := by
          rcases hX.own hb0.lt with e | e
          · exact e.trans hb0
          · exact e
        have hx1 : Box X (S + 1) 23 (.int .u32 (u : Nat)) := (hX.block _ hb1.lt (by omega)).trans hb1
        have x0 := hx0.cell
        have x1 := hx1.cell
        have d5 := Posts.slot (show a.eval (.tmp 5) = .pointer (some ⟨S + 1, 0, none⟩) from hS.other 5 rfl)
        exact Posts.op_value (fun _ => trivial) rfl rfl (by intro c h; cases h) rfl (by rw [hS.size]; simp) (v := .int .u32 (u : Nat)) (by simp [execOp, d5,  go_sem, x0, x1]) rfl (hE.refl _) trivial
      · intro a X hX hS hD hJ hU
        have hx0 : Box X S 3 (.int .i64 (t : Nat)) := by
          rcases hX.own hb0.lt with e | e
          · exact e.trans hb0
          · exact e
        have hx1 : Box X (S + 1) 23 (.int .u32 (u : Nat)) := (hX.block _ hb1.lt (by omega)).trans hb1
        have x0 := hx0.cell
        have x1 := hx1.cell
        have hx0 : Box X S 3 (.int .i64 (t : Nat)) := by
          rcases hX.own hb0.lt with e | e
          · exact e.trans hb0
          · exact e
        have hx1 : Box X (S + 1) 23 (.int .u32 (u : Nat)) := (hX.block _ hb1.lt (by omega)).trans hb1
        have x0 := hx0.cell
        have x1 := hx1.cell
        have zf0 := hx0.free
        have hfin : (X.setCell ⟨S, 0, none⟩ (.int .i64 (t : Nat))).heap[S]? = some (.cells #[.int .i64 (t : Nat)] 3 (0, 0)) := hx0.set (.int .i64 (t : Nat))
        have hek := ek_store1 (v := .int .i64 (t : Nat)) hx0
        have d4 := Posts.slot (show a.eval (.tmp 4) = .pointer (some ⟨S, 0, none⟩) from hS.other 4 rfl)
        have d25 := Posts.slot (show a.eval (.tmp 25) = .int .i64 (t : Nat) from hD.1)
        exact Posts.op_done (fun _ => trivial) rfl rfl (by intro c h; cases h) (Y := X.setCell ⟨S, 0, none⟩ (.int .i64 (t : Nat))) (by simp [execOp, d4, d25, x0, zf0, go_sem]) ⟨⟨⟨undef, rfl⟩, ⟨Nat.lt_of_lt_of_le hx0.lt hek.size, hfin⟩, hek⟩, trivial⟩
    · intro a0 Y hY hS hJt hL
      have p25 := Posts.slot (show a0.eval (.tmp 25) = .int .i64 (t : Nat) from hL.1)
      have p26 := Posts.slot (show a0.eval (.tmp 26) = .int .u32 (u : Nat) from hL.2.1)
      have p_2 := (show _ from hL.2.2.1)
      have hfr := hS.frame [25, 26] (fun t ht => by simp [Posts.isDst] at ht; first | (rcases ht with h | h <;> subst h <;> simp) | (subst ht; simp))
      simp only [List.foldl_cons, List.foldl_nil] at hfr
      have hdf := hS.defers
      simp only [Array.getD_eq_getD_getElem?] at hfr
      clear hL hS
      generalize a0.tmps[25]?.getD undef = v25 at *
      generalize a0.tmps[26]?.getD undef = v26 at *
      obtain rfl := p25
      obtain rfl := p26
      obtain ⟨tm, df⟩ := a0
      simp only [List.setIfInBounds_toArray, List.set_cons_succ, List.set_cons_zero] at hfr hdf
      subst hfr
      subst hdf
      obtain ⟨_, hfy⟩ := p_2
      have hky0 := hY.kept
      have h := HR.out
      have k0' : Box Y S 3 (.int .i64 (t : Nat)) := hfy
      have b1' := hb1.kept hky0 (by omega)
      have y1 := b1'.cell
      have f1 := b1'.free
      have k2 : Kept (fun j => j = S + 1) Y (Y.setCell ⟨S + 1, 0, none⟩ (.int .u32 (u : Nat))) := kept_set _ _ _ _ rfl
      refine Posts.tail_op 3 (by kernel_rfl) (Posts.op_done (fun _ => trivial) rfl rfl (by intro c h; cases h) (Y := Y.setCell ⟨S + 1, 0, none⟩ (.int .u32 (u : Nat))) (by simp [execOp, Act.eval, Act.put, y1, f1, go_sem]) ?_)
      refine ⟨by kernel_rfl, ?_⟩
      simp only [Exit.inBlock, Exit.then]
      first
        | (rename_i hK; refine hK _ _ ?_)
        | (rename_i hK _; refine hK _ _ ?_)
        | (rename_i hK _ _; refine hK _ _ ?_)
      have kk := (hky0.mono (q := fun j => j = S ∨ j = S + 1) fun j _ e => .inl e).trans (k2.mono fun j _ e => .inr e)
      have HKk := Lib.hid kk
      have HB0 := Lib.hid (k0'.kept k2 (by omega))
      have HB1 := Lib.hid (b1'.set (.int .u32 (u : Nat)))
      clear hky0 h k0' b1' y1 f1 k2 kk hY hfy hE hES hb0 hb1
      generalize Y.setCell ⟨S + 1, 0, none⟩ (.int .u32 (u : Nat)) = W6 at *
      go_wp2_with fail
      have hla := HLA.out
      have hss := HS.out
      have hbs := HBs.out
      refine ⟨by simp, .inl ⟨_, _, rfl, run_takeDeferred (HKk.out.same HD.out (by omega)), ?_⟩⟩
      have hp : Kept (fun x => x = B) W6 (W6.putObj B (.deferred none)) := Kept.put (Kept.refl (fun x => x = B) W6) (.inl rfl) _
      have r0 := (HB0.out.kept hp (by omega)).cell
      have r1 := (HB1.out.kept hp (by omega)).cell
      refine ⟨.tuple #[.int .i64 (t : Nat), .int .u32 (u : Nat)], by simp [results, Tryd.f65, r0, r1, go_sem], by rw [HT.out, HU.out], ?_⟩
      have hw1 := HR.out.bel
      have hlt := HR.out.b0.lt
      have hk1 : Below S w W6 := hw1.trans (below_of HKk.out (by omega) (fun j hj => by omega))
      rw [hss]
      exact hk1.trans (below_of hp (by have := HB0.out.lt; omega) (fun j hj => by have e2 : j = B := hj; omega))
  case stop =>
    rintro cd pre V' hpre h
    exact h.elim
end Cst
end Go.Proofs.YtjoiogdckbaeaaaDoor
