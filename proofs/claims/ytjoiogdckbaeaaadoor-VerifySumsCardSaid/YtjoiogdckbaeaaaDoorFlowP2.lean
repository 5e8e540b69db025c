/- flow.Come: what stands in memory while it works. · flow.Come, walked. -/
import Derived.Test.YtjoiogdckbaeaaaDoorFlowP1
import Derived.Test.YtjoiogdckbaeaaaDoorFlowS
import Derived.Test.YtjoiogdckbaeaaaDoorFlowM
import Derived.Test.YtjoiogdckbaeaaaDoorFlowC
namespace Go.Proofs.YtjoiogdckbaeaaaDoor
open Go.ChangeShapes Go.WideShapes Go.ChangeAt Go.RowKit
namespace Flw
open Isa
open Goes
open Rights (Kept)
set_option linter.unusedVariables false
set_option linter.unusedSimpArgs false
/-- a whole block of bools is a row of the call's own -/
theorem brow_own {V : World} {O n S : Nat} {Bl : List Bool} (h : BRow V O Bl) (hl : Bl.length = n) (hS : S ≤ O) (hn : n ≤ 1000000) : V.ownsRow S 4 1 (.slice (some ⟨O, 0, none⟩) n n) n (bls Bl) := by
  have e : (bls Bl).length = n := by simp [bls, hl]
  refine ⟨by omega, .inr ⟨O, n, (bls Bl).toArray, rfl, hS, h, Nat.le_refl _, by unfold maxLen; omega, by simp [e], ?_⟩⟩
  rw [Nat.mul_one, List.toList_toArray]
  exact List.take_of_length_le (by omega)
/-- while Come works: the two boxes, the row of bools, the row of those that are open -/
structure CSt (S1 S2 O n : Nat) (w : World) (Bl : List Bool) (op : List Nat) (v : Value) (V : World) : Prop where
  b1 : Box V S1 63 (.slice (some ⟨O, 0, none⟩) n n)
  b2 : Box V S2 58 v
  row : BRow V O Bl
  own : V.ownsRow w.heap.size 3 1 v op.length (nums op)
  bel : Below w.heap.size w V
  l1 : w.heap.size ≤ S1
  l2 : w.heap.size ≤ S2
  lO : w.heap.size ≤ O
section
variable {S1 S2 O n : Nat} {w : World} {Bl : List Bool} {op : List Nat} {v : Value} {V : World}
theorem CSt.ne12 (h : CSt S1 S2 O n w Bl op v V) : S1 ≠ S2 := ne_kind h.b1 h.b2 (by intro e; injection e with _ e _; exact absurd e (by decide))
theorem CSt.ne1O (h : CSt S1 S2 O n w Bl op v V) : S1 ≠ O := ne_kind h.b1 h.row (by intro e; injection e with _ e _; exact absurd e (by decide))
theorem CSt.ne2O (h : CSt S1 S2 O n w Bl op v V) : S2 ≠ O := ne_kind h.b2 h.row (by intro e; injection e with _ e _; exact absurd e (by decide))
theorem CSt.neg (h : CSt S1 S2 O n w Bl op v V) {g : Nat} (hg : v.ownBlock = some g) : g ≠ S1 ∧ g ≠ S2 ∧ g ≠ O := by
  obtain ⟨cur, hc⟩ := own_block h.own hg
  exact ⟨ne_kind hc h.b1 (by intro e; injection e with _ e _; exact absurd e (by decide)), ne_kind hc h.b2 (by intro e; injection e with _ e _; exact absurd e (by decide)), ne_kind hc h.row (by intro e; injection e with _ e _; exact absurd e (by decide))⟩
theorem CSt.kept (h : CSt S1 S2 O n w Bl op v V) {p : Nat → Prop} {V' : World} (hk : Kept p V V') (h1 : ¬ p S1) (h2 : ¬ p S2) (hO : ¬ p O) (hg : ∀ g, v.ownBlock = some g → ¬ p g) (hp : ∀ k, p k → w.heap.size ≤ k) : CSt S1 S2 O n w Bl op v V' :=
  ⟨h.b1.kept hk h1, h.b2.kept hk h2, hk.same h.row hO, own_kept h.own hk hg, h.bel.trans (below_of hk h.bel.size hp), h.l1, h.l2, h.lO⟩
theorem CSt.below (h : CSt S1 S2 O n w Bl op v V) {V' : World} (hb : Below V.heap.size V V') : CSt S1 S2 O n w Bl op v V' :=
  h.kept (kept_of hb fun k h1 h2 => absurd h1 (by omega) : Kept (fun _ => False) V V') (fun x => x) (fun x => x) (fun x => x) (fun _ _ x => x) (fun _ x => x.elim)
/-- the open list's variable is set to a shorter list -/
theorem CSt.pop {rest : List Nat} {k g cap : Nat} (h : CSt S1 S2 O n w Bl (rest ++ [k]) (.slice (some ⟨g, 0, none⟩) (rest.length + 1) cap) V) :
    CSt S1 S2 O n w Bl rest (.slice (some ⟨g, 0, none⟩) rest.length cap) (V.setCell ⟨S2, 0, none⟩ (.slice (some ⟨g, 0, none⟩) rest.length cap)) := by
  have hk : Kept (fun k => k = S2) V (V.setCell ⟨S2, 0, none⟩ (.slice (some ⟨g, 0, none⟩) rest.length cap)) := kept_set _ _ _ _ rfl
  have e : nums (rest ++ [k]) = nums rest ++ [.int .i64 (k : Nat)] := by simp [nums]
  have ho := h.own
  rw [e, List.length_append, List.length_singleton] at ho
  have ho2 := own_take ho (k := rest.length) (by simp [nums]) (by omega)
  have hn := h.neg (g := g) rfl
  exact ⟨h.b1.kept hk h.ne12, h.b2.set _, hk.same h.row h.ne2O.symm, own_kept ho2 hk (fun g' hg' => by simp [Value.ownBlock] at hg'; subst hg'; exact hn.2.1), h.bel.trans (below_of hk h.bel.size (fun k hk => by have := h.l2; omega)), h.l1, h.l2, h.lO⟩
/-- one is marked -/
theorem CSt.mark (h : CSt S1 S2 O n w Bl op v V) (x : Nat) : CSt S1 S2 O n w (Bl.set x true) op v (V.setCell ⟨O, x, none⟩ (.bool true)) := by
  have hk : Kept (fun k => k = O) V (V.setCell ⟨O, x, none⟩ (.bool true)) := kept_set _ _ _ _ rfl
  exact ⟨h.b1.kept hk h.ne1O, h.b2.kept hk h.ne2O, h.row.set x true, own_kept h.own hk (fun g hg => (h.neg hg).2.2), h.bel.trans (below_of hk h.bel.size (fun k hk => by have := h.lO; omega)), h.l1, h.l2, h.lO⟩
/-- one more is open: what append leaves, and the variable set to it -/
theorem CSt.push {x : Nat} {o : Obj} {Y : World} {v' : Value} (h : CSt S1 S2 O n w Bl op v V) (hg : (V.alloc o).grownBy Y v.ownBlock) (ho : Y.ownsRow w.heap.size 3 1 v' (op.length + 1) (nums op ++ [.int .i64 (x : Nat)])) :
    Kept (fun k => k = S2 ∨ v.ownBlock = some k) V (Y.setCell ⟨S2, 0, none⟩ v') ∧ CSt S1 S2 O n w Bl (op ++ [x]) v' (Y.setCell ⟨S2, 0, none⟩ v') := by
  have k1 : Kept (fun k => v.ownBlock = some k) V Y := ((Kept.refl _ V).alloc o).trans (kept_grown hg)
  have k2 : Kept (fun k => k = S2) Y (Y.setCell ⟨S2, 0, none⟩ v') := kept_set _ _ _ _ rfl
  have n1 : ¬ v.ownBlock = some S1 := fun e => (h.neg e).1 rfl
  have n2 : ¬ v.ownBlock = some S2 := fun e => (h.neg e).2.1 rfl
  have nO : ¬ v.ownBlock = some O := fun e => (h.neg e).2.2 rfl
  have b2 := h.b2.kept k1 n2
  have e : nums (op ++ [x]) = nums op ++ [.int .i64 (x : Nat)] := by simp [nums]
  have hb : Below w.heap.size w Y := h.bel.trans (below_of k1 h.bel.size (fun k hk => (own_lt h.own hk).1))
  refine ⟨(k1.mono fun k _ q => .inr q).trans (k2.mono fun k _ q => .inl q), (h.b1.kept k1 n1).kept k2 h.ne12, b2.set v', k2.same (k1.same h.row nO) h.ne2O.symm, ?_, hb.trans (below_of k2 hb.size (fun k hk => by have := h.l2; omega)), h.l1, h.l2, h.lO⟩
  rw [e, List.length_append]
  refine own_kept ho k2 fun g hg2 => ?_
  obtain ⟨cur, hc⟩ := own_block ho hg2
  exact ne_kind hc b2 (by intro e; injection e with _ e _; exact absurd e (by decide))
end
/-- while Come looks behind k: X: the heap's size ahead of the iterator, B: behind it -/
structure RI (S1 S2 O n : Nat) (w : World) (l : List Iv) (k N X B : Nat) (rs : List Nat) (pre : List Nat) (Bl : List Bool) (op : List Nat) (v : Value) (V : World) : Prop where
  c : CSt S1 S2 O n w Bl op v V
  j : Wj l n Bl op k pre
  vb : ∀ g, v.ownBlock = some g → g < X ∨ B + 2 ≤ g
  m : 2 * fcount Bl + op.length ≤ N
  ms : Mk w.heap.size rs V
structure RX (S1 S2 O X B : Nat) (w : World) (rs : List Nat) : Prop where
  x1 : S1 < X
  x2 : S2 < X
  xO : O < X
  xr : ∀ r ∈ rs, r < X
  xb : X ≤ B
  xw : w.heap.size ≤ X
theorem ri_steady {S1 S2 O n k N X B : Nat} {w : World} {l : List Iv} {rs : List Nat} (h : RX S1 S2 O X B w rs) : Steady B (fun pre V => ∃ Bl op v, RI S1 S2 O n w l k N X B rs pre Bl op v V) := by
  obtain ⟨h1, h2, h3, h4, h5, h6⟩ := h
  rintro pre V V' ⟨Bl, op, v, hc, hj, hv, hm, hmk⟩ hk
  refine ⟨Bl, op, v, hc.kept hk (by omega) (by omega) (by omega) (fun g hg => by have := hv g hg; omega) (fun k hk => by omega), hj, hv, hm, hmk.kept hk fun r hr => by have := h4 r hr; omega⟩
theorem ri_mark {S1 S2 O n k N X B x : Nat} {w V Y : World} {l : List Iv} {rs pre op : List Nat} {Bl : List Bool} {v v' : Value} {o : Obj} (hx : RX S1 S2 O X B w rs) (h : RI S1 S2 O n w l k N X B rs pre Bl op v V) (hB : B + 2 ≤ V.heap.size) (hxn : x < n) (hm : x ∈ behL l k) (hb : Bl.getD x false = false)
    (hg : ((V.setCell ⟨O, x, none⟩ (.bool true)).alloc o).grownBy Y v.ownBlock) (ho : Y.ownsRow w.heap.size 3 1 v' (op.length + 1) (nums op ++ [.int .i64 (x : Nat)])) (hat : v'.ownBlock = v.ownBlock ∨ ∃ g, v'.ownBlock = some g ∧ B + 2 ≤ g) :
    Kept (fun j => j = O ∨ j = S2 ∨ v.ownBlock = some j) V (Y.setCell ⟨S2, 0, none⟩ v') ∧ RI S1 S2 O n w l k N X B rs (pre ++ [x]) (Bl.set x true) (op ++ [x]) v' (Y.setCell ⟨S2, 0, none⟩ v') := by
  obtain ⟨hc, hj, hv, hmm, hmk⟩ := h
  have k0 : Kept (fun j => j = O) V (V.setCell ⟨O, x, none⟩ (.bool true)) := kept_set _ _ _ _ rfl
  have hc1 := hc.mark x
  obtain ⟨k1, hc2⟩ := hc1.push hg ho
  have kk : Kept (fun j => j = O ∨ j = S2 ∨ v.ownBlock = some j) V (Y.setCell ⟨S2, 0, none⟩ v') := (k0.mono fun j _ e => .inl e).trans (k1.mono fun j _ e => .inr e)
  refine ⟨kk, hc2, hj.mark hxn hm, fun g hg2 => ?_, ?_, hmk.kept kk fun r hr => ?_⟩
  · rcases hat with e | ⟨g', e, hge⟩
    · rw [e] at hg2; exact hv g hg2
    · rw [e] at hg2; cases hg2; exact .inr hge
  · have := fcount_set Bl x (by rw [hj.len]; exact hxn)
    rw [hb] at this
    simp only [Bool.false_eq_true, if_false] at this
    rw [List.length_append, List.length_singleton]
    omega
  · rintro (e | e | e)
    · exact hmk.ne_cells hr hc.row e
    · exact hmk.ne_cells hr hc.b2 e
    · obtain ⟨cur, hcur⟩ := own_block hc.own e
      exact hmk.ne_cells hr hcur rfl
end Flw
end Go.Proofs.YtjoiogdckbaeaaaDoor
namespace Go.Proofs.YtjoiogdckbaeaaaDoor
open Go.ChangeShapes Go.WideShapes Go.ChangeAt Go.RowKit
namespace Flw
open Isa
open Goes
open Rights (Kept)
set_option linter.unusedVariables false
set_option linter.unusedSimpArgs false
attribute [local go_sem] Oper.semAt_some
set_option maxHeartbeats 6400000 in
theorem come_any : ComeC := by
  intro l a n c w hT hnc hcm h
  have hln : l.length = n := h.1
  have HL := Lib.hid hln
  have HWell := Lib.hid (well_any l a n c w hT hnc hcm h)
  have HRow := Lib.hid h
  clear hT h
  by_cases hE : chkE l = 0
  rotate_left
  · have hg : (chkE l == 0) = false := by simpa using hE
    rw [hg] at HWell
    have hcl : comeL l = [] := by unfold comeL; rw [if_neg hE]
    rw [hcl]
    clear hE hg hcl hln
    go_enter Tryd.func16, Tryd.ntmps16
    go_wp2_with fail
    refine HWell.out.mono ?_
    rintro e w1 ⟨rfl, hb1⟩
    go_wp2_with fail
    go_ret
    exact ⟨_, rfl, World.ownsRow_nil _ _ _ _, hb1⟩
  have hf := fine_of hE
  have hn16 : n ≤ 16384 := by have := hf.most; omega
  have hn0 : 0 < n := by have := hf.some; omega
  have HF := Lib.hid hf
  have hg : (chkE l == 0) = true := by simpa using hE
  rw [hg] at HWell
  have hcl : comeL l = (List.range n).map (comeB l) := by unfold comeL; rw [if_pos hE, hln]
  rw [hcl]
  have hcll : ((List.range n).map (comeB l)).length = n := by simp
  rw [hcll]
  have HWk0 := Lib.hid (Wk.start hf)
  rw [hln] at HWk0
  clear hE hg hcl hln hf hcll
  refine (callsIn_wide (n := 0)).1 ?_
  refine callsIn_of_wp_marks Tryd.func16 rfl trivial ?_ rfl
  simp only [Tryd.ntmps16, List.size_toArray, List.length_cons, List.length_nil, Nat.reduceAdd, Nat.reduceSub, Array.replicate_succ, Array.replicate_zero, List.push_toArray, List.append_toArray, List.nil_append, List.cons_append]
  refine (wpIn_wide (n := 0)).2 ?_
  go_wp2_with fail
  refine HWell.out.mono ?_
  rintro e w1 ⟨rfl, hb1⟩
  have HB1 := Lib.hid hb1
  have hmk := run_make_bools w1 n (by omega)
  clear hb1 HWell
  go_upto_region 4 with fail
  have hlr : (List.replicate n false).length = n := List.length_replicate
  have HR0 : Hid (BRow ((w1.alloc (.cells (bls (List.replicate n false)).toArray 4)).alloc (.cells #[.slice (some ⟨w1.heap.size, 0, none⟩) n n] 63)) w1.heap.size (List.replicate n false)) := (brow_new w1 _).below (B := w1.heap.size + 1) ((Below.refl _ _).alloc (by simp) _) (by simp)
  have HX1 : Hid (Box ((w1.alloc (.cells (bls (List.replicate n false)).toArray 4)).alloc (.cells #[.slice (some ⟨w1.heap.size, 0, none⟩) n n] 63)) (w1.heap.size + 1) 63 (.slice (some ⟨w1.heap.size, 0, none⟩) n n)) := by
    have := Box.new (w1.alloc (.cells (bls (List.replicate n false)).toArray 4)) 63 (.slice (some ⟨w1.heap.size, 0, none⟩) n n)
    rwa [World.size_alloc] at this
  have HB2 : Hid (Below w.heap.size w ((w1.alloc (.cells (bls (List.replicate n false)).toArray 4)).alloc (.cells #[.slice (some ⟨w1.heap.size, 0, none⟩) n n] 63))) := (HB1.out.alloc HB1.out.size _).alloc (by have := HB1.out.size; simp; omega) _
  have HOl : Hid (w.heap.size ≤ w1.heap.size) := HB1.out.size
  generalize (w1.alloc (.cells (bls (List.replicate n false)).toArray 4)).alloc (.cells #[.slice (some ⟨w1.heap.size, 0, none⟩) n n] 63) = W2 at *
  clear hmk HB1
  generalize w1.heap.size = O at *
  have q0 := HR0.out.at (k := 0) (by rw [hlr]; exact hn0)
  have f0 := HR0.out.free 0
  have x0 := HX1.out.cell
  have HR3 := Lib.hid (HR0.out.set 0 true)
  have HX3 := Lib.hid (HX1.out.other (g := O) (by omega) 0 (.bool true))
  have HB3 := Lib.hid (HB2.out.setCell (p := ⟨O, 0, none⟩) HOl.out (.bool true))
  clear hlr
  generalize (List.replicate n false).getD 0 false = z0 at *
  generalize (List.replicate n false).set 0 true = B0 at *
  go_upto_region 5 with fail
  generalize W2.setCell ⟨O, 0, none⟩ (.bool true) = W3 at *
  clear q0 f0 x0 HR0 HX1 HB2
  have HC4 : Hid (CSt (O + 1) (W3.heap.size + 1) O n w B0 [0] (.slice (some ⟨W3.heap.size, 0, none⟩) 1 1) ((W3.alloc (.cells #[.int .i64 0] 3)).alloc (.cells #[.slice (some ⟨W3.heap.size, 0, none⟩) 1 1] 58))) := by
    have hs := HB3.out.size
    have k1 : Kept (fun _ => False) W3 ((W3.alloc (.cells #[.int .i64 0] 3)).alloc (.cells #[.slice (some ⟨W3.heap.size, 0, none⟩) 1 1] 58)) := ((Kept.refl _ _).alloc _).alloc _
    refine ⟨HX3.out.kept k1 (fun x => x), ?_, k1.same HR3.out (fun x => x), ?_, HB3.out.trans (below_of k1 hs (fun _ x => x.elim)), by have := HOl.out; omega, by omega, HOl.out⟩
    · have := Box.new (W3.alloc (.cells #[.int .i64 0] 3)) 58 (.slice (some ⟨W3.heap.size, 0, none⟩) 1 1)
      rwa [World.size_alloc] at this
    · exact (World.ownsRow_lit W3 #[.int .i64 0] 1 hs (by decide) rfl).alloc _
  go_wp2_with fail
  generalize W3.heap.size + 1 = S2 at *
  obtain ⟨G, hG⟩ : ∃ G, W3.heap.size = G := ⟨_, rfl⟩
  rw [hG] at HC4 ⊢
  generalize (W3.alloc (.cells #[.int .i64 0] 3)).alloc (.cells #[.slice (some ⟨G, 0, none⟩) 1 1] 58) = W4 at *
  clear HX3 HR3 hG
  refine wp_loop_k (fun N a' W' => ∃ (u5 u6 u17 u18 u19 u20 u21 u22 u23 u24 u25 u26 u27 u28 u29 u30 u31 u32 u33 u34 u35 : Value) (rs : List Nat) (Bl : List Bool) (op : List Nat) (v : Value), a' = { tmps := #[.slice a n c, undef, .slice none 0 0, .pointer (some ⟨O + 1, 0, none⟩), .pointer (some ⟨S2, 0, none⟩), u5, u6, undef, .slice a n c, .bool true, .bool false, .slice a n c, .int .i64 (n : Nat), .slice (some ⟨O, 0, none⟩) n n, .slice (some ⟨O, 0, none⟩) n n, .pointer (some ⟨O, 0, none⟩), .slice (some ⟨G, 0, none⟩) 1 1, u17, u18, u19, u20, u21, u22, u23, u24, u25, u26, u27, u28, u29, u30, u31, u32, u33, u34, u35, undef, undef, undef, undef, undef, undef, undef, undef, undef, undef, undef, undef, undef, undef], defers := dfs rs } ∧ CSt (O + 1) S2 O n w Bl op v W' ∧ Wk l n Bl op ∧ Mk w.heap.size rs W' ∧ N ≤ 2 * n + 1 ∧ N = 2 * fcount Bl + op.length) _
    ⟨undef, undef, undef, undef, undef, undef, undef, undef, undef, undef, undef, undef, undef, undef, undef, undef, undef, undef, undef, undef, undef, [], B0, [0], _, rfl, HC4.out, HWk0.out, Mk.nil _ _, by have := fcount_le B0; have := HWk0.out.len; simp; omega, rfl⟩ ?_
  rintro N a' W ⟨u5, u6, u17, u18, u19, u20, u21, u22, u23, u24, u25, u26, u27, u28, u29, u30, u31, u32, u33, u34, u35, rs, Bl, op, v, rfl, hC, hWk, hMk, hop, hN⟩ K hK
  have HK := Lib.hid hK
  have HC := Lib.hid hC
  have HWk := Lib.hid hWk
  have HMk := Lib.hid hMk
  have HN := Lib.hid hN
  have HNb := Lib.hid hop
  obtain ⟨va, vc, rfl, hvc, hvm⟩ := own_shape hC.own
  have q2 := hC.b2.cell
  have f2 := hC.b2.free
  clear hC hWk hMk hN hK hop HC4 HWk0
  rcases snoc_cases op with rfl | ⟨rest, k, rfl⟩
  · have q1 := HC.out.b1.cell
    clear hvc hvm f2
    go_wp2_with fail
    have HEq : Hid (Bl = (List.range n).map (comeB l)) := by
      show _ = _
      have := HWk.out
      rw [← HL.out] at this ⊢
      exact this.come HF.out HRow.out.2.1
    refine leaves_marks rs W HMk.out fun w' hk => ?_
    refine ⟨.slice (some ⟨O, 0, none⟩) n n, by simp [results, Tryd.f16, go_sem], _, rfl, ?_, HC.out.bel.trans (below_of hk HC.out.bel.size fun k hk => hk.1)⟩
    rw [← HEq.out]
    refine brow_own (hk.same HC.out.row ?_) HWk.out.len HC.out.lO (by omega)
    rintro ⟨_, x, hx⟩
    exact ne_kind HC.out.row hx (by intro e; cases e) rfl
  · have hml : (rest ++ [k]).length = rest.length + 1 := by simp
    rw [hml] at q2 hvc
    obtain ⟨g, cap, hv, hg0, hg1⟩ := own_some HC.out.own (by simp)
    rw [hml] at hv
    injection hv with e1 _ e3
    subst e1
    subst e3
    have hkB := getD_lt (HWk.out.on k (by simp))
    have hkn : k < n := by rw [HWk.out.len] at hkB; exact hkB
    have hkc : W.cell? ⟨g, rest.length, none⟩ = some (.int .i64 (k : Nat)) := by
      have := World.ownsRow.cells HC.out.own (g := g) rfl rest.length (.int .i64 (k : Nat)) (by simp [nums])
      rwa [WideShapes.add_plain, Nat.zero_add] at this
    have hC0 := HC.out
    rw [hml] at hC0
    have HP := Lib.hid hC0.pop
    have hrl : rest.length ≤ 100000 := by have h1 := HN.out; have h2 := HNb.out; rw [hml] at h1; omega
    clear hkB hC0
    generalize hm : rest.length = m at *
    have HMl := Lib.hid hm
    clear hm hml
    have m0 : (0 : Int) ≤ m := by omega
    have m1 : (m : Int) < (m : Int) + 1 := by omega
    go_upto_region 10 with fail
    have HMk5 : Hid (Mk w.heap.size rs (W.setCell ⟨S2, 0, none⟩ (.slice (some ⟨g, 0, none⟩) m vc))) := HMk.out.kept (p := fun j => j = S2) (kept_set _ _ _ _ rfl) fun r hr e => HMk.out.ne_cells hr HC.out.b2 e
    have HRl : Hid (W.heap.size = (W.setCell ⟨S2, 0, none⟩ (.slice (some ⟨g, 0, none⟩) m vc)).heap.size) := by show _ = _; rw [setCell_size]
    generalize W.setCell ⟨S2, 0, none⟩ (.slice (some ⟨g, 0, none⟩) m vc) = W5 at *
    clear q2 f2 hkc m0 m1 hvc hvm HC
    obtain ⟨b, off, rfl, hc, hw⟩ := (HRow.out.below HP.out.bel (Nat.le_refl _)).at k hkn
    obtain ⟨c0, c1, c2, c3⟩ := hc
    have k0 : (0 : Int) ≤ k := by omega
    have k1 : (k : Int) < n := by omega
    have HMake := Lib.hid (behind_make (l.getD k iz) hw k (by omega) W5)
    have HLk : Hid (behI (l.getD k iz) k = behL l k) := rfl
    clear hw
    generalize l.getD k iz = x at *
    obtain ⟨xo, xa, xb, xc⟩ := x
    unfold iv at HMake
    simp only at *
    go_wp2_with fail
    refine HMake.out.mono ?_
    rintro e W6 ⟨v6, rfl, F, lb, cc, rfl, heg, hseq, hb6, hcc⟩
    rw [HLk.out] at hseq
    have HC5 := HP.out
    have hs5 := HC5.bel.size
    obtain ⟨X, hX⟩ : ∃ X, W5.heap.size = X := ⟨_, rfl⟩
    obtain ⟨B, hB⟩ : ∃ B, W6.heap.size = B := ⟨_, rfl⟩
    have hXB : X ≤ B := by have := hb6.size; omega
    have HRX : Hid (RX (O + 1) S2 O X B w rs) := ⟨by have := HC5.b1.lt; omega, by have := HC5.b2.lt; omega, by have := HC5.row.lt; omega, fun r hr => by have := HMk.out.lt hr; have := HRl.out; omega, hXB, by omega⟩
    have HCc : Hid (∀ j, cc j → X ≤ j ∧ j < B) := fun j hj => by have := hcc j hj; omega
    have HBe := Lib.hid hB
    have HR0 : Hid (RI (O + 1) S2 O n w l k (N - 1) X B rs [] Bl rest (.slice (some ⟨g, 0, none⟩) m vc) W6) := by
      have hm5 : Mk w.heap.size rs W5 := HMk5.out
      have kk : Kept (fun _ => False) W5 W6 := kept_of hb6 fun j h1 h2 => absurd h1 (by omega)
      refine ⟨HC5.below hb6, HWk.out.pop, fun q hq => ?_, ?_, hm5.kept kk (fun _ _ x => x)⟩
      · simp [Value.ownBlock] at hq
        subst hq
        left
        have := HC5.own.lt g rfl
        omega
      · have := HN.out
        rw [List.length_append, List.length_singleton] at this
        omega
    have HNl : Hid (N - 1 < N) := by
      have := HN.out
      rw [List.length_append, List.length_singleton] at this
      show _ < _
      omega
    have HSq := Lib.hid hseq
    have HEg := Lib.hid heg
    clear HC5 hs5 hX hB hXB hb6 hcc hseq heg HP HMake c0 c1 c2 c3 k0 k1 HWk HMk HMk5 HN HMl
    go_wp2_with fail
    refine (wpIn_wide (n := 0)).1 ?_
    refine wpIn_rangeFunc_n (gf := F) (lb := lb) rfl HEg.out HSq.out (Kept.refl _ _) (fun j hj => by rw [HBe.out]; exact (HCc.out j hj).2) (fun _ => rfl)
      (fun pre V => ∃ Bl op v, RI (O + 1) S2 O n w l k (N - 1) X B rs pre Bl op v V) (fun _ _ _ => False) (by rw [HBe.out]; exact ri_steady HRX.out) (fun _ _ _ _ h _ => h.elim) ⟨_, _, _, HR0.out⟩
      (fun z => { tmps := #[.slice (some ⟨b, off, none⟩) n c, undef, .slice none 0 0, .pointer (some ⟨O + 1, 0, none⟩), .pointer (some ⟨S2, 0, none⟩), .int .i64 (m : Nat), .int .i64 (k : Nat), .int .i64 (z : Nat), .slice (some ⟨b, off, none⟩) n c, .bool true, .bool false, .slice (some ⟨b, off, none⟩) n c, .int .i64 (n : Nat), .slice (some ⟨O, 0, none⟩) n n, .slice (some ⟨O, 0, none⟩) n n, .pointer (some ⟨O, 0, none⟩), .slice (some ⟨G, 0, none⟩) 1 1, .slice (some ⟨g, 0, none⟩) (m + 1) vc, .int .i64 ((m : Int) + 1), .bool true, .slice (some ⟨g, 0, none⟩) (m + 1) vc, .int .i64 ((m : Int) + 1), .int .i64 (m : Nat), .slice (some ⟨g, 0, none⟩) (m + 1) vc, .int .i64 (m : Nat), .pointer (some ⟨g, m, none⟩), .int .i64 (k : Nat), .slice (some ⟨g, 0, none⟩) (m + 1) vc, .int .i64 (m : Nat), .slice (some ⟨g, 0, none⟩) m vc, .slice (some ⟨b, off, none⟩) n c, .int .i64 (k : Nat), .pointer (some ⟨b, off + k * 4, none⟩), .agg #[.int .u8 xo, .int .u8 xa, .int .u16 xb, .int .u32 xc], .int .i64 (k : Nat), .func (.func F) #[] lb, .int .i64 (z : Nat), undef, undef, undef, undef, undef, undef, undef, undef, undef, undef, undef, undef, undef], defers := [] }) ?assign ?body ?done ?stop
    case assign =>
      intro l z W K hK
      unfold encN
      gi_wp2_with fail
      exact hK
    case body =>
      rintro l2 pre z V hpx hszV ⟨Bl, op, v, h⟩
      rw [HBe.out] at hszV ⊢
      have hzm : z ∈ behL l k := hpx.subset (by simp)
      have hzn : z < n := by have := beh_lt HF.out HRow.out.2.1 (by rw [HL.out]; exact hkn) hzm; have := HL.out; omega
      obtain ⟨va, vc2, rfl, hv1, hv2⟩ := own_shape h.c.own
      have q1 := h.c.b1.cell
      have hzl : z < Bl.length := by rw [h.j.len]; exact hzn
      have qz := h.c.row.at hzl
      have z0 : (0 : Int) ≤ z := by omega
      have z1 : (z : Int) < n := by omega
      have HI := Lib.hid h
      have HSz := Lib.hid hszV
      clear hpx hszV hv1 hv2 h hzl
      cases hb : Bl.getD z false with
      | true =>
        rw [hb] at qz
        have HS := Lib.hid (HI.out.j.seen hb)
        clear hb
        gi_wp2_with fail
        simp only [Exit.inBlock, postN]
        exact ⟨Kept.refl _ _, Bl, op, _, HI.out.c, HS.out, HI.out.vb, HI.out.m, HI.out.ms⟩
      | false =>
        rw [hb] at qz
        have fz := HI.out.c.row.free z
        have hc1 := HI.out.c.mark z
        have hsz1 := hc1.bel.size
        have hol : op.length ≤ 100000 := by have h1 := HI.out.m; have h2 := HNb.out; omega
        obtain ⟨a', c', Y, hrun, hown, hgr, hat⟩ := app_num hc1.own hsz1 (by omega) z 58
        have hV1 : (V.setCell ⟨O, z, none⟩ (.bool true)).heap.size = V.heap.size := setCell_size _ _ _ _
        have hM := ri_mark HRX.out HI.out HSz.out hzn hzm hb hgr hown (hat.imp id fun ⟨g, e, hg⟩ => ⟨g, e, by have := HSz.out; omega⟩)
        have HM := Lib.hid hM
        have hb2 : Box Y S2 58 (.slice va op.length vc2) := hc1.b2.kept (((Kept.refl (fun j => (Value.slice va op.length vc2).ownBlock = some j) _).alloc _).trans (kept_grown hgr)) fun e => (hc1.neg e).2.1 rfl
        have q2 := hc1.b2.cell
        have q3 := hb2.cell
        have f3 := hb2.free
        rw [hV1] at hrun
        clear hb hM hb2 hgr hown hat hc1 hsz1 hV1
        gi_wp2_with (gi_at_builtin; refine wpListIn_append_run rfl _ _ 58 58 rfl _ _ _ _ 58 rfl rfl rfl hrun ?_)
        simp only [Exit.inBlock, postN]
        refine ⟨HM.out.1.mono fun j _ e => ?_, _, _, _, HM.out.2⟩
        have hx := HRX.out
        rcases e with e | e | e
        · subst e; exact ⟨fun q => by have := HCc.out _ q; have := hx.xO; omega, by have := hx.xO; have := hx.xb; omega, by have := hx.xO; have := hx.xb; omega⟩
        · subst e; exact ⟨fun q => by have := HCc.out _ q; have := hx.x2; omega, by have := hx.x2; have := hx.xb; omega, by have := hx.x2; have := hx.xb; omega⟩
        · have h1 := HI.out.vb j e
          have h2 := hx.xb
          exact ⟨fun q => by have := HCc.out _ q; omega, by omega, by omega⟩
    case done =>
      rintro V ⟨Bl, op, v, h⟩ hszV hD
      rw [HBe.out] at hD hszV ⊢
      simp only [Exit.inBlock, Exit.then]
      refine HK.out (2 * fcount Bl + op.length) _ _ (by have h1 := h.m; have h2 := HNl.out; omega) ⟨_, _, _, _, _, _, _, _, _, _, _, _, _, _, _, _, _, _, _, _, _, B :: rs, Bl, op, v, rfl, h.c, h.j.fin, h.ms.cons hD (by have := HRX.out.xw; have := HRX.out.xb; omega) (fun hm => by have := HRX.out.xr B hm; have := HRX.out.xb; omega), by have h1 := h.m; have h2 := HNb.out; omega, rfl⟩
    case stop =>
      rintro cd pre V hpre h
      exact h.elim
end Flw
end Go.Proofs.YtjoiogdckbaeaaaDoor
