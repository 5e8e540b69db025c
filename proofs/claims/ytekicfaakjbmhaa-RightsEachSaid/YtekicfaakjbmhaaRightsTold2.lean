/- told: what Free tells, in two lists: the walk. -/
import Derived.Test.YtekicfaakjbmhaaRightsTold
namespace Go.Proofs.Ytekicfaakjbmhaa
open Go.ChangeShapes Go.WideShapes Go.ChangeAt Go.RowKit
namespace Rights
set_option linter.unusedVariables false
set_option linter.unusedSimpArgs false
attribute [local go_sem] Oper.semAt_some
def ToldP (w : World) (l : List Rg) (m : Int) (e : Ending) (W : World) : Prop :=
  ∃ L va vs B, e = .returned (.tuple #[va, vs]) ∧ Segs (Free l) (memOf m) 0 L ∧ w.heap.size ≤ B ∧ W.ownsRow B 22 1 va L.length (ats L) ∧ W.ownsRow B 22 1 vs L.length (szs L) ∧ Below w.heap.size w W ∧ L.length ≤ l.length + 1
set_option maxHeartbeats 8000000 in
set_option maxRecDepth 100000 in
theorem told_any {a : Option Addr} {n c : Nat} {l : List Rg} {w : World} (h : RRow w a n l) (hn : n ≤ 1000) (m : Int) (hm : 0 ≤ m ∧ m ≤ 4294967295) :
    Calls Try.prog 13 #[.slice a n c, .int .u32 m] w (ToldP w l m) := by
  obtain ⟨i0, z, hi, hz0, hz1, hz2, hzs⟩ := infoU
  have HFree := Lib.hid (free_any (c := c) (h.below (w' := (w.alloc (.cells #[.slice none 0 0] 30)).alloc (.cells #[.slice none 0 0] 30)) (by go_grown)) (by omega) m hm)
  have HH := Lib.hid h
  have b0 : ((w.alloc (.cells #[.slice none 0 0] 30)).alloc (.cells #[.slice none 0 0] 30)).heap[w.heap.size]? = some (.cells #[.slice none 0 0] 30 (0, 0)) := heap_alloc2_old _ _ _
  have b1 : ((w.alloc (.cells #[.slice none 0 0] 30)).alloc (.cells #[.slice none 0 0] 30)).heap[w.heap.size + 1]? = some (.cells #[.slice none 0 0] 30 (0, 0)) := heap_alloc2_new _ _ _
  have hs0 : ((w.alloc (.cells #[.slice none 0 0] 30)).alloc (.cells #[.slice none 0 0] 30)).heap.size = w.heap.size + 2 := by simp
  have hbw : Below w.heap.size w ((w.alloc (.cells #[.slice none 0 0] 30)).alloc (.cells #[.slice none 0 0] 30)) := by go_grown
  have HB0 := Lib.hid b0
  have HB1 := Lib.hid b1
  have HS0 := Lib.hid hs0
  have HBw := Lib.hid hbw
  clear h b0 b1 hs0 hbw
  refine (callsIn_wide (n := 0)).1 ?_
  refine callsIn_of_wp_marks Try.func13 rfl trivial ?_ rfl
  simp only [Try.ntmps13, List.size_toArray, List.length_cons, List.length_nil, Nat.reduceAdd, Nat.reduceSub, Array.replicate_succ, Array.replicate_zero, List.push_toArray, List.append_toArray, List.nil_append, List.cons_append]
  gi_wp2_with fail
  refine ⟨trivial, rfl, ?_⟩
  refine CallsIn.mono (callsIn_wide.2 HFree.out) ?_
  rintro e W ⟨lb, mb, g, cp, l', rfl, hbel, hp, hs, hF⟩
  rw [HS0.out] at hbel hF
  have HSegs : Hid (Segs (Free l) (memOf m) 0 (free (memOf m) l')) := free_segs hp hs (memOf_bd hm).1
  have hll : (free (memOf m) l').length ≤ l.length + 1 := by have := free_len (memOf m) l'; rwa [hp.length_eq] at this
  have HLl := Lib.hid hll
  have hw0 := (hbel.block w.heap.size (by omega)).trans HB0.out
  have hw1 := (hbel.block (w.heap.size + 1) (by omega)).trans HB1.out
  have HBel := Lib.hid (HBw.out.trans (hbel.mono (by omega)))
  have hsz := hbel.size
  rw [HS0.out] at hsz
  have HF := Lib.hid hF
  have HLn : Hid (l.length = n) := HH.out.1
  have HMb := Lib.hid (memOf_bd hm)
  have hn' := hn
  clear hF hbel hp hs HFree hll
  gi_wp2_with fail
  obtain ⟨S, hS⟩ : ∃ S, w.heap.size = S := ⟨_, rfl⟩
  obtain ⟨B, hB⟩ : ∃ B, W.heap.size = B := ⟨_, rfl⟩
  rw [hS] at hw0 hw1 hsz HBel
  rw [hS, hB] at HF
  rw [hB] at hsz
  rw [hS]
  refine wpIn_rangeFunc_q (gf := 27) (lb := #[.pointer (some ⟨lb, 0, none⟩), .pointer (some ⟨mb, 0, none⟩)]) rfl (enters_of Try.func27 (by kernel_rfl) rfl)
    (seq_free (fun k => S + 2 ≤ k ∧ k < B) lb mb g n cp l' (memOf m) HMb.out (by omega) W HF.out) (Kept.refl _ _) (fun k hk => by rw [hB]; exact hk.2) (fun _ => rfl)
    (fun pre q V => ∃ va vs, TI S B w pre q va vs V) (fun _ _ _ _ => False) (by rw [hB]; exact ti_stable S B w) (fun _ _ _ _ _ _ h _ _ => h.elim) ?h0
    (fun x => { tmps := #[.slice a n c, .int .u32 m, undef, undef, .pointer (some ⟨S, 0, none⟩), .pointer (some ⟨S + 1, 0, none⟩), .int .u32 x.1, .int .u32 x.2, .slice a n c, .int .u32 m, .func (.func 27) #[] #[.pointer (some ⟨lb, 0, none⟩), .pointer (some ⟨mb, 0, none⟩)], .int .u32 x.1, .int .u32 x.2, undef, undef, undef, undef, undef, undef, undef, undef, undef, undef], defers := [] }) ?assign ?body ?done ?stop
  case h0 => exact ⟨.slice none 0 0, .slice none 0 0, hw0, hw1, World.ownsRow_nil _ _ _ _, World.ownsRow_nil _ _ _ _, fun k h => by simp [Value.ownBlock] at h, fun k h => by simp [Value.ownBlock] at h, fun k h => by simp [Value.ownBlock] at h, hsz, HBel.out, fun k h => h.elim⟩
  case assign =>
    intro l x W K hK
    unfold encP
    gi_wp2_with fail
    exact hK
  case body =>
    rintro l2 pre x q V hpx hq2 hszV ⟨va, vs, h⟩
    rw [hB] at hq2 hszV ⊢
    have HT := Lib.hid h
    have HQ : Hid (∀ k, q k → B + 2 ≤ k ∧ k < V.heap.size) := hq2
    have HSz := Lib.hid hszV
    have HPx := Lib.hid hpx
    have hva : ∀ k, va.ownBlock = some k → B + 2 ≤ k ∧ k < V.heap.size := fun k hk => ownsRow_lt h.oa hk
    have hvs : ∀ k, vs.ownBlock = some k → B + 2 ≤ k ∧ k < V.heap.size := fun k hk => ownsRow_lt h.os hk
    have hlen : pre.length + 1 ≤ 1001 := by
      have h1 := hpx.length_le
      have h2 := HLl.out
      have h3 := HLn.out
      simp at h1
      omega
    have HVa := Lib.hid hva
    have HVs := Lib.hid hvs
    have HLen := Lib.hid hlen
    clear h hq2 hszV hpx hva hvs hlen
    gi_wp2_with fail
    refine Posts.wpIn_region_tail (ea_rel va) 7 6 (Posts.At [Posts.is va, Posts.is (.int .u32 x.1), rowP V.heap.size (.int .u32 x.1), fun v _ => v ≠ undef, Posts.is vs, Posts.is (.int .u32 x.2), rowP V.heap.size (.int .u32 x.2)])
      (JA B V.heap.size pre.length (ats pre) (szs pre) (.int .u32 x.1) va vs) (by kernel_rfl) (by decide) (by kernel_rfl) (by kernel_rfl) (by kernel_rfl)
      (Posts.stable_at _ (by repeat' (first | exact trivial | (refine And.intro ?_ ?_) | exact Posts.is_stable _ | exact rowP_stable (fun k hk => (HVa.out k hk).2) | exact not_undef_stable))) ?_ ?_ ?_
    · exact ⟨HT.out.os, Nat.le_refl _, .inl ⟨rfl, HT.out.oa⟩⟩
    · refine ⟨?_, ?_, ?_, ?_, ?_, ?_, ?_, trivial⟩
      · intro a0 X hX hS5 hD hJ hU
        have d4 := Posts.slot (show a0.eval (.tmp 4) = .pointer (some ⟨S, 0, none⟩) from hS5.other 4 rfl)
        have cS : X.cell? ⟨S, 0, none⟩ = some va := by
          have h1 := Kept.same hX HT.out.h0 (fun e => by have := HVa.out _ e; omega)
          simp [World.cell?, h1]
        exact Posts.op_value (fun _ => trivial) rfl rfl (by intro c h; cases h) rfl (by rw [hS5.size]; simp) (v := va) (by simp [execOp, d4, go_sem, cS]) rfl ((ea_rel va).refl _) (ja_next hJ (Posts.put_other _ _ _ _ (by decide)) (Below.refl _ _))
      · intro a0 X hX hS5 hD hJ hU
        have d6 := Posts.slot (show a0.eval (.tmp 6) = .int .u32 x.1 from hS5.other 6 rfl)
        exact Posts.op_value (fun _ => trivial) rfl rfl (by intro c h; cases h) rfl (by rw [hS5.size]; simp) (v := .int .u32 x.1) (by simp [execOp, d6, go_sem]) rfl ((ea_rel va).refl _) (ja_next hJ (Posts.put_other _ _ _ _ (by decide)) (Below.refl _ _))
      · intro a0 X hX hS5 hD hJ hU
        have d14 := Posts.slot (show a0.eval (.tmp 14) = .int .u32 x.1 from hD.1)
        exact Posts.op_value (fun _ => trivial) rfl rfl (by intro c h; cases h) rfl (by rw [hS5.size]; simp) (v := .slice (some ⟨X.heap.size, 0, none⟩) 1 1) (Y := X.alloc (.cells #[.int .u32 x.1] 22)) (by simp [execOp, d14, go_sem]) ⟨X.heap.size, Kept.size hX, rfl, World.alloc_heap_new X _⟩ ((Kept.refl _ _).alloc _) (ja_next hJ (Posts.put_other _ _ _ _ (by decide)) (by go_grown))
      · intro a0 X hX hS5 hD hJ hU
        obtain ⟨j1, j2, j3⟩ := hJ
        have e13 : a0.eval (.tmp 13) = va := hD.1
        obtain ⟨b, hb, e15, hh⟩ : rowP V.heap.size (.int .u32 x.1) (a0.eval (.tmp 15)) X := hD.2.1
        have hU' : a0.tmps.getD 16 undef = undef := hU
        rcases j3 with ⟨_, j4⟩ | ⟨v', j3, j4, _⟩
        · obtain ⟨v', Y, hr, own, hg, _, hat⟩ := run_append_own_at (P := Try.prog) X (B + 2) 30 30 22 i0 z 1 4 Try.underlying30 hi hz0 hz1 hz2 hzs (by decide) va pre.length (ats pre) j4 ⟨b, 0, none⟩ 1 1 [.int .u32 x.1] rfl (cell_one_row hh) (by simp [Value.oneCell']) (by have := HLen.out; unfold maxLen; omega) (by have := HLen.out; omega) (by have := HSz.out; omega)
          obtain ⟨g', cap', rfl⟩ := ownsRow_succ own
          have hg' := kept_grown hg
          refine Posts.op_value (fun _ => trivial) rfl rfl (by intro c h; cases h) rfl (by rw [hS5.size]; simp) (Posts.append_op rfl e13 e15 hr) (by simp [Posts.At, undef]) hg' ⟨?_, Nat.le_trans j2 hg.size, .inr ⟨_, ?_, own, ?_⟩⟩
          · exact ownsRow_block j1 fun k hk hlt => hg'.block k hlt (fun e => HT.out.ne k e hk)
          · have hsz16 : 16 < a0.tmps.size := by rw [hS5.size]; simp
            simp [Act.put, hsz16]
          · intro k hk
            rcases hat with e | e
            · exact .inl (e ▸ hk)
            · rw [e] at hk; cases hk; exact .inr j2
        · exfalso
          rw [hU'] at j3
          obtain ⟨g', cap', e⟩ := ownsRow_succ j4
          rw [← j3] at e
          cases e
      · intro a0 X hX hS5 hD hJ hU
        have d5 := Posts.slot (show a0.eval (.tmp 5) = .pointer (some ⟨S + 1, 0, none⟩) from hS5.other 5 rfl)
        have cS : X.cell? ⟨S + 1, 0, none⟩ = some vs := by
          have h1 := Kept.same hX HT.out.h1 (fun e => by have := HVa.out _ e; omega)
          simp [World.cell?, h1]
        exact Posts.op_value (fun _ => trivial) rfl rfl (by intro c h; cases h) rfl (by rw [hS5.size]; simp) (v := vs) (by simp [execOp, d5, go_sem, cS]) rfl ((ea_rel va).refl _) (ja_next hJ (Posts.put_other _ _ _ _ (by decide)) (Below.refl _ _))
      · intro a0 X hX hS5 hD hJ hU
        have d7 := Posts.slot (show a0.eval (.tmp 7) = .int .u32 x.2 from hS5.other 7 rfl)
        exact Posts.op_value (fun _ => trivial) rfl rfl (by intro c h; cases h) rfl (by rw [hS5.size]; simp) (v := .int .u32 x.2) (by simp [execOp, d7, go_sem]) rfl ((ea_rel va).refl _) (ja_next hJ (Posts.put_other _ _ _ _ (by decide)) (Below.refl _ _))
      · intro a0 X hX hS5 hD hJ hU
        have d18 := Posts.slot (show a0.eval (.tmp 18) = .int .u32 x.2 from hD.1)
        exact Posts.op_value (fun _ => trivial) rfl rfl (by intro c h; cases h) rfl (by rw [hS5.size]; simp) (v := .slice (some ⟨X.heap.size, 0, none⟩) 1 1) (Y := X.alloc (.cells #[.int .u32 x.2] 22)) (by simp [execOp, d18, go_sem]) ⟨X.heap.size, Kept.size hX, rfl, World.alloc_heap_new X _⟩ ((Kept.refl _ _).alloc _) (ja_next hJ (Posts.put_other _ _ _ _ (by decide)) (by go_grown))
    · intro a0 Y hY hS5 hJ hL
      obtain ⟨j1, j2, j3⟩ := hJ
      have hne : a0.tmps.getD 16 undef ≠ undef := hL.2.2.2.1
      obtain ⟨va', e16, own, aa⟩ := j3.resolve_left (fun h => hne h.1)
      have e17 : a0.eval (.tmp 17) = vs := hL.2.2.2.2.1
      obtain ⟨b, hb, e19, hh⟩ : rowP V.heap.size (.int .u32 x.2) (a0.eval (.tmp 19)) Y := hL.2.2.2.2.2.2.1
      obtain ⟨vs', Y7, hr, own7, hg, _, hat⟩ := run_append_own_at (P := Try.prog) Y (B + 2) 30 30 22 i0 z 1 4 Try.underlying30 hi hz0 hz1 hz2 hzs (by decide) vs pre.length (szs pre) j1 ⟨b, 0, none⟩ 1 1 [.int .u32 x.2] rfl (cell_one_row hh) (by simp [Value.oneCell']) (by have := HLen.out; unfold maxLen; omega) (by have := HLen.out; omega) (by have := HSz.out; omega)
      have hti := ti_next HT.out HSz.out HQ.out hY own aa hg own7 hat
      obtain ⟨g1, cap1, rfl⟩ := ownsRow_succ own
      obtain ⟨g2, cap2, rfl⟩ := ownsRow_succ own7
      have hg' := kept_grown hg
      have c0 : Y7.cell? ⟨S, 0, none⟩ = some va ∧ Y7.frozen? ⟨S, 0, none⟩ = false := by
        have h1 := hg'.same (Kept.same hY HT.out.h0 (fun e => by have := HVa.out _ e; omega)) (fun e => by have := HVs.out _ e; omega)
        simp [World.cell?, World.frozen?, h1]
      have c1 : (Y7.setCell ⟨S, 0, none⟩ (.slice (some ⟨g1, 0, none⟩) (pre.length + 1) cap1)).cell? ⟨S + 1, 0, none⟩ = some vs ∧ (Y7.setCell ⟨S, 0, none⟩ (.slice (some ⟨g1, 0, none⟩) (pre.length + 1) cap1)).frozen? ⟨S + 1, 0, none⟩ = false := by
        have h1 := hg'.same (Kept.same hY HT.out.h1 (fun e => by have := HVa.out _ e; omega)) (fun e => by have := HVs.out _ e; omega)
        have h2 := ((Kept.refl (fun k => k = S) Y7).setCell (x := ⟨S, 0, none⟩) (.inl rfl) (.slice (some ⟨g1, 0, none⟩) (pre.length + 1) cap1)).same h1 (by omega)
        simp [World.cell?, World.frozen?, h2]
      have d4 : (a0.put (some 20) (.slice (some ⟨g2, 0, none⟩) (pre.length + 1) cap2)).tmps[4]?.getD undef = .pointer (some ⟨S, 0, none⟩) := by
        have h1 := Posts.put_other a0 20 4 (.slice (some ⟨g2, 0, none⟩) (pre.length + 1) cap2) (by decide)
        rw [hS5.other 4 rfl] at h1
        simpa using h1
      have d5 : (a0.put (some 20) (.slice (some ⟨g2, 0, none⟩) (pre.length + 1) cap2)).tmps[5]?.getD undef = .pointer (some ⟨S + 1, 0, none⟩) := by
        have h1 := Posts.put_other a0 20 5 (.slice (some ⟨g2, 0, none⟩) (pre.length + 1) cap2) (by decide)
        rw [hS5.other 5 rfl] at h1
        simpa using h1
      have d16 : (a0.put (some 20) (.slice (some ⟨g2, 0, none⟩) (pre.length + 1) cap2)).tmps[16]?.getD undef = .slice (some ⟨g1, 0, none⟩) (pre.length + 1) cap1 := by
        have h1 := Posts.put_other a0 20 16 (.slice (some ⟨g2, 0, none⟩) (pre.length + 1) cap2) (by decide)
        rw [e16] at h1
        simpa using h1
      have d20 : (a0.put (some 20) (.slice (some ⟨g2, 0, none⟩) (pre.length + 1) cap2)).tmps[20]?.getD undef = .slice (some ⟨g2, 0, none⟩) (pre.length + 1) cap2 := by
        have hsz20 : 20 < a0.tmps.size := by rw [hS5.size]; simp
        simp [Act.put, hsz20]
      refine Posts.tail_op 7 (by kernel_rfl) (Posts.op_val (fun _ => trivial) rfl rfl (by intro c h; cases h) (Posts.append_op rfl e17 e19 hr) ?_)
      change wpAnyIn _ _ _ _ _ _ _ _ (Act.put a0 (some 20) (.slice (some ⟨g2, 0, none⟩) (pre.length + 1) cap2)) _
      generalize a0.put (some 20) (.slice (some ⟨g2, 0, none⟩) (pre.length + 1) cap2) = a7 at d4 d5 d16 d20 ⊢
      refine Posts.tail_op 8 (by kernel_rfl) (Posts.op_done (fun _ => trivial) rfl rfl (by intro c h; cases h) (Y := Y7.setCell ⟨S, 0, none⟩ (.slice (some ⟨g1, 0, none⟩) (pre.length + 1) cap1)) (by simp [execOp, d4, d16, go_sem, c0.1, c0.2]) ?_)
      change wpAnyIn _ _ _ _ _ _ _ _ a7 _
      refine Posts.tail_op 9 (by kernel_rfl) (Posts.op_done (fun _ => trivial) rfl rfl (by intro c h; cases h) (Y := (Y7.setCell ⟨S, 0, none⟩ (.slice (some ⟨g1, 0, none⟩) (pre.length + 1) cap1)).setCell ⟨S + 1, 0, none⟩ (.slice (some ⟨g2, 0, none⟩) (pre.length + 1) cap2)) (by simp [execOp, Act.put, d5, d20, go_sem, c1.1, c1.2]) ?_)
      refine ⟨by kernel_rfl, ?_⟩
      simp only [Exit.inBlock, postQ]
      exact ⟨hti.1, _, _, hti.2⟩
  case done =>
    rintro q V ⟨va, vs, h⟩ hszV hq2 hD
    rw [hB] at hD hszV ⊢
    have HT := Lib.hid h
    have HD := Lib.hid hD
    have HSz := Lib.hid hszV
    have hsl : ∀ (v : Value) (k : Nat) (xs : List Value), V.ownsRow (B + 2) 22 1 v k xs → ∃ ga ca, v = .slice ga k ca := by
      rintro v k xs ⟨_, ⟨rfl, rfl⟩ | ⟨g, cap, cur, rfl, _⟩⟩
      · exact ⟨_, _, rfl⟩
      · exact ⟨_, _, rfl⟩
    obtain ⟨ga, ca, rfl⟩ := hsl _ _ _ h.oa
    obtain ⟨gs, cs, rfl⟩ := hsl _ _ _ h.os
    have c0 : V.cell? ⟨S, 0, none⟩ = some (.slice ga (free (memOf m) l').length ca) ∧ V.frozen? ⟨S, 0, none⟩ = false := by simp [World.cell?, World.frozen?, h.h0]
    have c1 : V.cell? ⟨S + 1, 0, none⟩ = some (.slice gs (free (memOf m) l').length cs) ∧ V.frozen? ⟨S + 1, 0, none⟩ = false := by simp [World.cell?, World.frozen?, h.h1]
    obtain ⟨c00, c01⟩ := c0
    obtain ⟨c10, c11⟩ := c1
    clear h hD hszV hq2 hsl
    gi_wp2_with fail
    refine (wpIn_wide (n := 0)).2 ?_
    go_region
    all_goals
      rename_i hK
      refine hK _ _ ?_
      gi_wp2_with fail
      have h := HT.out
      have hk0 : Kept (fun k => k = S ∨ k = S + 1) V ((V.setCell ⟨S, 0, none⟩ (.slice ga (free (memOf m) l').length ca)).setCell ⟨S + 1, 0, none⟩ (.slice gs (free (memOf m) l').length cs)).drew :=
        Kept.drew (Kept.setCell (Kept.setCell (Kept.refl _ _) (.inl (.inl rfl)) _) (.inl (.inr rfl)) _)
      have n0 : ((V.setCell ⟨S, 0, none⟩ (.slice ga (free (memOf m) l').length ca)).setCell ⟨S + 1, 0, none⟩ (.slice gs (free (memOf m) l').length cs)).drew.heap[S]? = some (.cells #[.slice ga (free (memOf m) l').length ca] 30 (0, 0)) :=
        ((Kept.refl (fun k => k = S + 1) (V.setCell ⟨S, 0, none⟩ (.slice ga (free (memOf m) l').length ca))).setCell (.inl rfl) _).same (heap_set1 h.h0) (by omega)
      have n1 : ((V.setCell ⟨S, 0, none⟩ (.slice ga (free (memOf m) l').length ca)).setCell ⟨S + 1, 0, none⟩ (.slice gs (free (memOf m) l').length cs)).drew.heap[S + 1]? = some (.cells #[.slice gs (free (memOf m) l').length cs] 30 (0, 0)) :=
        heap_set1 (((Kept.refl (fun k => k = S) V).setCell (.inl rfl) _).same h.h1 (by omega))
      generalize ((V.setCell ⟨S, 0, none⟩ (.slice ga (free (memOf m) l').length ca)).setCell ⟨S + 1, 0, none⟩ (.slice gs (free (memOf m) l').length cs)).drew = W9 at *
      have hD9 := hk0.same HD.out (by omega)
      refine ⟨by simp, .inl ⟨_, _, rfl, run_takeDeferred hD9, ?_⟩⟩
      have hkp : Kept (fun k => k = B) W9 (W9.putObj B (.deferred none)) := Kept.put (Kept.refl (fun k => k = B) W9) (.inl rfl) _
      have m0 := hkp.same n0 (by omega)
      have m1 := hkp.same n1 (by omega)
      have hrow : ∀ (g : Option Addr) (cp : Nat) (xs : List Value), V.ownsRow (B + 2) 22 1 (.slice g (free (memOf m) l').length cp) (free (memOf m) l').length xs → (W9.putObj B (.deferred none)).ownsRow (B + 2) 22 1 (.slice g (free (memOf m) l').length cp) (free (memOf m) l').length xs := fun g cp xs ho =>
        ownsRow_block ho fun k hk hlt => by
          have h1 := ownsRow_lt ho hk
          exact (hkp.block k (by have := hk0.size; omega) (by omega)).trans (hk0.block k hlt (by omega))
      refine ⟨.tuple #[.slice ga (free (memOf m) l').length ca, .slice gs (free (memOf m) l').length cs], ?_, free (memOf m) l', _, _, B + 2, rfl, HSegs.out, by omega, hrow _ _ _ h.oa, hrow _ _ _ h.os, ?_, HLl.out⟩
      · have q0 : (W9.putObj B (.deferred none)).cell? ⟨S, 0, none⟩ = some (.slice ga (free (memOf m) l').length ca) := by simp [World.cell?, m0]
        have q1 : (W9.putObj B (.deferred none)).cell? ⟨S + 1, 0, none⟩ = some (.slice gs (free (memOf m) l').length cs) := by simp [World.cell?, m1]
        simp [results, Try.f13, go_sem, q0, q1]
      · rw [hS]
        exact (h.bel.trans (hk0.toBelow (by have := lt_of_block h.h0; omega) (fun k hk => by omega))).trans (hkp.toBelow (by have := lt_of_block n0; omega) (fun k hk => by omega))
  case stop =>
    rintro cd pre q V hpre h
    exact h.elim
end Rights
end Go.Proofs.Ytekicfaakjbmhaa
