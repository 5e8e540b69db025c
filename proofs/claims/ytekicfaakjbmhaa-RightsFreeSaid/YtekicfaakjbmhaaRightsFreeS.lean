/- The statement RightsFree holds: whatever regions, whatever memory and whatever count are handed in, the call answers true, and what was handed in reads as it did. No condition. -/
import Derived.Test.YtekicfaakjbmhaaRightsSame
import Derived.Test.YtekicfaakjbmhaaRightsSkip
import Derived.Test.YtekicfaakjbmhaaRightsKnown
import Derived.Test.YtekicfaakjbmhaaRightsOpen
namespace Go.Proofs.Ytekicfaakjbmhaa.rightsFree
open Go.ChangeShapes Go.WideShapes Go.ChangeAt Go.RowKit Rights
set_option linter.unusedVariables false
set_option linter.unusedSimpArgs false
attribute [local go_sem] Oper.semAt_some
/-- the box of what was handed in, S, the box that counts, N; B: the heap's size when the loop began -/
structure CI (S N B : Nat) (w : World) (k : Int) (most : Int) (q : Nat → Prop) (V : World) : Prop where
  hN : V.heap[N]? = some (.cells #[.int .i64 k] 3 (0, 0))
  hM : V.heap[S]? = some (.cells #[.int .i64 most] 3 (0, 0))
  sn : S < N
  nb : N < B
  bel : Below S w V
  qs : ∀ k, q k → N < k
theorem ci_stable {S N B : Nat} {w : World} {k most : Int} {q q' : Nat → Prop} {X Y : World} (h : CI S N B w k most q X) (hk : Kept (fun k => q k ∨ (k = B ∨ k = B + 1)) X Y) (hq : ∀ k, q' k → (q k ∨ X.heap.size ≤ k) ∧ k < Y.heap.size) : CI S N B w k most q' Y := by
  have hs := h.sn
  have hn := h.nb
  have hbase : ∀ k, k ≤ N → ¬ (q k ∨ (k = B ∨ k = B + 1)) := by
    rintro k hlt (x | x | x)
    · have := h.qs k x; omega
    · omega
    · omega
  refine ⟨hk.same h.hN (hbase _ (Nat.le_refl _)), hk.same h.hM (hbase _ (by omega)), hs, hn, h.bel.trans (hk.toBelow (by have := lt_of_block h.hN; omega) fun k hlt => hbase k (by omega)), fun k hk' => ?_⟩
  rcases (hq k hk').1 with x | x
  · exact h.qs k x
  · have := lt_of_block h.hN; omega
/-- one more -/
theorem CI.next {S N B : Nat} {w : World} {k most : Int} {q : Nat → Prop} {V : World} (h : CI S N B w k most q V) (k' : Int) : CI S N B w k' most q (V.setCell ⟨N, 0, none⟩ (.int .i64 k')) ∧ Kept (fun k => k = N) V (V.setCell ⟨N, 0, none⟩ (.int .i64 k')) := by
  have hk : Kept (fun k => k = N) V (V.setCell ⟨N, 0, none⟩ (.int .i64 k')) := Kept.setCell (Kept.refl (fun k => k = N) V) (.inl rfl) _
  have hs := h.sn
  exact ⟨⟨heap_set1 h.hN, hk.same h.hM (by omega), hs,  h.nb, h.bel.trans (hk.toBelow (by have := lt_of_block h.hN; omega) (fun k _ => by omega)), h.qs⟩, hk⟩
theorem nrow_ats {w : World} {B : Nat} {v : Value} {L : List (Int × Int)} (h : w.ownsRow B 22 1 v L.length (ats L)) : NRow w v (L.map (·.1)) := by
  refine NRow.of (B := B) ?_
  have e : (L.map (·.1)).map (fun x : Int => Value.int .u32 x) = ats L := by simp [ats]
  rw [e, List.length_map]; exact h
theorem nrow_szs {w : World} {B : Nat} {v : Value} {L : List (Int × Int)} (h : w.ownsRow B 22 1 v L.length (szs L)) : NRow w v (L.map (·.2)) := by
  refine NRow.of (B := B) ?_
  have e : (L.map (·.2)).map (fun x : Int => Value.int .u32 x) = szs L := by simp [szs]
  rw [e, List.length_map]; exact h
set_option maxHeartbeats 8000000 in
set_option maxRecDepth 100000 in
theorem walk (w : World) (a : Option Addr) (n c : Nat) (l : List Rg) (h : RRow w a n l) (m : Int) (hm : 0 ≤ m ∧ m ≤ 4294967295) (most : Int) (hmost : -9223372036854775808 ≤ most ∧ most ≤ 9223372036854775807) :
    Calls Try.prog 4 #[.slice a n c, .int .u32 m, .int .i64 most] w fun e w' => e = .returned (.bool true) ∧ Below w.heap.size w w' := by
  obtain ⟨S, hS⟩ : ∃ S, w.heap.size = S := ⟨_, rfl⟩
  have HRow := Lib.hid h
  have HB0 : Hid ((w.alloc (.cells #[.int .i64 most] 3)).heap[w.heap.size]? = some (.cells #[.int .i64 most] 3 (0, 0))) := World.alloc_heap_new w _
  have HBw : Hid (Below w.heap.size w (w.alloc (.cells #[.int .i64 most] 3))) := by show Below _ _ _; go_grown
  clear h
  refine (callsIn_wide (n := 0)).1 ?_
  refine callsIn_of_wp_marks Try.func4 rfl trivial ?_ rfl
  simp only [Try.ntmps4, List.size_toArray, List.length_cons, List.length_nil, Nat.reduceAdd, Nat.reduceSub, Array.replicate_succ, Array.replicate_zero, List.push_toArray, List.append_toArray, List.nil_append, List.cons_append]
  refine (wpIn_wide (n := 0)).2 ?_
  go_wp2_with fail
  refine (known_any _).mono ?_
  rintro e W0 ⟨rfl, hb⟩
  have H0 := Lib.hid ((hb.block _ (by simp)).trans HB0.out)
  have HB := Lib.hid (HBw.out.trans (hb.mono (by simp)))
  clear hb HB0 HBw
  have hrow := HRow.out.below HB.out
  have HRow0 := Lib.hid hrow
  clear hrow
  by_cases hn : 20 < n
  · have hd : decide ((20 : Int) < (n : Int)) = true := by simp; omega
    go_wp2_with fail
    exact ⟨.bool true, by simp [results, Try.f4, go_sem], rfl, HB.out⟩
  have hd : decide ((20 : Int) < (n : Int)) = false := by simp; omega
  by_cases hmid : 3000 < m ∧ m ≤ 262144
  · have hd1 : decide ((3000 : Int) < m) = true := by simp; omega
    have hd2 : decide (m ≤ (262144 : Int)) = true := by simp; omega
    go_wp2_with fail
    exact ⟨.bool true, by simp [results, Try.f4, go_sem], rfl, HB.out⟩
  have hcase : (decide ((3000 : Int) < m) = false) ∨ (decide ((3000 : Int) < m) = true ∧ decide (m ≤ (262144 : Int)) = false) := by
    by_cases h1 : 3000 < m
    · refine .inr ⟨by simpa using h1, by simp; omega⟩
    · refine .inl (by simpa using h1)
  clear hmid
  rcases hcase with hd1 | ⟨hd1, hd2⟩
  all_goals
    go_wp2_with fail
    refine (told_any HRow0.out (by omega) m hm).mono ?_
    rintro e W1 ⟨L, va, vs, B1, rfl, hseg, hB1, hoa, hos, hb1, hll⟩
    have HSeg := Lib.hid hseg
    have NA1 := Lib.hid (nrow_ats hoa)
    have NS1 := Lib.hid (nrow_szs hos)
    have H1 := Lib.hid ((hb1.block _ (lt_of_block H0.out)).trans H0.out)
    have HBel1 := Lib.hid (HB.out.trans (hb1.mono HB.out.size))
    have HRow1 := Lib.hid (HRow0.out.below hb1)
    have HLl := Lib.hid hll
    have HLn := Lib.hid HRow0.out.1
    clear H0 HB HRow0 HRow hseg hB1 hoa hos hb1 hll
    go_wp2_with fail
    refine (rfree_any HRow1.out (by omega) m hm).mono ?_
    rintro e W2 ⟨L', va', vs', rfl, hseg', hoa', hos', hb2⟩
    obtain rfl : L = L' := Segs.unique HSeg.out hseg'
    have NA2 := Lib.hid (nrow_ats hoa')
    have NS2 := Lib.hid (nrow_szs hos')
    have NA1' := Lib.hid (NA1.out.below hb2)
    have NS1' := Lib.hid (NS1.out.below hb2)
    have H2 := Lib.hid ((hb2.block _ (lt_of_block H1.out)).trans H1.out)
    have HBel2 := Lib.hid (HBel1.out.trans (hb2.mono HBel1.out.size))
    have HRow2 := Lib.hid (HRow1.out.below hb2)
    have hlen : L.length ≤ 1000 := by have := HLl.out; have := HLn.out; omega
    obtain ⟨ga, ca, rfl⟩ : ∃ ga ca, va' = .slice ga L.length ca := by
      obtain ⟨g, c, h, _⟩ := NA2.out
      exact ⟨g, c, by simpa using h⟩
    clear H1 HBel1 HRow1 NA1 NS1 hseg' hoa' hos' hb2
    go_wp2_with fail
    refine (same_any NA1'.out NA2.out (by simp; omega)).mono ?_
    rintro e W3 ⟨rfl, rfl⟩
    go_wp2_with fail
    refine (same_any NS1'.out NS2.out (by simp; omega)).mono ?_
    rintro e W3 ⟨rfl, rfl⟩
    clear NA1' NS1' NA2 NS2
    go_wp2_with fail
    have hbA : Below W3.heap.size W3 (W3.alloc (.cells #[.int .i64 0] 3)) := by go_grown
    refine (free_any (HRow2.out.below hbA) (by omega) m hm).mono ?_
    rintro e W ⟨lb, mb, g, cp, l', rfl, hbel, hp, hs, hF⟩
    have hLf : free (memOf m) l' = L := Segs.unique (free_segs hp hs (memOf_bd hm).1) HSeg.out
    obtain ⟨N, hN⟩ : ∃ N, W3.heap.size = N := ⟨_, rfl⟩
    obtain ⟨B, hB⟩ : ∃ B, W.heap.size = B := ⟨_, rfl⟩
    have hN0 : (W3.alloc (.cells #[.int .i64 0] 3)).heap.size = N + 1 := by simp [hN]
    rw [hN0] at hbel
    rw [hN0, hB] at hF
    have hwn : W.heap[N]? = some (.cells #[.int .i64 0] 3 (0, 0)) := (hbel.block N (by omega)).trans (by rw [← hN]; exact World.alloc_heap_new W3 _)
    have hSN : S < N := by rw [← hS, ← hN]; exact lt_of_block H2.out
    have hws : W.heap[S]? = some (.cells #[.int .i64 most] 3 (0, 0)) := by rw [← hS]; exact (hbel.block _ (by omega)).trans ((hbA.block _ (by omega)).trans H2.out)
    have hNB : N < B := by rw [← hB]; exact lt_of_block hwn
    have hbw : Below S w W := by rw [← hS]; exact HBel2.out.trans ((hbA.mono (by omega)).trans (hbel.mono (by omega)))
    have HSeq : Hid (SeqQ Try.prog 27 #[.pointer (some ⟨lb, 0, none⟩), .pointer (some ⟨mb, 0, none⟩)] encP (fun k => N + 1 ≤ k ∧ k < B) L W) := by
      show SeqQ _ _ _ _ _ _ _
      rw [← hLf]
      exact seq_free (fun k => N + 1 ≤ k ∧ k < B) lb mb g n cp l' (memOf m) (memOf_bd hm) (by omega) W hF
    have HWN := Lib.hid hwn
    have HWS := Lib.hid hws
    have HBW := Lib.hid hbw
    rw [hN]
    clear hbA hbel hp hs hF hLf hN0 hwn hws hbw H2 HBel2 HRow2 hN
    go_wp2_with fail
    refine (wpIn_wide (n := 0)).1 ?_
    refine wpIn_rangeFunc_q_skip (gf := 27) (lb := #[.pointer (some ⟨lb, 0, none⟩), .pointer (some ⟨mb, 0, none⟩)]) rfl (enters_of Try.func27 (by kernel_rfl) rfl)
      HSeq.out (Kept.refl _ _) (fun k hk => by rw [hB]; exact hk.2) (fun _ => rfl)
      (fun pre q V => CI S N B w pre.length most q V ∧ (pre = [] ∨ (pre.length : Int) < most)) (fun cd pre q V => cd = .exit 0 ∧ CI S N B w pre.length most q V ∧ (pre.length : Int) = max most 1) ?stab ?stabx ?h0 ?body ?done ?stop
    case stab => rw [hB]; exact fun s q q' X Y h hk hq => ⟨ci_stable h.1 hk hq, h.2⟩
    case stabx => rw [hB]; exact fun cd s q q' X Y h hk hq => ⟨h.1, ci_stable h.2.1 hk hq, h.2.2⟩
    case h0 => exact ⟨⟨HWN.out, HWS.out, hSN, hNB, HBW.out, fun k h => h.elim⟩, .inl rfl⟩
    case body =>
      rintro yl pre x q V hpx hq2 hszV ⟨h, hpm⟩
      rw [hB] at hq2 hszV ⊢
      have hpl : pre.length ≤ 1000 := by have := hpx.length_le; simp at this; omega
      have HC := Lib.hid h
      have hcn : V.cell? ⟨N, 0, none⟩ = some (.int .i64 pre.length) ∧ V.frozen? ⟨N, 0, none⟩ = false := by simp [World.cell?, World.frozen?, h.hN]
      have hcs : (V.setCell ⟨N, 0, none⟩ (.int .i64 ((pre.length : Int) + 1))).cell? ⟨S, 0, none⟩ = some (.int .i64 most) := by have := (h.next ((pre.length : Int) + 1)).1.hM; simp [World.cell?, this]
      have hcn2 : (V.setCell ⟨N, 0, none⟩ (.int .i64 ((pre.length : Int) + 1))).cell? ⟨N, 0, none⟩ = some (.int .i64 ((pre.length : Int) + 1)) := by have := (h.next ((pre.length : Int) + 1)).1.hN; simp [World.cell?, this]
      obtain ⟨hcn, hfn⟩ := hcn
      have HNx := Lib.hid (h.next ((pre.length : Int) + 1))
      have HQ := Lib.hid hq2
      clear h hq2 hszV
      unfold encP
      by_cases hge : most ≤ (pre.length : Int) + 1
      · have hdg : decide (most ≤ (pre.length : Int) + 1) = true := by simpa using hge
        gi_wp2_with fail
        simp only [Exit.inBlock, postQ]
        have e1 : ((pre ++ [x]).length : Int) = (pre.length : Int) + 1 := by simp
        refine ⟨HNx.out.2.mono fun k _ e => ?_, by first | trivial | rfl, ?_, ?_⟩
        · subst e
          exact ⟨fun h => by have := HC.out.qs _ h; omega, fun h => by omega, by omega, by omega⟩
        · rw [e1]; exact HNx.out.1
        · rw [e1]; rcases hpm with rfl | hpm
          · simp at hge ⊢; omega
          · omega
      · have hdg : decide (most ≤ (pre.length : Int) + 1) = false := by simpa using hge
        gi_wp2_with fail
        simp only [Exit.inBlock, postQ]
        have e1 : ((pre ++ [x]).length : Int) = (pre.length : Int) + 1 := by simp
        refine ⟨HNx.out.2.mono fun k _ e => ?_, ?_, ?_⟩
        · subst e
          exact ⟨fun h => by have := HC.out.qs _ h; omega, fun h => by omega, by omega, by omega⟩
        · rw [e1]; exact HNx.out.1
        · rw [e1]; exact .inr (by omega)
    case done =>
      rintro q V ⟨h, hpm⟩ hszV hq2 hD
      rw [hB] at hD hszV ⊢
      have hmin : min (L.length : Int) (max most 1) = L.length := by rcases hpm with rfl | hpm; simp; omega; omega
      have hcn : V.cell? ⟨N, 0, none⟩ = some (.int .i64 L.length) := by simp [World.cell?, h.hN]
      have hcs : V.cell? ⟨S, 0, none⟩ = some (.int .i64 most) := by simp [World.cell?, h.hM]
      have HC := Lib.hid h
      have HD := Lib.hid hD
      clear h hD hq2
      go_wp2_with fail
      refine ⟨by simp, .inl ⟨_, _, rfl, run_takeDeferred HD.out, ?_⟩⟩
      have hkp : Kept (fun k => k = B) V (V.putObj B (.deferred none)) := Kept.put (Kept.refl (fun k => k = B) V) (.inl rfl) _
      refine ⟨.bool true, by simp [results, Try.f4, go_sem], rfl, ?_⟩
      rw [hS]
      exact HC.out.bel.trans (hkp.toBelow (by omega) (fun k hk => by omega))
    case stop =>
      rintro cd pre q V hpre ⟨rfl, h, hpm⟩ hszV hq2 hD
      rw [hB] at hD hszV ⊢
      have hmin : min (L.length : Int) (max most 1) = pre.length := by have := hpre.length_le; omega
      have hcn : V.cell? ⟨N, 0, none⟩ = some (.int .i64 pre.length) := by simp [World.cell?, h.hN]
      have hcs : V.cell? ⟨S, 0, none⟩ = some (.int .i64 most) := by simp [World.cell?, h.hM]
      have HC := Lib.hid h
      have HD := Lib.hid hD
      clear h hD hq2
      refine (wpIn_wide (n := 0)).2 ?_
      go_wp2_with fail
      refine ⟨by simp, .inl ⟨_, _, rfl, run_takeDeferred HD.out, ?_⟩⟩
      have hkp : Kept (fun k => k = B) V (V.putObj B (.deferred none)) := Kept.put (Kept.refl (fun k => k = B) V) (.inl rfl) _
      refine ⟨.bool true, by simp [results, Try.f4, go_sem], rfl, ?_⟩
      rw [hS]
      exact HC.out.bel.trans (hkp.toBelow (by omega) (fun k hk => by omega))
/-- what the walk gives, for every argument -/
theorem lifted (os : Os) (started : os.Started) (H : Type) (enc : TypeId × Value → H) :
    ReturnsInHanded {} Try.checked os 4 .any (Rows.rightsFreeSpec.pre6 enc Try.prog Try.f4 Rows.rightsFreeRow.domain false) (Rows.rightsFreeSpec.post enc Try.prog Try.f4 false true false false) := by
  refine returnsInHanded_of_change (C := Try.checked) own started (by kernel_rfl) Try.func4
    (ChangeSpec.witness6 (enc := enc) (C := Try.checked) false ⟨#[], #[.slice none 0 0, .int .u32 0, .int .i64 0], []⟩ 8 (by kernel_rfl) (by kernel_rfl) (by kernel_rfl) (by kernel_rfl)) ?_
  intro W base args ds gs before hval0 hW hcnd _
  have hval : ∀ (j : Nat) t v, Try.f4.params[j]? = some t → args[j]? = some v → Value.okWide Try.prog W .any base t v := hval0
  have hW' := hW
  obtain ⟨p, q, hA0, hV, rfl, hfz, hnd⟩ := hW
  have hA : DataW.TrodAll enc Try.prog W 0 (fun _ => true) true Try.f4.params.toList args.toList ds p := hA0
  rw [Try.params4] at hA hval
  obtain ⟨v0, vs0, d0, ds0, p0, q0, hargs, rfl, rfl, h0, r0⟩ := trodAll_cons hA
  obtain ⟨v1, vs1, d1, ds1, p1, q1, rfl, rfl, rfl, h1, r1⟩ := trodAll_cons r0
  obtain ⟨v2, vs2, d2, ds2, p2, q2, rfl, rfl, rfl, h2, r2⟩ := trodAll_cons r1
  obtain ⟨rfl, rfl, rfl⟩ := trodAll_nil r2
  obtain rfl : args = #[v0, v1, v2] := by cases args; simp_all
  obtain ⟨rfl, rfl⟩ := trodVars_none hV
  have k0 := h0
  have lt0 : ∀ x ∈ p0, x.block < W.heap.size := by obtain ⟨m, hm⟩ := k0; exact DataW.trod_lt m _ _ _ hm
  obtain ⟨a0, len0, cap0, rfl⟩ := okWide_slice Try.underlying29 (hval 0 29 v0 rfl rfl)
  obtain ⟨z0, w0⟩ : ∃ l, RRow W a0 len0 l := by
    obtain ⟨fuel, hf⟩ := h0
    obtain ⟨a, n, c, l, hcs, h1, h2, h3⟩ := open_regions hf
    simp [Value.cells] at hcs
    obtain ⟨rfl, rfl, rfl⟩ := hcs
    exact ⟨l, h3⟩
  obtain ⟨z1, rfl, rfl, rfl, w1⟩ := open_int Try.underlying22 (hval 1 22 v1 rfl rfl) h1
  have b1 : 0 ≤ z1 ∧ z1 ≤ 4294967295 := by simp [Lit.wf, IntKind.min, IntKind.max, IntKind.signed, IntKind.bits] at w1; omega
  obtain ⟨z2, rfl, rfl, rfl, w2⟩ := open_int Try.underlying3 (hval 2 3 v2 rfl rfl) h2
  have b2 : -9223372036854775808 ≤ z2 ∧ z2 ≤ 9223372036854775807 := by simp [Lit.wf, IntKind.min, IntKind.max, IntKind.signed, IntKind.bits] at w2; omega
  clear hA0 hval0
  refine (walk W a0 len0 cap0 z0 w0 z1 b1 z2 b2).mono fun e W' ⟨he, bel⟩ => ?_
  subst he
  exact ⟨_, rfl, _, _, _, [], _, [], hW', trodAll_mk1 (shut_bool Try.underlying4 _), (trodAll_cons_mk (Below.trod laidOut (by kernel_rfl) (of_decide_eq_true (by kernel_rfl)) k0 bel lt0) (trodAll_cons_mk (shut_int Try.underlying22 w1) (trodAll_cons_mk (shut_int Try.underlying3 w2) trodAll_mk0))), rfl, bel.frame _, fun h => by cases h⟩

theorem proved : Rows.RightsFreeSaid :=
  OpenClaim.holds_of_wide 4 Try.f4 rfl rfl rfl rfl rfl rfl rfl ⟨rfl, rfl, rfl, rfl, rfl⟩ rfl rfl rfl rfl rfl (by kernel_rfl) Try.func4 (by kernel_rfl)
    (of_decide_eq_true (by kernel_rfl)) (by unfold Func.isWrapper; first | (rw [if_pos (by decide +kernel)]; kernel_rfl) | (rw [if_neg (by decide +kernel)]; exact ⟨rfl, rfl⟩))
    (fun os started H enc _ => lifted os started H enc)
#print axioms proved
end Go.Proofs.Ytekicfaakjbmhaa.rightsFree
