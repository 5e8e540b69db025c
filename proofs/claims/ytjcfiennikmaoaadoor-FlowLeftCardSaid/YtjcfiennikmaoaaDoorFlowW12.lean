/- flow.Order, walked. -/
import Derived.Test.YtjcfiennikmaoaaDoorFlowW11
namespace Go.Proofs.YtjcfiennikmaoaaDoor
open Go.ChangeShapes Go.WideShapes Go.ChangeAt Go.RowKit
namespace Flw
open Isa
open Goes
open Rights (Kept)
set_option linter.unusedVariables false
set_option linter.unusedSimpArgs false
attribute [local go_sem] Oper.semAt_some
set_option maxRecDepth 100000 in
set_option maxHeartbeats 6400000 in
theorem order_any : OrderC := by
  intro l a n c w hT hnc hcm h
  have hln : l.length = n := h.1
  have HL := Lib.hid hln
  have HCo := Lib.hid (fun W (hb : Below w.heap.size w W) => come_any l a n c W (hT.below hb (Nat.le_refl _)) hnc hcm (h.below hb (Nat.le_refl _)))
  have HRow := Lib.hid h
  obtain ⟨m, hm⟩ : ∃ m, (comeL l).length = m := ⟨_, rfl⟩
  have hmn : m ≤ n := by
    rw [← hm]
    unfold comeL
    split
    · simp; omega
    · simp
  have hm16 : m ≤ 16384 := by
    rw [← hm]
    unfold comeL
    split
    · rename_i hE
      have := (fine_of hE).most
      simp; omega
    · simp
  have HAh := Lib.hid (fun W cv (hb : Below w.heap.size w W) S0 (hcv : W.ownsRow S0 4 1 cv m (bls (comeL l))) => ahead_any l a n c (comeL l) m cv W hm16 hmn (h.below hb (Nat.le_refl _)) S0 hcv hm (fun t ht hc x hx => by
    have hE : chkE l = 0 := by
      by_cases q : chkE l = 0
      · exact q
      · unfold comeL at hm
        rw [if_neg q] at hm
        simp at hm
        omega
    have hlm : l.length = m := by
      unfold comeL at hm
      rw [if_pos hE] at hm
      simpa using hm
    have := beh_lt (fine_of hE) h.2.1 (n := t) (by omega) hx
    omega))
  have HM := Lib.hid hm
  clear hT h hm
  refine (callsIn_wide (n := 0)).1 ?_
  refine callsIn_of_wp_marks Tryd.func10 rfl trivial ?_ rfl
  simp only [Tryd.ntmps10, List.size_toArray, List.length_cons, List.length_nil, Nat.reduceAdd, Nat.reduceSub, Array.replicate_succ, Array.replicate_zero, List.push_toArray, List.append_toArray, List.nil_append, List.cons_append]
  refine (wpIn_wide (n := 0)).2 ?_
  go_wp2_with fail
  refine (HCo.out w (Below.refl _ _)).mono ?_
  rintro e w1 ⟨cv, rfl, hcv, hb1⟩
  rw [HM.out] at hcv
  obtain ⟨ca, cc, rfl, _, _⟩ := own_shape hcv
  have HA1 := Lib.hid (HAh.out w1 _ hb1 _ hcv)
  have HB1 := Lib.hid hb1
  clear hcv hb1 HCo HAh
  go_wp2_with fail
  refine HA1.out.mono ?_
  rintro e w2 ⟨O, rfl, hO, hP, hb2⟩
  have HB2 := Lib.hid (HB1.out.trans (hb2.mono HB1.out.size))
  have HP2 := Lib.hid hP
  have HO2 : Hid (w.heap.size ≤ O ∧ O < w2.heap.size) := ⟨Nat.le_trans HB1.out.size hO, hP.lt⟩
  clear HA1 HB1 hO hP hb2
  have hbox := Box.new w2 29 (.slice (some ⟨O, 0, none⟩) m m)
  have HW3 : Hid (OSt w2.heap.size (w2.heap.size + 1) O m w (fnL m fun x => ((cn l (comeL l) m x : Nat) : Int)) [] [] (.slice none 0 0) (.slice none 0 0) [] ((w2.alloc (.cells #[.slice (some ⟨O, 0, none⟩) m m] 29)).alloc (.cells #[.slice none 0 0] 29))) := by
    have k1 : Kept (fun _ => False) w2 ((w2.alloc (.cells #[.slice (some ⟨O, 0, none⟩) m m] 29)).alloc (.cells #[.slice none 0 0] 29)) := ((Kept.refl _ _).alloc _).alloc _
    have hs := HB2.out.size
    refine ⟨hbox.kept ((Kept.refl (fun _ => False) _).alloc _) (fun x => x), ?_, k1.same HP2.out (fun x => x), World.ownsRow_nil _ _ _ _, World.ownsRow_nil _ _ _ _, HB2.out.trans (below_of k1 hs (fun _ x => x.elim)), hs, by omega, HO2.out.1, by omega, by simp [Value.ownBlock], by simp [Value.ownBlock], fun g hg => by simp [Value.ownBlock] at hg, Mk.nil _ _⟩
    have := Box.new (w2.alloc (.cells #[.slice (some ⟨O, 0, none⟩) m m] 29)) 29 (.slice none 0 0)
    rwa [World.size_alloc] at this
  clear hbox
  by_cases hE : chkE l = 0
  rotate_left
  · have hm0 : m = 0 := by
      rw [← HM.out]
      unfold comeL
      rw [if_neg hE]
      rfl
    have ho : ordA l = ([], false) := by unfold ordA; rw [if_neg hE]
    have HOr := Lib.hid ho
    subst hm0
    go_upto_region 3 with fail
    generalize (w2.alloc (.cells #[.slice (some ⟨O, 0, none⟩) 0 0] 29)).alloc (.cells #[.slice none 0 0] 29) = W3 at *
    generalize w2.heap.size = S1 at *
    have q1 := HW3.out.b1.cell
    have q2 := HW3.out.b2.cell
    clear hE ho
    go_wp2_with fail
    refine wp_loop_rounds 1 ?_
    rw [rounds_succ]
    go_wp2_with fail
    refine leaves_marks (lo := w.heap.size) [] W3 (Mk.nil _ _) fun w' hk => ?_
    rw [HOr.out]
    refine ⟨.tuple #[.slice none 0 0, .bool false], by simp [results, Tryd.f10, go_sem], _, rfl, World.ownsRow_nil _ _ _ _, HW3.out.bel.trans (below_of hk HW3.out.bel.size fun k hk => hk.1)⟩
  have hf := fine_of hE
  have HF := Lib.hid hf
  have hmn2 : m = n := by
    rw [← HM.out, ← HL.out]
    unfold comeL
    rw [if_pos hE]
    simp
  subst hmn2
  have HA3 : Hid (∀ x, cn l (comeL l) m x = wc l [] x) := fun x => by rw [← HL.out]; exact wc_start hE x
  have hA3 : (fnL m fun x => ((cn l (comeL l) m x : Nat) : Int)) = fnL m fun x => ((wc l [] x : Nat) : Int) := fnL_congr fun x _ => by rw [HA3.out x]
  rw [hA3] at HW3
  have HRd := Lib.hid (Rdy.start hf HRow.out.2.1)
  have HOd := Lib.hid (Od.start hf)
  have hn0 : 0 < m := by have := hf.some; have := HL.out; omega
  clear hE hf hA3 HA3 hmn HM HB2 HP2 HO2
  go_upto_region 3 with fail
  generalize (w2.alloc (.cells #[.slice (some ⟨O, 0, none⟩) m m] 29)).alloc (.cells #[.slice none 0 0] 29) = W3 at *
  generalize w2.heap.size = S1 at *
  obtain ⟨S2, hS2⟩ : ∃ S2, S1 + 1 = S2 := ⟨_, rfl⟩
  rw [hS2] at HW3 ⊢
  clear hS2
  rename_i _ _ K1 hK1 _ _
  have REST : Hid (∀ (u14 u15 u16 u17 u18 u19 u20 u21 u22 u23 : Value) (R : List Nat) (v : Value) (W : World), OSt S1 S2 O m w (fnL m fun x => ((wc l [] x : Nat) : Int)) R [] v (.slice none 0 0) [] W → Rdy l [] R → K1 { tmps := #[.slice a m c, undef, .slice none 0 0, .bool false, .pointer (some ⟨S1, 0, none⟩), .slice none 0 0, .pointer (some ⟨S2, 0, none⟩), undef, undef, undef, .slice a m c, .slice a m c, .slice ca m cc, .slice (some ⟨O, 0, none⟩) m m, u14, u15, u16, u17, u18, u19, u20, u21, u22, u23, undef, undef, undef, undef, undef, undef, undef, undef, undef, undef, undef, undef, undef, undef, undef, undef, undef, undef, undef, undef, undef, undef, undef, undef, undef, undef, undef, undef, undef, undef, undef, undef, undef, undef, undef, undef, undef, undef, undef, undef, undef, undef, undef, undef, undef, undef, undef], defers := [] } W) := by
    intro u14 u15 u16 u17 u18 u19 u20 u21 u22 u23 R v W hO hR
    refine hK1 _ _ ?_
    have HOs := Lib.hid hO
    have HRs := Lib.hid hR
    clear hO hR hK1 HW3 HRd
    go_wp2_with fail
    refine wp_loop_k (fun N a' W' => ∃ (u7 u8 u24 u25 u26 u27 u28 u29 u30 u31 u32 u33 u34 u35 u36 u37 u38 u39 u40 u41 u42 u43 u44 u45 u46 : Value) (rs R T : List Nat) (v tv : Value), a' = { tmps := #[.slice a m c, undef, .slice none 0 0, .bool false, .pointer (some ⟨S1, 0, none⟩), tv, .pointer (some ⟨S2, 0, none⟩), u7, u8, undef, .slice a m c, .slice a m c, .slice ca m cc, .slice (some ⟨O, 0, none⟩) m m, u14, u15, u16, u17, u18, u19, u20, u21, u22, u23, u24, u25, u26, u27, u28, u29, u30, u31, u32, u33, u34, u35, u36, u37, u38, u39, u40, u41, u42, u43, u44, u45, u46, undef, undef, undef, undef, undef, undef, undef, undef, undef, undef, undef, undef, undef, undef, undef, undef, undef, undef, undef, undef, undef, undef, undef, undef], defers := dfs rs } ∧ OSt S1 S2 O m w (fnL m fun x => ((wc l T x : Nat) : Int)) R T v tv rs W' ∧ Od l m T ∧ Rdy l T R ∧ N = m - T.length) _
      ⟨undef, undef, undef, undef, undef, undef, undef, undef, undef, undef, undef, undef, undef, undef, undef, undef, undef, undef, undef, undef, undef, undef, undef, undef, undef, [], R, [], v, .slice none 0 0, rfl, HOs.out, by rw [← HL.out]; exact HOd.out, HRs.out, rfl⟩ ?_
    clear HOs HRs HOd R v W
    rintro N a' W ⟨u7, u8, u24, u25, u26, u27, u28, u29, u30, u31, u32, u33, u34, u35, u36, u37, u38, u39, u40, u41, u42, u43, u44, u45, u46, rs, R, T, v, tv, rfl, hO, hOd, hR, hN⟩ K hK
    have HK := Lib.hid hK
    have HOs := Lib.hid hO
    have HOd := Lib.hid hOd
    have HRs := Lib.hid hR
    have HN := Lib.hid hN
    obtain ⟨va, vc, rfl, hvc, hvm⟩ := own_shape hO.own
    have q2 := hO.b2.cell
    have f2 := hO.b2.free
    clear hK hO hOd hR hN
    rcases snoc_cases R with rfl | ⟨rest, k, rfl⟩
    · obtain ⟨ta, tc, rfl, htc, htm⟩ := own_shape HOs.out.ord
      have q1 := HOs.out.b1.cell
      clear hvc hvm f2 htc htm
      by_cases hT0 : T.length = 0
      · have hT : T = [] := List.eq_nil_of_length_eq_zero hT0
        subst hT
        have HOr : Hid (ordA l = ([], false)) := by
          have ho := HOd.out
          rw [← HL.out] at ho
          refine ho.none ?_ HRs.out.out
          cases e : allT l [] with
          | false => rfl
          | true => have := allT_true.1 e 0 (by have := HL.out; omega) (comeB_iff.2 .zero); simp at this
        clear hT0
        go_wp2_with fail
        refine leaves_marks rs W HOs.out.ms fun w' hk => ?_
        rw [HOr.out]
        refine ⟨.tuple #[.slice none 0 0, .bool false], by simp [results, Tryd.f10, go_sem], _, rfl, World.ownsRow_nil _ _ _ _, HOs.out.bel.trans (below_of hk HOs.out.bel.size fun k hk => hk.1)⟩
      · have hd0 : ((T.length : Int) == 0) = false := by simpa using hT0
        have HMx := Lib.hid (max_any (fnL m fun x => ((wc l T x : Nat) : Int)) O m (fnL_len _ _) hn0 (by omega) W HOs.out.row)
        generalize hTl : T.length = tl at *
        have HTl := Lib.hid hTl
        clear hTl hT0
        go_wp2_with fail
        refine HMx.out.mono ?_
        rintro e W' ⟨mv, rfl, h1, h2, hw'⟩
        subst hw'
        have H1 := Lib.hid h1
        have H2 := Lib.hid h2
        clear h1 h2 HMx
        by_cases hmv : 0 < mv
        · have hd : decide ((0 : Int) < mv) = true := decide_eq_true hmv
          have HOr : Hid (ordA l = ([], false)) := by
            have ho := HOd.out
            rw [← HL.out] at ho
            refine ho.none ?_ HRs.out.out
            obtain ⟨x, hx, e⟩ := H2.out
            rw [fnL_at _ hx] at e
            exact wc_left (x := x) (by omega)
          go_wp2_with fail
          refine leaves_marks rs W' HOs.out.ms fun w' hk => ?_
          rw [HOr.out]
          refine ⟨.tuple #[.slice none 0 0, .bool false], by simp [results, Tryd.f10, go_sem], _, rfl, World.ownsRow_nil _ _ _ _, HOs.out.bel.trans (below_of hk HOs.out.bel.size fun k hk => hk.1)⟩
        · have hd : decide ((0 : Int) < mv) = false := decide_eq_false hmv
          have HOr : Hid (ordA l = (T, true)) := by
            have ho := HOd.out
            rw [← HL.out] at ho
            refine ho.all (HRs.out.all fun x hx => ?_)
            have := H1.out x (by have := HL.out; omega)
            rw [fnL_at _ (by have := HL.out; omega)] at this
            omega
          go_wp2_with fail
          refine leaves_marks rs W' HOs.out.ms fun w' hk => ?_
          rw [HOr.out]
          refine ⟨.tuple #[.slice ta tl tc, .bool true], by simp [results, Tryd.f10, go_sem], _, rfl, ?_, HOs.out.bel.trans (below_of hk HOs.out.bel.size fun k hk => hk.1)⟩
          have := own_kept HOs.out.ord hk (fun g hg => by
            rintro ⟨_, x, hx⟩
            obtain ⟨cur, hc⟩ := own_block HOs.out.ord hg
            rw [hc] at hx
            cases hx)
          rw [HTl.out] at this
          show World.ownsRow _ _ _ _ _ _ _
          rw [HTl.out]
          exact this
    · have hml : (rest ++ [k]).length = rest.length + 1 := by simp
      rw [hml] at q2 hvc
      obtain ⟨g, cap, hv, hg0, hg1⟩ := own_some HOs.out.own (by simp)
      rw [hml] at hv
      injection hv with e1 _ e3
      subst e1
      subst e3
      obtain ⟨hkl, hkc, hkm, hrm⟩ := HRs.out.pop
      have hkn : k < m := by have := HL.out; omega
      have hcell : W.cell? ⟨g, rest.length, none⟩ = some (.int .i64 (k : Nat)) := by
        have := World.ownsRow.cells HOs.out.own (g := g) rfl rest.length (.int .i64 (k : Nat)) (by simp [nums])
        rwa [WideShapes.add_plain, Nat.zero_add] at this
      have hO0 := HOs.out
      rw [hml] at hO0
      have HP := Lib.hid hO0.pop
      have HKc := Lib.hid hkc
      have HKm := Lib.hid hkm
      have HRm := Lib.hid hrm
      have hrl : rest.length ≤ 100000 := by
        have := fal_len HRs.out.fal (fun x hx => ((HRs.out.is x).1 hx).1)
        rw [hml] at this
        have := HL.out
        omega
      have htl : T.length ≤ 100000 := by have := told_len HOd.out.told; have := HL.out; omega
      clear hO0 hkc hkm hrm hkl
      generalize hm : rest.length = r at *
      have HMl := Lib.hid hm
      clear hm hml
      have m0 : (0 : Int) ≤ r := by omega
      have m1 : (r : Int) < (r : Int) + 1 := by omega
      go_upto_region 9 with fail
      generalize W.setCell ⟨S2, 0, none⟩ (.slice (some ⟨g, 0, none⟩) r vc) = W5 at *
      clear q2 f2 hcell m0 m1 hvc hvm HOs
      obtain ⟨ta, tc, rfl, htc, htm⟩ := own_shape HP.out.ord
      obtain ⟨ta', tc', Y, hrun, hown, hgr, hat⟩ := app_num HP.out.ord HP.out.bel.size (by omega) k 29
      have HT := Lib.hid (HP.out.tell hgr hown hat)
      clear hown hgr hat htc htm
      generalize hTl : T.length = tl at *
      have HTl := Lib.hid hTl
      clear hTl
      go_upto_region 10 with (at_builtin; refine Isa.wpList_append_run rfl _ _ 29 29 rfl _ _ _ _ 29 rfl rfl rfl hrun ?_)
      generalize W5.heap.size = G5 at *
      clear hrun HP
      obtain ⟨b, off, rfl, hc, hw⟩ := (HRow.out.below HT.out.bel (Nat.le_refl _)).at k hkn
      obtain ⟨c0, c1, c2, c3⟩ := hc
      have k0 : (0 : Int) ≤ k := by omega
      have k1 : (k : Int) < m := by omega
      have HMake := Lib.hid (behind_make (l.getD k iz) hw k (by omega) Y)
      have HLk : Hid (behI (l.getD k iz) k = behL l k) := rfl
      clear hw
      generalize l.getD k iz = x at *
      obtain ⟨xo, xa, xb, xc⟩ := x
      unfold iv at HMake
      simp only at *
      go_wp2_with fail
      refine HMake.out.mono ?_
      rintro e W6 ⟨v6, rfl, F, lb, cx, rfl, heg, hseq, hb6, hcc⟩
      rw [HLk.out] at hseq
      obtain ⟨X, hX⟩ : ∃ X, Y.heap.size = X := ⟨_, rfl⟩
      obtain ⟨B, hB⟩ : ∃ B, W6.heap.size = B := ⟨_, rfl⟩
      have hXB : X ≤ B := by have := hb6.size; omega
      have HOX : Hid (OX S1 S2 O X B w (.slice ta' (tl + 1) tc') rs) := by
        have h := HT.out
        exact ⟨by have := h.b1.lt; omega, by have := h.b2.lt; omega, by have := h.row.lt; omega, fun q hq => by have := (own_lt h.ord hq).2; omega, fun q hq => by have := h.ms.lt hq; omega, hXB, by have := h.bel.size; omega⟩
      have HCc : Hid (∀ j, cx j → X ≤ j ∧ j < B) := fun j hj => by have := hcc j hj; omega
      have HBe := Lib.hid hB
      have HI0 : Hid (OI S1 S2 O m w l T (T ++ [k]) rest X B (.slice ta' (tl + 1) tc') rs [] rest (.slice (some ⟨g, 0, none⟩) r vc) W6) := by
        refine ⟨?_, HRm.out, fun q hq => ?_⟩
        · rw [wm_nil]
          exact HT.out.below hb6
        · have := (own_lt HT.out.own hq).2
          exact .inl (by omega)
      have HSq := Lib.hid hseq
      have HEg := Lib.hid heg
      clear hX hB hXB hb6 hcc hseq heg HMake c0 c1 c2 c3 k0 k1 HT HRm
      go_wp2_with fail
      refine (wpIn_wide (n := 0)).1 ?_
      refine wpIn_rangeFunc_n (gf := F) (lb := lb) rfl HEg.out HSq.out (Kept.refl _ _) (fun j hj => by rw [HBe.out]; exact (HCc.out j hj).2) (fun _ => rfl)
        (fun pre V => ∃ R v, OI S1 S2 O m w l T (T ++ [k]) rest X B (.slice ta' (tl + 1) tc') rs pre R v V) (fun _ _ _ => False) (by rw [HBe.out]; exact oi_steady HOX.out) (fun _ _ _ _ h _ => h.elim) ⟨_, _, HI0.out⟩
        (fun z => { tmps := #[.slice (some ⟨b, off, none⟩) m c, undef, .slice none 0 0, .bool false, .pointer (some ⟨S1, 0, none⟩), .slice ta' (tl + 1) tc', .pointer (some ⟨S2, 0, none⟩), .int .i64 (r : Nat), .int .i64 (k : Nat), .int .i64 (z : Nat), .slice (some ⟨b, off, none⟩) m c, .slice (some ⟨b, off, none⟩) m c, .slice ca m cc, .slice (some ⟨O, 0, none⟩) m m, u14, u15, u16, u17, u18, u19, u20, u21, u22, u23, .slice (some ⟨g, 0, none⟩) (r + 1) vc, .int .i64 ((r : Int) + 1), .bool true, .slice (some ⟨g, 0, none⟩) (r + 1) vc, .int .i64 ((r : Int) + 1), .int .i64 (r : Nat), .slice (some ⟨g, 0, none⟩) (r + 1) vc, .int .i64 (r : Nat), .pointer (some ⟨g, r, none⟩), .int .i64 (k : Nat), .slice (some ⟨g, 0, none⟩) (r + 1) vc, .int .i64 (r : Nat), .slice (some ⟨g, 0, none⟩) r vc, .slice ta tl tc, .int .i64 (k : Nat), .slice (some ⟨G5, 0, none⟩) 1 1, .slice ta' (tl + 1) tc', .slice (some ⟨b, off, none⟩) m c, .int .i64 (k : Nat), .pointer (some ⟨b, off + k * 4, none⟩), .agg #[.int .u8 xo, .int .u8 xa, .int .u16 xb, .int .u32 xc], .int .i64 (k : Nat), .func (.func F) #[] lb, .int .i64 (z : Nat), undef, undef, undef, undef, undef, undef, undef, undef, undef, undef, undef, undef, undef, undef, undef, undef, undef, undef, undef, undef, undef, undef, undef], defers := [] }) ?assign ?body ?done ?stop
      case assign =>
        intro l z W K hK
        unfold encN
        gi_wp2_with fail
        exact hK
      case body =>
        rintro l2 pre z V hpx hszV ⟨R, v, h⟩
        rw [HBe.out] at hszV ⊢
        have hzm : z ∈ behL l k := hpx.subset (by simp)
        have hkl : k < l.length := by have := HL.out; omega
        have hzn : z < m := by have := beh_lt HF.out HRow.out.2.1 hkl hzm; have := HL.out; omega
        have hzp := prefix_new hpx (beh_nodup l k)
        have hprel : ∀ x ∈ pre, x < l.length := fun x hx => beh_lt HF.out HRow.out.2.1 hkl (hpx.subset (by simp [hx]))
        obtain ⟨hzR, hy1⟩ := Rdm.new HRs.out h.r hkl HKc.out hzm hzp
        have hRl := h.r.lt HRs.out hprel
        have hRn := fal_len h.r.fal hRl
        obtain ⟨va, vc2, rfl, hv1, hv2⟩ := own_shape h.o.own
        have q1 := h.o.b1.cell
        have qz := h.o.row.at (k := z) (by rw [fnL_len]; exact hzn)
        rw [fnL_at _ hzn, wm_here hzp] at qz
        have fz := h.o.row.free z
        have z0 : (0 : Int) ≤ z := by omega
        have z1 : (z : Int) < m := by omega
        have hls := h.o.less z (((wc l T z : Nat) : Int) - 1)
        rw [wm_step hzp m] at hls
        have q1' := hls.2.b1.cell
        have hyl : wc l T z ≤ 100000 := by have := wc_le l T z; have := HL.out; omega
        have qz' := hls.2.row.at (k := z) (by rw [fnL_len]; exact hzn)
        have ez : (fnL m (wm l T (pre ++ [z]))).getD z 0 = ((wc l T z : Nat) : Int) - 1 := by
          rw [fnL_at _ hzn]
          unfold wm
          have : (pre ++ [z]).contains z = true := by simp
          rw [this]
          rfl
        rw [ez] at qz'
        have hwr : IntKind.i64.wrap (((wc l T z : Nat) : Int) - 1) = ((wc l T z : Nat) : Int) - 1 := by simp [IntKind.wrap, IntKind.bits, IntKind.signed]; omega
        have HLs := Lib.hid hls
        have HI := Lib.hid h
        have HSz := Lib.hid hszV
        have HStay := Lib.hid (fun hw => h.r.stay (x := z) hw)
        have HAdd := Lib.hid (fun R' hw => h.r.add (R' := R') (x := z) hw)
        have HOut : Hid (∀ j, (j = O ∨ (Value.slice va R.length vc2).ownBlock = some j ∨ j = S2) → ¬ cx j ∧ j ≠ B ∧ j ≠ B + 1) := by
          rintro j (e | e | e)
          · subst e; exact ⟨fun q => by have := HCc.out _ q; have := HOX.out.xO; omega, by have := HOX.out.xO; have := HOX.out.xb; omega, by have := HOX.out.xO; have := HOX.out.xb; omega⟩
          · have h1 := h.vb j e
            have h2 := HOX.out.xb
            exact ⟨fun q => by have := HCc.out _ q; omega, by omega, by omega⟩
          · subst e; exact ⟨fun q => by have := HCc.out _ q; have := HOX.out.x2; omega, by have := HOX.out.x2; have := HOX.out.xb; omega, by have := HOX.out.x2; have := HOX.out.xb; omega⟩
        have HPut := Lib.hid ((put_any hls.2.own hls.2.bel.size (by have := HL.out; omega) h.r.fal z (by omega) (fun x hx => by have := hRl x hx; have := HL.out; omega) hzR).mono (fun e w' q => hls.2.put q))
        have q2' := hls.2.b2.cell
        have hV1 : (V.setCell ⟨O, z, none⟩ (.int .i64 (((wc l T z : Nat) : Int) - 1))).heap.size = V.heap.size := setCell_size _ _ _ _
        have HV1 := Lib.hid hV1
        clear hpx hszV h hls ez hzm hzp hprel hzR hRl hRn hv1 hv2 hV1
        generalize hy : wc l T z = y at *
        have HY := Lib.hid hy
        clear hy
        by_cases hy2 : y = 1
        · subst hy2
          have e0 : (((1 : Nat)) : Int) - 1 = 0 := rfl
          have e1 : (((1 : Nat)) : Int) = 1 := rfl
          rw [e0] at q1' qz' HLs HPut q2' HV1
          rw [e1] at qz
          clear hwr e0 e1 HStay
          gi_wp2_with fail
          refine ⟨trivial, rfl, ?_⟩
          refine CallsIn.mono (CallsIn.inRound l2 (callsIn_wide.2 HPut.out)) ?_
          rintro e Y2 ⟨a', c', R', rfl, p1, p2, p3, p4, p5, p6, p7⟩
          have HO7 := Lib.hid p7
          have HK6 := Lib.hid p6
          have HA4 := Lib.hid p4
          have HR7 := Lib.hid (HAdd.out R' (by first | trivial | exact HY.out) p2 p3)
          have q3 := p5.cell
          have f3 := p5.free
          clear p1 p2 p3 p4 p5 p6 p7 HPut HAdd q2' q1' qz' qz q1 fz
          gi_wp2_with fail
          simp only [Exit.inBlock, postN]
          refine ⟨((HLs.out.1.mono (q := fun j => j = O ∨ (Value.slice va R.length vc2).ownBlock = some j ∨ j = S2) fun j _ e => .inl e).trans (HK6.out.mono fun j _ e => .inr e)).mono fun j _ e => HOut.out j e, R', _, HO7.out, HR7.out, fun g hg => ?_⟩
          rcases HA4.out with e | ⟨g', e, hge⟩
          · rw [e] at hg; exact HI.out.vb g hg
          · rw [e] at hg
            cases hg
            have := HV1.out
            have := HSz.out
            exact .inr (by omega)
        · have hd : (((y : Nat) : Int) - 1 == 0) = false := by simp; omega
          clear q2'
          gi_wp2_with fail
          simp only [Exit.inBlock, postN]
          exact ⟨HLs.out.1.mono fun j _ e => HOut.out j (.inl e), R, _, HLs.out.2, HStay.out hy2, HI.out.vb⟩
      case done =>
        rintro V ⟨R, v, h⟩ hszV hD
        rw [HBe.out] at hD hszV ⊢
        simp only [Exit.inBlock, Exit.then]
        have hOd2 : Od l m (T ++ [k]) := by
          have ho := HOd.out
          rw [← HL.out] at ho ⊢
          refine ho.next ?_ (by have := HL.out; omega) HKm.out HKc.out
          cases e : allT l T with
          | false => rfl
          | true => exact absurd (allT_true.1 e k (by have := HL.out; omega) (cand_iff.1 HKc.out).1) (cand_iff.1 HKc.out).2.1
        have hRd2 : Rdy l (T ++ [k]) R := h.r.fin HF.out HRow.out.2.1 HRs.out HOd.out.told (by have := HL.out; omega) HKc.out
        have hw2 : wm l T (behL l k) = fun x => ((wc l (T ++ [k]) x : Nat) : Int) := wm_fin (by have := HL.out; omega) (cand_iff.1 HKc.out).1 (cand_iff.1 HKc.out).2.1
        have hO := h.o
        rw [hw2] at hO
        have hlen := told_len hOd2.told
        refine HK.out (m - (T ++ [k]).length) _ _ ?_ ⟨_, _, _, _, _, _, _, _, _, _, _, _, _, _, _, _, _, _, _, _, _, _, _, _, _, B :: rs, R, T ++ [k], v, .slice ta' (tl + 1) tc', rfl, ⟨hO.b1, hO.b2, hO.row, hO.own, hO.ord, hO.bel, hO.l1, hO.l2, hO.lO, hO.s12, hO.vO, hO.tO, hO.vt, hO.ms.cons hD (by have := HOX.out.xw; have := HOX.out.xb; omega) (fun hm => by have := HOX.out.xr B hm; have := HOX.out.xb; omega)⟩, hOd2, hRd2, rfl⟩
        rw [List.length_append, List.length_singleton] at hlen ⊢
        have := HN.out
        have := HL.out
        have := HTl.out
        omega
      case stop =>
        rintro cd pre V hpre h
        exact h.elim
  clear hK1
  have q1 := HW3.out.b1.cell
  have qr := HW3.out.row.at (k := 0) (by rw [fnL_len]; exact hn0)
  rw [fnL_at _ hn0] at qr
  have q2 := HW3.out.b2.cell
  have f2 := HW3.out.b2.free
  have hdn : decide ((0 : Int) < (m : Int)) = true := decide_eq_true (by omega)
  have hdn2 : decide (0 < m) = true := decide_eq_true hn0
  by_cases hw0 : wc l [] 0 = 0
  · have hRd := HRd.out
    rw [if_pos hw0] at hRd
    rw [hw0] at qr
    have HRd0 := Lib.hid hRd
    have hc0 : Kept (fun _ => False) W3 (W3.alloc (.cells #[.int .i64 0] 3)) := (Kept.refl _ W3).alloc _
    have hO4 := (HW3.out.kept hc0 (fun x => x) (fun x => x) (fun x => x) (fun _ _ x => x) (fun _ _ x => x) (fun _ _ x => x) (fun _ x => x.elim)).ready (R' := [0]) (v' := .slice (some ⟨W3.heap.size, 0, none⟩) 1 1) (World.ownsRow_lit W3 #[.int .i64 0] 1 HW3.out.bel.size (by decide) rfl) (by intro q; have q2 : W3.heap.size = O := Option.some.inj q; have := HW3.out.row.lt; omega) (fun g hg q => by simp [Value.ownBlock] at q)
    have HO4 := Lib.hid hO4.2
    have b2' := HW3.out.b2.kept hc0 (fun x => x)
    have q2' := b2'.cell
    have f2' := b2'.free
    clear hRd hc0 hO4 hw0 b2'
    go_wp2_with fail
    exact REST.out _ _ _ _ _ _ _ _ _ _ _ _ _ HO4.out HRd0.out
  · have hRd := HRd.out
    rw [if_neg hw0] at hRd
    have HRd0 := Lib.hid hRd
    have hz : (((wc l [] 0 : Nat) : Int) == 0) = false := by simp; exact hw0
    clear hRd hw0
    generalize wc l [] 0 = y at *
    go_wp2_with fail
    exact REST.out _ _ _ _ _ _ _ _ _ _ _ _ _ HW3.out HRd0.out
end Flw
end Go.Proofs.YtjcfiennikmaoaaDoor
