/- Reading a list of values: one by one. -/
import Derived.Test.YtimhppgepiikbaaWireL4
namespace Go.Proofs.Ytimhppgepiikbaa
open Go.ChangeShapes Go.WideShapes Go.ChangeAt Go.RowKit
namespace Wire
set_option linter.unusedVariables false
set_option linter.unusedSimpArgs false
theorem ownV_low {w : World} {B B' n : Nat} {v : Value} {l : List Int} (h : OwnV w B v n l) (hb : B' ≤ B) : OwnV w B' v n l := ⟨h.1, h.2.imp id fun ⟨g', cap, cur, e1, e2, e3⟩ => ⟨g', cap, cur, e1, Nat.le_trans hb e2, e3⟩⟩
theorem cells_low {w : World} {B B' : Nat} (hb : B' ≤ B) (f : F) : ∀ {xs : List Value}, Cells w B f xs → Cells w B' f xs := by
  induction f with
  | nil => intro xs h; exact h
  | cons k n i b sub next _ ih =>
    intro xs hc
    obtain ⟨ba, bn, bc, rest, h1, h2, h3, h4, h5, h6, h7, h8⟩ := hc
    exact ⟨ba, bn, bc, rest, h1, h2, ownV_low h3 hb, h4, h5, h6, h7, ih h8⟩
theorem vrow_low {w : World} {B B' n : Nat} {v : Value} {f : F} (h : VRow w B v n f) (hb : B' ≤ B) : VRow w B' v n f := by
  obtain ⟨h1, xs, h2, h3⟩ := h
  exact ⟨h1, xs, ⟨h2.1, h2.2.imp id fun ⟨g', cap, cur, e1, e2, e3⟩ => ⟨g', cap, cur, e1, Nat.le_trans hb e2, e3⟩⟩, cells_low hb f h3⟩
set_option maxHeartbeats 4000000 in
theorem takev_any {q : Nat → Prop} (g V b : Nat) (w : World) (most ek en i : Int) (ba : Option Addr) (bn bc n : Nat) (s : RS) (hk : KindAt w V b most ek en i ba bn bc) (he7 : ¬ ek = 7) (h0 : 0 ≤ en) (h1 : en ≤ 1048576) (hek : -9223372036854775808 ≤ ek ∧ ek ≤ 9223372036854775807) (hn : n ≤ 65535) (h : RSt q g w s) (hs0 : n = 0 ∨ s.e = 0) :
    Calls Try.prog 48 #[.pointer (some ⟨g, 0, none⟩), .int .i64 (n : Int), .func (.func 34) #[] #[.pointer (some ⟨V, 0, none⟩)]] w (TakePost q g w (rdMany ek en n s)) := by
  obtain ⟨i0, hi, hz0, hz1, hz2⟩ := info_parts info39
  have HI := Lib.hid hi
  have HZ0 := Lib.hid hz0
  have HZ1 := Lib.hid hz1
  have HZ2 := Lib.hid hz2
  clear hi hz0 hz1 hz2
  have hlg := h.lt
  have HQ : Hid (∀ (w' : World) s, RSt (fun k => q k ∨ w.heap.size ≤ k) g w' s → RSt q g w' s) := fun w' s h => h.more fun k _ hk => Or.inl hk
  have HR : Hid (RSt (fun k => q k ∨ w.heap.size ≤ k) g w s) := h.more fun k hk hh => hh.elim id fun e => by omega
  have HKd := Lib.hid hk
  have HE := Lib.hid he7
  have HS0 := Lib.hid hs0
  clear h hk he7 hs0
  go_enter Try.func48, Try.ntmps48
  go_wp2_with fail
  go_loopw [7, 10] (fun v j wr => ∃ (k : Nat) (va : Option Addr) (vc : Nat) (f : F) (t : RS), k ≤ n ∧ j = .int .i64 k ∧ v = .slice va k vc ∧ VRow wr w.heap.size (.slice va k vc) k f ∧ RSt (fun k => q k ∨ w.heap.size ≤ k) g wr t ∧ (n = 0 ∨ t.e = 0) ∧ Kept (· = g) w wr ∧ rdMany ek en n s = (app f (rdMany ek en (n - k) t).1, (rdMany ek en (n - k) t).2)) (fun _ j _ => n - (intOf j).toNat)
  case atStart => exact ⟨0, none, 0, .nil, s, by omega, rfl, rfl, vrow_nil _ _, HR.out, HS0.out, Kept.refl _ _, rfl⟩
  case round =>
    obtain ⟨k, va, vc, f, t, hk, rfl, rfl, hv, hrs, hte, hkp, hrd⟩ := hrel
    have HV := Lib.hid hv
    have HRs := Lib.hid hrs
    have HK := Lib.hid hkp
    have HRd := Lib.hid hrd
    have HTe := Lib.hid hte
    obtain ⟨vg, hvg⟩ := HR.out.cells
    have HKd2 := Lib.hid (HKd.out.kept hvg hkp)
    clear hv hrs hkp hrd hte hvg
    by_cases hlt : k < n
    · have k0 : (0 : Int) ≤ k := by omega
      have k1 : (k : Int) < n := by omega
      have hd : decide ((k : Int) < (n : Int)) = true := by simp; omega
      have hstep : rdMany ek en (n - k) t = if (rdFlat ek en t).s.e = 0 then (.cons ek (rdFlat ek en t).n (rdFlat ek en t).i (rdFlat ek en t).b .nil (rdMany ek en (n - (k + 1)) (rdFlat ek en t).s).1, (rdMany ek en (n - (k + 1)) (rdFlat ek en t).s).2) else (.nil, (rdFlat ek en t).s) := by
        rw [show n - k = (n - (k + 1)) + 1 from by omega]; rfl
      have HSt := Lib.hid hstep
      have HC := Lib.hid (clos_any g V b wr most ek en i ba bn bc t HKd2.out HE.out h0 h1 HRs.out)
      clear hstep
      generalize rdFlat ek en t = X at *
      obtain ⟨xn, xi, xb, xs⟩ := X
      simp only at HSt
      go_wp2_with fail
      refine HC.out.mono ?_
      rintro r w1 ⟨ca, cn, cc, rfl, ho, hle, hmx, hby, h1', h2, hxn, hxi⟩
      simp only at ho hby h1' hxn hxi
      obtain ⟨v1, hv1⟩ := h1'.cells
      obtain ⟨v2, hv2⟩ := HRs.out.cells
      obtain ⟨hfl, xs0, hown, hcells⟩ := HV.out
      have hown1 := own39_keptg hown hv2 h2
      have hcells1 : Cells w1 w.heap.size f xs0 := hcells.mono (fun v n l h => h.keptg hv2 h2) f
      have HVc := Lib.hid ((Below.heap_alloc w1 (.cells #[.int .i64 ek, .int .u64 xn, .int .i64 xi, .slice ca cn cc, .slice none 0 0] 39) _ (lt_of_block hv1)).trans hv1)
      have HO1 : Hid (OwnV w1 w.heap.size (.slice ca cn cc) cn xb) := ⟨ho.1, ho.2.imp id fun ⟨g', cap, cur, e1, e2, e3⟩ => ⟨g', cap, cur, e1, Nat.le_trans HK.out.size e2, e3⟩⟩
      have H1 := Lib.hid h1'
      have HK1 := Lib.hid (HK.out.trans h2)
      have HW1 := Lib.hid hown1
      have HCl := Lib.hid hcells1
      have HBy := Lib.hid hby
      have HNi := Lib.hid (And.intro hxn hxi)
      have HFl := Lib.hid hfl
      clear ho hby h1' hxn hxi hv1 hv2 hown hcells hown1 hcells1 h2 hfl
      by_cases hxe : xs.e = 0
      · have dxe : decide (xs.e = 0) = true := by simpa using hxe
        have HXe := Lib.hid hxe
        clear hxe
        have hb2 : Below w1.heap.size w1 ((w1.alloc (.cells #[.int .i64 ek, .int .u64 xn, .int .i64 xi, .slice ca cn cc, .slice none 0 0] 39)).alloc (.cells #[.int .i64 ek, .int .u64 xn, .int .i64 xi, .slice ca cn cc, .slice none 0 0] 39)) := ((Below.refl _ _).alloc (Nat.le_refl _) _).alloc (by simp) _
        have hownW := (HW1.out.alloc (.cells #[.int .i64 ek, .int .u64 xn, .int .i64 xi, .slice ca cn cc, .slice none 0 0] 39)).alloc (.cells #[.int .i64 ek, .int .u64 xn, .int .i64 xi, .slice ca cn cc, .slice none 0 0] 39)
        have hsz := HK1.out.size
        obtain ⟨g2, cap2, w3, hrun, hown2, hgrow, _, _⟩ := run_append_lies (P := Try.prog) ((w1.alloc (.cells #[.int .i64 ek, .int .u64 xn, .int .i64 xi, .slice ca cn cc, .slice none 0 0] 39)).alloc (.cells #[.int .i64 ek, .int .u64 xn, .int .i64 xi, .slice ca cn cc, .slice none 0 0] 39)) 22 22 w.heap.size 39 i0 (.agg #[.int .i64 0, .int .u64 0, .int .i64 0, .slice none 0 0, .slice none 0 0]) 5 72 Try.underlying22 HI.out HZ0.out HZ1.out HZ2.out rfl (by decide) (.slice va k vc) k xs0 hownW ⟨w1.heap.size + 1, 0, none⟩ 1 1 [.int .i64 ek, .int .u64 xn, .int .i64 xi, .slice ca cn cc, .slice none 0 0] rfl (World.news_of_block (heap_alloc2_new w1 (.cells #[.int .i64 ek, .int .u64 xn, .int .i64 xi, .slice ca cn cc, .slice none 0 0] 39) (.cells #[.int .i64 ek, .int .u64 xn, .int .i64 xi, .slice ca cn cc, .slice none 0 0] 39))) (by simp [Value.oneCell']) (by omega) (by unfold maxLen; omega) (by omega) (by simp; omega) _ rfl
        have hb3 : Below w.heap.size w1 w3 := Below.grown (hb2.mono hsz) hgrow (by simp; omega) (fun j hj => (hownW.lt j hj).1)
        have HCl3 : Hid (Cells w3 w.heap.size (f.snoc ek xn xi xb) (xs0 ++ [.int .i64 ek, .int .u64 xn, .int .i64 xi, .slice ca cn cc, .slice none 0 0])) :=
          Cells.snoc (((HO1.out.alloc _).alloc _).grown hownW hgrow) hle hmx HBy.out ⟨hek, HNi.out.1, HNi.out.2⟩ f (HCl.out.mono (fun v n l h => ((h.alloc _).alloc _).grown hownW hgrow) f)
        have HR3 := Lib.hid (H1.out.aside hb3 hlg (fun k hk => Or.inr hk))
        have HK3 := Lib.hid (HK1.out.behind hb3)
        have HO3 := Lib.hid hown2
        have HRd3 : Hid (rdMany ek en n s = (app (f.snoc ek xn xi xb) (rdMany ek en (n - (k + 1)) xs).1, (rdMany ek en (n - (k + 1)) xs).2)) := by
          show _ = _
          rw [HRd.out, HSt.out, if_pos HXe.out, app_snoc]
        clear hownW hown2 hgrow hb3 hsz hb2
        go_wp2_with fail
        refine (rwell_any g _ _ _ _ HVc.out).mono ?_
        rintro r w2 ⟨rfl, rfl⟩
        go_wp2_with (at_builtin; refine wpList_append_run rfl (.tmp 18) (.tmp 20) 22 22 rfl _ _ _ w3 22 rfl rfl rfl hrun ?_)
        clear hrun
        go_roundw
        case rel => exact ⟨k + 1, _, cap2, f.snoc ek xn xi xb, xs, by omega, by go_num, rfl, ⟨by rw [F.snoc_len, HFl.out], _, HO3.out, HCl3.out⟩, HR3.out, Or.inr HXe.out, HK3.out, HRd3.out⟩
        case measure => simp [intOf]; omega
      · have dxe : decide (xs.e = 0) = false := by simpa using hxe
        have HA : Hid (rdMany ek en n s = (f, xs)) := by show _ = _; rw [HRd.out, HSt.out, if_neg hxe, app_nil]
        have HNe := Lib.hid hxe
        have hb2 : Below w1.heap.size w1 (w1.alloc (.cells #[.int .i64 ek, .int .u64 xn, .int .i64 xi, .slice ca cn cc, .slice none 0 0] 39)) := (Below.refl _ _).alloc (Nat.le_refl _) _
        have HR2 := Lib.hid (HQ.out _ _ (H1.out.kept hb2))
        have HK2 := Lib.hid (HK1.out.trans (Kept.of_below hb2))
        clear hxe hb2
        go_wp2_with fail
        refine (rwell_any g _ _ _ _ HVc.out).mono ?_
        rintro r w2 ⟨rfl, rfl⟩
        go_wp2_with fail
        go_ret
        rw [HA.out]
        exact ⟨none, 0, 0, rfl, by simp only; rw [if_neg HNe.out]; exact vrow_nil _ _, HR2.out, HK2.out⟩
    · have hd : decide ((k : Int) < (n : Int)) = false := by simp; omega
      obtain rfl : k = n := by omega
      have HA : Hid (rdMany ek en k s = (f, t)) := by show _ = _; rw [HRd.out, Nat.sub_self]; simp only [rdMany, app_nil]
      go_wp2_with fail
      go_ret
      rw [HA.out]
      rcases HTe.out with hh | hh
      · by_cases he : t.e = 0
        · exact ⟨va, k, vc, rfl, by simp only; rw [if_pos he]; exact HV.out, HQ.out _ _ HRs.out, HK.out⟩
        · subst hh
          have hf : f = .nil := by
            have := HV.out.1
            cases f with
            | nil => rfl
            | cons => simp [F.len] at this
          have hv := HV.out
          rw [hf] at hv
          exact ⟨va, 0, vc, rfl, by simp only; rw [if_neg he]; exact hv, HQ.out _ _ HRs.out, HK.out⟩
      · exact ⟨va, k, vc, rfl, by simp only; rw [if_pos hh]; exact HV.out, HQ.out _ _ HRs.out, HK.out⟩
/-- what a list's reading tells and leaves -/
def rdList (ek en most : Int) (s : RS) : F × RS := rdMany ek en (s.count most 2).1.toNat (s.count most 2).2
set_option maxHeartbeats 2000000 in
theorem takel_any {q : Nat → Prop} (g V b : Nat) (w : World) (most ek en i : Int) (ba : Option Addr) (bn bc : Nat) (s : RS) (hk : KindAt w V b most ek en i ba bn bc) (he7 : ¬ ek = 7) (h0 : 0 ≤ en) (h1 : en ≤ 1048576) (hek : -9223372036854775808 ≤ ek ∧ ek ≤ 9223372036854775807) (h : RSt q g w s) :
    Calls Try.prog 33 #[.pointer (some ⟨g, 0, none⟩), .int .i64 most, .func (.func 34) #[] #[.pointer (some ⟨V, 0, none⟩)]] w (TakePost q g w (rdList ek en most s)) := by
  obtain ⟨c0, c1⟩ := RS.count_low h most 2
  have hC := count16_any g w s most h
  have hno := RS.count_none s most 2
  obtain ⟨N, hN⟩ : ∃ N : Nat, (s.count most 2).1 = N := ⟨(s.count most 2).1.toNat, by omega⟩
  have hL : rdList ek en most s = rdMany ek en N (s.count most 2).2 := by unfold rdList; rw [hN, Int.toNat_natCast]
  rw [hN] at hno c1 hC
  obtain ⟨vg, hvg⟩ := h.cells
  have HT : Hid (∀ w1, Kept (· = g) w w1 → RSt q g w1 (s.count most 2).2 → Calls Try.prog 48 #[.pointer (some ⟨g, 0, none⟩), .int .i64 (N : Int), .func (.func 34) #[] #[.pointer (some ⟨V, 0, none⟩)]] w1 (TakePost q g w1 (rdMany ek en N (s.count most 2).2))) := by
    intro w1 hk1 hr1
    refine takev_any g V b w1 most ek en i ba bn bc N _ (hk.kept hvg hk1) he7 h0 h1 hek (by omega) hr1 ?_
    by_cases he : (s.count most 2).2.e = 0
    · exact Or.inr he
    · have := hno he; exact Or.inl (by omega)
  have HC := Lib.hid hC
  have HL := Lib.hid hL
  have hNb : N ≤ 65535 := by omega
  have hq : ∀ W : World, (binOp .eql 66 (.func (.func 34) #[] #[.pointer (some ⟨V, 0, none⟩)]) .nilFunc).run Try.prog W = .ok (.bool false) W := fun _ => by kernel_rfl
  clear h hC hno hL hN c0 c1 hvg hk
  by_cases hz : N = 0
  · have d0 : decide (0 < N) = false := by simp; omega
    clear hz
    go_enter Try.func33, Try.ntmps33
    go_wp2_with fail
    refine HC.out.mono ?_
    rintro r w1 ⟨rfl, h1', h2⟩
    have H1 := Lib.hid h1'
    have H2 := Lib.hid h2
    clear h1' h2
    go_wp2_with fail
    refine (HT.out w1 H2.out H1.out).mono ?_
    rintro r w2 ⟨la, ln, lc, rfl, h3, h4, h5⟩
    have H3 := Lib.hid h3
    have H4 := Lib.hid h4
    have H5 := Lib.hid h5
    clear h3 h4 h5
    go_wp2_with fail
    go_ret
    rw [HL.out]
    exact ⟨la, ln, lc, rfl, vrow_low H3.out H2.out.size, H4.out, H2.out.trans H5.out⟩
  · have d0 : decide (0 < N) = true := by simp; omega
    clear hz
    go_enter Try.func33, Try.ntmps33
    go_wp2_with fail
    refine HC.out.mono ?_
    rintro r w1 ⟨rfl, h1', h2⟩
    have H1 := Lib.hid h1'
    have H2 := Lib.hid h2
    clear h1' h2
    go_wp2_with fail
    refine (HT.out w1 H2.out H1.out).mono ?_
    rintro r w2 ⟨la, ln, lc, rfl, h3, h4, h5⟩
    have H3 := Lib.hid h3
    have H4 := Lib.hid h4
    have H5 := Lib.hid h5
    clear h3 h4 h5
    go_wp2_with fail
    go_ret
    rw [HL.out]
    exact ⟨la, ln, lc, rfl, vrow_low H3.out H2.out.size, H4.out, H2.out.trans H5.out⟩
end Wire
end Go.Proofs.Ytimhppgepiikbaa
