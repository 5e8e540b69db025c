/- The law's own 'behind': what flow.Behind goes over, gathered. -/
import Derived.Test.YtcmbkoghhhhmcaaDoorFlowW4
import Derived.Test.YtcmbkoghhhhmcaaDoorFlowGi
import Derived.Test.YtcmbkoghhhhmcaaDoorCostStepsW
namespace Go.Proofs.YtcmbkoghhhhmcaaDoor
open Go.ChangeShapes Go.WideShapes Go.ChangeAt Go.RowKit
namespace Cst
open Isa Flw
open Goes
open Rights (Kept)
set_option linter.unusedVariables false
set_option linter.unusedSimpArgs false
attribute [local go_sem] Oper.semAt_some
set_option maxHeartbeats 4000000 in
theorem gather_any : BehindC := by
  intro l a n c k w hT hnc hcm hk0 hk1 h
  have HC := Lib.hid (fun W (hb : Below w.heap.size w W) => behind_any l a n c k W (hT.below hb (Nat.le_refl _)) hnc hcm (h.below hb (Nat.le_refl _)))
  have HB0 : Hid (Below w.heap.size w (w.alloc (.cells #[.slice none 0 0] 34))) := (Below.refl _ w).alloc (Nat.le_refl _) _
  have HX0 : Hid (Box (w.alloc (.cells #[.slice none 0 0] 34)) w.heap.size 34 (.slice none 0 0)) := Box.new w _ _
  have HLen : Hid ((behA l k).length ≤ 2) := by
    show _ ≤ _
    unfold behA
    split
    · exact beh_len _ _
    · simp
  clear h hT
  generalize behA l k = L at *
  obtain ⟨i0, hi, hz0, hz1, hz2⟩ := info_parts infoIn
  refine (callsIn_wide (n := 0)).1 ?_
  refine callsIn_of_wp_marks Tryd.func12 rfl trivial ?_ rfl
  simp only [Tryd.ntmps12, List.size_toArray, List.length_cons, List.length_nil, Nat.reduceAdd, Nat.reduceSub, Array.replicate_succ, Array.replicate_zero, List.push_toArray, List.append_toArray, List.nil_append, List.cons_append]
  gi_wp2_with (refine ⟨trivial, rfl, ?_⟩; refine CallsIn.mono (callsIn_wide.2 (HC.out _ HB0.out)) ?_; rintro e w1 ⟨v, rfl, hsq⟩)
  obtain ⟨F, lb, cc, rfl, heg, hseq, hb1, hcc⟩ := hsq
  generalize w.alloc (.cells #[.slice none 0 0] 34) = W0 at *
  obtain ⟨S, hS⟩ : ∃ S, w.heap.size = S := ⟨_, rfl⟩
  rw [hS] at HX0 HB0 ⊢
  have HSe := Lib.hid hS
  obtain ⟨B, hB⟩ : ∃ B, w1.heap.size = B := ⟨_, rfl⟩
  have hlt := HX0.out.lt
  have hsz := hb1.size
  have HX1 := Lib.hid (HX0.out.below hb1 (Nat.le_refl _))
  have HB1 : Hid (Below S w w1) := HB0.out.trans (hb1.mono (by omega))
  have HSB : Hid (S < B) := by show _ < _; omega
  have HCC : Hid (∀ j, cc j → S < j ∧ j < B) := fun j hj => by have := hcc j hj; omega
  have HSq := Lib.hid hseq
  have HEg := Lib.hid heg
  have HBe := Lib.hid hB
  clear hb1 hcc hseq heg hlt hsz HX0 HB0 HC hS hB
  gi_wp2_with fail
  refine wpIn_rangeFunc_n (gf := F) (lb := lb) rfl HEg.out HSq.out (Kept.refl _ _) (fun j hj => by rw [HBe.out]; exact (HCC.out j hj).2) (fun _ => rfl)
    (fun pre V => ∃ v, GI S B w pre v V) (fun _ _ _ => False) (by rw [HBe.out]; exact gi_steady S B w) (fun _ _ _ _ h _ => h.elim) ?h0
    (fun x => { tmps := #[.slice a n c, .int .i64 k, undef, undef, .slice none 0 0, .pointer (some ⟨S, 0, none⟩), .int .i64 (x : Nat), .slice a n c, .int .i64 k, .func (.func F) #[] lb, .int .i64 (x : Nat), undef, undef, undef, undef, undef], defers := [] }) ?assign ?body ?done ?stop
  case h0 => exact ⟨_, HX1.out, World.ownsRow_nil _ _ _ _, HSB.out, HB1.out⟩
  case assign =>
    intro l x W K hK
    unfold encN
    gi_wp2_with fail
    exact hK
  case body =>
    rintro l2 pre x V hpx hszV ⟨v, h⟩
    rw [HBe.out] at hszV ⊢
    have hpl : pre.length ≤ 2 := by have h1 := hpx.length_le; have h2 := HLen.out; simp at h1; omega
    have HG := Lib.hid h
    have HSz := Lib.hid hszV
    have qc := h.box.cell
    have ho := h.own
    clear h hszV hpx
    gi_wp2_with (gi_at_builtin; refine wpListIn_append_own _ rfl _ _ 34 rfl (B + 2) 3 i0 (.int .i64 0) 1 8 Tryd.underlying34 hi hz0 hz1 hz2 rfl (by decide) _ _ _ rfl (ho.alloc _) ⟨V.heap.size, 0, none⟩ 1 1 [.int .i64 (x : Nat)] rfl rfl ?c1 ?c2 ?c3 ?c4 ?c5 ?_)
    case c1 => exact World.news_of_block (heap_alloc_new V _)
    case c2 => intro u hu; simp at hu; subst hu; rfl
    case c3 => unfold maxLen; omega
    case c4 => omega
    case c5 => have := HSz.out; simp; omega
    intro v' w2 hown hgrow _
    obtain ⟨a', c', rfl, _, _⟩ := own_shape hown
    have HN := Lib.hid (gi_next HG.out HSz.out hgrow hown)
    have qS := (HG.out.box.kept (((Kept.refl (fun k => B + 2 ≤ k) V).alloc _).trans ((kept_grown hgrow).mono fun k _ e => (own_lt HG.out.own e).1)) (by have := HG.out.sb; omega))
    have qs1 := qS.cell
    have qs2 := qS.free
    clear hown hgrow ho qc qS
    gi_wp2_with fail
    simp only [Exit.inBlock, postN]
    refine ⟨HN.out.1.mono fun k _ e => ?_, _, HN.out.2⟩
    have := HSB.out
    rcases e with e | e
    · exact ⟨fun q => by have := HCC.out k q; omega, by omega, by omega⟩
    · exact ⟨fun q => by have := HCC.out k q; omega, by omega, by omega⟩
  case done =>
    rintro V ⟨v, h⟩ hszV hD
    rw [HBe.out] at hD hszV ⊢
    have HG := Lib.hid h
    have HD := Lib.hid hD
    have qc := h.box.cell
    clear h hD
    gi_wp2_with fail
    refine ⟨by simp, .inl ⟨_, _, rfl, run_takeDeferred HD.out, ?_⟩⟩
    have hkp : Kept (fun k => k = B) V (V.putObj B (.deferred none)) := Kept.put (Kept.refl (fun k => k = B) V) (.inl rfl) _
    have hsb := HSB.out
    refine ⟨v, by simp [results, Tryd.f12, go_sem], v, rfl, ?_, ?_⟩
    · rw [HSe.out]
      exact own_base (own_kept HG.out.own hkp fun g hg => by have := own_lt HG.out.own hg; omega) (by omega)
    · rw [HSe.out]
      exact HG.out.bel.trans (below_of hkp (by omega) (fun k hk => by omega))
  case stop =>
    rintro cd pre V hpre h
    exact h.elim
end Cst
end Go.Proofs.YtcmbkoghhhhmcaaDoor
