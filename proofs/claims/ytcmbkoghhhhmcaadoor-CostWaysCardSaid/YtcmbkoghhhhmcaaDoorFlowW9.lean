/- flow.aheadOf: behind how many of those that are come to each one comes. -/
import Derived.Test.YtcmbkoghhhhmcaaDoorFlowW4
import Derived.Test.YtcmbkoghhhhmcaaDoorFlowMarks
import Derived.Test.YtcmbkoghhhhmcaaDoorFlowMath6
import Derived.Test.YtcmbkoghhhhmcaaDoorFlowInts
import Derived.Test.YtcmbkoghhhhmcaaDoorFlowW6
namespace Go.Proofs.YtcmbkoghhhhmcaaDoor
open Go.ChangeShapes Go.WideShapes Go.ChangeAt Go.RowKit
namespace Flw
open Isa
open Goes
open Rights (Kept)
set_option linter.unusedVariables false
set_option linter.unusedSimpArgs false
attribute [local go_sem] Oper.semAt_some
/-- while aheadOf works -/
structure ASt (S O m : Nat) (w : World) (A : List Int) (rs : List Nat) (V : World) : Prop where
  box : Box V S 34 (.slice (some ⟨O, 0, none⟩) m m)
  row : PRow V O A
  bel : Below w.heap.size w V
  ls : w.heap.size ≤ S
  lO : w.heap.size ≤ O
  ms : Mk w.heap.size rs V
theorem ASt.neSO {S O m : Nat} {w V : World} {A : List Int} {rs : List Nat} (h : ASt S O m w A rs V) : S ≠ O := ne_kind h.box h.row (by intro e; injection e with _ e _; exact absurd e (by decide))
theorem ASt.kept {S O m : Nat} {w V V' : World} {A : List Int} {rs : List Nat} (h : ASt S O m w A rs V) {p : Nat → Prop} (hk : Kept p V V') (h1 : ¬ p S) (h2 : ¬ p O) (hr : ∀ r ∈ rs, ¬ p r) (hp : ∀ k, p k → w.heap.size ≤ k) : ASt S O m w A rs V' :=
  ⟨h.box.kept hk h1, hk.same h.row h2, h.bel.trans (below_of hk h.bel.size hp), h.ls, h.lO, h.ms.kept hk hr⟩
theorem ASt.below {S O m : Nat} {w V V' : World} {A : List Int} {rs : List Nat} (h : ASt S O m w A rs V) (hb : Below V.heap.size V V') : ASt S O m w A rs V' :=
  h.kept (kept_of hb fun k h1 h2 => absurd h1 (by omega) : Kept (fun _ => False) V V') (fun x => x) (fun x => x) (fun _ _ x => x) (fun _ x => x.elim)
theorem ASt.set {S O m : Nat} {w V : World} {A : List Int} {rs : List Nat} (h : ASt S O m w A rs V) (x : Nat) (u : Int) : Kept (fun k => k = O) V (V.setCell ⟨O, x, none⟩ (.int .i64 u)) ∧ ASt S O m w (A.set x u) rs (V.setCell ⟨O, x, none⟩ (.int .i64 u)) := by
  have hk : Kept (fun k => k = O) V (V.setCell ⟨O, x, none⟩ (.int .i64 u)) := kept_set _ _ _ _ rfl
  exact ⟨hk, h.box.kept hk h.neSO, h.row.set x u, h.bel.trans (below_of hk h.bel.size (fun k hk => by have := h.lO; omega)), h.ls, h.lO, h.ms.kept hk fun r hr e => h.ms.ne_cells hr h.row e⟩
set_option maxHeartbeats 6400000 in
theorem ahead_any (l : List Iv) (a : Option Addr) (n c : Nat) (Cm : List Bool) (m : Nat) (cv : Value) (w : World) (hn : m ≤ 16384) (hmn : m ≤ n) (h : IRow w a n l) (S0 : Nat) (hcv : w.ownsRow S0 4 1 cv m (bls Cm)) (hCm : Cm.length = m)
    (hlt : ∀ t, t < m → Cm.getD t false = true → ∀ x ∈ behL l t, x < m) :
    Calls Tryd.prog 30 #[.slice a n c, cv] w fun e w' => ∃ O, e = .returned (.slice (some ⟨O, 0, none⟩) m m) ∧ w.heap.size ≤ O ∧ PRow w' O (fnL m fun x => ((cn l Cm m x : Nat) : Int)) ∧ Below w.heap.size w w' := by
  obtain ⟨ca, cc, rfl, _, _⟩ := own_shape hcv
  have hln : l.length = n := h.1
  have HL := Lib.hid hln
  have HRow := Lib.hid h
  have HLt := Lib.hid hlt
  have HCv : Hid (∀ W, Below w.heap.size w W → ∀ t, t < m → ∃ g, ca = some ⟨g, 0, none⟩ ∧ W.cell? ⟨g, t, none⟩ = some (.bool (Cm.getD t false))) := fun W hb t ht => by
    have hW := own_below hcv hb (Nat.le_refl _)
    obtain ⟨g, cap, e, _, _⟩ := own_some hW (by omega)
    injection e with e _ _
    subst e
    refine ⟨g, rfl, ?_⟩
    have := World.ownsRow.cells hW (g := g) rfl t (.bool (Cm.getD t false)) (bls_at (by omega))
    rwa [WideShapes.add_plain, Nat.zero_add] at this
  have hmk := run_make_ints w m (by omega)
  have HA0 : Hid (ASt (w.heap.size + 1) w.heap.size m w (fnL m fun x => ((cn l Cm 0 x : Nat) : Int)) [] ((w.alloc (.cells (ints (List.replicate m 0)).toArray 3)).alloc (.cells #[.slice (some ⟨w.heap.size, 0, none⟩) m m] 34))) := by
    have e : (fnL m fun x => ((cn l Cm 0 x : Nat) : Int)) = List.replicate m 0 := by rw [← fnL_zero]; rfl
    rw [e]
    refine ⟨?_, ?_, ((Below.refl _ w).alloc (Nat.le_refl _) _).alloc (by simp) _, by omega, Nat.le_refl _, Mk.nil _ _⟩
    · have := Box.new (w.alloc (.cells (ints (List.replicate m 0)).toArray 3)) 34 (.slice (some ⟨w.heap.size, 0, none⟩) m m)
      rwa [World.size_alloc] at this
    · exact (Below.heap_alloc _ _ _ (by simp)).trans (alloc_new w _)
  clear h hln hlt hcv
  refine (callsIn_wide (n := 0)).1 ?_
  refine callsIn_of_wp_marks Tryd.func30 rfl trivial ?_ rfl
  simp only [Tryd.ntmps30, List.size_toArray, List.length_cons, List.length_nil, Nat.reduceAdd, Nat.reduceSub, Array.replicate_succ, Array.replicate_zero, List.push_toArray, List.append_toArray, List.nil_append, List.cons_append]
  refine (wpIn_wide (n := 0)).2 ?_
  go_wp2_with fail
  generalize (w.alloc (.cells (ints (List.replicate m 0)).toArray 3)).alloc (.cells #[.slice (some ⟨w.heap.size, 0, none⟩) m m] 34) = W1 at *
  obtain ⟨O, hO⟩ : ∃ O, w.heap.size = O := ⟨_, rfl⟩
  have HO := Lib.hid hO
  rw [hO] at HA0 ⊢
  refine wp_loop_k (fun N a' W' => ∃ (u6 u7 u15 u16 u17 u18 u19 u20 u21 u22 u23 u24 u25 u26 u34 : Value) (rs : List Nat) (t : Nat), a' = { tmps := #[.slice a n c, .slice ca m cc, undef, undef, .slice none 0 0, .pointer (some ⟨O + 1, 0, none⟩), u6, u7, undef, .slice ca m cc, .int .i64 (m : Nat), .slice (some ⟨O, 0, none⟩) m m, .slice ca m cc, .int .i64 (m : Nat), .int .i64 (t : Nat), u15, u16, u17, u18, u19, u20, u21, u22, u23, u24, u25, u26, undef, undef, undef, undef, undef, undef, undef, u34, undef], defers := dfs rs } ∧ t ≤ m ∧ ASt (O + 1) O m w (fnL m fun x => ((cn l Cm t x : Nat) : Int)) rs W' ∧ N = m - t) _
    ⟨undef, undef, undef, undef, undef, undef, undef, undef, undef, undef, undef, undef, undef, undef, undef, [], 0, rfl, by omega, HA0.out, rfl⟩ ?_
  rintro N a' W ⟨u6, u7, u15, u16, u17, u18, u19, u20, u21, u22, u23, u24, u25, u26, u34, rs, t, rfl, ht, hA, hN⟩ K hK
  have HK := Lib.hid hK
  have HA := Lib.hid hA
  have HN := Lib.hid hN
  clear hK hA hN HA0 hmk
  by_cases htm : t < m
  rotate_left
  · obtain rfl : t = m := by omega
    have hd : decide ((t : Int) < (t : Int)) = false := decide_eq_false (by omega)
    have q1 := HA.out.box.cell
    go_wp2_with fail
    refine leaves_marks rs W HA.out.ms fun w' hk => ?_
    refine ⟨.slice (some ⟨O, 0, none⟩) t t, by simp [results, Tryd.f30, go_sem], O, rfl, HO.out ▸ HA.out.lO, hk.same HA.out.row ?_, ?_⟩
    · rintro ⟨_, x, hx⟩
      exact ne_kind HA.out.row hx (by intro e; cases e) rfl
    · rw [← HO.out]
      exact HA.out.bel.trans (below_of hk HA.out.bel.size fun k hk => hk.1)
  · have hd : decide ((t : Int) < (m : Int)) = true := decide_eq_true (by omega)
    have hd2 : decide (t < m) = true := decide_eq_true htm
    obtain ⟨g, e, qc⟩ := HCv.out W HA.out.bel t htm
    subst e
    have t0 : (0 : Int) ≤ t := by omega
    have t1 : (t : Int) < m := by omega
    cases hb : Cm.getD t false with
    | false =>
      rw [hb] at qc
      have HA2 : Hid (ASt (O + 1) O m w (fnL m fun x => ((cn l Cm (t + 1) x : Nat) : Int)) rs W) := by
        have e : (fnL m fun x => ((cn l Cm (t + 1) x : Nat) : Int)) = fnL m fun x => ((cn l Cm t x : Nat) : Int) := fnL_congr fun x _ => by rw [cn_skip hb]
        rw [e]
        exact HA.out
      clear hb
      go_wp2_with fail
      exact HK.out (m - (t + 1)) _ _ (by have := HN.out; omega) ⟨_, _, _, _, _, _, _, _, _, _, _, _, _, _, _, rs, t + 1, rfl, by omega, HA2.out, rfl⟩
    | true =>
      rw [hb] at qc
      have HBt := Lib.hid hb
      clear hb
      obtain ⟨b, off, rfl, hc, hw⟩ := (HRow.out.below HA.out.bel (Nat.le_refl _)).at t (by omega)
      obtain ⟨c0, c1, c2, c3⟩ := hc
      have l1 : (t : Int) < n := by omega
      have HMake := Lib.hid (behind_make (l.getD t iz) hw t (by omega) W)
      have HLk : Hid (behI (l.getD t iz) t = behL l t) := rfl
      clear hw
      generalize l.getD t iz = x at *
      obtain ⟨xo, xa, xb, xc⟩ := x
      unfold iv at HMake
      simp only at *
      go_wp2_with fail
      refine HMake.out.mono ?_
      rintro e W6 ⟨v6, rfl, F, lb, cx, rfl, heg, hseq, hb6, hcc⟩
      rw [HLk.out] at hseq
      obtain ⟨X, hX⟩ : ∃ X, W.heap.size = X := ⟨_, rfl⟩
      obtain ⟨B, hB⟩ : ∃ B, W6.heap.size = B := ⟨_, rfl⟩
      have hXB : X ≤ B := by have := hb6.size; omega
      have HXS : Hid (O + 1 < X ∧ O < X ∧ X ≤ B ∧ w.heap.size ≤ X ∧ ∀ r ∈ rs, r < X) := ⟨by have := HA.out.box.lt; omega, by have := HA.out.row.lt; omega, hXB, by have := HA.out.bel.size; omega, fun r hr => by have := HA.out.ms.lt hr; omega⟩
      have HCc : Hid (∀ j, cx j → X ≤ j ∧ j < B) := fun j hj => by have := hcc j hj; omega
      have HBe := Lib.hid hB
      have HI0 : Hid (ASt (O + 1) O m w (fnL m (cm l Cm t [])) rs W6) := by
        rw [cm_nil]
        exact HA.out.below hb6
      have HSq := Lib.hid hseq
      have HEg := Lib.hid heg
      clear hX hB hXB hb6 hcc hseq heg HMake c0 c1 c2 c3 qc HA
      go_wp2_with fail
      refine (wpIn_wide (n := 0)).1 ?_
      refine wpIn_rangeFunc_n (gf := F) (lb := lb) rfl HEg.out HSq.out (Kept.refl _ _) (fun j hj => by rw [HBe.out]; exact (HCc.out j hj).2) (fun _ => rfl)
        (fun pre V => ASt (O + 1) O m w (fnL m (cm l Cm t pre)) rs V) (fun _ _ _ => False) ?hI (fun _ _ _ _ h _ => h.elim) HI0.out
        (fun z => { tmps := #[.slice (some ⟨b, off, none⟩) n c, .slice (some ⟨g, 0, none⟩) m cc, undef, undef, .slice none 0 0, .pointer (some ⟨O + 1, 0, none⟩), .int .i64 (t : Nat), .bool true, .int .i64 (z : Nat), .slice (some ⟨g, 0, none⟩) m cc, .int .i64 (m : Nat), .slice (some ⟨O, 0, none⟩) m m, .slice (some ⟨g, 0, none⟩) m cc, .int .i64 (m : Nat), .int .i64 (t : Nat), .bool true, .int .i64 (t : Nat), .pointer (some ⟨g, t, none⟩), .bool true, .bool true, .bool false, .slice (some ⟨b, off, none⟩) n c, .int .i64 (t : Nat), .pointer (some ⟨b, off + t * 4, none⟩), .agg #[.int .u8 xo, .int .u8 xa, .int .u16 xb, .int .u32 xc], .int .i64 (t : Nat), .func (.func F) #[] lb, .int .i64 (z : Nat), undef, undef, undef, undef, undef, undef, u34, undef], defers := [] }) ?assign ?body ?done ?stop
      case hI =>
        rw [HBe.out]
        intro pre V V' h hk
        obtain ⟨h1, h2, h3, h4, h5⟩ := HXS.out
        exact h.kept hk (by omega) (by omega) (fun r hr => by have := h5 r hr; omega) (fun k hk => by omega)
      case assign =>
        intro l z W K hK
        unfold encN
        gi_wp2_with fail
        exact hK
      case body =>
        rintro l2 pre z V hpx hszV h
        rw [HBe.out] at hszV ⊢
        have hzm : z ∈ behL l t := hpx.subset (by simp)
        have hzn : z < m := HLt.out t htm HBt.out z hzm
        have hzp := prefix_new hpx (beh_nodup l t)
        have q1 := h.box.cell
        have qz := h.row.at (k := z) (by rw [fnL_len]; exact hzn)
        rw [fnL_at _ hzn] at qz
        have fz := h.row.free z
        have z0 : (0 : Int) ≤ z := by omega
        have z1 : (z : Int) < m := by omega
        have HS := Lib.hid (h.set z (cm l Cm t pre z + 1))
        rw [cm_step hzp m] at HS
        have hv : 0 ≤ cm l Cm t pre z ∧ cm l Cm t pre z ≤ 100000 := by
          have h1 := cn_le l Cm t z
          unfold cm
          split <;> omega
        have hwr : IntKind.i64.wrap (cm l Cm t pre z + 1) = cm l Cm t pre z + 1 := by simp [IntKind.wrap, IntKind.bits, IntKind.signed]; omega
        generalize cm l Cm t pre z = y at *
        clear hpx hszV h hzm hzp
        gi_wp2_with fail
        simp only [Exit.inBlock, postN]
        refine ⟨HS.out.1.mono fun j _ e => ?_, HS.out.2⟩
        obtain ⟨h1, h2, h3, h4, h5⟩ := HXS.out
        have e2 : j = O := e
        subst e2
        exact ⟨fun q => by have := HCc.out _ q; omega, by omega, by omega⟩
      case done =>
        rintro V h hszV hD
        rw [HBe.out] at hD hszV ⊢
        rw [cm_fin HBt.out] at h
        have HV := Lib.hid h
        have HD := Lib.hid hD
        clear h hD
        go_wp2_with fail
        obtain ⟨h1, h2, h3, h4, h5⟩ := HXS.out
        exact HK.out (m - (t + 1)) _ _ (by have := HN.out; omega) ⟨_, _, _, _, _, _, _, _, _, _, _, _, _, _, _, B :: rs, t + 1, rfl, by omega, ⟨HV.out.box, HV.out.row, HV.out.bel, HV.out.ls, HV.out.lO, HV.out.ms.cons HD.out (by omega) (fun hm => by have := h5 B hm; omega)⟩, rfl⟩
      case stop =>
        rintro cd pre V hpre h
        exact h.elim
end Flw
end Go.Proofs.YtcmbkoghhhhmcaaDoor
