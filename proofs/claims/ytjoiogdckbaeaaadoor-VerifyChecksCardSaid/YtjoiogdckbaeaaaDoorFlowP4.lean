/- flow.aheadOf: behind how many of those that are come to each one comes. · flow.Order: what stands in memory while it works. · flow.Order, walked. -/
import Derived.Test.YtjoiogdckbaeaaaDoorFlowP1
import Derived.Test.YtjoiogdckbaeaaaDoorFlowS
import Derived.Test.YtjoiogdckbaeaaaDoorFlowM
import Derived.Test.YtjoiogdckbaeaaaDoorFlowInts
import Derived.Test.YtjoiogdckbaeaaaDoorFlowP2
import Derived.Test.YtjoiogdckbaeaaaDoorFlowP3
import Derived.Test.YtjoiogdckbaeaaaDoorFlowW10
import Derived.Test.YtjoiogdckbaeaaaDoorRightsPosts
import Derived.Sort.CutIn
namespace Go.Proofs.YtjoiogdckbaeaaaDoor
open Go.ChangeShapes Go.WideShapes Go.ChangeAt Go.RowKit
namespace Flw
open Isa
open Goes
open Rights (Kept)
set_option linter.unusedVariables false
set_option linter.unusedSimpArgs false
attribute [local go_sem] Oper.semAt_some
/-- while aheadOf works -/
structure ASt (S O m : Nat) (w : World) (A : List Int) (rs : List Nat) (V : World) : Prop where
  box : Box V S 58 (.slice (some ⟨O, 0, none⟩) m m)
  row : PRow V O A
  bel : Below w.heap.size w V
  ls : w.heap.size ≤ S
  lO : w.heap.size ≤ O
  ms : Mk w.heap.size rs V
theorem ASt.neSO {S O m : Nat} {w V : World} {A : List Int} {rs : List Nat} (h : ASt S O m w A rs V) : S ≠ O := ne_kind h.box h.row (by intro e; injection e with _ e _; exact absurd e (by decide))
theorem ASt.kept {S O m : Nat} {w V V' : World} {A : List Int} {rs : List Nat} (h : ASt S O m w A rs V) {p : Nat → Prop} (hk : Kept p V V') (h1 : ¬ p S) (h2 : ¬ p O) (hr : ∀ r ∈ rs, ¬ p r) (hp : ∀ k, p k → w.heap.size ≤ k) : ASt S O m w A rs V' :=
  ⟨h.box.kept hk h1, hk.same h.row h2, h.bel.trans (below_of hk h.bel.size hp), h.ls, h.lO, h.ms.kept hk hr⟩
theorem ASt.below {S O m : Nat} {w V V' : World} {A : List Int} {rs : List Nat} (h : ASt S O m w A rs V) (hb : Below V.heap.size V V') : ASt S O m w A rs V' :=
  h.kept (kept_of hb fun k h1 h2 => absurd h1 (by omega) : Kept (fun _ => False) V V') (fun x => x) (fun x => x) (fun _ _ x => x) (fun _ x => x.elim)
theorem ASt.set {S O m : Nat} {w V : World} {A : List Int} {rs : List Nat} (h : ASt S O m w A rs V) (x : Nat) (u : Int) : Kept (fun k => k = O) V (V.setCell ⟨O, x, none⟩ (.int .i64 u)) ∧ ASt S O m w (A.set x u) rs (V.setCell ⟨O, x, none⟩ (.int .i64 u)) := by
  have hk : Kept (fun k => k = O) V (V.setCell ⟨O, x, none⟩ (.int .i64 u)) := kept_set _ _ _ _ rfl
  exact ⟨hk, h.box.kept hk h.neSO, h.row.set x u, h.bel.trans (below_of hk h.bel.size (fun k hk => by have := h.lO; omega)), h.ls, h.lO, h.ms.kept hk fun r hr e => h.ms.ne_cells hr h.row e⟩
set_option maxHeartbeats 6400000 in
theorem ahead_any (l : List Iv) (a : Option Addr) (n c : Nat) (Cm : List Bool) (m : Nat) (cv : Value) (w : World) (hn : m ≤ 16384) (hmn : m ≤ n) (h : IRow w a n l) (S0 : Nat) (hcv : w.ownsRow S0 4 1 cv m (bls Cm)) (hCm : Cm.length = m)
    (hlt : ∀ t, t < m → Cm.getD t false = true → ∀ x ∈ behL l t, x < m) :
    Calls Tryd.prog 61 #[.slice a n c, cv] w fun e w' => ∃ O, e = .returned (.slice (some ⟨O, 0, none⟩) m m) ∧ w.heap.size ≤ O ∧ PRow w' O (fnL m fun x => ((cn l Cm m x : Nat) : Int)) ∧ Below w.heap.size w w' := by
  obtain ⟨ca, cc, rfl, _, _⟩ := own_shape hcv
  have hln : l.length = n := h.1
  have HL := Lib.hid hln
  have HRow := Lib.hid h
  have HLt := Lib.hid hlt
  have HCv : Hid (∀ W, Below w.heap.size w W → ∀ t, t < m → ∃ g, ca = some ⟨g, 0, none⟩ ∧ W.cell? ⟨g, t, none⟩ = some (.bool (Cm.getD t false))) := fun W hb t ht => by
    have hW := own_below hcv hb (Nat.le_refl _)
    obtain ⟨g, cap, e, _, _⟩ := own_some hW (by omega)
    injection e with e _ _
    subst e
    refine ⟨g, rfl, ?_⟩
    have := World.ownsRow.cells hW (g := g) rfl t (.bool (Cm.getD t false)) (bls_at (by omega))
    rwa [WideShapes.add_plain, Nat.zero_add] at this
  have hmk := run_make_ints w m (by omega)
  have HA0 : Hid (ASt (w.heap.size + 1) w.heap.size m w (fnL m fun x => ((cn l Cm 0 x : Nat) : Int)) [] ((w.alloc (.cells (ints (List.replicate m 0)).toArray 3)).alloc (.cells #[.slice (some ⟨w.heap.size, 0, none⟩) m m] 58))) := by
    have e : (fnL m fun x => ((cn l Cm 0 x : Nat) : Int)) = List.replicate m 0 := by rw [← fnL_zero]; rfl
    rw [e]
    refine ⟨?_, ?_, ((Below.refl _ w).alloc (Nat.le_refl _) _).alloc (by simp) _, by omega, Nat.le_refl _, Mk.nil _ _⟩
    · have := Box.new (w.alloc (.cells (ints (List.replicate m 0)).toArray 3)) 58 (.slice (some ⟨w.heap.size, 0, none⟩) m m)
      rwa [World.size_alloc] at this
    · exact (Below.heap_alloc _ _ _ (by simp)).trans (alloc_new w _)
  clear h hln hlt hcv
  refine (callsIn_wide (n := 0)).1 ?_
  refine callsIn_of_wp_marks Tryd.func61 rfl trivial ?_ rfl
  simp only [Tryd.ntmps61, List.size_toArray, List.length_cons, List.length_nil, Nat.reduceAdd, Nat.reduceSub, Array.replicate_succ, Array.replicate_zero, List.push_toArray, List.append_toArray, List.nil_append, List.cons_append]
  refine (wpIn_wide (n := 0)).2 ?_
  go_wp2_with fail
  generalize (w.alloc (.cells (ints (List.replicate m 0)).toArray 3)).alloc (.cells #[.slice (some ⟨w.heap.size, 0, none⟩) m m] 58) = W1 at *
  obtain ⟨O, hO⟩ : ∃ O, w.heap.size = O := ⟨_, rfl⟩
  have HO := Lib.hid hO
  rw [hO] at HA0 ⊢
  refine wp_loop_k (fun N a' W' => ∃ (u6 u7 u15 u16 u17 u18 u19 u20 u21 u22 u23 u24 u25 u26 u34 : Value) (rs : List Nat) (t : Nat), a' = { tmps := #[.slice a n c, .slice ca m cc, undef, undef, .slice none 0 0, .pointer (some ⟨O + 1, 0, none⟩), u6, u7, undef, .slice ca m cc, .int .i64 (m : Nat), .slice (some ⟨O, 0, none⟩) m m, .slice ca m cc, .int .i64 (m : Nat), .int .i64 (t : Nat), u15, u16, u17, u18, u19, u20, u21, u22, u23, u24, u25, u26, undef, undef, undef, undef, undef, undef, undef, u34, undef], defers := dfs rs } ∧ t ≤ m ∧ ASt (O + 1) O m w (fnL m fun x => ((cn l Cm t x : Nat) : Int)) rs W' ∧ N = m - t) _
    ⟨undef, undef, undef, undef, undef, undef, undef, undef, undef, undef, undef, undef, undef, undef, undef, [], 0, rfl, by omega, HA0.out, rfl⟩ ?_
  rintro N a' W ⟨u6, u7, u15, u16, u17, u18, u19, u20, u21, u22, u23, u24, u25, u26, u34, rs, t, rfl, ht, hA, hN⟩ K hK
  have HK := Lib.hid hK
  have HA := Lib.hid hA
  have HN := Lib.hid hN
  clear hK hA hN HA0 hmk
  by_cases htm : t < m
  rotate_left
  · obtain rfl : t = m := by omega
    have hd : decide ((t : Int) < (t : Int)) = false := decide_eq_false (by omega)
    have q1 := HA.out.box.cell
    go_wp2_with fail
    refine leaves_marks rs W HA.out.ms fun w' hk => ?_
    refine ⟨.slice (some ⟨O, 0, none⟩) t t, by simp [results, Tryd.f61, go_sem], O, rfl, HO.out ▸ HA.out.lO, hk.same HA.out.row ?_, ?_⟩
    · rintro ⟨_, x, hx⟩
      exact ne_kind HA.out.row hx (by intro e; cases e) rfl
    · rw [← HO.out]
      exact HA.out.bel.trans (below_of hk HA.out.bel.size fun k hk => hk.1)
  · have hd : decide ((t : Int) < (m : Int)) = true := decide_eq_true (by omega)
    have hd2 : decide (t < m) = true := decide_eq_true htm
    obtain ⟨g, e, qc⟩ := HCv.out W HA.out.bel t htm
    subst e
    have t0 : (0 : Int) ≤ t := by omega
    have t1 : (t : Int) < m := by omega
    cases hb : Cm.getD t false with
    | false =>
      rw [hb] at qc
      have HA2 : Hid (ASt (O + 1) O m w (fnL m fun x => ((cn l Cm (t + 1) x : Nat) : Int)) rs W) := by
        have e : (fnL m fun x => ((cn l Cm (t + 1) x : Nat) : Int)) = fnL m fun x => ((cn l Cm t x : Nat) : Int) := fnL_congr fun x _ => by rw [cn_skip hb]
        rw [e]
        exact HA.out
      clear hb
      go_wp2_with fail
      exact HK.out (m - (t + 1)) _ _ (by have := HN.out; omega) ⟨_, _, _, _, _, _, _, _, _, _, _, _, _, _, _, rs, t + 1, rfl, by omega, HA2.out, rfl⟩
    | true =>
      rw [hb] at qc
      have HBt := Lib.hid hb
      clear hb
      obtain ⟨b, off, rfl, hc, hw⟩ := (HRow.out.below HA.out.bel (Nat.le_refl _)).at t (by omega)
      obtain ⟨c0, c1, c2, c3⟩ := hc
      have l1 : (t : Int) < n := by omega
      have HMake := Lib.hid (behind_make (l.getD t iz) hw t (by omega) W)
      have HLk : Hid (behI (l.getD t iz) t = behL l t) := rfl
      clear hw
      generalize l.getD t iz = x at *
      obtain ⟨xo, xa, xb, xc⟩ := x
      unfold iv at HMake
      simp only at *
      go_wp2_with fail
      refine HMake.out.mono ?_
      rintro e W6 ⟨v6, rfl, F, lb, cx, rfl, heg, hseq, hb6, hcc⟩
      rw [HLk.out] at hseq
      obtain ⟨X, hX⟩ : ∃ X, W.heap.size = X := ⟨_, rfl⟩
      obtain ⟨B, hB⟩ : ∃ B, W6.heap.size = B := ⟨_, rfl⟩
      have hXB : X ≤ B := by have := hb6.size; omega
      have HXS : Hid (O + 1 < X ∧ O < X ∧ X ≤ B ∧ w.heap.size ≤ X ∧ ∀ r ∈ rs, r < X) := ⟨by have := HA.out.box.lt; omega, by have := HA.out.row.lt; omega, hXB, by have := HA.out.bel.size; omega, fun r hr => by have := HA.out.ms.lt hr; omega⟩
      have HCc : Hid (∀ j, cx j → X ≤ j ∧ j < B) := fun j hj => by have := hcc j hj; omega
      have HBe := Lib.hid hB
      have HI0 : Hid (ASt (O + 1) O m w (fnL m (cm l Cm t [])) rs W6) := by
        rw [cm_nil]
        exact HA.out.below hb6
      have HSq := Lib.hid hseq
      have HEg := Lib.hid heg
      clear hX hB hXB hb6 hcc hseq heg HMake c0 c1 c2 c3 qc HA
      go_wp2_with fail
      refine (wpIn_wide (n := 0)).1 ?_
      refine wpIn_rangeFunc_n (gf := F) (lb := lb) rfl HEg.out HSq.out (Kept.refl _ _) (fun j hj => by rw [HBe.out]; exact (HCc.out j hj).2) (fun _ => rfl)
        (fun pre V => ASt (O + 1) O m w (fnL m (cm l Cm t pre)) rs V) (fun _ _ _ => False) ?hI (fun _ _ _ _ h _ => h.elim) HI0.out
        (fun z => { tmps := #[.slice (some ⟨b, off, none⟩) n c, .slice (some ⟨g, 0, none⟩) m cc, undef, undef, .slice none 0 0, .pointer (some ⟨O + 1, 0, none⟩), .int .i64 (t : Nat), .bool true, .int .i64 (z : Nat), .slice (some ⟨g, 0, none⟩) m cc, .int .i64 (m : Nat), .slice (some ⟨O, 0, none⟩) m m, .slice (some ⟨g, 0, none⟩) m cc, .int .i64 (m : Nat), .int .i64 (t : Nat), .bool true, .int .i64 (t : Nat), .pointer (some ⟨g, t, none⟩), .bool true, .bool true, .bool false, .slice (some ⟨b, off, none⟩) n c, .int .i64 (t : Nat), .pointer (some ⟨b, off + t * 4, none⟩), .agg #[.int .u8 xo, .int .u8 xa, .int .u16 xb, .int .u32 xc], .int .i64 (t : Nat), .func (.func F) #[] lb, .int .i64 (z : Nat), undef, undef, undef, undef, undef, undef, u34, undef], defers := [] }) ?assign ?body ?done ?stop
      case hI =>
        rw [HBe.out]
        intro pre V V' h hk
        obtain ⟨h1, h2, h3, h4, h5⟩ := HXS.out
        exact h.kept hk (by omega) (by omega) (fun r hr => by have := h5 r hr; omega) (fun k hk => by omega)
      case assign =>
        intro l z W K hK
        unfold encN
        gi_wp2_with fail
        exact hK
      case body =>
        rintro l2 pre z V hpx hszV h
        rw [HBe.out] at hszV ⊢
        have hzm : z ∈ behL l t := hpx.subset (by simp)
        have hzn : z < m := HLt.out t htm HBt.out z hzm
        have hzp := prefix_new hpx (beh_nodup l t)
        have q1 := h.box.cell
        have qz := h.row.at (k := z) (by rw [fnL_len]; exact hzn)
        rw [fnL_at _ hzn] at qz
        have fz := h.row.free z
        have z0 : (0 : Int) ≤ z := by omega
        have z1 : (z : Int) < m := by omega
        have HS := Lib.hid (h.set z (cm l Cm t pre z + 1))
        rw [cm_step hzp m] at HS
        have hv : 0 ≤ cm l Cm t pre z ∧ cm l Cm t pre z ≤ 100000 := by
          have h1 := cn_le l Cm t z
          unfold cm
          split <;> omega
        have hwr : IntKind.i64.wrap (cm l Cm t pre z + 1) = cm l Cm t pre z + 1 := by simp [IntKind.wrap, IntKind.bits, IntKind.signed]; omega
        generalize cm l Cm t pre z = y at *
        clear hpx hszV h hzm hzp
        gi_wp2_with fail
        simp only [Exit.inBlock, postN]
        refine ⟨HS.out.1.mono fun j _ e => ?_, HS.out.2⟩
        obtain ⟨h1, h2, h3, h4, h5⟩ := HXS.out
        have e2 : j = O := e
        subst e2
        exact ⟨fun q => by have := HCc.out _ q; omega, by omega, by omega⟩
      case done =>
        rintro V h hszV hD
        rw [HBe.out] at hD hszV ⊢
        rw [cm_fin HBt.out] at h
        have HV := Lib.hid h
        have HD := Lib.hid hD
        clear h hD
        go_wp2_with fail
        obtain ⟨h1, h2, h3, h4, h5⟩ := HXS.out
        exact HK.out (m - (t + 1)) _ _ (by have := HN.out; omega) ⟨_, _, _, _, _, _, _, _, _, _, _, _, _, _, _, B :: rs, t + 1, rfl, by omega, ⟨HV.out.box, HV.out.row, HV.out.bel, HV.out.ls, HV.out.lO, HV.out.ms.cons HD.out (by omega) (fun hm => by have := h5 B hm; omega)⟩, rfl⟩
      case stop =>
        rintro cd pre V hpre h
        exact h.elim
end Flw
end Go.Proofs.YtjoiogdckbaeaaaDoor
namespace Go.Proofs.YtjoiogdckbaeaaaDoor
open Go.ChangeShapes Go.WideShapes Go.ChangeAt Go.RowKit
namespace Flw
open Isa
open Goes
open Rights (Kept)
set_option linter.unusedVariables false
set_option linter.unusedSimpArgs false
/-- while Order works: the store and the row of those ahead; the order (a variable's box, a row); the iterator's box -/
structure OSt (g O S3 bx : Nat) (W0 : World) (A : List Int) (R T : List Nat) (v tv : Value) (V : World) : Prop where
  w : WSt g O (fun k => k = S3) W0 A R v V
  b3 : Box V S3 58 tv
  ord : V.ownsRow W0.heap.size 3 1 tv T.length (nums T)
  l3 : S3 < W0.heap.size
  vt : ∀ k, v.ownBlock = some k → tv.ownBlock ≠ some k
  bb : Box V bx 119 (.pointer (some ⟨g, 0, none⟩))
section
variable {g O S3 bx : Nat} {W0 : World} {A : List Int} {R T : List Nat} {v tv : Value} {V : World}
theorem OSt.kept (h : OSt g O S3 bx W0 A R T v tv V) {p : Nat → Prop} {V' : World} (hk : Kept p V V') (hg : ¬ p g) (hO : ¬ p O) (h3 : ¬ p S3) (hx : ¬ p bx) (hv : ∀ k, v.ownBlock = some k → ¬ p k) (ht : ∀ k, tv.ownBlock = some k → ¬ p k) (hp : ∀ k, p k → W0.heap.size ≤ k) : OSt g O S3 bx W0 A R T v tv V' :=
  ⟨h.w.kept hk hg hO hv (fun k h1 h2 => by have := hp k h1; omega), h.b3.kept hk h3, own_kept h.ord hk ht, h.l3, h.vt, h.bb.kept hk hx⟩
theorem OSt.below (h : OSt g O S3 bx W0 A R T v tv V) {V' : World} (hb : Below V.heap.size V V') : OSt g O S3 bx W0 A R T v tv V' :=
  h.kept (kept_of hb fun k h1 h2 => absurd h1 (by omega) : Kept (fun _ => False) V V') (fun x => x) (fun x => x) (fun x => x) (fun x => x) (fun _ _ x => x) (fun _ _ x => x) (fun _ x => x.elim)
theorem OSt.wat (h : OSt g O S3 bx W0 A R T v tv V) (hl : R.length ≤ 1000000) : WAt W0.heap.size g bx (R, v) V := ⟨h.bb, h.w.bw, h.w.own, hl⟩
theorem OSt.step {R' : List Nat} {k : Nat} {v' : Value} {V' : World} (h : OSt g O S3 bx W0 A R T v tv V) (hs : wStep g (R, v) k (R', v') V V') (ha : WAt W0.heap.size g bx (R', v') V') : R = R' ++ [k] ∧ v'.ownBlock = v.ownBlock ∧ Kept (fun j => j = g) V V' ∧ OSt g O S3 bx W0 A R' T v' tv V' := by
  obtain ⟨h1, h2, h3, h4⟩ := h.w.step hs ha
  exact ⟨h1, h2, h3, h4, h.b3.kept h3 (box_ne h.b3 h.w.bw (by decide)), own_kept h.ord h3 (fun k hk e => by have := (own_lt h.ord hk).1; have := h.w.lg; have e2 : k = g := e; omega), h.l3, by rw [h2]; exact h.vt, ha.bx⟩
/-- one ahead less -/
theorem OSt.less (h : OSt g O S3 bx W0 A R T v tv V) (x : Nat) (u : Int) : Kept (fun k => k = O) V (V.setCell ⟨O, x, none⟩ (.int .i64 u)) ∧ OSt g O S3 bx W0 (A.set x u) R T v tv (V.setCell ⟨O, x, none⟩ (.int .i64 u)) := by
  obtain ⟨hk, hw⟩ := h.w.set x u
  exact ⟨hk, hw, h.b3.kept hk (box_ne_row h.b3 h.w.row (by decide)), own_kept h.ord hk (fun k hk2 e => by have := (own_lt h.ord hk2).1; have := h.w.lO; have e2 : k = O := e; omega), h.l3, h.vt, h.bb.kept hk (box_ne_row h.bb h.w.row (by decide))⟩
/-- one more is told: what append leaves, and the variable set to it -/
theorem OSt.tell {x : Nat} {o : Obj} {Y : World} {tv' : Value} (h : OSt g O S3 bx W0 A R T v tv V) (hg : (V.alloc o).grownBy Y tv.ownBlock) (ho : Y.ownsRow W0.heap.size 3 1 tv' (T.length + 1) (nums T ++ [.int .i64 (x : Nat)])) (hat : tv'.ownBlock = tv.ownBlock ∨ ∃ g, tv'.ownBlock = some g ∧ V.heap.size ≤ g) :
    Box Y S3 58 tv ∧ Kept (fun k => tv.ownBlock = some k ∨ k = S3) V (Y.setCell ⟨S3, 0, none⟩ tv') ∧ OSt g O S3 bx W0 A R (T ++ [x]) v tv' (Y.setCell ⟨S3, 0, none⟩ tv') := by
  have k1 : Kept (fun k => tv.ownBlock = some k) V Y := ((Kept.refl _ V).alloc o).trans (kept_grown hg)
  have e : nums (T ++ [x]) = nums T ++ [.int .i64 (x : Nat)] := by simp [nums]
  have l1 := h.w.lg
  have l2 := h.w.lO
  have l3 := h.l3
  have nt : ∀ k, k < W0.heap.size → ¬ tv.ownBlock = some k := fun k hk e => by have := (own_lt h.ord e).1; omega
  have b3 := h.b3.kept k1 (nt _ l3)
  have w1 := h.w.kept k1 (nt _ l1) (nt _ l2) (fun k hk e => h.vt k hk e) (fun k e hlt => absurd e (nt k hlt))
  have bb := h.bb.kept k1 (fun e => box_ne_own h.bb h.ord (by decide) e rfl)
  have k2 : Kept (fun k => k = S3) Y (Y.setCell ⟨S3, 0, none⟩ tv') := kept_set _ _ _ _ rfl
  refine ⟨b3, (k1.mono fun k _ e => .inl e).trans (k2.mono fun k _ e => .inr e), w1.kept k2 (box_ne w1.bw b3 (by decide)) (box_ne_row b3 w1.row (by decide)).symm (fun k hk e => by have := (w1.ge hk).1; have e2 : k = S3 := e; omega) (fun k e _ => e), b3.set _, ?_, l3, ?_, bb.kept k2 (box_ne bb b3 (by decide))⟩
  · rw [e, List.length_append]
    exact own_kept ho k2 (fun k hk e => by have := (own_lt ho hk).1; have e2 : k = S3 := e; omega)
  · intro k hk
    rcases hat with e | ⟨g', e, hge⟩
    · rw [e]; exact h.vt k hk
    · rw [e]; intro q; cases q; have := (h.w.ge hk).2; omega
/-- one more may be next -/
theorem OSt.put {x : Nat} {Y : World} {e : Ending} (h : OSt g O S3 bx W0 A R T v tv V) (hq : PutP W0.heap.size g v R x V e Y) :
    ∃ a c R', e = .returned (.tuple #[]) ∧ R'.length = R.length + 1 ∧ Fal R' ∧ (∀ m, m ∈ R' ↔ m = x ∨ m ∈ R) ∧ ((Value.slice a (R.length + 1 : Nat) c).ownBlock = v.ownBlock ∨ ∃ g, (Value.slice a (R.length + 1 : Nat) c).ownBlock = some g ∧ V.heap.size ≤ g) ∧
      Kept (fun k => v.ownBlock = some k ∨ k = g) V Y ∧ OSt g O S3 bx W0 A R' T (.slice a (R.length + 1 : Nat) c) tv Y := by
  obtain ⟨a, c, R', he, hl, hf, hm, hat, hk, hw⟩ := h.w.put hq
  have l1 := h.w.lg
  have l3 := h.l3
  refine ⟨a, c, R', he, hl, hf, hm, hat, hk, hw, h.b3.kept hk ?_, own_kept h.ord hk ?_, l3, ?_, h.bb.kept hk ?_⟩
  · rintro (e | e)
    · have := (h.w.ge e).1; omega
    · exact box_ne h.b3 h.w.bw (by decide) e
  · rintro k hk2 (e | e)
    · exact h.vt k e hk2
    · have := (own_lt h.ord hk2).1; omega
  · intro k hk2
    rcases hat with e | ⟨g', e, hge⟩
    · rw [e] at hk2; exact h.vt k hk2
    · rw [e] at hk2; cases hk2; intro q; have := (own_lt h.ord q).2; omega
  · rintro (e | e)
    · exact box_ne_own h.bb h.w.own (by decide) e rfl
    · exact box_ne h.bb h.w.bw (by decide) e
end
/-- between two rounds of the outer loop: B: the heap's size ahead of it -/
structure OJ (g O S3 bx m B : Nat) (W0 : World) (l : List Iv) (R T : List Nat) (v tv : Value) (V : World) : Prop where
  o : OSt g O S3 bx W0 (fnL m fun x => ((wc l T x : Nat) : Int)) R T v tv V
  od : Od l m T
  xw : W0.heap.size ≤ B
  xx : bx < B
  vb : ∀ k, v.ownBlock = some k → k < B ∨ B + 2 ≤ k
  tb : ∀ k, tv.ownBlock = some k → k < B ∨ B + 2 ≤ k
theorem oj_keep {g O S3 bx m B : Nat} {W0 : World} {l : List Iv} {R T : List Nat} {v tv : Value} {V V' : World} (h : OJ g O S3 bx m B W0 l R T v tv V) (hk : Kept (fun k => k = B ∨ k = B + 1) V V') : OJ g O S3 bx m B W0 l R T v tv V' := by
  have h1 := h.o.w.lg; have h2 := h.o.w.lO; have h3 := h.o.l3; have h4 := h.xw; have h5 := h.xx
  exact ⟨h.o.kept hk (by omega) (by omega) (by omega) (by omega) (fun k hk => by have := h.vb k hk; omega) (fun k hk => by have := h.tb k hk; omega) (fun k hk => by omega), h.od, h4, h5, h.vb, h.tb⟩
/-- while Order goes over those behind k: X, B2: the heap's size ahead of the inner iterator and behind it; V0: the world ahead of the round -/
structure OI (g O S3 bx m B X B2 : Nat) (W0 V0 : World) (l : List Iv) (T T' rest : List Nat) (tv : Value) (pre R : List Nat) (v : Value) (V : World) : Prop where
  o : OSt g O S3 bx W0 (fnL m (wm l T pre)) R T' v tv V
  r : Rdm l T rest pre R
  vb : ∀ k, v.ownBlock = some k → k < X ∨ B2 + 1 ≤ k
  vb2 : ∀ k, v.ownBlock = some k → k < B ∨ B + 2 ≤ k
  kb : Kept (fun k => k ≠ B ∧ k ≠ B + 1) V0 V
structure OX (g O S3 bx B X B2 : Nat) (W0 : World) (tv : Value) : Prop where
  xg : g < X
  xO : O < X
  x3 : S3 < X
  xx : bx < X
  xt : ∀ k, tv.ownBlock = some k → k < X
  xb : X ≤ B2
  xB : B + 2 ≤ X
  xw : W0.heap.size ≤ B
theorem oi_keep {g O S3 bx m B X B2 : Nat} {W0 V0 : World} {l : List Iv} {T T' rest : List Nat} {tv : Value} (h : OX g O S3 bx B X B2 W0 tv) {pre : List Nat} {V V' : World} (hi : ∃ R v, OI g O S3 bx m B X B2 W0 V0 l T T' rest tv pre R v V) (hk : Kept (fun k => k = B2) V V') :
    ∃ R v, OI g O S3 bx m B X B2 W0 V0 l T T' rest tv pre R v V' := by
  obtain ⟨h1, h2, h3, h4, h5, h6, h7, h8⟩ := h
  obtain ⟨R, v, ho, hr, hv, hv2, hkb⟩ := hi
  exact ⟨R, v, ho.kept hk (by omega) (by omega) (by omega) (by omega) (fun k hk => by have := hv k hk; omega) (fun k hk => by have := h5 k hk; omega) (fun k hk => by omega), hr, hv, hv2, hkb.trans (hk.mono fun k _ e => by omega)⟩
end Flw
end Go.Proofs.YtjoiogdckbaeaaaDoor
namespace Go.Proofs.YtjoiogdckbaeaaaDoor
open Go.ChangeShapes Go.WideShapes Go.ChangeAt Go.RowKit
namespace Flw
open Isa
open Goes
open Rights (Kept)
set_option linter.unusedVariables false
set_option linter.unusedSimpArgs false
/-- what is told of a slot: a row of bools of the call's own; a row of numbers in a block known whole; a box -/
def bRowP (S m : Nat) (Bs : List Bool) (v : Value) (X : World) : Prop := ∃ ca cc, v = .slice ca m cc ∧ X.ownsRow S 4 1 (.slice ca m cc) m (bls Bs)
def pRowP (S m : Nat) (A : List Int) (v : Value) (X : World) : Prop := ∃ O, v = .slice (some ⟨O, 0, none⟩) m m ∧ S ≤ O ∧ PRow X O A
def boxP (S : Nat) (t : TypeId) (z : Value) (v : Value) (X : World) : Prop := ∃ b, v = .pointer (some ⟨b, 0, none⟩) ∧ S ≤ b ∧ Box X b t z
theorem bRowP_stable (S m : Nat) (Bs : List Bool) : Posts.Stable Posts.Ext (bRowP S m Bs) := by
  rintro v X Y ⟨ca, cc, h1, h2⟩ hE
  exact ⟨ca, cc, h1, own_kept h2 (p := fun _ => False) (kept_of hE fun k h1 h2 => absurd h1 (by omega)) (fun _ _ x => x)⟩
theorem pRowP_stable (S m : Nat) (A : List Int) : Posts.Stable Posts.Ext (pRowP S m A) := by
  rintro v X Y ⟨O, h1, h2, h3⟩ hE
  exact ⟨O, h1, h2, (Posts.Ext.blk hE O h3.lt).trans h3⟩
theorem boxP_stable (S : Nat) (t : TypeId) (z : Value) : Posts.Stable Posts.Ext (boxP S t z) := by
  rintro v X Y ⟨b, h1, h2, h3⟩ hE
  exact ⟨b, h1, h2, (Posts.Ext.blk hE b h3.lt).trans h3⟩
attribute [local go_sem] Oper.semAt_some
set_option maxRecDepth 100000 in
set_option maxHeartbeats 400000 in
theorem order_any : OrderC := by
  intro l sa n c w hT hnc hcm h
  have hln : l.length = n := h.1
  have HL := Lib.hid hln
  have HCo := Lib.hid (fun W (hb : Below w.heap.size w W) => come_any l sa n c W (hT.below hb (Nat.le_refl _)) hnc hcm (h.below hb (Nat.le_refl _)))
  have HRow := Lib.hid h
  obtain ⟨m, hm⟩ : ∃ m, (comeL l).length = m := ⟨_, rfl⟩
  have hmn : m ≤ n := by
    rw [← hm]
    unfold comeL
    split
    · simp; omega
    · simp
  have hm16 : m ≤ 16384 := by
    rw [← hm]
    unfold comeL
    split
    · rename_i hE
      have := (fine_of hE).most
      simp; omega
    · simp
  have HAh := Lib.hid (fun W cv (hb : Below w.heap.size w W) S0 (hcv : W.ownsRow S0 4 1 cv m (bls (comeL l))) => ahead_any l sa n c (comeL l) m cv W hm16 hmn (h.below hb (Nat.le_refl _)) S0 hcv hm (fun t ht hc x hx => by
    have hE : chkE l = 0 := by
      by_cases q : chkE l = 0
      · exact q
      · unfold comeL at hm
        rw [if_neg q] at hm
        simp at hm
        omega
    have hlm : l.length = m := by
      unfold comeL at hm
      rw [if_pos hE] at hm
      simpa using hm
    have := beh_lt (fine_of hE) h.2.1 (n := t) (by omega) hx
    omega))
  have HM := Lib.hid hm
  clear hT h hm
  refine (callsIn_wide (n := 0)).1 ?_
  refine callsIn_of_wp_marks Tryd.func46 rfl trivial ?_ rfl
  simp only [Tryd.ntmps46, List.size_toArray, List.length_cons, List.length_nil, Nat.reduceAdd, Nat.reduceSub, Array.replicate_succ, Array.replicate_zero, List.push_toArray, List.append_toArray, List.nil_append, List.cons_append]
  refine (wpIn_wide (n := 0)).2 ?_
  have HBx := Lib.hid (Box.new w 22 (.slice sa n c))
  have HB1 : Hid (Below w.heap.size w (w.alloc (.cells #[.slice sa n c] 22))) := (Below.refl _ w).alloc (Nat.le_refl _) _
  go_upto_region 1 with fail
  obtain ⟨BL, hBL⟩ : ∃ BL, w.heap.size = BL := ⟨_, rfl⟩
  have HBL := Lib.hid hBL
  have q0 : (w.alloc (.cells #[.slice sa n c] 22)).cell? ⟨BL, 0, none⟩ = some (.slice sa n c) := by rw [← HBL.out]; exact HBx.out.cell
  have HBx1 : Hid (Box (w.alloc (.cells #[.slice sa n c] 22)) BL 22 (.slice sa n c)) := by rw [← HBL.out]; exact HBx.out
  rw [hBL]
  clear hBL HBx
  generalize w.alloc (.cells #[.slice sa n c] 22) = W1 at *
  have hE := Posts.ext_rel
  refine (wpIn_wide (n := 0)).1 (Posts.wpIn_region_tail hE 5 3 (Posts.At [Posts.is (.slice sa n c), Posts.is (.slice sa n c), bRowP w.heap.size m (comeL l), pRowP w.heap.size m (fnL m fun x => ((cn l (comeL l) m x : Nat) : Int)), boxP w.heap.size 58 (.slice none 0 0)]) (fun _ _ => True) (by kernel_rfl) (by decide) (by kernel_rfl) (by kernel_rfl) (by kernel_rfl)
    (Posts.stable_at _ (by repeat' (first | exact trivial | (refine And.intro ?_ ?_) | exact Posts.is_stable _ | exact Posts.on_stable _ _ | exact bRowP_stable _ _ _ | exact pRowP_stable _ _ _ | exact boxP_stable _ _ _ | assumption))) trivial ?_ ?_)
  · refine ⟨?_, ?_, ?_, ?_, ?_, trivial⟩
    · intro a X hX hS hD hJ hU
      have z0 := (World.cell?_of_block (Posts.Ext.blk hX _ (World.block_lt_of_cell? _ _ q0))).trans q0
      have d1 := Posts.slot (show a.eval (.tmp 1) = .pointer (some ⟨BL, 0, none⟩) from hS.other 1 rfl)
      exact Posts.op_value (fun _ => trivial) rfl rfl (by intro c h; cases h) rfl (by rw [hS.size]; simp) (v := .slice sa n c) (by simp [execOp, d1,  go_sem, z0]) rfl (hE.refl _) trivial
    · intro a X hX hS hD hJ hU
      have z0 := (World.cell?_of_block (Posts.Ext.blk hX _ (World.block_lt_of_cell? _ _ q0))).trans q0
      have d1 := Posts.slot (show a.eval (.tmp 1) = .pointer (some ⟨BL, 0, none⟩) from hS.other 1 rfl)
      exact Posts.op_value (fun _ => trivial) rfl rfl (by intro c h; cases h) rfl (by rw [hS.size]; simp) (v := .slice sa n c) (by simp [execOp, d1,  go_sem, z0]) rfl (hE.refl _) trivial
    · intro a X hX hS hD hJ hU
      have z0 := (World.cell?_of_block (Posts.Ext.blk hX _ (World.block_lt_of_cell? _ _ q0))).trans q0
      have d10 := Posts.slot (show a.eval (.tmp 10) = .slice sa n c from hD.1)
      refine Posts.op_call (fun _ => trivial) rfl rfl rfl (by intro c h; cases h) rfl (by rw [hS.size]; simp) 16 #[.slice sa n c] (by simp [execOp, d10, go_sem]) ?_
      refine callsIn_wide.2 ((HCo.out X (HB1.out.trans (hX.mono HB1.out.size))).mono ?_)
      rintro e Y ⟨cv, rfl, hcv, hb⟩
      rw [HM.out] at hcv
      obtain ⟨ca, cc, rfl, _, _⟩ := own_shape hcv
      exact ⟨_, rfl, ⟨ca, cc, rfl, own_base hcv (Nat.le_trans HB1.out.size hX.size)⟩, hb, trivial⟩
    · intro a X hX hS hD hJ hU
      have z0 := (World.cell?_of_block (Posts.Ext.blk hX _ (World.block_lt_of_cell? _ _ q0))).trans q0
      have d9 := Posts.slot (show a.eval (.tmp 9) = .slice sa n c from hD.1)
      obtain ⟨ca, cc, e11, hcv⟩ : bRowP w.heap.size m (comeL l) (a.eval (.tmp 11)) X := hD.2.1
      have d11 := Posts.slot e11
      refine Posts.op_call (fun _ => trivial) rfl rfl rfl (by intro c h; cases h) rfl (by rw [hS.size]; simp) 61 #[.slice sa n c, .slice ca m cc] (by simp [execOp, d9, d11, go_sem]) ?_
      refine callsIn_wide.2 ((HAh.out X _ (HB1.out.trans (hX.mono HB1.out.size)) _ hcv).mono ?_)
      rintro e Y ⟨O, rfl, hO, hP, hb⟩
      exact ⟨_, rfl, ⟨O, rfl, Nat.le_trans (Nat.le_trans HB1.out.size hX.size) hO, hP⟩, hb, trivial⟩
    · intro a X hX hS hD hJ hU
      have z0 := (World.cell?_of_block (Posts.Ext.blk hX _ (World.block_lt_of_cell? _ _ q0))).trans q0
      exact Posts.op_value (fun _ => trivial) rfl rfl (by intro c h; cases h) rfl (by rw [hS.size]; simp) (v := .pointer (some ⟨X.heap.size, 0, none⟩)) (Y := X.alloc (.cells #[.slice none 0 0] 58)) (by simp [execOp, go_sem]) ⟨X.heap.size, rfl, Nat.le_trans HB1.out.size hX.size, Box.new _ _ _⟩ ((Below.refl _ X).alloc (Nat.le_refl _) _) trivial
  · intro a0 Y hY hS hJt hL
    have p9 := Posts.slot (show a0.eval (.tmp 9) = .slice sa n c from hL.1)
    have p10 := Posts.slot (show a0.eval (.tmp 10) = .slice sa n c from hL.2.1)
    obtain ⟨ca, cc, e11, hcv⟩ : (bRowP w.heap.size m (comeL l)) (a0.eval (.tmp 11)) Y := hL.2.2.1
    have p11 := Posts.slot e11
    clear e11
    obtain ⟨O, e12, hO, hP⟩ : (pRowP w.heap.size m (fnL m fun x => ((cn l (comeL l) m x : Nat) : Int))) (a0.eval (.tmp 12)) Y := hL.2.2.2.1
    have p12 := Posts.slot e12
    clear e12
    obtain ⟨S1, e4, hS1, hb1⟩ : (boxP w.heap.size 58 (.slice none 0 0)) (a0.eval (.tmp 4)) Y := hL.2.2.2.2.1
    have p4 := Posts.slot e4
    clear e4
    have hfr := hS.frame [9, 10, 11, 12, 4] (fun t ht => by simp [Posts.isDst] at ht; first | (rcases ht with h | h | h | h | h <;> subst h <;> simp) | (subst ht; simp))
    simp only [List.foldl_cons, List.foldl_nil] at hfr
    have hdf := hS.defers
    simp only [Array.getD_eq_getD_getElem?] at hfr
    clear hL hS
    generalize a0.tmps[9]?.getD undef = v9 at *
    generalize a0.tmps[10]?.getD undef = v10 at *
    generalize a0.tmps[11]?.getD undef = v11 at *
    generalize a0.tmps[12]?.getD undef = v12 at *
    generalize a0.tmps[4]?.getD undef = v4 at *
    obtain rfl := p9
    obtain rfl := p10
    obtain rfl := p11
    obtain rfl := p12
    obtain rfl := p4
    obtain ⟨tm, df⟩ := a0
    simp only [List.setIfInBounds_toArray, List.set_cons_succ, List.set_cons_zero] at hfr hdf
    subst hfr
    subst hdf
    have HRw := Lib.hid hP
    have HSb := Lib.hid hb1
    have fb := hb1.free
    have qb := hb1.cell
    have HOw : Hid (w.heap.size ≤ O ∧ w.heap.size ≤ S1) := ⟨hO, hS1⟩
    have HY := Lib.hid (HB1.out.trans (hY.mono HB1.out.size))
    have HBy := Lib.hid (HBx1.out.below hY (Nat.le_refl _))
    refine Posts.tail_op 5 (by kernel_rfl) (Posts.op_done (fun _ => trivial) rfl rfl (by intro c h; cases h) (Y := Y.setCell ⟨S1, 0, none⟩ (.slice (some ⟨O, 0, none⟩) m m)) (by simp [execOp, Act.eval, go_sem, qb, fb]) ?_)
    refine ⟨by kernel_rfl, ?_⟩
    simp only [Exit.inBlock, Exit.then]
    first
      | (rename_i hK; refine hK _ _ ?_)
      | (rename_i hK _; refine hK _ _ ?_)
      | (rename_i hK _ _; refine hK _ _ ?_)
    simp only [Act.put]
    have hks : Kept (fun k => k = S1) Y (Y.setCell ⟨S1, 0, none⟩ (.slice (some ⟨O, 0, none⟩) m m)) := kept_set _ _ _ _ rfl
    have HB2 : Hid (Below w.heap.size w (Y.setCell ⟨S1, 0, none⟩ (.slice (some ⟨O, 0, none⟩) m m))) := HY.out.trans (below_of hks HY.out.size (fun k hk => by have := HOw.out.2; omega))
    have HP2 : Hid (PRow (Y.setCell ⟨S1, 0, none⟩ (.slice (some ⟨O, 0, none⟩) m m)) O (fnL m fun x => ((cn l (comeL l) m x : Nat) : Int))) := hks.same HRw.out (box_ne_row HSb.out HRw.out (by decide)).symm
    have HS1 : Hid (Box (Y.setCell ⟨S1, 0, none⟩ (.slice (some ⟨O, 0, none⟩) m m)) S1 58 (.slice (some ⟨O, 0, none⟩) m m)) := HSb.out.set _
    have HBl : Hid (Box (Y.setCell ⟨S1, 0, none⟩ (.slice (some ⟨O, 0, none⟩) m m)) BL 22 (.slice sa n c)) := HBy.out.kept hks (box_ne HBy.out HSb.out (by decide))
    clear hks hY hcv hO hP hS1 hb1 fb qb HRw HSb HY HBy q0 HBx1 HB1 HCo HAh hK hE
    generalize Y.setCell ⟨S1, 0, none⟩ (.slice (some ⟨O, 0, none⟩) m m) = W2 at *
    clear W1 Y hln
    have HS3 : Hid (Box ((W2.alloc (.cells #[.slice none 0 0] 58)).alloc (.cells #[.slice none 0 0] 104)) W2.heap.size 58 (.slice none 0 0)) := (Box.new W2 58 (.slice none 0 0)).kept ((Kept.refl (fun _ => False) _).alloc _) (fun x => x)
    have HG : Hid (Box ((W2.alloc (.cells #[.slice none 0 0] 58)).alloc (.cells #[.slice none 0 0] 104)) (W2.heap.size + 1) 104 (.slice none 0 0)) := by
      have := Box.new (W2.alloc (.cells #[.slice none 0 0] 58)) 104 (.slice none 0 0)
      rw [World.size_alloc] at this
      exact this
    have HK3 : Hid (Kept (fun _ => False) W2 ((W2.alloc (.cells #[.slice none 0 0] 58)).alloc (.cells #[.slice none 0 0] 104))) := ((Kept.refl _ W2).alloc _).alloc _
    have HZ3 : Hid (((W2.alloc (.cells #[.slice none 0 0] 58)).alloc (.cells #[.slice none 0 0] 104)).heap.size = W2.heap.size + 2) := by show _ = _; simp
    go_upto_region 4 with fail
    generalize (W2.alloc (.cells #[.slice none 0 0] 58)).alloc (.cells #[.slice none 0 0] 104) = W0 at *
    obtain ⟨S3, hS3⟩ : ∃ S3, W2.heap.size = S3 := ⟨_, rfl⟩
    obtain ⟨g, hg⟩ : ∃ g, S3 + 1 = g := ⟨_, rfl⟩
    rw [hS3, hg] at HG
    rw [hS3] at HS3 HZ3
    rw [hS3, hg]
    have HLt : Hid (w.heap.size ≤ S3 ∧ g = S3 + 1 ∧ O < S3 ∧ S1 < S3 ∧ BL < S3 ∧ BL ≠ O ∧ S1 ≠ O) := by
      have h1 := HB2.out.size
      have h2 := HP2.out.lt
      have h3 := HS1.out.lt
      have h4 := HBl.out.lt
      exact ⟨by omega, hg.symm, by omega, by omega, by omega, box_ne_row HBl.out HP2.out (by decide), box_ne_row HS1.out HP2.out (by decide)⟩
    have HP0 : Hid (PRow W0 O (fnL m fun x => ((cn l (comeL l) m x : Nat) : Int))) := HK3.out.same HP2.out (fun x => x)
    have HS0 := Lib.hid (HS1.out.kept HK3.out (fun x => x))
    have HL0 := Lib.hid (HBl.out.kept HK3.out (fun x => x))
    have HB0 : Hid (Below w.heap.size w W0) := HB2.out.trans (below_of HK3.out HB2.out.size (fun _ x => x.elim))
    clear HP2 HS1 HBl HB2 HK3 hS3 hg W2
    by_cases hE : chkE l = 0
    rotate_left
    · have hm0 : m = 0 := by
        rw [← HM.out]
        unfold comeL
        rw [if_neg hE]
        rfl
      have ho : ordA l = ([], false) := by unfold ordA; rw [if_neg hE]
      have HOr := Lib.hid ho
      subst hm0
      have q1 := HS0.out.cell
      clear hE ho
      go_wp2_with fail
      refine (turns_make g W0).mono ?_
      rintro e W4 ⟨rfl, hW4⟩
      have HX : Hid (Box W4 W0.heap.size 119 (.pointer (some ⟨g, 0, none⟩))) := by rw [hW4]; exact Box.new _ _ _
      have HK4 : Hid (Below W0.heap.size W0 W4) := by rw [hW4]; exact (Below.refl _ W0).alloc (Nat.le_refl _) _
      clear hW4
      obtain ⟨B, hB⟩ : ∃ B, W4.heap.size = B := ⟨_, rfl⟩
      have HBe := Lib.hid hB
      clear hB
      go_wp2_with fail
      refine (wpIn_wide (n := 0)).1 ?_
      refine wpIn_rangeFunc_d (σ := List Nat × Value) (gf := 72) (lb := #[.pointer (some ⟨W0.heap.size, 0, none⟩)]) rfl turns_enters (seq_turns W0.heap.size g W0.heap.size) (fun _ => rfl)
        (fun _ s V => s = ([], .slice none 0 0) ∧ Below W4.heap.size W4 V) (fun _ _ => False) (fun _ _ _ => False) ?hI (fun _ _ _ h _ => h.elim) (fun _ _ _ _ h _ => h.elim) ?hAt ?hmid 0 ([], .slice none 0 0) ⟨rfl, Below.refl _ _⟩
        (fun z => { tmps := #[.slice sa n c, .pointer (some ⟨BL, 0, none⟩), .slice none 0 0, .bool false, .pointer (some ⟨S1, 0, none⟩), .pointer (some ⟨S3, 0, none⟩), .pointer (some ⟨g, 0, none⟩), .int .i64 (z : Nat), undef, .slice sa n c, .slice sa n c, .slice ca 0 cc, .slice (some ⟨O, 0, none⟩) 0 0, .slice (some ⟨O, 0, none⟩) 0 0, .int .i64 0, .bool false, .bool false, undef, undef, undef, undef, .bool false, undef, .func (.func 72) #[] #[.pointer (some ⟨W0.heap.size, 0, none⟩)], .int .i64 (z : Nat), undef, undef, undef, undef, undef, undef, undef, undef, undef, undef, undef, undef, undef, undef, undef, undef, undef, undef, undef, undef, undef, undef, undef, undef, undef, undef, undef, undef, undef, undef, undef, undef, undef], defers := [] }) ?assign (fun _ _ _ _ _ h => h.elim) ?done ?stop
      case hI =>
        rintro N s A A' ⟨h1, h2⟩ hk
        exact ⟨h1, h2.trans (below_of hk h2.size (fun k hk => by omega))⟩
      case hAt =>
        rintro N s V ⟨rfl, hb⟩
        exact ⟨HX.out.below hb (Nat.le_refl _), (HG.out.below HK4.out (Nat.le_refl _)).below hb (Nat.le_refl _), World.ownsRow_nil _ _ _ _, by simp⟩
      case hmid =>
        rintro N s x s1 V V' ⟨rfl, hb⟩ ⟨h1, _, _⟩ _
        simp at h1
      case assign =>
        intro l z W K hK
        unfold encN
        gi_wp2_with fail
        exact hK
      case done =>
        rintro N s V hfi ⟨hs, hb⟩ hsz hD
        rw [HBe.out] at hD hsz ⊢
        have HDm := Lib.hid hD
        have HBv := Lib.hid hb
        have q3 := ((HS3.out.below HK4.out (Nat.le_refl _)).below hb (Nat.le_refl _)).cell
        clear hfi hs hb hsz hD q1
        go_wp2_with fail
        have hlo : w.heap.size ≤ B := by have := HB0.out.size; have := HK4.out.size; have := HBe.out; omega
        refine leaves_marks (lo := w.heap.size) [B] V ((Mk.nil _ _).cons HDm.out hlo (by simp)) fun w' hk => ?_
        rw [HOr.out]
        have hbe : Below w.heap.size w V := HB0.out.trans ((HK4.out.mono HB0.out.size).trans (HBv.out.mono (by have := HB0.out.size; have := HK4.out.size; omega)))
        refine ⟨.tuple #[.slice none 0 0, .bool false], by simp [results, Tryd.f46, go_sem], _, rfl, World.ownsRow_nil _ _ _ _, hbe.trans (below_of hk hbe.size fun k hk => hk.1)⟩
      case stop =>
        rintro cd V h
        exact h.elim
    have hf := fine_of hE
    have HF := Lib.hid hf
    have hmn2 : m = n := by
      rw [← HM.out, ← HL.out]
      unfold comeL
      rw [if_pos hE]
      simp
    subst hmn2
    have HA3 : Hid (∀ x, cn l (comeL l) m x = wc l [] x) := fun x => by rw [← HL.out]; exact wc_start hE x
    have hA3 : (fnL m fun x => ((cn l (comeL l) m x : Nat) : Int)) = fnL m fun x => ((wc l [] x : Nat) : Int) := fnL_congr fun x _ => by rw [HA3.out x]
    rw [hA3] at HP0
    have HRd := Lib.hid (Rdy.start hf HRow.out.2.1)
    have HOd := Lib.hid (Od.start hf)
    have hn0 : 0 < m := by have := hf.some; have := HL.out; omega
    clear hE hf hA3 HA3 hmn HM
    rename_i K1 hK1 _ _
    have HKP : Hid (∀ V', Kept (fun k => k = O ∨ k = g ∨ k = S3) W0 V' → Box V' S1 58 (.slice (some ⟨O, 0, none⟩) m m) ∧ Box V' BL 22 (.slice sa m c) ∧ Below w.heap.size w V') := fun V' hk => by
      obtain ⟨e1, e2, e3, e4, e5, e6, e7⟩ := HLt.out
      have := HOw.out
      exact ⟨HS0.out.kept hk (by omega), HL0.out.kept hk (by omega), HB0.out.trans (below_of hk HB0.out.size (fun k hk => by omega))⟩
    have REST : Hid (∀ (u13 u14 u15 u16 u17 u18 u19 u20 u21 u22 : Value) (R : List Nat) (v : Value) (W : World), WSt g O (fun k => k = S3) W0 (fnL m fun x => ((wc l [] x : Nat) : Int)) R v W → Box W S3 58 (.slice none 0 0) → Rdy l [] R → K1 { tmps := #[.slice sa m c, .pointer (some ⟨BL, 0, none⟩), .slice none 0 0, .bool false, .pointer (some ⟨S1, 0, none⟩), .pointer (some ⟨S3, 0, none⟩), .pointer (some ⟨g, 0, none⟩), undef, undef, .slice sa m c, .slice sa m c, .slice ca m cc, .slice (some ⟨O, 0, none⟩) m m, u13, u14, u15, u16, u17, u18, u19, u20, u21, u22, undef, undef, undef, undef, undef, undef, undef, undef, undef, undef, undef, undef, undef, undef, undef, undef, undef, undef, undef, undef, undef, undef, undef, undef, undef, undef, undef, undef, undef, undef, undef, undef, undef, undef, undef], defers := [] } W) := by
      intro u13 u14 u15 u16 u17 u18 u19 u20 u21 u22 R v W hW h3 hR
      refine hK1 _ _ ?_
      have HWs := Lib.hid hW
      have HWb := Lib.hid h3
      have HRs := Lib.hid hR
      clear hW h3 hR hK1 HRd HP0 HS3 HG
      go_wp2_with fail
      refine (turns_make g W).mono ?_
      rintro e W4 ⟨rfl, hW4⟩
      obtain ⟨bx, hbx⟩ : ∃ bx, W.heap.size = bx := ⟨_, rfl⟩
      have HBe : Hid (W4.heap.size = bx + 1) := by show _ = _; rw [hW4, World.size_alloc, hbx]
      have HJ0 : Hid (OJ g O S3 bx m (bx + 1) W0 l R [] v (.slice none 0 0) W4) := by
        have hK4 : Below W.heap.size W W4 := by rw [hW4]; exact (Below.refl _ W).alloc (Nat.le_refl _) _
        have e := HLt.out
        have e2 := HZ3.out
        have e3 := HWs.out.kp.size
        refine ⟨⟨HWs.out.below hK4, HWb.out.below hK4 (Nat.le_refl _), World.ownsRow_nil _ _ _ _, by omega, fun k _ => by simp [Value.ownBlock], ?_⟩, ?_, by omega, by omega, fun k hk => .inl ?_, fun k hk => by simp [Value.ownBlock] at hk⟩
        · rw [hW4, ← hbx]; exact Box.new _ _ _
        · rw [← HL.out]; exact HOd.out
        · have := (HWs.out.ge hk).2; omega
      rw [hbx]
      clear hW4 hbx HWs HWb HOd
      go_wp2_with fail
      refine (wpIn_wide (n := 0)).1 ?_
      refine wpIn_rangeFunc_d (σ := List Nat × Value) (gf := 72) (lb := #[.pointer (some ⟨bx, 0, none⟩)]) rfl turns_enters (seq_turns W0.heap.size g bx) (fun _ => rfl)
        (fun N s V => ∃ T tv, OJ g O S3 bx m (bx + 1) W0 l s.1 T s.2 tv V ∧ Rdy l T s.1 ∧ N = m - T.length) (fun _ _ => False)
        (fun N k V => ∃ rest T v tv, OJ g O S3 bx m (bx + 1) W0 l rest T v tv V ∧ Rdy l T (rest ++ [k]) ∧ N = m - T.length)
        ?hI (fun _ _ _ h _ => h.elim) ?hIm ?hAt ?hmid (m - ([] : List Nat).length) (R, v) ⟨[], .slice none 0 0, HJ0.out, HRs.out, rfl⟩
        (fun k => { tmps := #[.slice sa m c, .pointer (some ⟨BL, 0, none⟩), .slice none 0 0, .bool false, .pointer (some ⟨S1, 0, none⟩), .pointer (some ⟨S3, 0, none⟩), .pointer (some ⟨g, 0, none⟩), .int .i64 (k : Nat), undef, .slice sa m c, .slice sa m c, .slice ca m cc, .slice (some ⟨O, 0, none⟩) m m, u13, u14, u15, u16, u17, u18, u19, u20, u21, u22, .func (.func 72) #[] #[.pointer (some ⟨bx, 0, none⟩)], .int .i64 (k : Nat), undef, undef, undef, undef, undef, undef, undef, undef, undef, undef, undef, undef, undef, undef, undef, undef, undef, undef, undef, undef, undef, undef, undef, undef, undef, undef, undef, undef, undef, undef, undef, undef, undef], defers := [] }) ?assign ?body ?done ?stop
      case hI =>
        rw [HBe.out]
        rintro N s A A' ⟨T, tv, h1, h2, h3⟩ hk
        exact ⟨T, tv, oj_keep h1 hk, h2, h3⟩
      case hIm =>
        rw [HBe.out]
        rintro N k A A' ⟨rest, T, v, tv, h1, h2, h3⟩ hk
        exact ⟨rest, T, v, tv, oj_keep h1 hk, h2, h3⟩
      case hAt =>
        rintro N ⟨R, v⟩ V ⟨T, tv, h1, h2, h3⟩
        exact h1.o.wat (by have := fal_len h2.fal (fun x hx => ((h2.is x).1 hx).1); have := HL.out; simp only at *; omega)
      case hmid =>
        rintro N ⟨R, v⟩ x ⟨R', v'⟩ V V' ⟨T, tv, h1, h2, h3⟩ hst hat
        simp only at h1 h2
        obtain ⟨e1, e2, e3, e4⟩ := h1.o.step hst hat
        rw [e1] at h2
        refine ⟨⟨R', T, v', tv, ⟨e4, h1.od, h1.xw, h1.xx, fun k hk => h1.vb k (by rw [← e2]; exact hk), h1.tb⟩, h2, h3⟩, e3.mono fun j _ e => ?_⟩
        have := h1.o.w.lg
        have := h1.xw
        rw [HBe.out]
        have e2 : j = g := e
        omega
      case assign =>
        intro l z W K hK
        unfold encN
        gi_wp2_with fail
        exact hK
      case body =>
        rintro N k V hsz ⟨r0, hr0⟩ ⟨rest, T, v, tv, h, hR, hN⟩
        rw [HBe.out] at hsz hr0 ⊢
        clear HJ0 HRs
        have HRs := Lib.hid hR
        have HN := Lib.hid hN
        have HJ := Lib.hid h
        have HV := Lib.hid hr0
        have HSz := Lib.hid hsz
        obtain ⟨hkl, hkc, hkm, hrm⟩ := hR.pop
        have hkn : k < m := by have := HL.out; omega
        have HKc := Lib.hid hkc
        have HKm := Lib.hid hkm
        have HRm := Lib.hid hrm
        have htl : T.length ≤ 100000 := by have := told_len h.od.told; have := HL.out; omega
        obtain ⟨ta, tc, rfl, htc, htm⟩ := own_shape h.o.ord
        have hvs : W0.heap.size ≤ V.heap.size := h.o.w.kp.size
        obtain ⟨ta', tc', Y, hrun, hown, hgr, hat⟩ := app_num h.o.ord hvs (by omega) k 58
        obtain ⟨b3, hkt, ho⟩ := h.o.tell hgr hown hat
        have HT := Lib.hid ho
        have HKt := Lib.hid hkt
        have HAt := Lib.hid hat
        have q3 := h.o.b3.cell
        have q4 := b3.cell
        have f4 := b3.free
        clear hR hN h hr0 hsz hkl hkc hkm hrm htc htm hvs hown hgr hat b3 hkt ho
        generalize hTl : T.length = tl at *
        have HTl := Lib.hid hTl
        clear hTl
        gi_upto_region 9 with (gi_at_builtin; refine wpListIn_append_run rfl _ _ 58 58 rfl _ _ _ _ 58 rfl rfl rfl hrun ?_)
        obtain ⟨G5, hG5⟩ : ∃ G5, V.heap.size = G5 := ⟨_, rfl⟩
        rw [hG5]
        clear hG5
        generalize Y.setCell ⟨S3, 0, none⟩ (.slice ta' (tl + 1 : Nat) tc') = Y2 at *
        clear hrun q3 q4 f4
        obtain ⟨hs1, hbl, hbw⟩ := HKP.out Y2 HT.out.w.kp
        have HS1y := Lib.hid hs1
        have HBlw := Lib.hid hbw
        have qb := hbl.cell
        obtain ⟨b, off, rfl, hc, hw⟩ := (HRow.out.below hbw (Nat.le_refl _)).at k hkn
        obtain ⟨c0, c1, c2, c3⟩ := hc
        have k0 : (0 : Int) ≤ k := by omega
        have k1 : (k : Int) < m := by omega
        have HMake := Lib.hid (behind_make (l.getD k iz) hw k (by omega) Y2)
        have HLk : Hid (behI (l.getD k iz) k = behL l k) := rfl
        clear hw hs1 hbl hbw
        generalize l.getD k iz = x at *
        obtain ⟨xo, xa, xb, xc⟩ := x
        unfold iv at HMake
        simp only at *
        gi_wp2_with fail
        refine ⟨trivial, rfl, ?_⟩
        refine CallsIn.mono (CallsIn.inRound (bx + 1 + 1) (callsIn_wide.2 HMake.out)) ?_
        rintro e W6 ⟨v6, rfl, F, lb, cx, rfl, heg, hseq, hb6, hcc⟩
        rw [HLk.out] at hseq
        obtain ⟨X, hX⟩ : ∃ X, Y2.heap.size = X := ⟨_, rfl⟩
        obtain ⟨B2, hB2⟩ : ∃ B2, W6.heap.size = B2 := ⟨_, rfl⟩
        have HXY := Lib.hid hX
        have hXB : X ≤ B2 := by have := hb6.size; omega
        have hKb2 : Kept (fun j => j ≠ bx + 1 ∧ j ≠ bx + 1 + 1) V Y2 := HKt.out.mono fun j _ e => by
          have h1 := HJ.out.xw
          have h2 := HJ.out.o.l3
          rcases e with e | e
          · have := HJ.out.tb j e; omega
          · omega
        have hXs : bx + 1 + 2 ≤ X := by have := hKb2.size; have := HSz.out; omega
        have hKb6 : Kept (fun j => j ≠ bx + 1 ∧ j ≠ bx + 1 + 1) V W6 := hKb2.trans (kept_of hb6 fun j h1 h2 => absurd h1 (by omega))
        have HOX : Hid (OX g O S3 bx (bx + 1) X B2 W0 (.slice ta' (tl + 1 : Nat) tc')) := by
          have h := HT.out
          exact ⟨by have := h.w.bw.lt; omega, by have := h.w.row.lt; omega, by have := h.b3.lt; omega, by have := h.bb.lt; omega, fun j hj => by have := (own_lt h.ord hj).2; omega, hXB, hXs, HJ.out.xw⟩
        have HCc : Hid (∀ j, cx j → X ≤ j ∧ j < B2) := fun j hj => by have := hcc j hj; omega
        have HB2 := Lib.hid hB2
        have HV6 : Hid (∃ r, W6.heap[bx + 1 + 1]? = some (.loop r)) := ⟨_, hKb6.same HV.out (by rintro ⟨_, h⟩; exact h rfl)⟩
        have htb : ∀ j, (Value.slice ta' (tl + 1 : Nat) tc').ownBlock = some j → j < bx + 1 ∨ bx + 1 + 2 ≤ j := fun j hj => by
          rcases HAt.out with e | ⟨g', e, hge⟩
          · rw [e] at hj; exact HJ.out.tb j hj
          · rw [e] at hj; cases hj; have := HSz.out; exact .inr (by omega)
        have HTb := Lib.hid htb
        have HI0 : Hid (∃ R v, OI g O S3 bx m (bx + 1) X B2 W0 V l T (T ++ [k]) rest (.slice ta' (tl + 1 : Nat) tc') [] R v W6) := by
          refine ⟨rest, v, ?_, HRm.out, fun j hj => ?_, HJ.out.vb, hKb6⟩
          · rw [wm_nil]
            exact HT.out.below hb6
          · have := (HT.out.w.ge hj).2
            exact .inl (by omega)
        have HSq := Lib.hid hseq
        have HEg := Lib.hid heg
        clear hX hB2 hXB hb6 hcc hseq heg HMake c0 c1 c2 c3 k0 k1 qb HT HRm hKb2 hKb6 hXs htb HKt HAt
        gi_wp2_with fail
        refine wpIn_rangeFunc_r (l₀ := bx + 1 + 1) HV6.out (gf := F) (lb := lb) rfl HEg.out HSq.out (Kept.refl _ _) (fun j hj => by rw [HB2.out]; exact (HCc.out j hj).2) (fun _ => rfl)
          (fun pre V' => ∃ R v, OI g O S3 bx m (bx + 1) X B2 W0 V l T (T ++ [k]) rest (.slice ta' (tl + 1 : Nat) tc') pre R v V') (fun _ _ _ => False) (by rw [HB2.out]; exact fun _ _ _ h hk => oi_keep HOX.out h hk) (fun _ _ _ _ h _ => h.elim) HI0.out
          (fun z => { tmps := #[.slice (some ⟨b, off, none⟩) m c, .pointer (some ⟨BL, 0, none⟩), .slice none 0 0, .bool false, .pointer (some ⟨S1, 0, none⟩), .pointer (some ⟨S3, 0, none⟩), .pointer (some ⟨g, 0, none⟩), .int .i64 (k : Nat), .int .i64 (z : Nat), .slice (some ⟨b, off, none⟩) m c, .slice (some ⟨b, off, none⟩) m c, .slice ca m cc, .slice (some ⟨O, 0, none⟩) m m, u13, u14, u15, u16, u17, u18, u19, u20, u21, u22, .func (.func 72) #[] #[.pointer (some ⟨bx, 0, none⟩)], .int .i64 (k : Nat), .slice ta tl tc, .int .i64 (k : Nat), .slice (some ⟨G5, 0, none⟩) 1 1, .slice ta' (tl + 1 : Nat) tc', .slice (some ⟨b, off, none⟩) m c, .int .i64 (k : Nat), .pointer (some ⟨b, off + k * 4, none⟩), .agg #[.int .u8 xo, .int .u8 xa, .int .u16 xb, .int .u32 xc], .int .i64 (k : Nat), .func (.func F) #[] lb, .int .i64 (z : Nat), undef, undef, undef, undef, undef, undef, undef, undef, undef, undef, undef, undef, undef, undef, undef, undef, undef, undef, undef, undef, undef, undef], defers := [] }) ?assign2 ?body2 ?done2 ?stop2
        case assign2 =>
          intro l z W K hK
          unfold encN
          gi_wp2_with fail
          exact hK
        case body2 =>
          rintro l2 pre z V' hpx hszV ⟨R, v', h⟩
          rw [HB2.out] at hszV ⊢
          have hzm : z ∈ behL l k := hpx.subset (by simp)
          have hkl : k < l.length := by have := HL.out; omega
          have hzn : z < m := by have := beh_lt HF.out HRow.out.2.1 hkl hzm; have := HL.out; omega
          have hzp := prefix_new hpx (beh_nodup l k)
          have hprel : ∀ x ∈ pre, x < l.length := fun x hx => beh_lt HF.out HRow.out.2.1 hkl (hpx.subset (by simp [hx]))
          obtain ⟨hzR, hy1⟩ := Rdm.new HRs.out h.r hkl HKc.out hzm hzp
          have hRl := h.r.lt HRs.out hprel
          have hRn := fal_len h.r.fal hRl
          obtain ⟨hs1, hbl, hbw⟩ := HKP.out V' h.o.w.kp
          have q1 := hs1.cell
          have qz := h.o.w.row.at (k := z) (by rw [fnL_len]; exact hzn)
          rw [fnL_at _ hzn, wm_here hzp] at qz
          have fz := h.o.w.row.free z
          have z0 : (0 : Int) ≤ z := by omega
          have z1 : (z : Int) < m := by omega
          have hls := h.o.less z (((wc l T z : Nat) : Int) - 1)
          rw [wm_step hzp m] at hls
          have q1' := (HKP.out _ hls.2.w.kp).1.cell
          have hyl : wc l T z ≤ 100000 := by have := wc_le l T z; have := HL.out; omega
          have qz' := hls.2.w.row.at (k := z) (by rw [fnL_len]; exact hzn)
          have ez : (fnL m (wm l T (pre ++ [z]))).getD z 0 = ((wc l T z : Nat) : Int) - 1 := by
            rw [fnL_at _ hzn]
            unfold wm
            have : (pre ++ [z]).contains z = true := by simp
            rw [this]
            rfl
          rw [ez] at qz'
          have hwr : IntKind.i64.wrap (((wc l T z : Nat) : Int) - 1) = ((wc l T z : Nat) : Int) - 1 := by simp [IntKind.wrap, IntKind.bits, IntKind.signed]; omega
          have HLs := Lib.hid hls
          have HI := Lib.hid h
          have HSz2 := Lib.hid hszV
          have HStay := Lib.hid (fun hw => h.r.stay (x := z) hw)
          have HAdd := Lib.hid (fun R' hw => h.r.add (R' := R') (x := z) hw)
          have HOut : Hid (∀ j, (j = O ∨ v'.ownBlock = some j ∨ j = g) → (¬ cx j ∧ j ≠ B2) ∧ (j ≠ bx + 1 ∧ j ≠ bx + 1 + 1)) := by
            have x1 := HOX.out.xg
            have x2 := HOX.out.xO
            have x3 := HOX.out.xb
            have x4 := HOX.out.xw
            have x5 := h.o.w.lg
            have x6 := h.o.w.lO
            rintro j (e | e | e)
            · exact ⟨⟨fun q => by have := HCc.out _ q; omega, by omega⟩, by omega, by omega⟩
            · have h1 := h.vb j e
              have h2 := h.vb2 j e
              exact ⟨⟨fun q => by have := HCc.out _ q; omega, by omega⟩, by omega, by omega⟩
            · exact ⟨⟨fun q => by have := HCc.out _ q; omega, by omega⟩, by omega, by omega⟩
          have HPut := Lib.hid ((put_any hls.2.w.bw hls.2.w.own hls.2.w.kp.size (by have := HL.out; omega) h.r.fal z (by omega) (fun x hx => by have := hRl x hx; have := HL.out; omega) hzR).mono (fun e w' q => hls.2.put q))
          have hV1 : (V'.setCell ⟨O, z, none⟩ (.int .i64 (((wc l T z : Nat) : Int) - 1))).heap.size = V'.heap.size := setCell_size _ _ _ _
          have HV1 := Lib.hid hV1
          clear hpx hszV h hls ez hzm hzp hprel hzR hRl hRn hV1 hs1 hbl hbw
          generalize hy : wc l T z = y at *
          have HY := Lib.hid hy
          clear hy
          by_cases hy2 : y = 1
          · subst hy2
            have e0 : (((1 : Nat)) : Int) - 1 = 0 := rfl
            have e1 : (((1 : Nat)) : Int) = 1 := rfl
            rw [e0] at q1' qz' HLs HPut HV1
            rw [e1] at qz
            clear hwr e0 e1 HStay
            gi_wp2_with fail
            refine ⟨trivial, rfl, ?_⟩
            refine CallsIn.mono (CallsIn.inRound l2 (callsIn_wide.2 HPut.out)) ?_
            rintro e Y4 ⟨a', c', R', rfl, p1, p2, p3, p4, p5, p6⟩
            have HO6 := Lib.hid p6
            have HK5 := Lib.hid p5
            have HA4 := Lib.hid p4
            have HR7 := Lib.hid (HAdd.out R' (by first | trivial | exact HY.out) p2 p3)
            clear p1 p2 p3 p4 p5 p6 HPut HAdd q1' qz' qz q1 fz
            gi_wp2_with fail
            simp only [Exit.inBlock, postR]
            have hk2 := (HLs.out.1.mono (q := fun j => j = O ∨ v'.ownBlock = some j ∨ j = g) fun j _ e => .inl e).trans (HK5.out.mono fun j _ e => .inr e)
            refine ⟨hk2.mono fun j _ e => (HOut.out j e).1, R', _, HO6.out, HR7.out, fun j hj => ?_, fun j hj => ?_, HI.out.kb.trans (hk2.mono fun j _ e => (HOut.out j e).2)⟩
            · rcases HA4.out with e | ⟨g', e, hge⟩
              · rw [e] at hj; exact HI.out.vb j hj
              · rw [e] at hj
                cases hj
                have := HV1.out
                have := HSz2.out
                exact .inr (by omega)
            · rcases HA4.out with e | ⟨g', e, hge⟩
              · rw [e] at hj; exact HI.out.vb2 j hj
              · rw [e] at hj
                cases hj
                have := HV1.out
                have := HSz2.out
                have := HOX.out.xB
                have := HOX.out.xb
                exact .inr (by omega)
          · have hd : (((y : Nat) : Int) - 1 == 0) = false := by simp; omega
            gi_wp2_with fail
            simp only [Exit.inBlock, postR]
            exact ⟨HLs.out.1.mono fun j _ e => (HOut.out j (.inl e)).1, R, _, HLs.out.2, HStay.out hy2, HI.out.vb, HI.out.vb2, HI.out.kb.trans (HLs.out.1.mono fun j _ e => (HOut.out j (.inl e)).2)⟩
        case done2 =>
          rintro V' ⟨R, v', h⟩ hszV
          simp only [Exit.inBlock, Exit.then, postD]
          have hOd2 : Od l m (T ++ [k]) := by
            have ho := HJ.out.od
            rw [← HL.out] at ho ⊢
            refine ho.next ?_ (by have := HL.out; omega) HKm.out HKc.out
            cases e : allT l T with
            | false => rfl
            | true => exact absurd (allT_true.1 e k (by have := HL.out; omega) (cand_iff.1 HKc.out).1) (cand_iff.1 HKc.out).2.1
          have hRd2 : Rdy l (T ++ [k]) R := h.r.fin HF.out HRow.out.2.1 HRs.out HJ.out.od.told (by have := HL.out; omega) HKc.out
          have hw2 : wm l T (behL l k) = fun x => ((wc l (T ++ [k]) x : Nat) : Int) := wm_fin (by have := HL.out; omega) (cand_iff.1 HKc.out).1 (cand_iff.1 HKc.out).2.1
          have hO := h.o
          rw [hw2] at hO
          have hlen := told_len hOd2.told
          refine ⟨h.kb, m - (T ++ [k]).length, (R, v'), ?_, T ++ [k], _, ⟨hO, hOd2, HJ.out.xw, HJ.out.xx, h.vb2, HTb.out⟩, hRd2, rfl⟩
          rw [List.length_append, List.length_singleton] at hlen ⊢
          have := HN.out
          have := HL.out
          have := HTl.out
          omega
        case stop2 =>
          rintro cd pre V' hpre h
          exact h.elim
      case done =>
        rintro N ⟨R, v⟩ V hfi ⟨T, tv, h, hR, hN⟩ hsz hD
        rw [HBe.out] at hD hsz ⊢
        clear HJ0 HRs
        have hR0 : R = [] := hfi
        subst hR0
        simp only at h hR
        have HDm := Lib.hid hD
        have HRs := Lib.hid hR
        have HJ := Lib.hid h
        obtain ⟨hs1, hbl, hbw⟩ := HKP.out V h.o.w.kp
        have HBw := Lib.hid hbw
        have HMk : Hid (Mk w.heap.size [bx + 1] V) := (Mk.nil _ _).cons hD (by have := h.xw; have := HB0.out.size; omega) (by simp)
        have q1 := hs1.cell
        have q3 := h.o.b3.cell
        obtain ⟨ta, tc, rfl, htc, htm⟩ := own_shape h.o.ord
        clear hfi hN hsz hD h hR hs1 hbl hbw htc htm
        by_cases hT0 : T.length = 0
        · have hT : T = [] := List.eq_nil_of_length_eq_zero hT0
          subst hT
          have HOr : Hid (ordA l = ([], false)) := by
            have ho := HJ.out.od
            rw [← HL.out] at ho
            refine ho.none ?_ HRs.out.out
            cases e : allT l [] with
            | false => rfl
            | true => have := allT_true.1 e 0 (by have := HL.out; omega) (comeB_iff.2 .zero); simp at this
          clear hT0
          go_wp2_with fail
          refine leaves_marks (lo := w.heap.size) [bx + 1] V HMk.out fun w' hk => ?_
          rw [HOr.out]
          refine ⟨.tuple #[.slice none 0 0, .bool false], by simp [results, Tryd.f46, go_sem], _, rfl, World.ownsRow_nil _ _ _ _, HBw.out.trans (below_of hk HBw.out.size fun k hk => hk.1)⟩
        · have hd0 : ((T.length : Int) == 0) = false := by simpa using hT0
          have HMx := Lib.hid (max_any (fnL m fun x => ((wc l T x : Nat) : Int)) O m (fnL_len _ _) hn0 (by omega) V HJ.out.o.w.row)
          generalize hTl : T.length = tl at *
          have HTl := Lib.hid hTl
          clear hTl hT0
          go_wp2_with fail
          refine HMx.out.mono ?_
          rintro e W' ⟨mv, rfl, h1, h2, hw'⟩
          subst hw'
          have H1 := Lib.hid h1
          have H2 := Lib.hid h2
          clear h1 h2 HMx
          by_cases hmv : 0 < mv
          · have hd : decide ((0 : Int) < mv) = true := decide_eq_true hmv
            have HOr : Hid (ordA l = ([], false)) := by
              have ho := HJ.out.od
              rw [← HL.out] at ho
              refine ho.none ?_ HRs.out.out
              obtain ⟨x, hx, e⟩ := H2.out
              rw [fnL_at _ hx] at e
              exact wc_left (x := x) (by omega)
            go_wp2_with fail
            refine leaves_marks (lo := w.heap.size) [bx + 1] W' HMk.out fun w' hk => ?_
            rw [HOr.out]
            refine ⟨.tuple #[.slice none 0 0, .bool false], by simp [results, Tryd.f46, go_sem], _, rfl, World.ownsRow_nil _ _ _ _, HBw.out.trans (below_of hk HBw.out.size fun k hk => hk.1)⟩
          · have hd : decide ((0 : Int) < mv) = false := decide_eq_false hmv
            have HOr : Hid (ordA l = (T, true)) := by
              have ho := HJ.out.od
              rw [← HL.out] at ho
              refine ho.all (HRs.out.all fun x hx => ?_)
              have := H1.out x (by have := HL.out; omega)
              rw [fnL_at _ (by have := HL.out; omega)] at this
              omega
            go_wp2_with fail
            refine leaves_marks (lo := w.heap.size) [bx + 1] W' HMk.out fun w' hk => ?_
            rw [HOr.out]
            refine ⟨.tuple #[.slice ta tl tc, .bool true], by simp [results, Tryd.f46, go_sem], _, rfl, ?_, HBw.out.trans (below_of hk HBw.out.size fun k hk => hk.1)⟩
            have := own_kept HJ.out.o.ord hk (fun g hg => by
              rintro ⟨_, x, hx⟩
              obtain ⟨cur, hc⟩ := own_block HJ.out.o.ord hg
              rw [hc] at hx
              cases hx)
            rw [HTl.out] at this
            show World.ownsRow _ _ _ _ _ _ _
            rw [HTl.out]
            exact own_base this HB0.out.size
      case stop =>
        rintro cd V h
        exact h.elim
    have q1 := HS0.out.cell
    have qr := HP0.out.at (k := 0) (by rw [fnL_len]; exact hn0)
    rw [fnL_at _ hn0] at qr
    have hdn : decide ((0 : Int) < (m : Int)) = true := decide_eq_true (by omega)
    have hdn2 : decide (0 < m) = true := decide_eq_true hn0
    have HW0 := Lib.hid (WSt.start (q := fun k => k = S3) HG.out HP0.out)
    clear hK1
    by_cases hw0 : wc l [] 0 = 0
    · have hRd := HRd.out
      rw [if_pos hw0] at hRd
      rw [hw0] at qr
      have HRd0 := Lib.hid hRd
      have HPut := Lib.hid ((put_any HW0.out.bw HW0.out.own (Nat.le_refl _) (by simp) (by unfold Fal; exact List.Pairwise.nil) 0 (by omega) (fun x hx => by simp at hx) (by simp)).mono (fun e w' q => HW0.out.put q))
      clear hRd hw0 HW0
      go_wp2_with fail
      refine HPut.out.mono ?_
      rintro e Y4 ⟨a', c', R', rfl, p1, p2, p3, p4, p5, p6⟩
      have hR' : R' = [0] := by
        have h1 : R'.length = 1 := p1
        obtain ⟨y, rfl⟩ := List.length_eq_one_iff.1 h1
        have := (p3 y).1 (by simp)
        rcases this with e | e
        · rw [e]
        · simp at e
      subst hR'
      have HO6 := Lib.hid p6
      have HB3 : Hid (Box Y4 S3 58 (.slice none 0 0)) := HS3.out.kept p5 (by
        rintro (e | e)
        · simp [Value.ownBlock] at e
        · have := HLt.out; omega)
      clear p1 p2 p3 p4 p5 p6 HPut
      go_wp2_with fail
      exact REST.out _ _ _ _ _ _ _ _ _ _ _ _ _ HO6.out HB3.out HRd0.out
    · have hRd := HRd.out
      rw [if_neg hw0] at hRd
      have HRd0 := Lib.hid hRd
      have hz : (((wc l [] 0 : Nat) : Int) == 0) = false := by simp; exact hw0
      clear hRd hw0
      generalize wc l [] 0 = y at *
      go_wp2_with fail
      exact REST.out _ _ _ _ _ _ _ _ _ _ _ _ _ HW0.out HS3.out HRd0.out
end Flw
end Go.Proofs.YtjoiogdckbaeaaaDoor
