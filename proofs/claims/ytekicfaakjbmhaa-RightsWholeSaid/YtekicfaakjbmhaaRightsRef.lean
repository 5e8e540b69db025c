/- The document's own answer on what is free, byte by byte; and whether two lists of numbers are one. -/
import Derived.Test.YtekicfaakjbmhaaRightsTold2
namespace Go.Proofs.Ytekicfaakjbmhaa
open Go.ChangeShapes Go.WideShapes Go.ChangeAt Go.RowKit
namespace Rights
set_option linter.unusedVariables false
set_option linter.unusedSimpArgs false
/-- is a byte in no region? -/
def frB (l : List Rg) (k : Int) : Bool := l.all fun x => !hasB x k
theorem frB_iff (l : List Rg) (k : Int) : frB l k = true ↔ Free l k := by
  unfold frB Free
  rw [List.all_eq_true]
  constructor
  · intro h x hx hh
    have := h x hx
    rw [(hasB_iff x k).2 hh] at this
    simp at this
  · intro h x hx
    have := h x hx
    cases hb : hasB x k with
    | true => exact absurd ((hasB_iff x k).1 hb) this
    | false => rfl
def frT (l : List Rg) (j : Nat) (k : Int) : Bool := (l.take j).all fun x => !hasB x k
theorem frT_zero (l : List Rg) (k : Int) : frT l 0 k = true := rfl
theorem frT_succ (l : List Rg) (j : Nat) (k : Int) (h : j < l.length) : frT l (j + 1) k = (frT l j k && !hasB l[j]! k) := by
  unfold frT
  rw [List.take_add_one, List.getElem?_eq_getElem h, getElem!_pos l j h]
  rw [List.all_append]
  simp only [Option.toList_some, List.all_cons, List.all_nil, Bool.and_true]
theorem frT_all (l : List Rg) (j : Nat) (k : Int) (h : l.length ≤ j) : frT l j k = frB l k := by unfold frT frB; rw [List.take_of_length_le h]
/-- the two lists' rows -/
structure RO (S : Nat) (w : World) (L : List (Int × Int)) (va vs : Value) (W : World) : Prop where
  oa : W.ownsRow S 22 1 va L.length (ats L)
  os : W.ownsRow S 22 1 vs L.length (szs L)
  ne : ∀ k, va.ownBlock = some k → vs.ownBlock ≠ some k
  bel : Below S w W
theorem RO.below {S : Nat} {w W W' : World} {L : List (Int × Int)} {va vs : Value} (h : RO S w L va vs W) (hs : S ≤ W.heap.size) (hb : Below W.heap.size W W') : RO S w L va vs W' :=
  ⟨ownsRow_block h.oa fun k _ hk => hb.block k hk, ownsRow_block h.os fun k _ hk => hb.block k hk, h.ne, h.bel.trans (hb.mono hs)⟩
/-- one more stretch: the first list's row has grown -/
theorem RO.grow_a {S : Nat} {w W W1 : World} {L : List (Int × Int)} {va vs v' : Value} {u : Value} (h : RO S w L va vs W) (hs : S ≤ W.heap.size) (own : W1.ownsRow S 22 1 v' (L.length + 1) (ats L ++ [u])) (hg : W.grownBy W1 va.ownBlock) (hat : v'.ownBlock = va.ownBlock ∨ v'.ownBlock = some W.heap.size) :
    W1.ownsRow S 22 1 vs L.length (szs L) ∧ (∀ k, v'.ownBlock = some k → vs.ownBlock ≠ some k) ∧ Below S w W1 := by
  have hk := kept_grown hg
  refine ⟨ownsRow_block h.os fun k hk' hlt => hk.block k hlt (fun e => h.ne k e hk'), fun k hk' hk2 => ?_, h.bel.trans (hk.toBelow hs fun k hk' e => ?_)⟩
  · rcases hat with e | e
    · rw [e] at hk'; exact h.ne k hk' hk2
    · rw [e] at hk'; cases hk'
      have := (ownsRow_lt h.os hk2).2
      omega
  · have := (ownsRow_lt h.oa e).1
    omega
theorem segs_nil {f : Int → Prop} {hi lo : Int} (h : hi ≤ lo) : ∀ {L : List (Int × Int)}, Segs f hi lo L → L = []
  | [], _ => rfl
  | (a, n) :: l, hs => by obtain ⟨h1, h2, h3, _⟩ := hs; omega
theorem ats_snoc (L : List (Int × Int)) (x : Int × Int) : ats (L ++ [x]) = ats L ++ [.int .u32 x.1] := by simp [ats]
theorem szs_snoc (L : List (Int × Int)) (x : Int × Int) : szs (L ++ [x]) = szs L ++ [.int .u32 x.2] := by simp [szs]
theorem szs_len (L : List (Int × Int)) : (szs L).length = L.length := by simp [szs]
theorem segs_bd {f : Int → Prop} {hi : Int} : ∀ {L : List (Int × Int)} {lo : Int} {a n : Int}, Segs f hi lo (L ++ [(a, n)]) → 0 < n ∧ lo ≤ a
  | [], lo, a, n, h => ⟨h.2.1, h.1⟩
  | (b, k) :: L, lo, a, n, h => by
    obtain ⟨h1, h2, _, _, _, _, h7⟩ := h
    have := segs_bd h7
    omega
/-- a row's last number is another one now -/
theorem stored_last {W : World} {S : Nat} {g n cap : Nat} {xs : List Value} {u : Value} (v : Value) (h : W.ownsRow S 22 1 (.slice (some ⟨g, 0, none⟩) (n + 1) cap) (n + 1) (xs ++ [u])) (hx : xs.length = n) :
    (W.setCell ⟨g, n, none⟩ v).ownsRow S 22 1 (.slice (some ⟨g, 0, none⟩) (n + 1) cap) (n + 1) (xs ++ [v]) ∧ W.grownBy (W.setCell ⟨g, n, none⟩ v) (some g) := by
  have := h.stored n v
  rw [List.set_append_right _ _ (by omega), hx, Nat.sub_self] at this
  exact this
theorem ro_begin {S : Nat} {w w1 w2 : World} {L : List (Int × Int)} {b : Int} {vs v1 : Value} {g2 cap2 : Nat} {o : Obj} (hS : S ≤ w1.heap.size)
    (h2 : w1.ownsRow S 22 1 vs L.length (szs L) ∧ (∀ k, v1.ownBlock = some k → vs.ownBlock ≠ some k) ∧ Below S w w1)
    (ho1 : w1.ownsRow S 22 1 v1 (L.length + 1) (ats L ++ [.int .u32 b])) (hg : (w1.alloc o).grownBy w2 vs.ownBlock)
    (ho2 : w2.ownsRow S 22 1 (.slice (some ⟨g2, 0, none⟩) (L.length + 1) cap2) (L.length + 1) (szs L ++ [.int .u32 0]))
    (hat : (Value.slice (some ⟨g2, 0, none⟩) (L.length + 1) cap2).ownBlock = vs.ownBlock ∨ (Value.slice (some ⟨g2, 0, none⟩) (L.length + 1) cap2).ownBlock = some (w1.alloc o).heap.size) :
    RO S w (L ++ [(b, 1)]) v1 (.slice (some ⟨g2, 0, none⟩) (L.length + 1) cap2) (w2.setCell ⟨g2, L.length, none⟩ (.int .u32 1)) := by
  obtain ⟨hos, hne, hbel⟩ := h2
  obtain ⟨hst, hgs⟩ := stored_last (.int .u32 1) ho2 (szs_len L)
  have hkA : Kept (fun k => vs.ownBlock = some k) (w1.alloc o) w2 := kept_grown hg
  have hkB := kept_grown hgs
  have hv1 : ∀ k, v1.ownBlock = some k → S ≤ k ∧ k < w1.heap.size := fun k hk => ownsRow_lt ho1 hk
  have hvs : ∀ k, vs.ownBlock = some k → S ≤ k ∧ k < w1.heap.size := fun k hk => ownsRow_lt hos hk
  have hsz : (w1.alloc o).heap.size = w1.heap.size + 1 := by simp
  have hne2 : ∀ k, v1.ownBlock = some k → g2 ≠ k := by
    rintro k hk rfl
    have h1 := hv1 _ hk
    rcases hat with e | e
    · exact hne _ hk (by rw [← e]; rfl)
    · have e' : g2 = (w1.alloc o).heap.size := by simpa [Value.ownBlock] using e
      omega
  have hg2 : S ≤ g2 := by
    rcases hat with e | e
    · exact (hvs g2 (by rw [← e]; rfl)).1
    · have e' : g2 = (w1.alloc o).heap.size := by simpa [Value.ownBlock] using e
      have := hbel.size
      have := ho2.lt g2 rfl
      exact this.1
  refine ⟨?_, ?_, ?_, ?_⟩
  · rw [ats_snoc, List.length_append]
    refine ownsRow_block ho1 fun k hk hlt => ?_
    rw [hkB.block k (by have := hkA.size; omega) (by intro e; exact hne2 k hk (by simpa using e)), hkA.block k (by omega) (fun e => hne k hk e)]
    exact Below.heap_alloc _ _ _ hlt
  · rw [szs_snoc, List.length_append]
    exact hst
  · intro k hk e
    exact hne2 k hk (by simpa [Value.ownBlock] using e)
  · exact ((hbel.alloc hS o).grown hg (by omega) fun k hk => (hvs k hk).1).setCell hg2 _
theorem ro_grow {S : Nat} {w wr : World} {L0 : List (Int × Int)} {a n : Int} {va : Value} {g2 cap2 : Nat} (hS : S ≤ wr.heap.size)
    (h : RO S w (L0 ++ [(a, n)]) va (.slice (some ⟨g2, 0, none⟩) (L0.length + 1) cap2) wr) :
    RO S w (L0 ++ [(a, n + 1)]) va (.slice (some ⟨g2, 0, none⟩) (L0.length + 1) cap2) (wr.setCell ⟨g2, L0.length, none⟩ (.int .u32 (n + 1))) := by
  obtain ⟨oa, os, hne, hbel⟩ := h
  rw [List.length_append] at oa os
  rw [szs_snoc] at os
  obtain ⟨hst, hgs⟩ := stored_last (.int .u32 (n + 1)) os (szs_len L0)
  have hkB := kept_grown hgs
  have hg2 : S ≤ g2 := (os.lt g2 rfl).1
  refine ⟨?_, ?_, hne, hbel.setCell hg2 _⟩
  · rw [List.length_append, ats_snoc]
    rw [ats_snoc] at oa
    exact ownsRow_block oa fun k hk hlt => hkB.block k hlt fun e => hne k hk (by simpa [Value.ownBlock] using e)
  · rw [List.length_append, szs_snoc]
    exact hst
def RefP (w : World) (l : List Rg) (m : Int) (e : Ending) (W : World) : Prop :=
  ∃ L va vs, e = .returned (.tuple #[va, vs]) ∧ Segs (Free l) (memOf m) 0 L ∧ W.ownsRow w.heap.size 22 1 va L.length (ats L) ∧ W.ownsRow w.heap.size 22 1 vs L.length (szs L) ∧ Below w.heap.size w W
set_option maxHeartbeats 8000000 in
set_option maxRecDepth 100000 in
theorem rfree_any {a : Option Addr} {n c : Nat} {l : List Rg} {w : World} (h : RRow w a n l) (hn : n ≤ 1000) (m : Int) (hm : 0 ≤ m ∧ m ≤ 4294967295) :
    Calls Try.prog 14 #[.slice a n c, .int .u32 m] w (RefP w l m) := by
  obtain ⟨i0, z, hi, hz0, hz1, hz2, hzs⟩ := infoU
  have HR := Lib.hid h
  have HLen : Hid (l.length = n) := h.1
  clear h
  obtain ⟨S, hS⟩ : ∃ S, w.heap.size = S := ⟨_, rfl⟩
  by_cases hbig : 262144 < m
  · have hd : decide (262144 < m) = true := by simpa using hbig
    have hmo : memOf m = 0 := by unfold memOf; rw [if_pos hbig]
    go_enter Try.func14, Try.ntmps14
    go_wp2_with fail
    refine bodyPost_ret (v := .tuple #[.slice none 0 0, .slice none 0 0]) (by simp [results, Try.f14, go_sem]) rfl ?_
    exact ⟨[], _, _, rfl, by rw [hmo]; intro x h1 h2; omega, World.ownsRow_nil _ _ _ _, World.ownsRow_nil _ _ _ _, Below.refl _ _⟩
  have hd : decide (262144 < m) = false := by simpa using hbig
  have HMo : Hid (memOf m = m) := by show _ = _; unfold memOf; rw [if_neg hbig]
  obtain ⟨M, rfl⟩ : ∃ M : Nat, m = M := ⟨m.toNat, by omega⟩
  have hM : M ≤ 262144 := by omega
  clear hbig
  go_enter Try.func14, Try.ntmps14
  go_wp2_with fail
  go_loopw [6, 7, 8, 9] (fun va vs gv bv wr => ∃ (bb : Nat) (L : List (Int × Int)), bb ≤ M ∧ bv = .int .u32 bb ∧ gv = .bool (decide (0 < bb) && frB l ((bb : Int) - 1)) ∧ Segs (Free l) bb 0 L ∧ L.length ≤ bb ∧ RO S w L va vs wr) (fun _ _ _ bv _ => M - (intOf bv).toNat)
  case atStart => exact ⟨0, [], by omega, rfl, rfl, fun x h1 h2 => by omega, by simp, ⟨World.ownsRow_nil _ _ _ _, World.ownsRow_nil _ _ _ _, fun k hk => by simp [Value.ownBlock] at hk, Below.refl _ _⟩⟩
  case round =>
    obtain ⟨bb, L, hbM, rfl, rfl, hseg, hLb, hRO⟩ := hrel
    have HSeg := Lib.hid hseg
    have HRO := Lib.hid hRO
    have hSw : S ≤ wr.heap.size := by rw [← hS]; exact hRO.bel.size
    have HSw := Lib.hid hSw
    clear hseg hRO hSw
    by_cases hlt : bb < M
    · have k0 : (0 : Int) ≤ bb := by omega
      have k1 : (bb : Int) < (M : Int) := by omega
      have hdl : decide ((bb : Int) < (M : Int)) = true := by simp; omega
      have hdl2 : decide (bb < M) = true := by simp; omega
      have c1 : IntKind.u64.wrap (bb : Int) = bb := by simp [IntKind.wrap, IntKind.bits, IntKind.signed]; omega
      obtain ⟨W0, hW0⟩ : ∃ W, wr = W := ⟨_, rfl⟩
      rw [hW0] at HRO HSw
      rw [hW0]
      clear hW0
      go_wp2_with fail
      go_loopw [10, 11] (fun fr iv wr => ∃ j : Nat, j ≤ n ∧ iv = .int .i64 j ∧ fr = .bool (frT l j bb) ∧ Below W0.heap.size W0 wr) (fun _ iv _ => n - (intOf iv).toNat)
      case atStart => exact ⟨0, by omega, rfl, rfl, Below.refl _ _⟩
      case round =>
        obtain ⟨j, hj, rfl, rfl, hbel⟩ := hrel
        have HB := Lib.hid hbel
        have HRw : Hid (RO S w L u6 u7 wr) := HRO.out.below HSw.out hbel
        have HSr : Hid (S ≤ wr.heap.size) := Nat.le_trans HSw.out hbel.size
        clear hbel
        by_cases hjn : j < n
        · have j0 : (0 : Int) ≤ j := by omega
          have j1 : (j : Int) < n := by omega
          have hdj : decide ((j : Int) < (n : Int)) = true := by simp; omega
          have HStep : Hid (frT l (j + 1) bb = (frT l j bb && !hasB l[j]! bb)) := frT_succ l j bb (by rw [HLen.out]; exact hjn)
          obtain ⟨hl, hrow⟩ := HR.out.below (by rw [hS]; exact HRw.out.bel)
          obtain ⟨rb, off, rfl, hrl, hin⟩ := hrow.resolve_left (by omega)
          obtain ⟨g0, g1, g2⟩ := hin.at j (by omega)
          have hhas := fun W => has_any (l[j]!) bb W
          clear hl hrow hrl hin
          generalize l[j]! = x at *
          cases hf : frT l j bb with
          | true =>
            rw [hf, Bool.true_and] at HStep
            clear hf
            cases hh : hasB x bb with
            | true =>
              rw [hh] at hhas HStep
              clear hh
              go_wp2_with (go_at_call 22; refine (hhas _).mono ?_; rintro e w1 ⟨rfl, rfl⟩)
              go_roundw
              case rel => exact ⟨j + 1, by omega, by go_num, by rw [HStep.out]; rfl, HB.out.alloc HB.out.size _⟩
              case measure => simp [intOf]; omega
            | false =>
              rw [hh] at hhas HStep
              clear hh
              go_wp2_with (go_at_call 22; refine (hhas _).mono ?_; rintro e w1 ⟨rfl, rfl⟩)
              go_roundw
              case rel => exact ⟨j + 1, by omega, by go_num, by rw [HStep.out]; rfl, HB.out.alloc HB.out.size _⟩
              case measure => simp [intOf]; omega
          | false =>
            rw [hf, Bool.false_and] at HStep
            clear hf
            go_wp2_with fail
            go_roundw
            case rel => exact ⟨j + 1, by omega, by go_num, by rw [HStep.out], HB.out⟩
            case measure => simp [intOf]; omega
        · have hdj : decide ((j : Int) < (n : Int)) = false := by simp; omega
          have hall : frT l j bb = frB l bb := frT_all l j bb (by rw [HLen.out]; omega)
          rw [hall]
          clear hall
          cases hf : frB l bb with
          | false =>
            have HF : Hid (¬ Free l bb) := fun h => by rw [(frB_iff l bb).2 h] at hf; cases hf
            have HG : Hid (frB l (((bb + 1 : Nat) : Int) - 1) = false) := by show _ = _; rw [show ((bb + 1 : Nat) : Int) - 1 = bb from by omega]; exact hf
            clear hf
            go_wp2_with fail
            go_roundw
            case rel => exact ⟨bb + 1, L, by omega, by go_num, by rw [HG.out]; simp, by have := Segs.miss HF.out HSeg.out; simpa using this, by omega, HRw.out⟩
            case measure => simp [intOf]; omega
          | true =>
            have HF : Hid (Free l bb) := (frB_iff l bb).1 hf
            have HG : Hid (frB l (((bb + 1 : Nat) : Int) - 1) = true) := by show _ = _; rw [show ((bb + 1 : Nat) : Int) - 1 = bb from by omega]; exact hf
            clear hf
            cases hg : (decide (0 < bb) && frB l ((bb : Int) - 1)) with
            | false =>
              have HSeg2 : Hid (Segs (Free l) ((bb : Int) + 1) 0 (L ++ [((bb : Int), 1)])) := Segs.begin HF.out (by omega) (fun h => fun hfr => by
                rw [(frB_iff l _).2 hfr] at hg
                simp at hg
                omega) (fun e => segs_nil (by omega) HSeg.out) HSeg.out
              clear hg
              have hlen1 : IntKind.i64.wrap ((L.length : Int) + 1 - 1) = L.length := by simp [IntKind.wrap, IntKind.bits, IntKind.signed]; omega
              go_wp2_with (first
                | (at_builtin; refine wpList_append_own_at _ rfl (.tmp 43) (.tmp 45) 30 rfl S 22 i0 z 1 4 Try.underlying30 hi hz0 hz1 hz2 hzs (by decide) u6 L.length (ats L) rfl (HRw.out.oa.alloc _) ⟨wr.heap.size, 0, none⟩ 1 1 [.int .u32 bb] rfl rfl (cell_one_new _ _ _) (by simp [Value.oneCell']) (by unfold maxLen; omega) (by omega) (by have := HSr.out; simp; omega) ?_; intro v1 w1 hown1 hgrow1 _ hat1; have h2 := (HRw.out.below HSr.out ((Below.refl _ _).alloc (Nat.le_refl _) _)).grow_a (by have := HSr.out; simp; omega) hown1 hgrow1 hat1; have H2 := Lib.hid h2; have HO1 := Lib.hid hown1; have HG1 := Lib.hid hgrow1.size; clear h2 hown1 hgrow1 hat1)
                | (at_builtin; refine wpList_append_own_at _ rfl (.tmp 47) (.tmp 48) 30 rfl S 22 i0 z 1 4 Try.underlying30 hi hz0 hz1 hz2 hzs (by decide) u7 L.length (szs L) rfl (H2.out.1.alloc _) ⟨w1.heap.size, 0, none⟩ 1 1 [.int .u32 0] rfl rfl (cell_one_new _ _ _) (by simp [Value.oneCell']) (by unfold maxLen; omega) (by omega) (by have := HSr.out; have := HG1.out; simp at this ⊢; omega) ?_; intro v2 w2 hown2 hgrow2 _ hat2; have HO2 := Lib.hid hown2; have HG2 := Lib.hid hgrow2; have HAt2 := Lib.hid hat2; obtain ⟨g2, cap2, rfl⟩ := ownsRow_succ hown2; have hc2 : w2.cell? ⟨g2, L.length, none⟩ = some (.int .u32 0) := (hown2.cellAt L.length (by omega)).trans (by rw [List.getElem?_append_right (by rw [szs_len]; omega), szs_len]; simp); have hf2 := hown2.frozenAt L.length; clear hown2 hgrow2 hat2))
              have hsw1 : S ≤ w1.heap.size := by have := HSr.out; have := HG1.out; simp at this; omega
              have hro : RO S w (L ++ [((bb : Int), 1)]) v1 (.slice (some ⟨g2, 0, none⟩) (L.length + 1) cap2) (w2.setCell ⟨g2, L.length, none⟩ (.int .u32 1)) := ro_begin hsw1 H2.out HO1.out HG2.out HO2.out HAt2.out
              go_roundw
              case rel => exact ⟨bb + 1, L ++ [((bb : Int), 1)], by omega, by go_num, by rw [HG.out]; simp, by simpa using HSeg2.out, by simp; omega, hro⟩
              case measure => simp [intOf]; omega
            | true =>
              have hgo : 0 < bb ∧ Free l ((bb : Int) - 1) := by
                rw [Bool.and_eq_true, decide_eq_true_iff, frB_iff] at hg
                exact hg
              clear hg
              obtain ⟨L0, a0, n0, rfl, he0⟩ := Segs.last (by omega) hgo.2 HSeg.out
              have HSeg2 : Hid (Segs (Free l) ((bb : Int) + 1) 0 (L0 ++ [(a0, n0 + 1)])) := Segs.grow HF.out he0 HSeg.out
              have HNb : Hid (0 < n0 ∧ 0 ≤ a0) := segs_bd HSeg.out
              have hLb2 : L0.length + 1 ≤ bb := by simpa using hLb
              have HLb : Hid (L0.length + 1 ≤ bb) := hLb2
              have hro := HRw.out
              obtain ⟨oa, os, hne, hbel⟩ := hro
              rw [szs_snoc, List.length_append] at os
              obtain ⟨g2, cap2, rfl⟩ := ownsRow_succ os
              have hc2 : wr.cell? ⟨g2, L0.length, none⟩ = some (.int .u32 n0) := (os.cellAt L0.length (by simp)).trans (by rw [List.getElem?_append_right (by rw [szs_len]; omega), szs_len]; simp)
              have hf2 := os.frozenAt L0.length
              have hlen1 : IntKind.i64.wrap ((L0.length : Int) + 1 - 1) = L0.length := by have := HLb.out; simp [IntKind.wrap, IntKind.bits, IntKind.signed]; omega
              have hn0 : IntKind.u32.wrap (n0 + 1) = n0 + 1 := by have := HNb.out; simp [IntKind.wrap, IntKind.bits, IntKind.signed]; omega
              clear oa os hne hbel
              go_wp2_with fail
              have hro2 := ro_grow HSr.out HRw.out
              go_roundw
              case rel => exact ⟨bb + 1, L0 ++ [(a0, n0 + 1)], by omega, by go_num, by rw [HG.out]; simp, by simpa using HSeg2.out, by have := HLb.out; simp; omega, hro2⟩
              case measure => simp [intOf]; omega
    · have hdl : decide ((bb : Int) < (M : Int)) = false := by simp; omega
      obtain rfl : bb = M := by omega
      go_wp2_with fail
      refine bodyPost_ret (v := .tuple #[u6, u7]) (by simp [results, Try.f14, go_sem]) rfl ?_
      exact ⟨L, u6, u7, rfl, by rw [HMo.out]; exact HSeg.out, by rw [hS]; exact HRO.out.oa, by rw [hS]; exact HRO.out.os, by rw [hS]; exact HRO.out.bel⟩
end Rights
end Go.Proofs.Ytekicfaakjbmhaa
