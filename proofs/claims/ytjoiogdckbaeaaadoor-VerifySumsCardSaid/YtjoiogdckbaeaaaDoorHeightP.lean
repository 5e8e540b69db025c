/- height.tell: what stands in memory while it works. · height.tell, walked. (Made by tools/gen_tell.py.) -/
import Derived.Test.YtjoiogdckbaeaaaDoorHeightW1
import Derived.Test.YtjoiogdckbaeaaaDoorFlowP3
import Derived.Test.YtjoiogdckbaeaaaDoorFlowS
import Derived.Test.YtjoiogdckbaeaaaDoorRightsPosts
import Derived.Sort.CutIn
namespace Go.Proofs.YtjoiogdckbaeaaaDoor
open Go.ChangeShapes Go.WideShapes Go.ChangeAt Go.RowKit
namespace Hgt
open Isa Flw
open Goes
open Rights (Kept)
set_option linter.unusedVariables false
set_option linter.unusedSimpArgs false
theorem push_le {h b : Int} (hb : h ≤ b) (b0 : 0 ≤ b) : ∀ (ms : List Nat) (H : List Int), (∀ j, H.getD j 0 ≤ b) → ∀ j, (push h ms H).1.getD j 0 ≤ b
  | [], H, hh, j => hh j
  | m :: r, H, hh, j => by
    unfold push
    split
    · exact hh j
    · refine push_le hb b0 r _ (fun j => ?_) j
      rw [List.getD_eq_getElem?_getD, List.getElem?_set]
      have := hh j
      rw [List.getD_eq_getElem?_getD] at this
      split
      · split
        · exact hb
        · exact b0
      · exact this
theorem h0_le (l : List Iv) (hl : 0 < l.length) : ∀ j, (H0 l).getD j 0 ≤ 64 := fun j => by
  unfold H0
  rw [List.getD_eq_getElem?_getD, List.getElem?_set]
  split
  · rename_i e
    split <;> simp
  · rw [List.getElem?_replicate]
    split <;> simp
/-- what the document tells from here on; the heights by now -/
structure Hs (l : List Iv) (most : Int) (f : Nat) (H : List Int) (D : List Bool) : Prop where
  go : htGo l most f H D = htGo l most (l.length + 1) (H0 l) (D0 l)
  fc : fcount D < f
  mid : Mid l most H D
  hi : ∀ j, H.getD j 0 ≤ 64
/-- nothing beside the row and the store is written -/
def noq : Nat → Prop := fun _ => False
/-- between two rounds of the outer loop: B: the heap's size ahead of it; bx: the iterator's box -/
structure TJ (g O bx B : Nat) (W0 : World) (l : List Iv) (most : Int) (f : Nat) (H : List Int) (D : List Bool) (R : List Nat) (v : Value) (V : World) : Prop where
  w : WSt g O noq W0 H R v V
  bb : Box V bx 119 (.pointer (some ⟨g, 0, none⟩))
  hs : Hs l most f H D
  xw : W0.heap.size ≤ B
  xx : bx < B
  vb : ∀ k, v.ownBlock = some k → k < B ∨ B + 2 ≤ k
section
variable {g O bx B : Nat} {W0 : World} {l : List Iv} {most : Int} {f : Nat} {H : List Int} {D : List Bool} {R : List Nat} {v : Value} {V V' : World}
theorem TJ.keep (h : TJ g O bx B W0 l most f H D R v V) (hk : Kept (fun k => k = B ∨ k = B + 1) V V') : TJ g O bx B W0 l most f H D R v V' := by
  have h1 := h.w.lg; have h2 := h.w.lO; have h4 := h.xw; have h5 := h.xx
  exact ⟨h.w.kept hk (by omega) (by omega) (fun k hk => by have := h.vb k hk; omega) (fun k hk hlt => by omega), h.bb.kept hk (by omega), h.hs, h4, h5, h.vb⟩
theorem TJ.below (h : TJ g O bx B W0 l most f H D R v V) (hb : Below V.heap.size V V') : TJ g O bx B W0 l most f H D R v V' :=
  ⟨h.w.below hb, h.bb.below hb (Nat.le_refl _), h.hs, h.xw, h.xx, h.vb⟩
theorem TJ.step {R' : List Nat} {k : Nat} {v' : Value} (h : TJ g O bx B W0 l most f H D R v V) (hs : wStep g (R, v) k (R', v') V V') (ha : WAt W0.heap.size g bx (R', v') V') : R = R' ++ [k] ∧ Kept (fun j => j = g) V V' ∧ TJ g O bx B W0 l most f H D R' v' V' := by
  obtain ⟨h1, h2, h3, h4⟩ := h.w.step hs ha
  exact ⟨h1, h3, h4, ha.bx, h.hs, h.xw, h.xx, fun k hk => h.vb k (by rw [← h2]; exact hk)⟩
end
/-- while tell goes over those behind k: Xs, B2: the heap's size ahead of the inner iterator and behind it; V0: the world ahead of the round; S12: the height's box -/
structure TI (g O bx B Xs B2 S12 : Nat) (W0 V0 : World) (hh : Int) (H : List Int) (rest : List Nat) (pre R : List Nat) (A : List Int) (v : Value) (V : World) : Prop where
  w : WSt g O noq W0 A R v V
  bb : Box V bx 119 (.pointer (some ⟨g, 0, none⟩))
  b12 : Box V S12 3 (.int .i64 hh)
  m : Wam hh H rest pre R A
  vb : ∀ k, v.ownBlock = some k → k < Xs ∨ B2 + 1 ≤ k
  vb2 : ∀ k, v.ownBlock = some k → k < B ∨ B + 2 ≤ k
  v12 : ∀ k, v.ownBlock = some k → k ≠ S12
  kb : Kept (fun k => k ≠ B ∧ k ≠ B + 1) V0 V
structure TX (g O bx B Xs B2 S12 : Nat) (W0 : World) : Prop where
  xg : g < B
  xO : O < B
  xx : bx < B
  x12 : S12 < Xs
  y12 : B + 2 ≤ S12
  xb : Xs ≤ B2
  xB : B + 2 ≤ Xs
  xw : W0.heap.size ≤ B
theorem ti_keep {g O bx B Xs B2 S12 : Nat} {W0 V0 : World} {hh : Int} {H : List Int} {rest pre : List Nat} {V V' : World} (h : TX g O bx B Xs B2 S12 W0) (hi : ∃ R A v, TI g O bx B Xs B2 S12 W0 V0 hh H rest pre R A v V) (hk : Kept (fun k => k = B2) V V') :
    ∃ R A v, TI g O bx B Xs B2 S12 W0 V0 hh H rest pre R A v V' := by
  obtain ⟨h1, h2, h3, h4, h5, h6, h7, h8⟩ := h
  obtain ⟨R, A, v, hw, hb, h12, hm, hv, hv2, hv3, hkb⟩ := hi
  exact ⟨R, A, v, hw.kept hk (by omega) (by omega) (fun k hk => by have := hv k hk; omega) (fun k hk hlt => by omega), hb.kept hk (by omega), h12.kept hk (by omega), hm, hv, hv2, hv3, hkb.trans (hk.mono fun k _ e => by omega)⟩
theorem box_fifth (w : World) (t1 t2 t3 t4 t5 : TypeId) (a1 a2 a3 a4 a5 : Value) :
    Box (((((w.alloc (.cells #[a1] t1)).alloc (.cells #[a2] t2)).alloc (.cells #[a3] t3)).alloc (.cells #[a4] t4)).alloc (.cells #[a5] t5)) w.heap.size t1 a1 ∧
    Box (((((w.alloc (.cells #[a1] t1)).alloc (.cells #[a2] t2)).alloc (.cells #[a3] t3)).alloc (.cells #[a4] t4)).alloc (.cells #[a5] t5)) (w.heap.size + 1) t2 a2 ∧
    Box (((((w.alloc (.cells #[a1] t1)).alloc (.cells #[a2] t2)).alloc (.cells #[a3] t3)).alloc (.cells #[a4] t4)).alloc (.cells #[a5] t5)) (w.heap.size + 1 + 1) t3 a3 ∧
    Box (((((w.alloc (.cells #[a1] t1)).alloc (.cells #[a2] t2)).alloc (.cells #[a3] t3)).alloc (.cells #[a4] t4)).alloc (.cells #[a5] t5)) (w.heap.size + 1 + 1 + 1) t4 a4 ∧
    Box (((((w.alloc (.cells #[a1] t1)).alloc (.cells #[a2] t2)).alloc (.cells #[a3] t3)).alloc (.cells #[a4] t4)).alloc (.cells #[a5] t5)) (w.heap.size + 1 + 1 + 1 + 1) t5 a5 ∧
    Kept (fun _ => False) w (((((w.alloc (.cells #[a1] t1)).alloc (.cells #[a2] t2)).alloc (.cells #[a3] t3)).alloc (.cells #[a4] t4)).alloc (.cells #[a5] t5)) ∧
    (((((w.alloc (.cells #[a1] t1)).alloc (.cells #[a2] t2)).alloc (.cells #[a3] t3)).alloc (.cells #[a4] t4)).alloc (.cells #[a5] t5)).heap.size = w.heap.size + 5 := by
  have k (W : World) (o : Obj) : Kept (fun _ => False) W (W.alloc o) := (Kept.refl _ W).alloc o
  have n1 := Box.new w t1 a1
  have n2 := Box.new (w.alloc (.cells #[a1] t1)) t2 a2
  have n3 := Box.new ((w.alloc (.cells #[a1] t1)).alloc (.cells #[a2] t2)) t3 a3
  have n4 := Box.new (((w.alloc (.cells #[a1] t1)).alloc (.cells #[a2] t2)).alloc (.cells #[a3] t3)) t4 a4
  have n5 := Box.new ((((w.alloc (.cells #[a1] t1)).alloc (.cells #[a2] t2)).alloc (.cells #[a3] t3)).alloc (.cells #[a4] t4)) t5 a5
  simp only [World.size_alloc] at n2 n3 n4 n5
  exact ⟨(((n1.kept (k _ _) id).kept (k _ _) id).kept (k _ _) id).kept (k _ _) id, ((n2.kept (k _ _) id).kept (k _ _) id).kept (k _ _) id, (n3.kept (k _ _) id).kept (k _ _) id, n4.kept (k _ _) id, n5,
    ((((k _ _).trans (k _ _)).trans (k _ _)).trans (k _ _)).trans (k _ _), by simp⟩
/-- how tell is left early: the result's two boxes -/
def TE (O R1 R2 : Nat) (w : World) (l : List Iv) (most : Int) (V : World) : Prop :=
  ∃ (n : Nat) (e : Int), htGo l most (l.length + 1) (H0 l) (D0 l) = ([], n, e) ∧ e ≠ 0 ∧ Box V R1 3 (.int .i64 (n : Nat)) ∧ Box V R2 38 (.int .i64 e) ∧ Kept (fun k => k = O) w V
end Hgt
end Go.Proofs.YtjoiogdckbaeaaaDoor
namespace Go.Proofs.YtjoiogdckbaeaaaDoor
open Go.ChangeShapes Go.WideShapes Go.ChangeAt Go.RowKit
namespace Hgt
open Isa Flw
open Goes
open Rights (Kept)
set_option linter.unusedVariables false
set_option linter.unusedSimpArgs false
attribute [local go_sem] Oper.semAt_some
set_option maxRecDepth 100000 in
set_option maxHeartbeats 1600000 in
theorem tell_any (l : List Iv) (hf : Fine l) (hwf : ∀ i ∈ l, i.wf) (sa : Option Addr) (n c O : Nat) (most : Int) (hm0 : 0 ≤ most) (hm1 : most ≤ 64) (hln : l.length = n) (w : World)
    (hT : ∀ V, Kept (fun k => k = O) w V → Tabs V) (hRow : ∀ V, Kept (fun k => k = O) w V → IRow V sa n l) (hO : PRow w O (List.replicate n (-1))) :
    Calls Tryd.prog 29 #[.slice (some ⟨O, 0, none⟩) n n, .slice sa n c, .int .i64 most] w fun e w' =>
      e = .returned (.tuple #[.int .i64 ((htGo l most (l.length + 1) (H0 l) (D0 l)).2.1 : Nat), .int .i64 (htGo l most (l.length + 1) (H0 l) (D0 l)).2.2]) ∧
      ((htGo l most (l.length + 1) (H0 l) (D0 l)).2.2 = 0 → PRow w' O (htGo l most (l.length + 1) (H0 l) (D0 l)).1) ∧ Kept (fun k => k = O) w w' := by
  have HT := Lib.hid hT
  have HRow := Lib.hid hRow
  have HF := Lib.hid hf
  have HWf := Lib.hid hwf
  have HL := Lib.hid hln
  have hn0 : 0 < n := by have := hf.some; omega
  have hn16 : n ≤ 16384 := by have := hf.most; omega
  have HO := Lib.hid hO
  clear hT hRow hf hwf hln hO
  obtain ⟨RES, hRES⟩ : ∃ r, htGo l most (l.length + 1) (H0 l) (D0 l) = r := ⟨_, rfl⟩
  rw [hRES]
  have HRes := Lib.hid hRES
  clear hRES
  refine (callsIn_wide (n := 0)).1 ?_
  refine callsIn_of_wp_marks Tryd.func29 rfl trivial ?_ rfl
  simp only [Tryd.ntmps29, List.size_toArray, List.length_cons, List.length_nil, Nat.reduceAdd, Nat.reduceSub, Array.replicate_succ, Array.replicate_zero, List.push_toArray, List.append_toArray, List.nil_append, List.cons_append]
  refine (wpIn_wide (n := 0)).2 ?_
  have H5 := Lib.hid (box_fifth w 58 22 3 3 38 (.slice (some ⟨O, 0, none⟩) n n) (.slice sa n c) (.int .i64 most) (.int .i64 0) (.int .i64 0))
  go_upto_region 1 with fail
  generalize ((((w.alloc (.cells #[.slice (some ⟨O, 0, none⟩) n n] 58)).alloc (.cells #[.slice sa n c] 22)).alloc (.cells #[.int .i64 most] 3)).alloc (.cells #[.int .i64 0] 3)).alloc (.cells #[.int .i64 0] 38) = W1 at *
  obtain ⟨BH, hBH⟩ : ∃ x, w.heap.size = x := ⟨_, rfl⟩
  obtain ⟨BL, hBL⟩ : ∃ x, BH + 1 = x := ⟨_, rfl⟩
  obtain ⟨BM, hBM⟩ : ∃ x, BL + 1 = x := ⟨_, rfl⟩
  obtain ⟨R1, hR1⟩ : ∃ x, BM + 1 = x := ⟨_, rfl⟩
  obtain ⟨R2, hR2⟩ : ∃ x, R1 + 1 = x := ⟨_, rfl⟩
  rw [hBH, hBL, hBM, hR1, hR2] at H5 ⊢
  have HNu : Hid (w.heap.size = BH ∧ BL = BH + 1 ∧ BM = BH + 2 ∧ R1 = BH + 3 ∧ R2 = BH + 4) := ⟨hBH, by omega, by omega, by omega, by omega⟩
  have hrow : PRow W1 O (List.replicate n (-1)) := H5.out.2.2.2.2.2.1.same HO.out id
  have q1 := H5.out.1.cell
  have qr := hrow.at (k := 0) (by simpa using hn0)
  have fr := hrow.free 0
  have hd1 : decide (0 < n) = true := decide_eq_true hn0
  have hd2 : (0 : Int) < n := by omega
  have hset := hrow.set 0 0
  have hks : Kept (fun k => k = O) W1 (W1.setCell ⟨O, 0, none⟩ (.int .i64 0)) := kept_set _ _ _ _ rfl
  have eH0 : (List.replicate n (-1 : Int)).set 0 0 = H0 l := by unfold H0; rw [HL.out]
  rw [eH0] at hset
  have HOw : Hid (O < w.heap.size) := HO.out.lt
  have HR2 := Lib.hid hset
  have HK2 := Lib.hid hks
  clear hBH hBL hBM hR1 hR2 hrow hset hks eH0
  go_upto_region 2 with fail
  generalize W1.setCell ⟨O, 0, none⟩ (.int .i64 0) = W2 at *
  clear q1 qr fr
  have HG : Hid (Box (W2.alloc (.cells #[.slice none 0 0] 104)) W2.heap.size 104 (.slice none 0 0)) := Box.new _ _ _
  have HK3 : Hid (Kept (fun k => k = O) W1 (W2.alloc (.cells #[.slice none 0 0] 104))) := HK2.out.alloc _
  have HP3 : Hid (PRow (W2.alloc (.cells #[.slice none 0 0] 104)) O (H0 l)) := ((Kept.refl (fun _ => False) W2).alloc _).same HR2.out id
  have HS2 : Hid (W1.heap.size ≤ W2.heap.size) := HK2.out.size
  go_upto_region 3 with fail
  generalize W2.alloc (.cells #[.slice none 0 0] 104) = W0 at *
  obtain ⟨g, hg⟩ : ∃ g, W2.heap.size = g := ⟨_, rfl⟩
  rw [hg] at HG ⊢
  have HGe : Hid (BH + 5 ≤ g ∧ g < W0.heap.size) := ⟨by have := HS2.out; have := H5.out.2.2.2.2.2.2; omega, HG.out.lt⟩
  clear hg HS2 HR2 HK2 HO
  have HKP : Hid (∀ V', Kept (fun k => k = O ∨ k = g ∨ noq k) W0 V' → Box V' BH 58 (.slice (some ⟨O, 0, none⟩) n n) ∧ Box V' BL 22 (.slice sa n c) ∧ Box V' BM 3 (.int .i64 most) ∧ Box V' R1 3 (.int .i64 0) ∧ Box V' R2 38 (.int .i64 0) ∧ Kept (fun k => k = O) w V') := fun V' hk => by
    obtain ⟨b1, b2, b3, b4, b5, hk5, hs5⟩ := H5.out
    obtain ⟨e1, e2, e3, e4, e5⟩ := HNu.out
    have e6 := HGe.out
    have e7 := HOw.out
    have hkk : Kept (fun k => k = O ∨ k = g) W1 V' := (HK3.out.mono fun k _ e => .inl e).trans (hk.mono fun k _ e => by
      rcases e with e | e | e
      · exact .inl e
      · exact .inr e
      · exact e.elim)
    exact ⟨b1.kept hkk (by omega), b2.kept hkk (by omega), b3.kept hkk (by omega), b4.kept hkk (by omega), b5.kept hkk (by omega), (hk5.mono fun k _ e => e.elim).trans' hkk (fun k hlt e => by omega)⟩
  have HW0 := Lib.hid (WSt.start (q := noq) HG.out HP3.out)
  have HPut := Lib.hid ((put_any HW0.out.bw HW0.out.own (Nat.le_refl _) (by simp) (by unfold Fal; exact List.Pairwise.nil) 0 (by omega) (fun x hx => by simp at hx) (by simp)).mono (fun e w' q => HW0.out.put q))
  clear H5 HK3 HP3 HG HW0
  go_wp2_with fail
  refine HPut.out.mono ?_
  rintro e Y4 ⟨a', c', R', rfl, p1, p2, p3, p4, p5, p6⟩
  have hR' : R' = [0] := by
    have h1 : R'.length = 1 := p1
    obtain ⟨y, rfl⟩ := List.length_eq_one_iff.1 h1
    have := (p3 y).1 (by simp)
    rcases this with e | e
    · rw [e]
    · simp at e
  subst hR'
  have HO6 := Lib.hid p6
  clear p1 p2 p3 p4 p5 p6 HPut
  go_wp2_with fail
  refine (turns_make g Y4).mono ?_
  rintro e W4 ⟨rfl, hW4⟩
  obtain ⟨bx, hbx⟩ : ∃ bx, Y4.heap.size = bx := ⟨_, rfl⟩
  obtain ⟨B, hB⟩ : ∃ B, bx + 1 = B := ⟨_, rfl⟩
  have HBe : Hid (W4.heap.size = B) := by show _ = _; rw [hW4, World.size_alloc, hbx, hB]
  generalize hv0 : (Value.slice a' (([] : List Nat).length + 1 : Nat) c') = v0 at *
  have HJ0 : Hid (TJ g O bx B W0 l most (l.length + 1) (H0 l) (D0 l) [0] v0 W4) := by
    have hK4 : Below Y4.heap.size Y4 W4 := by rw [hW4]; exact (Below.refl _ Y4).alloc (Nat.le_refl _) _
    have hw := HO6.out
    have e3 := hw.kp.size
    refine ⟨hw.below hK4, ?_, ⟨rfl, fc0 l, mid_start HF.out, h0_le l HF.out.some⟩, by omega, by omega, fun k hk => .inl ?_⟩
    · rw [hW4, ← hbx]; exact Box.new _ _ _
    · have := (hw.ge hk).2; omega
  have HBx : Hid (bx + 1 = B) := hB
  rw [hbx]
  clear hW4 hbx hB HO6 hv0
  go_wp2_with fail
  refine (wpIn_wide (n := 0)).1 ?_
  refine wpIn_rangeFunc_d (σ := List Nat × Value) (gf := 72) (lb := #[.pointer (some ⟨bx, 0, none⟩)]) rfl turns_enters (seq_turns W0.heap.size g bx) (fun _ => rfl)
    (fun N s V => ∃ H D, TJ g O bx B W0 l most N H D s.1 s.2 V ∧ Wai l H D s.1) (fun cd V => cd = .ret ∧ TE O R1 R2 w l most V)
    (fun N k V => ∃ rest H D v, TJ g O bx B W0 l most N H D rest v V ∧ Wai l H D (rest ++ [k]))
    ?hI ?hIx ?hIm ?hAt ?hmid (l.length + 1) ([0], v0) ⟨_, _, HJ0.out, Wai.start HF.out⟩
    (fun k => { tmps := #[.slice (some ⟨O, 0, none⟩) n n, .slice sa n c, .int .i64 most, .pointer (some ⟨BH, 0, none⟩), .pointer (some ⟨BL, 0, none⟩), .pointer (some ⟨BM, 0, none⟩), .pointer (some ⟨R1, 0, none⟩), .pointer (some ⟨R2, 0, none⟩), .pointer (some ⟨g, 0, none⟩), .int .i64 (k : Nat), undef, undef, undef, undef, .slice (some ⟨O, 0, none⟩) n n, .pointer (some ⟨O, 0, none⟩), .tuple #[], .func (.func 72) #[] #[.pointer (some ⟨bx, 0, none⟩)], .int .i64 (k : Nat), undef, undef, undef, undef, undef, undef, undef, undef, undef, undef, undef, undef, undef, undef, undef, undef, undef, undef, undef, undef, undef, undef, undef, undef, undef, undef, undef, undef, undef, undef, undef, undef, undef, undef, undef, undef, undef, undef, undef, undef, undef, undef, undef, undef, undef], defers := [] }) ?assign ?body ?done ?stop
  case hI =>
    rw [HBe.out]
    rintro N s A A' ⟨H, D, h1, h2⟩ hk
    exact ⟨H, D, h1.keep hk, h2⟩
  case hIx =>
    rw [HBe.out]
    rintro cd A A' ⟨h1, n', e', h2, h3, h4, h5, h6⟩ hk
    obtain ⟨e1, e2, e3, e4, e5⟩ := HNu.out
    have e6 := HGe.out
    have e7 := HJ0.out.xw
    exact ⟨h1, n', e', h2, h3, h4.kept hk (by omega), h5.kept hk (by omega), h6.trans' hk (fun k hlt e => by omega)⟩
  case hIm =>
    rw [HBe.out]
    rintro N k A A' ⟨rest, H, D, v, h1, h2⟩ hk
    exact ⟨rest, H, D, v, h1.keep hk, h2⟩
  case hAt =>
    rintro N ⟨R, v⟩ V ⟨H, D, h1, h2⟩
    exact ⟨h1.bb, h1.w.bw, h1.w.own, by have := fal_len h2.fal (fun x hx => ((h2.is x).1 hx).1); have := HL.out; simp only at *; omega⟩
  case hmid =>
    rintro N ⟨R, v⟩ x ⟨R', v'⟩ V V' ⟨H, D, h1, h2⟩ hst hat
    simp only at h1 h2
    obtain ⟨e1, e3, e4⟩ := h1.step hst hat
    rw [e1] at h2
    refine ⟨⟨R', H, D, v', e4, h2⟩, e3.mono fun j _ e => ?_⟩
    have := h1.w.lg
    have := h1.xw
    rw [HBe.out]
    have e2 : j = g := e
    omega
  case assign =>
    intro l z W K hK
    unfold encN
    gi_wp2_with fail
    exact hK
  case body =>
    rintro N k V hsz ⟨r0, hr0⟩ ⟨rest, H, D, v, h, hW⟩
    rw [HBe.out] at hsz hr0 ⊢
    obtain ⟨hkl, hk0, hkd, hkN⟩ := hW.pop
    have hkn : k < n := by have := HL.out; omega
    obtain ⟨bh, bl, bm, br1, br2, hkw⟩ := HKP.out V h.w.kp
    have HKw := Lib.hid hkw
    have HWi := Lib.hid hW
    have HJ := Lib.hid h
    have HV := Lib.hid hr0
    have HSz := Lib.hid hsz
    have qBL := bl.cell
    have qBH := bh.cell
    have qBM := bm.cell
    have HTab := Lib.hid (HT.out V hkw)
    have hlen : H.length = n := by have := h.hs.mid.len; have := HL.out; omega
    have qO := h.w.row.at (k := k) (by omega)
    obtain ⟨b, off, rfl, hc, hw⟩ := (HRow.out V hkw).at k hkn
    obtain ⟨c0, c1, c2, c3⟩ := hc
    have k0 : (0 : Int) ≤ k := by omega
    have k1 : (k : Int) < n := by omega
    obtain ⟨f, rfl⟩ : ∃ f, N = f + 1 := ⟨N - 1, by have := h.hs.fc; omega⟩
    have hhi := h.hs.hi k
    have Htk : Hid (tkL l k = takesI (l.getD k iz).op) := rfl
    have Hgv : Hid (gvL l k = givesI (l.getD k iz).op) := rfl
    have HLk : Hid (behL l k = behI (l.getD k iz) k) := rfl
    generalize hxx : l.getD k iz = x at *
    have HXx := Lib.hid hxx
    have HWx := Lib.hid hw
    obtain ⟨hk, hhk⟩ : ∃ hk, H.getD k 0 = hk := ⟨_, rfl⟩
    have HHk := Lib.hid hhk
    rw [hhk] at qO hhi hk0
    have HCk := Lib.hid (fun X (hX : Below V.heap.size V X) => hcheck_any x.op hk most hw.op.1 hw.op.2 ⟨hk0, hhi⟩ ⟨hm0, hm1⟩ X (HTab.out.below hX (Nat.le_refl _)))
    obtain ⟨ce, hce⟩ : ∃ ce, ckE x.op hk most = ce := ⟨_, rfl⟩
    have HCe := Lib.hid hce
    rw [hce] at HCk
    have HKd : Hid (nextN l H D = k ∧ k < l.length ∧ D.getD k false = false) := ⟨hkN, hkl, hkd⟩
    clear h hW hr0 hsz hkw bh bl bm br1 br2 hxx hw hhk hce hkN hkl hkd hlen
    obtain ⟨xo, xa, xb, xc⟩ := x
    simp only at *
    gi_wp2_with fail
    have hE := Posts.ext_rel
    refine (Posts.wpIn_region_tail hE 8 0 (Posts.At [Posts.is (.int .u8 xo), Posts.is (.slice (some ⟨O, 0, none⟩) n n), Posts.is (.int .i64 (k : Nat)), Posts.is (.pointer (some ⟨O, k, none⟩)), Posts.is (.int .i64 hk), Posts.is (.int .i64 most), Posts.is (.int .i64 ce), Posts.is (.int .i64 ce)]) (fun _ _ => True) (by kernel_rfl) (by decide) (by kernel_rfl) (by kernel_rfl) (by kernel_rfl)
      (Posts.stable_at _ (by repeat' (first | exact trivial | (refine And.intro ?_ ?_) | exact Posts.is_stable _ | exact Posts.on_stable _ _ | assumption))) trivial ?_ ?_)
    · refine ⟨?_, ?_, ?_, ?_, ?_, ?_, ?_, ?_, trivial⟩
      · intro a X hX hS hD hJ hU
        have x0 := (World.cell?_of_block (Posts.Ext.blk hX _ (World.block_lt_of_cell? _ _ qBH))).trans qBH
        have x1 := (World.cell?_of_block (Posts.Ext.blk hX _ (World.block_lt_of_cell? _ _ qO))).trans qO
        have x2 := (World.cell?_of_block (Posts.Ext.blk hX _ (World.block_lt_of_cell? _ _ qBM))).trans qBM
        have d10 := Posts.slot (show a.eval (.tmp 10) = .int .u8 xo from hS.other 10 rfl)
        exact Posts.op_value (fun _ => trivial) rfl rfl (by intro c h; cases h) rfl (by rw [hS.size]; simp) (v := .int .u8 xo) (by simp [execOp, d10,  go_sem, x0, x1, x2, k0, k1]) rfl (hE.refl _) trivial
      · intro a X hX hS hD hJ hU
        have x0 := (World.cell?_of_block (Posts.Ext.blk hX _ (World.block_lt_of_cell? _ _ qBH))).trans qBH
        have x1 := (World.cell?_of_block (Posts.Ext.blk hX _ (World.block_lt_of_cell? _ _ qO))).trans qO
        have x2 := (World.cell?_of_block (Posts.Ext.blk hX _ (World.block_lt_of_cell? _ _ qBM))).trans qBM
        have d3 := Posts.slot (show a.eval (.tmp 3) = .pointer (some ⟨BH, 0, none⟩) from hS.other 3 rfl)
        exact Posts.op_value (fun _ => trivial) rfl rfl (by intro c h; cases h) rfl (by rw [hS.size]; simp) (v := .slice (some ⟨O, 0, none⟩) n n) (by simp [execOp, d3,  go_sem, x0, x1, x2, k0, k1]) rfl (hE.refl _) trivial
      · intro a X hX hS hD hJ hU
        have x0 := (World.cell?_of_block (Posts.Ext.blk hX _ (World.block_lt_of_cell? _ _ qBH))).trans qBH
        have x1 := (World.cell?_of_block (Posts.Ext.blk hX _ (World.block_lt_of_cell? _ _ qO))).trans qO
        have x2 := (World.cell?_of_block (Posts.Ext.blk hX _ (World.block_lt_of_cell? _ _ qBM))).trans qBM
        have d9 := Posts.slot (show a.eval (.tmp 9) = .int .i64 (k : Nat) from hS.other 9 rfl)
        exact Posts.op_value (fun _ => trivial) rfl rfl (by intro c h; cases h) rfl (by rw [hS.size]; simp) (v := .int .i64 (k : Nat)) (by simp [execOp, d9,  go_sem, x0, x1, x2, k0, k1]) rfl (hE.refl _) trivial
      · intro a X hX hS hD hJ hU
        have x0 := (World.cell?_of_block (Posts.Ext.blk hX _ (World.block_lt_of_cell? _ _ qBH))).trans qBH
        have x1 := (World.cell?_of_block (Posts.Ext.blk hX _ (World.block_lt_of_cell? _ _ qO))).trans qO
        have x2 := (World.cell?_of_block (Posts.Ext.blk hX _ (World.block_lt_of_cell? _ _ qBM))).trans qBM
        have d25 := Posts.slot (show a.eval (.tmp 25) = .slice (some ⟨O, 0, none⟩) n n from hD.1)
        have d26 := Posts.slot (show a.eval (.tmp 26) = .int .i64 (k : Nat) from hD.2.1)
        exact Posts.op_value (fun _ => trivial) rfl rfl (by intro c h; cases h) rfl (by rw [hS.size]; simp) (v := .pointer (some ⟨O, k, none⟩)) (by simp [execOp, d25, d26,  go_sem, x0, x1, x2, k0, k1]) rfl (hE.refl _) trivial
      · intro a X hX hS hD hJ hU
        have x0 := (World.cell?_of_block (Posts.Ext.blk hX _ (World.block_lt_of_cell? _ _ qBH))).trans qBH
        have x1 := (World.cell?_of_block (Posts.Ext.blk hX _ (World.block_lt_of_cell? _ _ qO))).trans qO
        have x2 := (World.cell?_of_block (Posts.Ext.blk hX _ (World.block_lt_of_cell? _ _ qBM))).trans qBM
        have d27 := Posts.slot (show a.eval (.tmp 27) = .pointer (some ⟨O, k, none⟩) from hD.1)
        exact Posts.op_value (fun _ => trivial) rfl rfl (by intro c h; cases h) rfl (by rw [hS.size]; simp) (v := .int .i64 hk) (by simp [execOp, d27,  go_sem, x0, x1, x2, k0, k1]) rfl (hE.refl _) trivial
      · intro a X hX hS hD hJ hU
        have x0 := (World.cell?_of_block (Posts.Ext.blk hX _ (World.block_lt_of_cell? _ _ qBH))).trans qBH
        have x1 := (World.cell?_of_block (Posts.Ext.blk hX _ (World.block_lt_of_cell? _ _ qO))).trans qO
        have x2 := (World.cell?_of_block (Posts.Ext.blk hX _ (World.block_lt_of_cell? _ _ qBM))).trans qBM
        have d5 := Posts.slot (show a.eval (.tmp 5) = .pointer (some ⟨BM, 0, none⟩) from hS.other 5 rfl)
        exact Posts.op_value (fun _ => trivial) rfl rfl (by intro c h; cases h) rfl (by rw [hS.size]; simp) (v := .int .i64 most) (by simp [execOp, d5,  go_sem, x0, x1, x2, k0, k1]) rfl (hE.refl _) trivial
      · intro a X hX hS hD hJ hU
        have x0 := (World.cell?_of_block (Posts.Ext.blk hX _ (World.block_lt_of_cell? _ _ qBH))).trans qBH
        have x1 := (World.cell?_of_block (Posts.Ext.blk hX _ (World.block_lt_of_cell? _ _ qO))).trans qO
        have x2 := (World.cell?_of_block (Posts.Ext.blk hX _ (World.block_lt_of_cell? _ _ qBM))).trans qBM
        have d24 := Posts.slot (show a.eval (.tmp 24) = .int .u8 xo from hD.1)
        have d28 := Posts.slot (show a.eval (.tmp 28) = .int .i64 hk from hD.2.1)
        have d29 := Posts.slot (show a.eval (.tmp 29) = .int .i64 most from hD.2.2.1)
        refine Posts.op_call (fun _ => trivial) rfl rfl rfl (by intro c h; cases h) rfl (by rw [hS.size]; simp) 56 #[.int .u8 xo, .int .i64 hk, .int .i64 most] (by simp [execOp, d24, d28, d29, go_sem]) ?_
        refine CallsIn.inRound _ (callsIn_wide.2 ((HCk.out X hX).mono ?_))
        rintro e Y ⟨rfl, hb⟩
        exact ⟨_, rfl, rfl, hb, trivial⟩
      · intro a X hX hS hD hJ hU
        have x0 := (World.cell?_of_block (Posts.Ext.blk hX _ (World.block_lt_of_cell? _ _ qBH))).trans qBH
        have x1 := (World.cell?_of_block (Posts.Ext.blk hX _ (World.block_lt_of_cell? _ _ qO))).trans qO
        have x2 := (World.cell?_of_block (Posts.Ext.blk hX _ (World.block_lt_of_cell? _ _ qBM))).trans qBM
        have d30 := Posts.slot (show a.eval (.tmp 30) = .int .i64 ce from hD.1)
        exact Posts.op_value (fun _ => trivial) rfl rfl (by intro c h; cases h) rfl (by rw [hS.size]; simp) (v := .int .i64 ce) (by simp [execOp, d30,  go_sem, x0, x1, x2, k0, k1]) rfl (hE.refl _) trivial
    · intro a0 Y hY hS hJt hL
      have p24 := Posts.slot (show a0.eval (.tmp 24) = .int .u8 xo from hL.1)
      have p25 := Posts.slot (show a0.eval (.tmp 25) = .slice (some ⟨O, 0, none⟩) n n from hL.2.1)
      have p26 := Posts.slot (show a0.eval (.tmp 26) = .int .i64 (k : Nat) from hL.2.2.1)
      have p27 := Posts.slot (show a0.eval (.tmp 27) = .pointer (some ⟨O, k, none⟩) from hL.2.2.2.1)
      have p28 := Posts.slot (show a0.eval (.tmp 28) = .int .i64 hk from hL.2.2.2.2.1)
      have p29 := Posts.slot (show a0.eval (.tmp 29) = .int .i64 most from hL.2.2.2.2.2.1)
      have p30 := Posts.slot (show a0.eval (.tmp 30) = .int .i64 ce from hL.2.2.2.2.2.2.1)
      have p11 := Posts.slot (show a0.eval (.tmp 11) = .int .i64 ce from hL.2.2.2.2.2.2.2.1)
      have hfr := hS.frame [24, 25, 26, 27, 28, 29, 30, 11] (fun t ht => by simp [Posts.isDst] at ht; first | (rcases ht with h | h | h | h | h | h | h | h <;> subst h <;> simp) | (subst ht; simp))
      simp only [List.foldl_cons, List.foldl_nil] at hfr
      have hdf := hS.defers
      simp only [Array.getD_eq_getD_getElem?] at hfr
      clear hL hS
      generalize a0.tmps[24]?.getD undef = v24 at *
      generalize a0.tmps[25]?.getD undef = v25 at *
      generalize a0.tmps[26]?.getD undef = v26 at *
      generalize a0.tmps[27]?.getD undef = v27 at *
      generalize a0.tmps[28]?.getD undef = v28 at *
      generalize a0.tmps[29]?.getD undef = v29 at *
      generalize a0.tmps[30]?.getD undef = v30 at *
      generalize a0.tmps[11]?.getD undef = v11 at *
      obtain rfl := p24
      obtain rfl := p25
      obtain rfl := p26
      obtain rfl := p27
      obtain rfl := p28
      obtain rfl := p29
      obtain rfl := p30
      obtain rfl := p11
      obtain ⟨tm, df⟩ := a0
      simp only [List.setIfInBounds_toArray, List.set_cons_succ, List.set_cons_zero] at hfr hdf
      subst hfr
      subst hdf
      refine ⟨by kernel_rfl, ?_⟩
      simp only [Exit.inBlock, Exit.then]
      first
        | (rename_i hK; refine hK _ _ ?_)
        | (rename_i hK _; refine hK _ _ ?_)
        | (rename_i hK _ _; refine hK _ _ ?_)
      have HJy := Lib.hid (HJ.out.below hY)
      have HKb : Hid (Kept (fun j => j ≠ B ∧ j ≠ B + 1) V Y) := kept_of hY fun j h1 h2 => absurd h1 (by omega)
      obtain ⟨bh, bl, bm, br1, br2, hkw⟩ := HKP.out Y HJy.out.w.kp
      have HKwy := Lib.hid hkw
      have HTy := Lib.hid (HT.out Y hkw)
      have HBl := Lib.hid bl
      have hpk := hJt
      clear hpk
      have HEx : Hid (ce ≠ 0 → htGo l most (l.length + 1) (H0 l) (D0 l) = ([], k, ce)) := fun hz => by
        have hgo := HJ.out.hs.go
        have hc := HCe.out
        unfold ckE at hc
        rw [← hgo]
        split at hc
        · rename_i h1
          rw [← hc]
          exact go_under HKd.out.1 HKd.out.2.1 (by rw [HHk.out, Htk.out]; exact h1)
        · rename_i h1
          split at hc
          · rename_i h2
            rw [← hc]
            exact go_over HKd.out.1 HKd.out.2.1 (by rw [HHk.out, Htk.out]; exact h1) (by rw [HHk.out, Htk.out, Hgv.out]; exact h2)
          · exact absurd hc.symm hz
      clear hE hY qBL qBH qBM qO c0 c1 c2 c3 HCk hK
      by_cases hz : ce = 0
      rotate_left
      · have hne : (ce != 0) = true := by simpa using hz
        have HEr := Lib.hid (HEx.out hz)
        have HZ : Hid (ce ≠ 0) := hz
        have q6 := br1.cell
        have f6 := br1.free
        have e12 : R2 ≠ R1 := by have := HNu.out; omega
        have b2' := br2.other e12 0 (.int .i64 (k : Nat))
        have q7 := b2'.cell
        have f7 := b2'.free
        have HFin : Hid (TE O R1 R2 w l most ((Y.setCell ⟨R1, 0, none⟩ (.int .i64 (k : Nat))).setCell ⟨R2, 0, none⟩ (.int .i64 ce))) := by
          have k1 : Kept (fun j => j = R1) Y (Y.setCell ⟨R1, 0, none⟩ (.int .i64 (k : Nat))) := kept_set _ _ _ _ rfl
          have k2 : Kept (fun j => j = R2) (Y.setCell ⟨R1, 0, none⟩ (.int .i64 (k : Nat))) ((Y.setCell ⟨R1, 0, none⟩ (.int .i64 (k : Nat))).setCell ⟨R2, 0, none⟩ (.int .i64 ce)) := kept_set _ _ _ _ rfl
          have e := HNu.out
          exact ⟨k, ce, HEr.out, HZ.out, (br1.set _).kept k2 e12.symm, b2'.set _, (hkw.trans' k1 (fun j hj e2 => by have e3 : j = R1 := e2; omega)).trans' k2 (fun j hj e2 => by have e3 : j = R2 := e2; omega)⟩
        have HKf : Hid (Kept (fun j => j ≠ B ∧ j ≠ B + 1) V ((Y.setCell ⟨R1, 0, none⟩ (.int .i64 (k : Nat))).setCell ⟨R2, 0, none⟩ (.int .i64 ce))) := by
          have e := HNu.out
          have e6 := HGe.out
          have e7 := HJ0.out.xw
          exact (HKb.out.setCell (x := ⟨R1, 0, none⟩) (.inl ⟨by show R1 ≠ B; omega, by show R1 ≠ B + 1; omega⟩) _).setCell (x := ⟨R2, 0, none⟩) (.inl ⟨by show R2 ≠ B; omega, by show R2 ≠ B + 1; omega⟩) _
        clear hz bh bl bm br1 br2 hkw e12 b2'
        gi_wp2_with fail
        simp only [Exit.inBlock, postD]
        exact ⟨HKf.out, by first | trivial | rfl, HFin.out⟩
      have hu : ¬ hk - tkL l k < 0 := by
        have hc := HCe.out
        unfold ckE at hc
        rw [Htk.out]
        intro h1
        rw [if_pos h1, hz] at hc
        omega
      have ho : ¬ most < hk - tkL l k + gvL l k := by
        have hc := HCe.out
        unfold ckE at hc
        rw [Htk.out] at hu ⊢
        rw [Hgv.out]
        intro h1
        rw [if_neg hu, if_pos h1, hz] at hc
        omega
      have hg0 := givesI_in xo
      have ht0 := takesI_in xo
      have HBh := Lib.hid (hbehind_any xo hk HWx.out.op.1 HWx.out.op.2 ⟨by omega, by omega⟩ Y HTy.out)
      obtain ⟨hh, hhh⟩ : ∃ hh, hk - takesI xo + givesI xo = hh := ⟨_, rfl⟩
      have HHh := Lib.hid hhh
      have HEq : Hid (H.getD k 0 - tkL l k + gvL l k = hh) := by
        show _ = _
        rw [HHk.out, Htk.out, Hgv.out]
        exact hhh
      rw [hhh] at HBh
      have hh0 : 0 ≤ hh := by have h1 := Htk.out; omega
      have hh1 : hh ≤ 64 := by have h1 := Htk.out; have h2 := Hgv.out; omega
      have HU := Lib.hid hu
      have HO2 := Lib.hid ho
      have qBH := bh.cell
      have qO := HJy.out.w.row.at (k := k) (by have := HJy.out.hs.mid.len; have := HL.out; omega)
      rw [HHk.out] at qO
      subst hz
      clear hu ho hhh hg0 ht0 bh bl bm br1 br2 hkw HEx HCe HTy
      gi_wp2_with fail
      refine ⟨trivial, rfl, ?_⟩
      refine CallsIn.mono (CallsIn.inRound (B + 1) (callsIn_wide.2 HBh.out)) ?_
      rintro e Y2 ⟨rfl, hb2⟩
      gi_upto_region 11 with fail
      have HB12 : Hid (Box (Y2.alloc (.cells #[.int .i64 hh] 3)) Y2.heap.size 3 (.int .i64 hh)) := Box.new _ _ _
      have HJ3 : Hid (TJ g O bx B W0 l most (f + 1) H D rest v (Y2.alloc (.cells #[.int .i64 hh] 3))) := (HJy.out.below hb2).below ((Below.refl _ _).alloc (Nat.le_refl _) _)
      have HK3b : Hid (Kept (fun j => j ≠ B ∧ j ≠ B + 1) V (Y2.alloc (.cells #[.int .i64 hh] 3))) := (HKb.out.trans (kept_of hb2 fun j h1 h2 => absurd h1 (by omega))).alloc _
      have HSz3 : Hid (V.heap.size ≤ Y2.heap.size ∧ (Y2.alloc (.cells #[.int .i64 hh] 3)).heap.size = Y2.heap.size + 1) := ⟨Nat.le_trans HKb.out.size hb2.size, World.size_alloc _ _⟩
      obtain ⟨S12, hS12⟩ : ∃ x, Y2.heap.size = x := ⟨_, rfl⟩
      rw [hS12] at HB12 HSz3 ⊢
      generalize Y2.alloc (.cells #[.int .i64 hh] 3) = Y3 at *
      have hv12 : ∀ j, v.ownBlock = some j → j < S12 := fun j hj => by have := (HJy.out.w.ge hj).2; have := hb2.size; omega
      have HV12 := Lib.hid hv12
      clear hb2 hS12 qBH qO HBh HJy hv12
      obtain ⟨bh, bl, bm, br1, br2, hkw⟩ := HKP.out Y3 HJ3.out.w.kp
      have qBL := bl.cell
      obtain ⟨b', off', e, hc, _⟩ := (HRow.out Y3 hkw).at k hkn
      injection e with e
      injection e with e1 e2
      subst e1
      subst e2
      rw [HXx.out] at hc
      obtain ⟨c0, c1, c2, c3⟩ := hc
      have HMake := Lib.hid (behind_make ⟨xo, xa, xb, xc⟩ HWx.out k (by omega) Y3)
      unfold iv at HMake
      simp only at *
      clear bh bl bm br1 br2 hkw
      gi_wp2_with fail
      refine ⟨trivial, rfl, ?_⟩
      refine CallsIn.mono (CallsIn.inRound (B + 1) (callsIn_wide.2 HMake.out)) ?_
      rintro e W6 ⟨v6, rfl, F, lb, cx, rfl, heg, hseq, hb6, hcc⟩
      have hLk : behI ⟨xo, xa, xb, xc⟩ k = behL l k := HLk.out.symm
      rw [hLk] at hseq
      obtain ⟨Xs, hXs⟩ : ∃ x, Y3.heap.size = x := ⟨_, rfl⟩
      obtain ⟨B2, hB2⟩ : ∃ x, W6.heap.size = x := ⟨_, rfl⟩
      have HXs : Hid (Xs = S12 + 1) := by show _ = _; rw [← hXs]; exact HSz3.out.2
      have hXB : Xs ≤ B2 := by have := hb6.size; omega
      have hKb6 : Kept (fun j => j ≠ B ∧ j ≠ B + 1) V W6 := HK3b.out.trans (kept_of hb6 fun j h1 h2 => absurd h1 (by omega))
      have HTX : Hid (TX g O bx B Xs B2 S12 W0) := by
        have h := HJ3.out
        have e1 := h.w.lg
        have e2 := h.w.lO
        have e3 := h.xw
        have e4 := h.xx
        have e5 := HXs.out
        have e6 := HSz3.out.1
        have e7 := HSz.out
        exact ⟨by omega, by omega, e4, by omega, by omega, hXB, by omega, e3⟩
      have HCc : Hid (∀ j, cx j → Xs ≤ j ∧ j < B2) := fun j hj => by have := hcc j hj; omega
      have HB2 := Lib.hid hB2
      have HV6 : Hid (∃ r, W6.heap[B + 1]? = some (.loop r)) := ⟨_, hKb6.same HV.out (by rintro ⟨_, h⟩; exact h rfl)⟩
      have HI0 : Hid (∃ R A v, TI g O bx B Xs B2 S12 W0 V hh H rest [] R A v W6) := by
        have h6 := HJ3.out.below hb6
        refine ⟨rest, H, v, h6.w, h6.bb, HB12.out.below hb6 (Nat.le_refl _), HWi.out.mid hh, fun j hj => .inl ?_, h6.vb, fun j hj => ?_, hKb6⟩
        · have := HV12.out j hj; have := HXs.out; omega
        · have := HV12.out j hj; omega
      have HSq := Lib.hid hseq
      have HEg := Lib.hid heg
      clear hXs hB2 hXB hb6 hcc hseq heg HMake c0 c1 c2 c3 qBL hKb6 HB12 HSz3 HK3b hLk
      gi_wp2_with fail
      refine wpIn_rangeFunc_r (l₀ := B + 1) HV6.out (gf := F) (lb := lb) rfl HEg.out HSq.out (Kept.refl _ _) (fun j hj => by rw [HB2.out]; exact (HCc.out j hj).2) (fun _ => rfl)
        (fun pre V' => ∃ R A v, TI g O bx B Xs B2 S12 W0 V hh H rest pre R A v V') (fun cd _ V' => cd = .ret ∧ TE O R1 R2 w l most V' ∧ Kept (fun j => j ≠ B ∧ j ≠ B + 1) V V') (by rw [HB2.out]; exact fun _ _ _ h hk => ti_keep HTX.out h hk) ?ix2 HI0.out
        (fun z => { tmps := #[.slice (some ⟨O, 0, none⟩) n n, .slice (some ⟨b, off, none⟩) n c, .int .i64 most, .pointer (some ⟨BH, 0, none⟩), .pointer (some ⟨BL, 0, none⟩), .pointer (some ⟨BM, 0, none⟩), .pointer (some ⟨R1, 0, none⟩), .pointer (some ⟨R2, 0, none⟩), .pointer (some ⟨g, 0, none⟩), .int .i64 (k : Nat), .int .u8 xo, .int .i64 0, .pointer (some ⟨S12, 0, none⟩), .int .i64 (z : Nat), .slice (some ⟨O, 0, none⟩) n n, .pointer (some ⟨O, 0, none⟩), .tuple #[], .func (.func 72) #[] #[.pointer (some ⟨bx, 0, none⟩)], .int .i64 (k : Nat), .slice (some ⟨b, off, none⟩) n c, .int .i64 (k : Nat), .pointer (some ⟨b, off + k * 4, none⟩), .pointer (some ⟨b, off + k * 4, none⟩), .int .u8 xo, .int .u8 xo, .slice (some ⟨O, 0, none⟩) n n, .int .i64 (k : Nat), .pointer (some ⟨O, k, none⟩), .int .i64 hk, .int .i64 most, .int .i64 0, .int .i64 0, .bool false, undef, undef, .int .u8 xo, .slice (some ⟨O, 0, none⟩) n n, .int .i64 (k : Nat), .pointer (some ⟨O, k, none⟩), .int .i64 hk, .int .i64 hh, .slice (some ⟨b, off, none⟩) n c, .int .i64 (k : Nat), .pointer (some ⟨b, off + k * 4, none⟩), .agg #[.int .u8 xo, .int .u8 xa, .int .u16 xb, .int .u32 xc], .int .i64 (k : Nat), .func (.func F) #[] lb, .int .i64 (z : Nat), undef, undef, undef, undef, undef, undef, undef, undef, undef, undef, undef, undef, undef, undef, undef, undef], defers := [] }) ?assign2 ?body2 ?done2 ?stop2
      case ix2 =>
        rw [HB2.out]
        rintro cd s A A' ⟨h1, ⟨n', e', h2, h3, h4, h5, h6⟩, h7⟩ hk
        obtain ⟨e1, e2, e3, e4, e5⟩ := HNu.out
        have e6 := HGe.out
        have e7 := HJ0.out.xw
        have e8 := HTX.out.xb
        have e9 := HTX.out.xB
        exact ⟨h1, ⟨n', e', h2, h3, h4.kept hk (by omega), h5.kept hk (by omega), h6.trans' hk (fun j hlt e => by have e3 : j = B2 := e; omega)⟩, h7.trans (hk.mono fun j _ e => by have e3 : j = B2 := e; omega)⟩
      case assign2 =>
        intro l z W K hK
        unfold encN
        gi_wp2_with fail
        exact hK
      case body2 =>
        rintro l2 pre z V' hpx hszV ⟨R, A, v', h⟩
        rw [HB2.out] at hszV ⊢
        have hzm : z ∈ behL l k := hpx.subset (by simp)
        have hkl : k < l.length := HKd.out.2.1
        have hzn : z < n := by have := beh_lt HF.out HWf.out hkl hzm; have := HL.out; omega
        have hzp := prefix_new hpx (beh_nodup l k)
        have hprel : ∀ x ∈ pre, x < H.length := fun x hx => by rw [HJ.out.hs.mid.len]; exact beh_lt HF.out HWf.out hkl (hpx.subset (by simp [hx]))
        have hrest : ∀ m ∈ rest, m < l.length ∧ 0 ≤ H.getD m 0 := fun m hm => by have := (HWi.out.is m).1 (by simp [hm]); exact ⟨this.1, this.2.1⟩
        have hAz := h.m.at (x := z) hh0 hprel hzp
        have hlow := HJ.out.hs.mid.low z (by have := HL.out; omega)
        have hAlen : A.length = n := by have := h.m.len; have := HJ.out.hs.mid.len; have := HL.out; omega
        obtain ⟨bh, bl, bm, br1, br2, hkw⟩ := HKP.out V' h.w.kp
        have q1 := bh.cell
        have q12 := h.b12.cell
        have qz := h.w.row.at (k := z) (by omega)
        have fz := h.w.row.free z
        have z0 : (0 : Int) ≤ z := by omega
        have z1 : (z : Int) < n := by omega
        have HI := Lib.hid h
        have HSz2 := Lib.hid hszV
        have HP := Lib.hid hpx
        have HZp : Hid (z ∉ pre) := hzp
        have hls := h.w.set z hh
        have HLs := Lib.hid hls
        have HOut : Hid (∀ j, (j = O ∨ v'.ownBlock = some j ∨ j = g) → (¬ cx j ∧ j ≠ B2) ∧ (j ≠ B ∧ j ≠ B + 1)) := by
          have x1 := HTX.out.xg
          have x2 := HTX.out.xO
          have x3 := HTX.out.xb
          have x4 := HTX.out.xB
          rintro j (e | e | e)
          · exact ⟨⟨fun q => by have := HCc.out _ q; omega, by omega⟩, by omega, by omega⟩
          · have h1 := h.vb j e
            have h2 := h.vb2 j e
            exact ⟨⟨fun q => by have := HCc.out _ q; omega, by omega⟩, by omega, by omega⟩
          · exact ⟨⟨fun q => by have := HCc.out _ q; omega, by omega⟩, by omega, by omega⟩
        have hRl : ∀ m ∈ R, m < n := fun m hm => by
          rcases (h.m.is m).1 hm with q | q
          · have := (hrest m q).1; have := HL.out; omega
          · have := hprel m q.1; have := HJ.out.hs.mid.len; have := HL.out; omega
        have hRn := fal_len h.m.fal hRl
        have HKwe := Lib.hid hkw
        have HR1 := Lib.hid br1
        have HR2 := Lib.hid br2
        obtain ⟨az, haz⟩ : ∃ az, A.getD z 0 = az := ⟨_, rfl⟩
        rw [haz] at qz hAz
        have hal : -1 ≤ az := by omega
        have HAz := Lib.hid haz
        have HHz : Hid (az = H.getD z 0) := hAz
        have HAl : Hid (z < A.length) := by show _ < _; omega
        have HPutf := Lib.hid (fun (hzR : z ∉ R) => (put_any hls.2.bw hls.2.own hls.2.kp.size (by omega) h.m.fal z (by omega) (fun x hx => by have := hRl x hx; omega) hzR).mono (fun e w' q => hls.2.put q))
        have HWait := Lib.hid (fun hn => h.m.wait (x := z) (fun m hm => (hrest m hm).2) hzp hn)
        clear h hls hRl hRn haz hAz hpx hszV hzm hzp hprel hrest hAlen hlow bh bl bm br1 br2 hkw hkl
        by_cases e1 : az = -1
        · subst e1
          have hneg : H.getD z 0 < 0 := by have := HHz.out; omega
          have HPut := Lib.hid (HPutf.out (HWait.out hneg))
          have HNeg : Hid (H.getD z 0 < 0) := hneg
          clear hneg HPutf HWait
          gi_wp2_with fail
          refine ⟨trivial, rfl, ?_⟩
          refine CallsIn.mono (CallsIn.inRound l2 (callsIn_wide.2 HPut.out)) ?_
          rintro e Y4 ⟨a', c', R', rfl, p1, p2, p3, p4, p5, p6⟩
          have hsz2 : (V'.setCell ⟨O, z, none⟩ (.int .i64 hh)).heap.size = V'.heap.size := setCell_size _ _ _ _
          have hk2 := (HLs.out.1.mono (q := fun j => j = O ∨ v'.ownBlock = some j ∨ j = g) fun j _ e => .inl e).trans (p5.mono fun j _ e => .inr e)
          have HFin : Hid (TI g O bx B Xs B2 S12 W0 V hh H rest (pre ++ [z]) R' (A.set z hh) (.slice a' (R.length + 1 : Nat) c') Y4) := by
            have hI := HI.out
            have hor : ∀ j, (Value.slice a' (R.length + 1 : Nat) c').ownBlock = some j → v'.ownBlock = some j ∨ V'.heap.size ≤ j := fun j hj => by
              rcases p4 with e | ⟨g', e, hge⟩
              · rw [e] at hj; exact .inl hj
              · rw [e] at hj; cases hj; exact .inr (by omega)
            have x3 := HTX.out.xb
            have x4 := HTX.out.xB
            have x5 := HTX.out.x12
            have x6 := HSz2.out
            refine ⟨p6, hI.bb.kept hk2 ?_, hI.b12.kept hk2 ?_, hI.m.new (by have := HAz.out; omega) HNeg.out p2 p3, fun j hj => ?_, fun j hj => ?_, fun j hj => ?_, hI.kb.trans (hk2.mono fun j _ e => (HOut.out j e).2)⟩
            · rintro (e | e | e)
              · exact box_ne_row hI.bb hI.w.row (by decide) e
              · exact box_ne_own hI.bb hI.w.own (by decide) e rfl
              · exact box_ne hI.bb hI.w.bw (by decide) e
            · rintro (e | e | e)
              · have := HTX.out.xO; have := HTX.out.y12; omega
              · exact hI.v12 S12 e rfl
              · exact box_ne hI.b12 hI.w.bw (by decide) e
            · rcases hor j hj with e | e
              · exact hI.vb j e
              · exact .inr (by omega)
            · rcases hor j hj with e | e
              · exact hI.vb2 j e
              · exact .inr (by omega)
            · rcases hor j hj with e | e
              · exact hI.v12 j e
              · omega
          have HK2 := Lib.hid hk2
          clear p1 p2 p3 p4 p5 p6 HPut q1 q12 qz fz hk2 hsz2
          gi_wp2_with fail
          simp only [Exit.inBlock, postR]
          exact ⟨HK2.out.mono fun j _ e => (HOut.out j e).1, _, _, _, HFin.out⟩
        have hnn : 0 ≤ az := by omega
        have hd1 : (az == -1) = false := by simpa using e1
        clear HPutf HWait fz
        by_cases e2 : az = hh
        · subst e2
          have HFin : Hid (TI g O bx B Xs B2 S12 W0 V az H rest (pre ++ [z]) R A v' V') := by
            have hI := HI.out
            exact ⟨hI.w, hI.bb, hI.b12, hI.m.same HAl.out HAz.out (by have := HHz.out; omega), hI.vb, hI.vb2, hI.v12, hI.kb⟩
          clear e1
          gi_wp2_with fail
          simp only [Exit.inBlock, postR]
          exact ⟨Kept.refl _ _, _, _, _, HFin.out⟩
        · have hd2 : (az == hh) = false := by simpa using e2
          have q6 := HR1.out.cell
          have f6 := HR1.out.free
          have e12 : R2 ≠ R1 := by have := HNu.out; omega
          have b2' := HR2.out.other e12 0 (.int .i64 (z : Nat))
          have q7 := b2'.cell
          have f7 := b2'.free
          have HFin : Hid (TE O R1 R2 w l most ((V'.setCell ⟨R1, 0, none⟩ (.int .i64 (z : Nat))).setCell ⟨R2, 0, none⟩ (.int .i64 120))) := by
            have k1 : Kept (fun j => j = R1) V' (V'.setCell ⟨R1, 0, none⟩ (.int .i64 (z : Nat))) := kept_set _ _ _ _ rfl
            have k2 : Kept (fun j => j = R2) (V'.setCell ⟨R1, 0, none⟩ (.int .i64 (z : Nat))) ((V'.setCell ⟨R1, 0, none⟩ (.int .i64 (z : Nat))).setCell ⟨R2, 0, none⟩ (.int .i64 120)) := kept_set _ _ _ _ rfl
            have e := HNu.out
            refine ⟨z, 120, ?_, by omega, (HR1.out.set _).kept k2 e12.symm, b2'.set _, (HKwe.out.trans' k1 (fun j hj e2 => by have e3 : j = R1 := e2; omega)).trans' k2 (fun j hj e2 => by have e3 : j = R2 := e2; omega)⟩
            rw [← HJ.out.hs.go]
            refine go_height HKd.out.1 HKd.out.2.1 (by rw [HHk.out]; have := HU.out; omega) (by rw [HHk.out]; have := HO2.out; omega) ?_
            rw [HEq.out]
            exact HI.out.m.bad HP.out (by rw [HAz.out]; exact hnn) (by rw [HAz.out]; exact e2)
          have hkk : Kept (fun j => j = R1 ∨ j = R2) V' ((V'.setCell ⟨R1, 0, none⟩ (.int .i64 (z : Nat))).setCell ⟨R2, 0, none⟩ (.int .i64 120)) := ((Kept.refl (fun j => j = R1 ∨ j = R2) V').setCell (x := ⟨R1, 0, none⟩) (.inl (.inl rfl)) _).setCell (x := ⟨R2, 0, none⟩) (.inl (.inr rfl)) _
          have HKk := Lib.hid hkk
          have HRr : Hid (∀ j, (j = R1 ∨ j = R2) → (¬ cx j ∧ j ≠ B2) ∧ (j ≠ B ∧ j ≠ B + 1)) := by
            have x3 := HTX.out.xb
            have x4 := HTX.out.xB
            have x5 := HNu.out
            have x6 := HGe.out
            have x7 := HTX.out.xg
            rintro j (e | e)
            · exact ⟨⟨fun q => by have := HCc.out _ q; omega, by omega⟩, by omega, by omega⟩
            · exact ⟨⟨fun q => by have := HCc.out _ q; omega, by omega⟩, by omega, by omega⟩
          clear e1 e2 e12 b2' hkk hnn
          gi_wp2_with fail
          simp only [Exit.inBlock, postR]
          exact ⟨HKk.out.mono fun j _ e => (HRr.out j e).1, by first | trivial | rfl, HFin.out, HI.out.kb.trans (HKk.out.mono fun j _ e => (HRr.out j e).2)⟩
      case done2 =>
        rintro V' ⟨R, A, v', h⟩ hszV
        simp only [Exit.inBlock, Exit.then, postD]
        have hmid := HJ.out.hs.mid
        have hb : ∀ m ∈ behL l k, m < l.length := fun m hm => beh_lt HF.out HWf.out HKd.out.2.1 hm
        have hp : push (H.getD k 0 - tkL l k + gvL l k) (behL l k) H = (A, none) := by rw [HEq.out]; exact h.m.told
        have hu2 : ¬ H.getD k 0 - tkL l k < 0 := by rw [HHk.out]; have := HU.out; omega
        have ho2 : ¬ most < H.getD k 0 - tkL l k + gvL l k := by rw [HHk.out]; have := HO2.out; omega
        have hgo := HJ.out.hs.go
        rw [go_next HKd.out.1 HKd.out.2.1 hu2 ho2 hp] at hgo
        have hfc := fcount_down (D := D) (n := k) (by rw [hmid.dlen]; exact HKd.out.2.1) HKd.out.2.2
        have hfc2 := HJ.out.hs.fc
        have hst := (mid_step (most := most) HF.out HWf.out hmid HKd.out.2.1 (by rw [HHk.out]; exact hk0) HKd.out.2.2 hu2 (givesI_in _).1 ho2 (by rw [hp])).1
        rw [hp] at hst
        have hle := push_le (h := hh) (b := 64) hh1 (by omega) (behL l k) H HJ.out.hs.hi
        rw [h.m.told] at hle
        exact ⟨h.kb, f, (R, v'), by omega, A, D.set k true, ⟨h.w, h.bb, ⟨hgo, by omega, hst, hle⟩, HJ.out.xw, HJ.out.xx, h.vb2⟩, Wam.fin HWi.out hmid hh0 hb h.m⟩
      case stop2 =>
        rintro cd pre V' hpre ⟨rfl, h1, h2⟩ hszV
        gi_wp2_with fail
        simp only [Exit.inBlock, Exit.then, postD]
        exact ⟨h2, by first | trivial | rfl, h1⟩
  case done =>
    rintro N ⟨R, v⟩ V hfi ⟨H, D, h, hW⟩ hsz hD
    rw [HBe.out] at hD hsz ⊢
    have hR0 : R = [] := hfi
    subst hR0
    simp only at h hW
    obtain ⟨bh, bl, bm, br1, br2, hkw⟩ := HKP.out V h.w.kp
    obtain ⟨f, rfl⟩ : ∃ f, N = f + 1 := ⟨N - 1, by have := h.hs.fc; omega⟩
    have hgo := h.hs.go
    rw [go_end hW.out, HRes.out] at hgo
    subst hgo
    have HRow2 := Lib.hid h.w.row
    have HKw := Lib.hid hkw
    have HOr := Lib.hid h.w.lO
    have HMk : Hid (Mk w.heap.size [B] V) := (Mk.nil _ _).cons hD (by have := h.xw; have := HGe.out; have := HNu.out; omega) (by simp)
    have HR1 := Lib.hid br1
    have HR2 := Lib.hid br2
    have q6 := br1.cell
    have f6 := br1.free
    have e12 : R2 ≠ R1 := by have := HNu.out; omega
    have b2' := br2.other e12 0 (.int .i64 0)
    have q7 := b2'.cell
    have f7 := b2'.free
    have k1 : Kept (fun j => j = R1) V (V.setCell ⟨R1, 0, none⟩ (.int .i64 0)) := kept_set _ _ _ _ rfl
    have k2 : Kept (fun j => j = R2) (V.setCell ⟨R1, 0, none⟩ (.int .i64 0)) ((V.setCell ⟨R1, 0, none⟩ (.int .i64 0)).setCell ⟨R2, 0, none⟩ (.int .i64 0)) := kept_set _ _ _ _ rfl
    have HB1' : Hid (Box ((V.setCell ⟨R1, 0, none⟩ (.int .i64 0)).setCell ⟨R2, 0, none⟩ (.int .i64 0)) R1 3 (.int .i64 0)) := (br1.set _).kept k2 e12.symm
    have HB2' : Hid (Box ((V.setCell ⟨R1, 0, none⟩ (.int .i64 0)).setCell ⟨R2, 0, none⟩ (.int .i64 0)) R2 38 (.int .i64 0)) := b2'.set _
    have HKk : Hid (Kept (fun j => j = R1 ∨ j = R2) V ((V.setCell ⟨R1, 0, none⟩ (.int .i64 0)).setCell ⟨R2, 0, none⟩ (.int .i64 0))) := (k1.mono fun j _ e => .inl e).trans (k2.mono fun j _ e => .inr e)
    clear hfi h hW hsz hD bh bl bm br1 br2 hkw e12 b2' k1 k2
    go_wp2_with fail
    generalize (V.setCell ⟨R1, 0, none⟩ (.int .i64 0)).setCell ⟨R2, 0, none⟩ (.int .i64 0) = V2 at *
    have e5 := HNu.out
    have e6 := HGe.out
    have hMk2 : Mk w.heap.size [B] V2 := HMk.out.kept HKk.out (fun r hr => by
      have hr2 : r = B := by simpa using hr
      have := HJ0.out.xw
      omega)
    refine leaves_marks (lo := w.heap.size) [B] V2 hMk2 fun w' hk => ?_
    have d6 := (HB1'.out.kept hk (fun e => by obtain ⟨_, x, hx⟩ := e; rw [HB1'.out] at hx; cases hx)).cell
    have d7 := (HB2'.out.kept hk (fun e => by obtain ⟨_, x, hx⟩ := e; rw [HB2'.out] at hx; cases hx)).cell
    have hrow2 := HKk.out.same HRow2.out (by have := HOw.out; omega)
    have hrow3 : PRow w' O H := hk.same hrow2 (fun e => by obtain ⟨_, x, hx⟩ := e; have h2 : V2.heap[O]? = _ := hrow2; rw [h2] at hx; cases hx)
    refine ⟨.tuple #[.int .i64 0, .int .i64 0], by clear e5 e6; simp [results, Tryd.f29, go_sem, d6, d7], rfl, by first | exact fun _ => hrow3 | exact hrow3, ?_⟩
    · exact (HKw.out.trans' HKk.out (fun j hlt e => by omega)).trans' hk (fun j hlt e => by have := e.1; omega)
  case stop =>
    rintro cd V ⟨rfl, n', e', h2, h3, h4, h5, h6⟩ hsz hD
    rw [HBe.out] at hD hsz ⊢
    rw [HRes.out] at h2
    subst h2
    have HB1' := Lib.hid h4
    have HB2' := Lib.hid h5
    have HKw := Lib.hid h6
    have HNe : Hid (e' ≠ 0) := h3
    have HMk : Hid (Mk w.heap.size [B] V) := (Mk.nil _ _).cons hD (by have := HJ0.out.xw; have := HNu.out; have := HGe.out; omega) (by simp)
    clear h3 h4 h5 h6 hsz hD
    gi_wp2_with fail
    refine leaves_marks (lo := w.heap.size) [B] V HMk.out fun w' hk => ?_
    have d6 := (HB1'.out.kept hk (fun e => by obtain ⟨_, x, hx⟩ := e; rw [HB1'.out] at hx; cases hx)).cell
    have d7 := (HB2'.out.kept hk (fun e => by obtain ⟨_, x, hx⟩ := e; rw [HB2'.out] at hx; cases hx)).cell
    refine ⟨.tuple #[.int .i64 (n' : Nat), .int .i64 e'], by simp [results, Tryd.f29, go_sem, d6, d7], rfl, fun e0 => absurd e0 HNe.out, ?_⟩
    exact HKw.out.trans' hk (fun j hlt e => by have := e.1; omega)
end Hgt
end Go.Proofs.YtjoiogdckbaeaaaDoor
