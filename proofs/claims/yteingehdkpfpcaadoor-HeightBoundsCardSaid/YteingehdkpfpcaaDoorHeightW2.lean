/- height.tell: what stands in memory while it works. -/
import Derived.Test.YteingehdkpfpcaaDoorHeightW1
import Derived.Test.YteingehdkpfpcaaDoorWaySt
import Derived.Test.YteingehdkpfpcaaDoorFlowMarks
namespace Go.Proofs.YteingehdkpfpcaaDoor
open Go.ChangeShapes Go.WideShapes Go.ChangeAt Go.RowKit
namespace Hgt
open Isa Flw
open Goes
open Rights (Kept)
set_option linter.unusedVariables false
set_option linter.unusedSimpArgs false
theorem push_le {h b : Int} (hb : h ≤ b) (b0 : 0 ≤ b) : ∀ (ms : List Nat) (H : List Int), (∀ j, H.getD j 0 ≤ b) → ∀ j, (push h ms H).1.getD j 0 ≤ b
  | [], H, hh, j => hh j
  | m :: r, H, hh, j => by
    unfold push
    split
    · exact hh j
    · refine push_le hb b0 r _ (fun j => ?_) j
      rw [List.getD_eq_getElem?_getD, List.getElem?_set]
      have := hh j
      rw [List.getD_eq_getElem?_getD] at this
      split
      · split
        · exact hb
        · exact b0
      · exact this
theorem h0_le (l : List Iv) (hl : 0 < l.length) : ∀ j, (H0 l).getD j 0 ≤ 64 := fun j => by
  unfold H0
  rw [List.getD_eq_getElem?_getD, List.getElem?_set]
  split
  · rename_i e
    split <;> simp
  · rw [List.getElem?_replicate]
    split <;> simp
/-- what the document tells from here on; the heights by now -/
structure Hs (l : List Iv) (most : Int) (f : Nat) (H : List Int) (D : List Bool) : Prop where
  go : htGo l most f H D = htGo l most (l.length + 1) (H0 l) (D0 l)
  fc : fcount D < f
  mid : Mid l most H D
  hi : ∀ j, H.getD j 0 ≤ 64
/-- nothing beside the row and the store is written -/
def noq : Nat → Prop := fun _ => False
/-- between two rounds of the outer loop: B: the heap's size ahead of it; bx: the iterator's box -/
structure TJ (g O bx B : Nat) (W0 : World) (l : List Iv) (most : Int) (f : Nat) (H : List Int) (D : List Bool) (R : List Nat) (v : Value) (V : World) : Prop where
  w : WSt g O noq W0 H R v V
  bb : Box V bx 68 (.pointer (some ⟨g, 0, none⟩))
  hs : Hs l most f H D
  xw : W0.heap.size ≤ B
  xx : bx < B
  vb : ∀ k, v.ownBlock = some k → k < B ∨ B + 2 ≤ k
section
variable {g O bx B : Nat} {W0 : World} {l : List Iv} {most : Int} {f : Nat} {H : List Int} {D : List Bool} {R : List Nat} {v : Value} {V V' : World}
theorem TJ.keep (h : TJ g O bx B W0 l most f H D R v V) (hk : Kept (fun k => k = B ∨ k = B + 1) V V') : TJ g O bx B W0 l most f H D R v V' := by
  have h1 := h.w.lg; have h2 := h.w.lO; have h4 := h.xw; have h5 := h.xx
  exact ⟨h.w.kept hk (by omega) (by omega) (fun k hk => by have := h.vb k hk; omega) (fun k hk hlt => by omega), h.bb.kept hk (by omega), h.hs, h4, h5, h.vb⟩
theorem TJ.below (h : TJ g O bx B W0 l most f H D R v V) (hb : Below V.heap.size V V') : TJ g O bx B W0 l most f H D R v V' :=
  ⟨h.w.below hb, h.bb.below hb (Nat.le_refl _), h.hs, h.xw, h.xx, h.vb⟩
theorem TJ.step {R' : List Nat} {k : Nat} {v' : Value} (h : TJ g O bx B W0 l most f H D R v V) (hs : wStep g (R, v) k (R', v') V V') (ha : WAt W0.heap.size g bx (R', v') V') : R = R' ++ [k] ∧ Kept (fun j => j = g) V V' ∧ TJ g O bx B W0 l most f H D R' v' V' := by
  obtain ⟨h1, h2, h3, h4⟩ := h.w.step hs ha
  exact ⟨h1, h3, h4, ha.bx, h.hs, h.xw, h.xx, fun k hk => h.vb k (by rw [← h2]; exact hk)⟩
end
/-- while tell goes over those behind k: Xs, B2: the heap's size ahead of the inner iterator and behind it; V0: the world ahead of the round; S12: the height's box -/
structure TI (g O bx B Xs B2 S12 : Nat) (W0 V0 : World) (hh : Int) (H : List Int) (rest : List Nat) (pre R : List Nat) (A : List Int) (v : Value) (V : World) : Prop where
  w : WSt g O noq W0 A R v V
  bb : Box V bx 68 (.pointer (some ⟨g, 0, none⟩))
  b12 : Box V S12 3 (.int .i64 hh)
  m : Wam hh H rest pre R A
  vb : ∀ k, v.ownBlock = some k → k < Xs ∨ B2 + 1 ≤ k
  vb2 : ∀ k, v.ownBlock = some k → k < B ∨ B + 2 ≤ k
  v12 : ∀ k, v.ownBlock = some k → k ≠ S12
  kb : Kept (fun k => k ≠ B ∧ k ≠ B + 1) V0 V
structure TX (g O bx B Xs B2 S12 : Nat) (W0 : World) : Prop where
  xg : g < B
  xO : O < B
  xx : bx < B
  x12 : S12 < Xs
  y12 : B + 2 ≤ S12
  xb : Xs ≤ B2
  xB : B + 2 ≤ Xs
  xw : W0.heap.size ≤ B
theorem ti_keep {g O bx B Xs B2 S12 : Nat} {W0 V0 : World} {hh : Int} {H : List Int} {rest pre : List Nat} {V V' : World} (h : TX g O bx B Xs B2 S12 W0) (hi : ∃ R A v, TI g O bx B Xs B2 S12 W0 V0 hh H rest pre R A v V) (hk : Kept (fun k => k = B2) V V') :
    ∃ R A v, TI g O bx B Xs B2 S12 W0 V0 hh H rest pre R A v V' := by
  obtain ⟨h1, h2, h3, h4, h5, h6, h7, h8⟩ := h
  obtain ⟨R, A, v, hw, hb, h12, hm, hv, hv2, hv3, hkb⟩ := hi
  exact ⟨R, A, v, hw.kept hk (by omega) (by omega) (fun k hk => by have := hv k hk; omega) (fun k hk hlt => by omega), hb.kept hk (by omega), h12.kept hk (by omega), hm, hv, hv2, hv3, hkb.trans (hk.mono fun k _ e => by omega)⟩
theorem box_fifth (w : World) (t1 t2 t3 t4 t5 : TypeId) (a1 a2 a3 a4 a5 : Value) :
    Box (((((w.alloc (.cells #[a1] t1)).alloc (.cells #[a2] t2)).alloc (.cells #[a3] t3)).alloc (.cells #[a4] t4)).alloc (.cells #[a5] t5)) w.heap.size t1 a1 ∧
    Box (((((w.alloc (.cells #[a1] t1)).alloc (.cells #[a2] t2)).alloc (.cells #[a3] t3)).alloc (.cells #[a4] t4)).alloc (.cells #[a5] t5)) (w.heap.size + 1) t2 a2 ∧
    Box (((((w.alloc (.cells #[a1] t1)).alloc (.cells #[a2] t2)).alloc (.cells #[a3] t3)).alloc (.cells #[a4] t4)).alloc (.cells #[a5] t5)) (w.heap.size + 1 + 1) t3 a3 ∧
    Box (((((w.alloc (.cells #[a1] t1)).alloc (.cells #[a2] t2)).alloc (.cells #[a3] t3)).alloc (.cells #[a4] t4)).alloc (.cells #[a5] t5)) (w.heap.size + 1 + 1 + 1) t4 a4 ∧
    Box (((((w.alloc (.cells #[a1] t1)).alloc (.cells #[a2] t2)).alloc (.cells #[a3] t3)).alloc (.cells #[a4] t4)).alloc (.cells #[a5] t5)) (w.heap.size + 1 + 1 + 1 + 1) t5 a5 ∧
    Kept (fun _ => False) w (((((w.alloc (.cells #[a1] t1)).alloc (.cells #[a2] t2)).alloc (.cells #[a3] t3)).alloc (.cells #[a4] t4)).alloc (.cells #[a5] t5)) ∧
    (((((w.alloc (.cells #[a1] t1)).alloc (.cells #[a2] t2)).alloc (.cells #[a3] t3)).alloc (.cells #[a4] t4)).alloc (.cells #[a5] t5)).heap.size = w.heap.size + 5 := by
  have k (W : World) (o : Obj) : Kept (fun _ => False) W (W.alloc o) := (Kept.refl _ W).alloc o
  have n1 := Box.new w t1 a1
  have n2 := Box.new (w.alloc (.cells #[a1] t1)) t2 a2
  have n3 := Box.new ((w.alloc (.cells #[a1] t1)).alloc (.cells #[a2] t2)) t3 a3
  have n4 := Box.new (((w.alloc (.cells #[a1] t1)).alloc (.cells #[a2] t2)).alloc (.cells #[a3] t3)) t4 a4
  have n5 := Box.new ((((w.alloc (.cells #[a1] t1)).alloc (.cells #[a2] t2)).alloc (.cells #[a3] t3)).alloc (.cells #[a4] t4)) t5 a5
  simp only [World.size_alloc] at n2 n3 n4 n5
  exact ⟨(((n1.kept (k _ _) id).kept (k _ _) id).kept (k _ _) id).kept (k _ _) id, ((n2.kept (k _ _) id).kept (k _ _) id).kept (k _ _) id, (n3.kept (k _ _) id).kept (k _ _) id, n4.kept (k _ _) id, n5,
    ((((k _ _).trans (k _ _)).trans (k _ _)).trans (k _ _)).trans (k _ _), by simp⟩
/-- how tell is left early: the result's two boxes -/
def TE (O R1 R2 : Nat) (w : World) (l : List Iv) (most : Int) (V : World) : Prop :=
  ∃ (n : Nat) (e : Int), htGo l most (l.length + 1) (H0 l) (D0 l) = ([], n, e) ∧ e ≠ 0 ∧ Box V R1 3 (.int .i64 (n : Nat)) ∧ Box V R2 24 (.int .i64 e) ∧ Kept (fun k => k = O) w V
end Hgt
end Go.Proofs.YteingehdkpfpcaaDoor
