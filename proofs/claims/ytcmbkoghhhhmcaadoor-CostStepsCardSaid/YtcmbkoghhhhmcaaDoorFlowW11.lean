/- flow.Order: what stands in memory while it works. -/
import Derived.Test.YtcmbkoghhhhmcaaDoorWaySt
import Derived.Test.YtcmbkoghhhhmcaaDoorFlowW9
import Derived.Test.YtcmbkoghhhhmcaaDoorFlowW7
import Derived.Test.YtcmbkoghhhhmcaaDoorFlowW10
namespace Go.Proofs.YtcmbkoghhhhmcaaDoor
open Go.ChangeShapes Go.WideShapes Go.ChangeAt Go.RowKit
namespace Flw
open Isa
open Goes
open Rights (Kept)
set_option linter.unusedVariables false
set_option linter.unusedSimpArgs false
/-- while Order works: the store and the row of those ahead; the order (a variable's box, a row); the iterator's box -/
structure OSt (g O S3 bx : Nat) (W0 : World) (A : List Int) (R T : List Nat) (v tv : Value) (V : World) : Prop where
  w : WSt g O (fun k => k = S3) W0 A R v V
  b3 : Box V S3 34 tv
  ord : V.ownsRow W0.heap.size 3 1 tv T.length (nums T)
  l3 : S3 < W0.heap.size
  vt : ∀ k, v.ownBlock = some k → tv.ownBlock ≠ some k
  bb : Box V bx 71 (.pointer (some ⟨g, 0, none⟩))
section
variable {g O S3 bx : Nat} {W0 : World} {A : List Int} {R T : List Nat} {v tv : Value} {V : World}
theorem OSt.kept (h : OSt g O S3 bx W0 A R T v tv V) {p : Nat → Prop} {V' : World} (hk : Kept p V V') (hg : ¬ p g) (hO : ¬ p O) (h3 : ¬ p S3) (hx : ¬ p bx) (hv : ∀ k, v.ownBlock = some k → ¬ p k) (ht : ∀ k, tv.ownBlock = some k → ¬ p k) (hp : ∀ k, p k → W0.heap.size ≤ k) : OSt g O S3 bx W0 A R T v tv V' :=
  ⟨h.w.kept hk hg hO hv (fun k h1 h2 => by have := hp k h1; omega), h.b3.kept hk h3, own_kept h.ord hk ht, h.l3, h.vt, h.bb.kept hk hx⟩
theorem OSt.below (h : OSt g O S3 bx W0 A R T v tv V) {V' : World} (hb : Below V.heap.size V V') : OSt g O S3 bx W0 A R T v tv V' :=
  h.kept (kept_of hb fun k h1 h2 => absurd h1 (by omega) : Kept (fun _ => False) V V') (fun x => x) (fun x => x) (fun x => x) (fun x => x) (fun _ _ x => x) (fun _ _ x => x) (fun _ x => x.elim)
theorem OSt.wat (h : OSt g O S3 bx W0 A R T v tv V) (hl : R.length ≤ 1000000) : WAt W0.heap.size g bx (R, v) V := ⟨h.bb, h.w.bw, h.w.own, hl⟩
theorem OSt.step {R' : List Nat} {k : Nat} {v' : Value} {V' : World} (h : OSt g O S3 bx W0 A R T v tv V) (hs : wStep g (R, v) k (R', v') V V') (ha : WAt W0.heap.size g bx (R', v') V') : R = R' ++ [k] ∧ v'.ownBlock = v.ownBlock ∧ Kept (fun j => j = g) V V' ∧ OSt g O S3 bx W0 A R' T v' tv V' := by
  obtain ⟨h1, h2, h3, h4⟩ := h.w.step hs ha
  exact ⟨h1, h2, h3, h4, h.b3.kept h3 (box_ne h.b3 h.w.bw (by decide)), own_kept h.ord h3 (fun k hk e => by have := (own_lt h.ord hk).1; have := h.w.lg; have e2 : k = g := e; omega), h.l3, by rw [h2]; exact h.vt, ha.bx⟩
/-- one ahead less -/
theorem OSt.less (h : OSt g O S3 bx W0 A R T v tv V) (x : Nat) (u : Int) : Kept (fun k => k = O) V (V.setCell ⟨O, x, none⟩ (.int .i64 u)) ∧ OSt g O S3 bx W0 (A.set x u) R T v tv (V.setCell ⟨O, x, none⟩ (.int .i64 u)) := by
  obtain ⟨hk, hw⟩ := h.w.set x u
  exact ⟨hk, hw, h.b3.kept hk (box_ne_row h.b3 h.w.row (by decide)), own_kept h.ord hk (fun k hk2 e => by have := (own_lt h.ord hk2).1; have := h.w.lO; have e2 : k = O := e; omega), h.l3, h.vt, h.bb.kept hk (box_ne_row h.bb h.w.row (by decide))⟩
/-- one more is told: what append leaves, and the variable set to it -/
theorem OSt.tell {x : Nat} {o : Obj} {Y : World} {tv' : Value} (h : OSt g O S3 bx W0 A R T v tv V) (hg : (V.alloc o).grownBy Y tv.ownBlock) (ho : Y.ownsRow W0.heap.size 3 1 tv' (T.length + 1) (nums T ++ [.int .i64 (x : Nat)])) (hat : tv'.ownBlock = tv.ownBlock ∨ ∃ g, tv'.ownBlock = some g ∧ V.heap.size ≤ g) :
    Box Y S3 34 tv ∧ Kept (fun k => tv.ownBlock = some k ∨ k = S3) V (Y.setCell ⟨S3, 0, none⟩ tv') ∧ OSt g O S3 bx W0 A R (T ++ [x]) v tv' (Y.setCell ⟨S3, 0, none⟩ tv') := by
  have k1 : Kept (fun k => tv.ownBlock = some k) V Y := ((Kept.refl _ V).alloc o).trans (kept_grown hg)
  have e : nums (T ++ [x]) = nums T ++ [.int .i64 (x : Nat)] := by simp [nums]
  have l1 := h.w.lg
  have l2 := h.w.lO
  have l3 := h.l3
  have nt : ∀ k, k < W0.heap.size → ¬ tv.ownBlock = some k := fun k hk e => by have := (own_lt h.ord e).1; omega
  have b3 := h.b3.kept k1 (nt _ l3)
  have w1 := h.w.kept k1 (nt _ l1) (nt _ l2) (fun k hk e => h.vt k hk e) (fun k e hlt => absurd e (nt k hlt))
  have bb := h.bb.kept k1 (fun e => box_ne_own h.bb h.ord (by decide) e rfl)
  have k2 : Kept (fun k => k = S3) Y (Y.setCell ⟨S3, 0, none⟩ tv') := kept_set _ _ _ _ rfl
  refine ⟨b3, (k1.mono fun k _ e => .inl e).trans (k2.mono fun k _ e => .inr e), w1.kept k2 (box_ne w1.bw b3 (by decide)) (box_ne_row b3 w1.row (by decide)).symm (fun k hk e => by have := (w1.ge hk).1; have e2 : k = S3 := e; omega) (fun k e _ => e), b3.set _, ?_, l3, ?_, bb.kept k2 (box_ne bb b3 (by decide))⟩
  · rw [e, List.length_append]
    exact own_kept ho k2 (fun k hk e => by have := (own_lt ho hk).1; have e2 : k = S3 := e; omega)
  · intro k hk
    rcases hat with e | ⟨g', e, hge⟩
    · rw [e]; exact h.vt k hk
    · rw [e]; intro q; cases q; have := (h.w.ge hk).2; omega
/-- one more may be next -/
theorem OSt.put {x : Nat} {Y : World} {e : Ending} (h : OSt g O S3 bx W0 A R T v tv V) (hq : PutP W0.heap.size g v R x V e Y) :
    ∃ a c R', e = .returned (.tuple #[]) ∧ R'.length = R.length + 1 ∧ Fal R' ∧ (∀ m, m ∈ R' ↔ m = x ∨ m ∈ R) ∧ ((Value.slice a (R.length + 1 : Nat) c).ownBlock = v.ownBlock ∨ ∃ g, (Value.slice a (R.length + 1 : Nat) c).ownBlock = some g ∧ V.heap.size ≤ g) ∧
      Kept (fun k => v.ownBlock = some k ∨ k = g) V Y ∧ OSt g O S3 bx W0 A R' T (.slice a (R.length + 1 : Nat) c) tv Y := by
  obtain ⟨a, c, R', he, hl, hf, hm, hat, hk, hw⟩ := h.w.put hq
  have l1 := h.w.lg
  have l3 := h.l3
  refine ⟨a, c, R', he, hl, hf, hm, hat, hk, hw, h.b3.kept hk ?_, own_kept h.ord hk ?_, l3, ?_, h.bb.kept hk ?_⟩
  · rintro (e | e)
    · have := (h.w.ge e).1; omega
    · exact box_ne h.b3 h.w.bw (by decide) e
  · rintro k hk2 (e | e)
    · exact h.vt k e hk2
    · have := (own_lt h.ord hk2).1; omega
  · intro k hk2
    rcases hat with e | ⟨g', e, hge⟩
    · rw [e] at hk2; exact h.vt k hk2
    · rw [e] at hk2; cases hk2; intro q; have := (own_lt h.ord q).2; omega
  · rintro (e | e)
    · exact box_ne_own h.bb h.w.own (by decide) e rfl
    · exact box_ne h.bb h.w.bw (by decide) e
end
/-- between two rounds of the outer loop: B: the heap's size ahead of it -/
structure OJ (g O S3 bx m B : Nat) (W0 : World) (l : List Iv) (R T : List Nat) (v tv : Value) (V : World) : Prop where
  o : OSt g O S3 bx W0 (fnL m fun x => ((wc l T x : Nat) : Int)) R T v tv V
  od : Od l m T
  xw : W0.heap.size ≤ B
  xx : bx < B
  vb : ∀ k, v.ownBlock = some k → k < B ∨ B + 2 ≤ k
  tb : ∀ k, tv.ownBlock = some k → k < B ∨ B + 2 ≤ k
theorem oj_keep {g O S3 bx m B : Nat} {W0 : World} {l : List Iv} {R T : List Nat} {v tv : Value} {V V' : World} (h : OJ g O S3 bx m B W0 l R T v tv V) (hk : Kept (fun k => k = B ∨ k = B + 1) V V') : OJ g O S3 bx m B W0 l R T v tv V' := by
  have h1 := h.o.w.lg; have h2 := h.o.w.lO; have h3 := h.o.l3; have h4 := h.xw; have h5 := h.xx
  exact ⟨h.o.kept hk (by omega) (by omega) (by omega) (by omega) (fun k hk => by have := h.vb k hk; omega) (fun k hk => by have := h.tb k hk; omega) (fun k hk => by omega), h.od, h4, h5, h.vb, h.tb⟩
/-- while Order goes over those behind k: X, B2: the heap's size ahead of the inner iterator and behind it; V0: the world ahead of the round -/
structure OI (g O S3 bx m B X B2 : Nat) (W0 V0 : World) (l : List Iv) (T T' rest : List Nat) (tv : Value) (pre R : List Nat) (v : Value) (V : World) : Prop where
  o : OSt g O S3 bx W0 (fnL m (wm l T pre)) R T' v tv V
  r : Rdm l T rest pre R
  vb : ∀ k, v.ownBlock = some k → k < X ∨ B2 + 1 ≤ k
  vb2 : ∀ k, v.ownBlock = some k → k < B ∨ B + 2 ≤ k
  kb : Kept (fun k => k ≠ B ∧ k ≠ B + 1) V0 V
structure OX (g O S3 bx B X B2 : Nat) (W0 : World) (tv : Value) : Prop where
  xg : g < X
  xO : O < X
  x3 : S3 < X
  xx : bx < X
  xt : ∀ k, tv.ownBlock = some k → k < X
  xb : X ≤ B2
  xB : B + 2 ≤ X
  xw : W0.heap.size ≤ B
theorem oi_keep {g O S3 bx m B X B2 : Nat} {W0 V0 : World} {l : List Iv} {T T' rest : List Nat} {tv : Value} (h : OX g O S3 bx B X B2 W0 tv) {pre : List Nat} {V V' : World} (hi : ∃ R v, OI g O S3 bx m B X B2 W0 V0 l T T' rest tv pre R v V) (hk : Kept (fun k => k = B2) V V') :
    ∃ R v, OI g O S3 bx m B X B2 W0 V0 l T T' rest tv pre R v V' := by
  obtain ⟨h1, h2, h3, h4, h5, h6, h7, h8⟩ := h
  obtain ⟨R, v, ho, hr, hv, hv2, hkb⟩ := hi
  exact ⟨R, v, ho.kept hk (by omega) (by omega) (by omega) (by omega) (fun k hk => by have := hv k hk; omega) (fun k hk => by have := h5 k hk; omega) (fun k hk => by omega), hr, hv, hv2, hkb.trans (hk.mono fun k _ e => by omega)⟩
end Flw
end Go.Proofs.YtcmbkoghhhhmcaaDoor
