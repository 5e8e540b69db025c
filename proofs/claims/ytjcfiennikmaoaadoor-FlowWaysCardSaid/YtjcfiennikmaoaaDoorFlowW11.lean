/- flow.Order: what stands in memory while it works. -/
import Derived.Test.YtjcfiennikmaoaaDoorFlowW9
import Derived.Test.YtjcfiennikmaoaaDoorFlowW8
import Derived.Test.YtjcfiennikmaoaaDoorFlowW7
import Derived.Test.YtjcfiennikmaoaaDoorFlowW10
namespace Go.Proofs.YtjcfiennikmaoaaDoor
open Go.ChangeShapes Go.WideShapes Go.ChangeAt Go.RowKit
namespace Flw
open Isa
open Goes
open Rights (Kept)
set_option linter.unusedVariables false
set_option linter.unusedSimpArgs false
/-- while Order works: the two boxes, the row of those ahead, the rows of those that may be next and of those that are told -/
structure OSt (S1 S2 O m : Nat) (w : World) (A : List Int) (R T : List Nat) (v tv : Value) (rs : List Nat) (V : World) : Prop where
  b1 : Box V S1 29 (.slice (some ⟨O, 0, none⟩) m m)
  b2 : Box V S2 29 v
  row : PRow V O A
  own : V.ownsRow w.heap.size 3 1 v R.length (nums R)
  ord : V.ownsRow w.heap.size 3 1 tv T.length (nums T)
  bel : Below w.heap.size w V
  l1 : w.heap.size ≤ S1
  l2 : w.heap.size ≤ S2
  lO : w.heap.size ≤ O
  s12 : S1 ≠ S2
  vO : v.ownBlock ≠ some O
  tO : tv.ownBlock ≠ some O
  vt : ∀ g, v.ownBlock = some g → tv.ownBlock ≠ some g
  ms : Mk w.heap.size rs V
section
variable {S1 S2 O m : Nat} {w : World} {A : List Int} {R T : List Nat} {v tv : Value} {rs : List Nat} {V : World}
theorem own_ne_box {S e' S0 sz n : Nat} {u x : Value} {xs : List Value} (h : V.ownsRow S0 3 sz u n xs) (hb : Box V S 29 x) {g : Nat} (hg : u.ownBlock = some g) : g ≠ S := by
  obtain ⟨cur, hc⟩ := own_block h hg
  exact ne_kind hc hb (by intro e; injection e with _ e _; exact absurd e (by decide))
theorem OSt.ne1O (h : OSt S1 S2 O m w A R T v tv rs V) : S1 ≠ O := ne_kind h.b1 h.row (by intro e; injection e with _ e _; exact absurd e (by decide))
theorem OSt.ne2O (h : OSt S1 S2 O m w A R T v tv rs V) : S2 ≠ O := ne_kind h.b2 h.row (by intro e; injection e with _ e _; exact absurd e (by decide))
theorem OSt.kept (h : OSt S1 S2 O m w A R T v tv rs V) {p : Nat → Prop} {V' : World} (hk : Kept p V V') (h1 : ¬ p S1) (h2 : ¬ p S2) (hO : ¬ p O) (hv : ∀ g, v.ownBlock = some g → ¬ p g) (ht : ∀ g, tv.ownBlock = some g → ¬ p g) (hr : ∀ r ∈ rs, ¬ p r) (hp : ∀ k, p k → w.heap.size ≤ k) : OSt S1 S2 O m w A R T v tv rs V' :=
  ⟨h.b1.kept hk h1, h.b2.kept hk h2, hk.same h.row hO, own_kept h.own hk hv, own_kept h.ord hk ht, h.bel.trans (below_of hk h.bel.size hp), h.l1, h.l2, h.lO, h.s12, h.vO, h.tO, h.vt, h.ms.kept hk hr⟩
theorem OSt.below (h : OSt S1 S2 O m w A R T v tv rs V) {V' : World} (hb : Below V.heap.size V V') : OSt S1 S2 O m w A R T v tv rs V' :=
  h.kept (kept_of hb fun k h1 h2 => absurd h1 (by omega) : Kept (fun _ => False) V V') (fun x => x) (fun x => x) (fun x => x) (fun _ _ x => x) (fun _ _ x => x) (fun _ _ x => x) (fun _ x => x.elim)
/-- the variable of those that may be next is set -/
theorem OSt.ready (h : OSt S1 S2 O m w A R T v tv rs V) {R' : List Nat} {v' : Value} (ho : V.ownsRow w.heap.size 3 1 v' R'.length (nums R')) (hO : v'.ownBlock ≠ some O) (ht : ∀ g, v'.ownBlock = some g → tv.ownBlock ≠ some g) :
    Kept (fun k => k = S2) V (V.setCell ⟨S2, 0, none⟩ v') ∧ OSt S1 S2 O m w A R' T v' tv rs (V.setCell ⟨S2, 0, none⟩ v') := by
  have hk : Kept (fun k => k = S2) V (V.setCell ⟨S2, 0, none⟩ v') := kept_set _ _ _ _ rfl
  exact ⟨hk, h.b1.kept hk h.s12, h.b2.set _, hk.same h.row h.ne2O.symm, own_kept ho hk (fun g hg => own_ne_box (e' := 0) ho h.b2 hg), own_kept h.ord hk (fun g hg => own_ne_box (e' := 0) h.ord h.b2 hg),
    h.bel.trans (below_of hk h.bel.size (fun k hk => by have := h.l2; omega)), h.l1, h.l2, h.lO, h.s12, hO, h.tO, ht, h.ms.kept hk fun r hr e => h.ms.ne_cells hr h.b2 e⟩
theorem OSt.pop {rest : List Nat} {k g cap : Nat} (h : OSt S1 S2 O m w A (rest ++ [k]) T (.slice (some ⟨g, 0, none⟩) (rest.length + 1) cap) tv rs V) :
    OSt S1 S2 O m w A rest T (.slice (some ⟨g, 0, none⟩) rest.length cap) tv rs (V.setCell ⟨S2, 0, none⟩ (.slice (some ⟨g, 0, none⟩) rest.length cap)) := by
  have e : nums (rest ++ [k]) = nums rest ++ [.int .i64 (k : Nat)] := by simp [nums]
  have ho := h.own
  rw [e, List.length_append, List.length_singleton] at ho
  exact (h.ready (own_take ho (k := rest.length) (by simp [nums]) (by omega)) h.vO h.vt).2
/-- one more is told -/
theorem OSt.tell {x : Nat} {o : Obj} {Y : World} {tv' : Value} (h : OSt S1 S2 O m w A R T v tv rs V) (hg : (V.alloc o).grownBy Y tv.ownBlock) (ho : Y.ownsRow w.heap.size 3 1 tv' (T.length + 1) (nums T ++ [.int .i64 (x : Nat)])) (hat : tv'.ownBlock = tv.ownBlock ∨ ∃ g, tv'.ownBlock = some g ∧ V.heap.size ≤ g) :
    OSt S1 S2 O m w A R (T ++ [x]) v tv' rs Y := by
  have k1 : Kept (fun k => tv.ownBlock = some k) V Y := ((Kept.refl _ V).alloc o).trans (kept_grown hg)
  have e : nums (T ++ [x]) = nums T ++ [.int .i64 (x : Nat)] := by simp [nums]
  refine ⟨h.b1.kept k1 (fun e => own_ne_box (e' := 0) h.ord h.b1 e rfl), h.b2.kept k1 (fun e => own_ne_box (e' := 0) h.ord h.b2 e rfl), k1.same h.row h.tO, own_kept h.own k1 (fun g hg e => h.vt g hg e), by rw [e, List.length_append]; exact ho,
    h.bel.trans (below_of k1 h.bel.size (fun k hk => (own_lt h.ord hk).1)), h.l1, h.l2, h.lO, h.s12, h.vO, ?_, ?_, h.ms.kept k1 ?_⟩
  · rcases hat with e | ⟨g, e, hge⟩
    · rw [e]; exact h.tO
    · rw [e]; intro q; cases q; have := h.row.lt; omega
  · intro g hg2
    rcases hat with e | ⟨g', e, hge⟩
    · rw [e]; exact h.vt g hg2
    · rw [e]; intro q; cases q; have := (own_lt h.own hg2).2; omega
  · intro r hr e
    obtain ⟨cur, hc⟩ := own_block h.ord e
    exact h.ms.ne_cells hr hc rfl
/-- one ahead less -/
theorem OSt.less (h : OSt S1 S2 O m w A R T v tv rs V) (x : Nat) (u : Int) : Kept (fun k => k = O) V (V.setCell ⟨O, x, none⟩ (.int .i64 u)) ∧ OSt S1 S2 O m w (A.set x u) R T v tv rs (V.setCell ⟨O, x, none⟩ (.int .i64 u)) := by
  have hk : Kept (fun k => k = O) V (V.setCell ⟨O, x, none⟩ (.int .i64 u)) := kept_set _ _ _ _ rfl
  exact ⟨hk, h.b1.kept hk h.ne1O, h.b2.kept hk h.ne2O, h.row.set x u, own_kept h.own hk (fun g hg e => h.vO (by have e2 : g = O := e; rw [← e2]; exact hg)), own_kept h.ord hk (fun g hg e => h.tO (by have e2 : g = O := e; rw [← e2]; exact hg)),
    h.bel.trans (below_of hk h.bel.size (fun k hk => by have := h.lO; omega)), h.l1, h.l2, h.lO, h.s12, h.vO, h.tO, h.vt, h.ms.kept hk fun r hr e => h.ms.ne_cells hr h.row e⟩
/-- what putFalling leaves, and the variable set to it -/
theorem OSt.put {x : Nat} {Y : World} {e : Ending} (h : OSt S1 S2 O m w A R T v tv rs V) (hq : PutP w.heap.size v R x V e Y) :
    ∃ a c R', e = .returned (.slice a (R.length + 1) c) ∧ R'.length = R.length + 1 ∧ Fal R' ∧ (∀ m, m ∈ R' ↔ m = x ∨ m ∈ R) ∧ ((Value.slice a (R.length + 1) c).ownBlock = v.ownBlock ∨ ∃ g, (Value.slice a (R.length + 1) c).ownBlock = some g ∧ V.heap.size ≤ g) ∧
      Box Y S2 29 v ∧ Kept (fun k => v.ownBlock = some k ∨ k = S2) V (Y.setCell ⟨S2, 0, none⟩ (.slice a (R.length + 1) c)) ∧ OSt S1 S2 O m w A R' T (.slice a (R.length + 1) c) tv rs (Y.setCell ⟨S2, 0, none⟩ (.slice a (R.length + 1) c)) := by
  obtain ⟨a, c, R', he, hl, hf, hm, ho, hk, hat⟩ := hq
  have hY : OSt S1 S2 O m w A R T v tv rs Y → OSt S1 S2 O m w A R T v tv rs Y := id
  have b1 := h.b1.kept hk (fun e => own_ne_box (e' := 0) h.own h.b1 e rfl)
  have b2 := h.b2.kept hk (fun e => own_ne_box (e' := 0) h.own h.b2 e rfl)
  have row : PRow Y O A := hk.same h.row h.vO
  have ord := own_kept h.ord hk (fun g hg e => h.vt g e hg)
  have bel := h.bel.trans (below_of hk h.bel.size (fun k hk => (own_lt h.own hk).1))
  have ms := h.ms.kept hk (fun r hr e => by obtain ⟨cur, hc⟩ := own_block h.own e; exact h.ms.ne_cells hr hc rfl)
  have hk2 : Kept (fun k => k = S2) Y (Y.setCell ⟨S2, 0, none⟩ (.slice a (R.length + 1) c)) := kept_set _ _ _ _ rfl
  refine ⟨a, c, R', he, hl, hf, hm, hat, b2, (hk.mono fun k _ e => .inl e).trans (hk2.mono fun k _ e => .inr e), b1.kept hk2 h.s12, b2.set _, hk2.same row (ne_kind b2 row (by intro e; injection e with _ e _; exact absurd e (by decide))).symm, ?_, own_kept ord hk2 (fun g hg => own_ne_box (e' := 0) ord b2 hg),
    bel.trans (below_of hk2 bel.size (fun k hk => by have := h.l2; omega)), h.l1, h.l2, h.lO, h.s12, ?_, h.tO, ?_, ms.kept hk2 (fun r hr e => ms.ne_cells hr b2 e)⟩
  · rw [hl]
    exact own_kept ho hk2 (fun g hg => own_ne_box (e' := 0) ho b2 hg)
  · rcases hat with e | ⟨g, e, hge⟩
    · rw [e]; exact h.vO
    · rw [e]; intro q; cases q; have := h.row.lt; omega
  · intro g hg2
    rcases hat with e | ⟨g', e, hge⟩
    · rw [e] at hg2; exact h.vt g hg2
    · rw [e] at hg2; cases hg2; intro q; have := (own_lt h.ord q).2; omega
end
/-- what lies ahead of the iterator -/
structure OX (S1 S2 O X B : Nat) (w : World) (tv : Value) (rs : List Nat) : Prop where
  x1 : S1 < X
  x2 : S2 < X
  xO : O < X
  xt : ∀ g, tv.ownBlock = some g → g < X
  xr : ∀ r ∈ rs, r < X
  xb : X ≤ B
  xw : w.heap.size ≤ X
/-- while Order goes over those behind k -/
structure OI (S1 S2 O m : Nat) (w : World) (l : List Iv) (T T' rest : List Nat) (X B : Nat) (tv : Value) (rs pre R : List Nat) (v : Value) (V : World) : Prop where
  o : OSt S1 S2 O m w (fnL m (wm l T pre)) R T' v tv rs V
  r : Rdm l T rest pre R
  vb : ∀ g, v.ownBlock = some g → g < X ∨ B + 2 ≤ g
theorem oi_steady {S1 S2 O m X B : Nat} {w : World} {l : List Iv} {T T' rest rs : List Nat} {tv : Value} (h : OX S1 S2 O X B w tv rs) : Steady B (fun pre V => ∃ R v, OI S1 S2 O m w l T T' rest X B tv rs pre R v V) := by
  obtain ⟨h1, h2, h3, h4, h5, h6, h7⟩ := h
  rintro pre V V' ⟨R, v, ho, hr, hv⟩ hk
  exact ⟨R, v, ho.kept hk (by omega) (by omega) (by omega) (fun g hg => by have := hv g hg; omega) (fun g hg => by have := h4 g hg; omega) (fun r hr => by have := h5 r hr; omega) (fun k hk => by omega), hr, hv⟩
end Flw
end Go.Proofs.YtjcfiennikmaoaaDoor
