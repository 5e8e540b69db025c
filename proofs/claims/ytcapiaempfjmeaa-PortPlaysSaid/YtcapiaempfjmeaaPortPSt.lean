/- PortPlays: what stands behind each call: the ports, the document's, and a block of the caller's. -/
import Derived.Test.YtcapiaempfjmeaaPortR5
import Derived.Test.YtcapiaempfjmeaaPortR6
import Derived.Test.YtcapiaempfjmeaaPortR7
namespace Go.Proofs.Ytcapiaempfjmeaa
open Go.ChangeShapes Go.WideShapes Go.ChangeAt Go.RowKit
namespace Prt
set_option linter.unusedVariables false
set_option linter.unusedSimpArgs false
theorem d_modify (l : List Bx) (k : Nat) (f : Bx → Bx) (hf : ∀ b, (f b).d = b.d) : (l.modify k f).map Bx.d = l.map Bx.d := by
  apply List.ext_getElem?
  intro i
  rw [List.getElem?_map, List.getElem?_map, List.getElem?_modify]
  cases l[i]? with
  | none => rfl
  | some b => simp; split <;> simp [hf]
theorem d_put (l : List Bx) (part port word x : Int) : (putL l part port word x).map Bx.d = l.map Bx.d := by
  unfold putL; split
  · exact d_modify _ _ _ (fun b => rfl)
  · rfl
theorem d_send (l : List Bx) (part port : Int) : (sendL l part port).map Bx.d = l.map Bx.d := by
  unfold sendL; split
  · exact d_modify _ _ _ (fun b => rfl)
  · rfl
theorem d_com (l : List Bx) : (comL l).map Bx.d = l.map Bx.d := by
  unfold comL; rw [List.map_map]
  apply List.map_congr_left
  intro b _
  exact comB_d b
theorem d_by (l : List Bx) (f : Bx → Bx) (part : Int) (hf : ∀ b, (f b).d = b.d) : (byL f part l).map Bx.d = l.map Bx.d := by
  unfold byL; rw [List.map_map]
  apply List.map_congr_left
  intro b _
  show (if _ then f b else b).d = b.d
  split
  · exact hf b
  · rfl
structure P0 (W : World) (n : Nat) (a0 : Option Addr) (c0 : Nat) (ds : List Df) (A : RA) (T : Nat → Option Nat) (g : Nat) (lp lr : List Bx) (V : World) : Prop where
  p : Pt V g lp
  r : Rf A n a0 c0 lr T V
  tg : T g = none
  wg : W.heap.size ≤ g
  wt : ∀ k, T k ≠ none → W.heap.size ≤ k
  bel : Below W.heap.size W V
  eq : lr.map Bx.d = ds
section
variable {W : World} {n : Nat} {a0 : Option Addr} {c0 : Nat} {ds : List Df} {A : RA} {T : Nat → Option Nat} {g : Nat} {lp lr lp' lr' : List Bx} {V V' : World}
theorem P0.below (h : P0 W n a0 c0 ds A T g lp lr V) (hb : Below V.heap.size V V') : P0 W n a0 c0 ds A T g lp lr V' :=
  ⟨h.p.below hb (Nat.le_refl _), h.r.below hb, h.tg, h.wg, h.wt, h.bel.trans (hb.mono h.bel.size), h.eq⟩
theorem P0.prog (h : P0 W n a0 c0 ds A T g lp lr V) (hp : Pt V' g lp') (hk : Kept (fun k => k = g) V V') : P0 W n a0 c0 ds A T g lp' lr V' :=
  ⟨hp, h.r.kept hk (fun k hk e => hk (by rw [e]; exact h.tg)), h.tg, h.wg, h.wt, h.bel.trans (hk.toBelow h.bel.size (fun k hk e => by have := h.wg; omega)), h.eq⟩
theorem P0.ref (h : P0 W n a0 c0 ds A T g lp lr V) (hr : Rf A n a0 c0 lr' T V') (hk : Kept (fun k => T k ≠ none) V V') (he : lr'.map Bx.d = lr.map Bx.d) : P0 W n a0 c0 ds A T g lp lr' V' :=
  ⟨h.p.kept hk (by simp [h.tg]), hr, h.tg, h.wg, h.wt, h.bel.trans (hk.toBelow h.bel.size (fun k hk e => by have := h.wt k e; omega)), he.trans h.eq⟩
theorem P0.refE (h : P0 W n a0 c0 ds A T g lp lr V) (hr : RfE A.r n a0 c0 lr' T V.heap.size V V') (he : lr'.map Bx.d = lr.map Bx.d) : ∃ A' T', A'.r = A.r ∧ P0 W n a0 c0 ds A' T' g lp lr' V' ∧ (∀ k, k < V.heap.size → T' k = T k) ∧ Kept (fun k => T k ≠ none) V V' := by
  obtain ⟨A', T', h1, h2, h3, h4⟩ := hr
  refine ⟨A', T', h1, ⟨h.p.kept h4 (by simp [h.tg]), h2, by rw [h3 g h.p.lt]; exact h.tg, h.wg, fun k hk => ?_, h.bel.trans (h4.toBelow h.bel.size (fun k hk e => by have := h.wt k e; omega)), he.trans h.eq⟩, h3, h4⟩
  by_cases hlt : k < V.heap.size
  · exact h.wt k (by rw [← h3 k hlt]; exact hk)
  · have := h.bel.size; omega
theorem P0.hd (h : P0 W n a0 c0 ds A T g lp lr V) : ∀ i, i < n → (lr[i]!).d = ds[i]! := fun i hi => by
  have hl := h.r.len
  have e := h.eq
  rw [← e, getElem!_pos lr i (by omega), getElem!_pos _ i (by rw [List.length_map]; omega), List.getElem_map]
theorem P0.row (h : P0 W n a0 c0 ds A T g lp lr V) (hf : FRow (fun k => W.heap.size ≤ k) W a0 n ds) : FRow (fun k => T k ≠ none) V a0 n ds := by
  obtain ⟨h1, h2, h3⟩ := hf.kept (Kept.below h.bel)
  refine ⟨h1, h2, h3.imp id ?_⟩
  rintro ⟨b, off, e, hp, hc⟩
  exact ⟨b, off, e, fun x => hp (h.wt b x), hc⟩
end
/-- with a block of the caller's, that neither writes -/
def PV (W : World) (r n : Nat) (a0 : Option Addr) (c0 : Nat) (ds : List Df) (vb : Nat) (cs : Array Value) (g : Nat) (lp lr : List Bx) (V : World) : Prop :=
  ∃ A T, A.r = r ∧ P0 W n a0 c0 ds A T g lp lr V ∧ V.heap[vb]? = some (.cells cs 35 (0, 0)) ∧ T vb = none ∧ vb ≠ g
def PS (W : World) (r n : Nat) (a0 : Option Addr) (c0 : Nat) (ds : List Df) (g : Nat) (lp lr : List Bx) (V : World) : Prop := ∃ A T, A.r = r ∧ P0 W n a0 c0 ds A T g lp lr V
/-- with the ports that were copied -/
def PO (W : World) (r n : Nat) (a0 : Option Addr) (c0 : Nat) (ds : List Df) (go : Nat) (lo : List Bx) (g : Nat) (lp lr : List Bx) (V : World) : Prop :=
  ∃ A T, A.r = r ∧ P0 W n a0 c0 ds A T g lp lr V ∧ Pt V go lo ∧ T go = none ∧ go ≠ g ∧ W.heap.size ≤ go
section
variable {W : World} {r n : Nat} {a0 : Option Addr} {c0 : Nat} {ds : List Df} {vb go : Nat} {cs : Array Value} {g : Nat} {lp lr lp' lr' lo lo' : List Bx} {V V' : World}
theorem PS.below (h : PS W r n a0 c0 ds g lp lr V) (hb : Below V.heap.size V V') : PS W r n a0 c0 ds g lp lr V' := by
  obtain ⟨A, T, h1, h2⟩ := h
  exact ⟨A, T, h1, h2.below hb⟩
theorem PS.v (h : PS W r n a0 c0 ds g lp lr V) (hb : Below V.heap.size V V') (hv : V'.heap[V.heap.size]? = some (.cells cs 35 (0, 0))) : PV W r n a0 c0 ds V.heap.size cs g lp lr V' := by
  obtain ⟨A, T, h1, h2⟩ := h
  refine ⟨A, T, h1, h2.below hb, hv, ?_, ?_⟩
  · cases e : T V.heap.size with
    | none => rfl
    | some t => have := h2.r.lt V.heap.size (by rw [e]; simp); omega
  · have := h2.p.lt; omega
theorem PV.st (h : PV W r n a0 c0 ds vb cs g lp lr V) : PS W r n a0 c0 ds g lp lr V := by
  obtain ⟨A, T, h1, h2, _⟩ := h
  exact ⟨A, T, h1, h2⟩
theorem PV.v (h : PV W r n a0 c0 ds vb cs g lp lr V) : V.heap[vb]? = some (.cells cs 35 (0, 0)) := by
  obtain ⟨A, T, h1, h2, h3, _⟩ := h
  exact h3
theorem PV.below (h : PV W r n a0 c0 ds vb cs g lp lr V) (hb : Below V.heap.size V V') : PV W r n a0 c0 ds vb cs g lp lr V' := by
  obtain ⟨A, T, h1, h2, h3, h4, h5⟩ := h
  exact ⟨A, T, h1, h2.below hb, (hb.block vb (lt_of_block h3)).trans h3, h4, h5⟩
theorem PV.drew (h : PV W r n a0 c0 ds vb cs g lp lr V) : PV W r n a0 c0 ds vb cs g lp lr V.drew := h.below (below_drewN (Below.refl _ _) 1)
theorem PV.prog (h : PV W r n a0 c0 ds vb cs g lp lr V) (hp : Pt V' g lp') (hk : Kept (fun k => k = g) V V') : PV W r n a0 c0 ds vb cs g lp' lr V' := by
  obtain ⟨A, T, h1, h2, h3, h4, h5⟩ := h
  exact ⟨A, T, h1, h2.prog hp hk, hk.same h3 h5, h4, h5⟩
theorem PO.below (h : PO W r n a0 c0 ds go lo g lp lr V) (hb : Below V.heap.size V V') : PO W r n a0 c0 ds go lo g lp lr V' := by
  obtain ⟨A, T, h1, h2, h3, h4⟩ := h
  exact ⟨A, T, h1, h2.below hb, h3.below hb (Nat.le_refl _), h4⟩
theorem PO.old (h : PO W r n a0 c0 ds go lo g lp lr V) (hp : Pt V' go lo') (hk : Kept (fun k => k = go) V V') : PO W r n a0 c0 ds go lo' g lp lr V' := by
  obtain ⟨A, T, h1, h2, h3, h4, h5, h6⟩ := h
  exact ⟨A, T, h1, ⟨h2.p.kept hk (fun e => h5 e.symm), h2.r.kept hk (fun k hk e => hk (by rw [e]; exact h4)), h2.tg, h2.wg, h2.wt, h2.bel.trans (hk.toBelow h2.bel.size (fun k hk e => by omega)), h2.eq⟩, hp, h4, h5, h6⟩
theorem PO.st (h : PO W r n a0 c0 ds go lo g lp lr V) : PS W r n a0 c0 ds g lp lr V := by
  obtain ⟨A, T, h1, h2, _⟩ := h
  exact ⟨A, T, h1, h2⟩
theorem PO.pt (h : PO W r n a0 c0 ds go lo g lp lr V) : Pt V go lo := by
  obtain ⟨A, T, h1, h2, h3, _⟩ := h
  exact h3
theorem PS.pt (h : PS W r n a0 c0 ds g lp lr V) : Pt V g lp := by
  obtain ⟨A, T, h1, h2⟩ := h
  exact h2.p
theorem PS.bel (h : PS W r n a0 c0 ds g lp lr V) : Below W.heap.size W V := by
  obtain ⟨A, T, h1, h2⟩ := h
  exact h2.bel
/-- a copy is made: it goes on -/
theorem PS.copied (h : PS W r n a0 c0 ds g lp lr V) {g' : Nat} (hg : V.heap.size ≤ g') (hp : Pt V' g' lp) (hb : Below V.heap.size V V') : PO W r n a0 c0 ds g lp g' lp lr V' := by
  obtain ⟨A, T, h1, h2⟩ := h
  have h3 := h2.below hb
  refine ⟨A, T, h1, ⟨hp, h3.r, ?_, ?_, h3.wt, h3.bel, h3.eq⟩, h3.p, h2.tg, ?_, h2.wg⟩
  · cases e : T g' with
    | none => rfl
    | some t => have := h2.r.lt g' (by rw [e]; simp); omega
  · have := h2.bel.size; omega
  · have := h2.p.lt; omega
/-! ### The calls -/
abbrev Out (W : World) (r n : Nat) (a0 : Option Addr) (c0 : Nat) (ds : List Df) (vb : Nat) (cs : Array Value) (g : Nat) (lp lr : List Bx) (v : Value) (e : Ending) (V' : World) : Prop := e = .returned v ∧ PV W r n a0 c0 ds vb cs g lp lr V'
theorem putPV (h : PV W r n a0 c0 ds vb cs g lp lr V) (part port word x : Int) (hx : 0 ≤ x ∧ x ≤ 4294967295) :
    Calls Try.prog 15 #[.pointer (some ⟨g, 0, none⟩), .int .i64 part, .int .i64 port, .int .i64 word, .int .u32 x] V (Out W r n a0 c0 ds vb cs g (putL lp part port word x) lr (.int .i64 (errW wrt lp part port word))) :=
  (put_any h.st.pt part port word x hx).mono fun e V' ⟨h1, h2, h3⟩ => ⟨h1, h.prog h2 h3⟩
theorem sendPV (h : PV W r n a0 c0 ds vb cs g lp lr V) (part port : Int) :
    Calls Try.prog 17 #[.pointer (some ⟨g, 0, none⟩), .int .i64 part, .int .i64 port] V (Out W r n a0 c0 ds vb cs g (sendL lp part port) lr (.int .i64 (errA wrt lp part port))) :=
  (send_any h.st.pt part port).mono fun e V' ⟨h1, h2, h3⟩ => ⟨h1, h.prog h2 h3⟩
theorem commitPV (h : PV W r n a0 c0 ds vb cs g lp lr V) : Calls Try.prog 19 #[.pointer (some ⟨g, 0, none⟩)] V (Out W r n a0 c0 ds vb cs g (comL lp) lr (.tuple #[])) :=
  (Commit_any h.st.pt).mono fun e V' ⟨h1, h2, h3⟩ => ⟨h1, h.prog h2 h3⟩
theorem unsendPV (h : PV W r n a0 c0 ds vb cs g lp lr V) (part : Int) : Calls Try.prog 21 #[.pointer (some ⟨g, 0, none⟩), .int .i64 part] V (Out W r n a0 c0 ds vb cs g (byL unsB part lp) lr (.tuple #[])) :=
  (Unsend_any h.st.pt part).mono fun e V' ⟨h1, h2, h3⟩ => ⟨h1, h.prog h2 h3⟩
theorem dropPV (h : PV W r n a0 c0 ds vb cs g lp lr V) (part : Int) : Calls Try.prog 23 #[.pointer (some ⟨g, 0, none⟩), .int .i64 part] V (Out W r n a0 c0 ds vb cs g (byL dropB part lp) lr (.tuple #[])) :=
  (Drop_any h.st.pt part).mono fun e V' ⟨h1, h2, h3⟩ => ⟨h1, h.prog h2 h3⟩
theorem rputPV (h : PV W r n a0 c0 ds vb cs g lp lr V) (hf : FRow (fun k => W.heap.size ≤ k) W a0 n ds) (part port word x : Int) (hp : -9223372036854775808 ≤ part ∧ part ≤ 9223372036854775807) (hx : 0 ≤ x ∧ x ≤ 4294967295) :
    Calls Try.prog 16 #[.pointer (some ⟨r, 0, none⟩), .int .i64 part, .int .i64 port, .int .i64 word, .int .u32 x] V (Out W r n a0 c0 ds vb cs g lp (putL lr part port word x) (.int .i64 (errW wrt lr part port word))) := by
  obtain ⟨A, T, rfl, h2, h3, h4, h5⟩ := h
  exact (rput_any h2.r (h2.row hf) h2.hd part port word x hp hx).mono fun e V' ⟨q1, q2, q3⟩ => ⟨q1, A, T, rfl, h2.ref q2 q3 (d_put _ _ _ _ _), q3.same h3 (by simp [h4]), h4, h5⟩
theorem rsendPV (h : PV W r n a0 c0 ds vb cs g lp lr V) (hf : FRow (fun k => W.heap.size ≤ k) W a0 n ds) (part port : Int) (hp : -9223372036854775808 ≤ part ∧ part ≤ 9223372036854775807) :
    Calls Try.prog 18 #[.pointer (some ⟨r, 0, none⟩), .int .i64 part, .int .i64 port] V (Out W r n a0 c0 ds vb cs g lp (sendL lr part port) (.int .i64 (errA wrt lr part port))) := by
  obtain ⟨A, T, rfl, h2, h3, h4, h5⟩ := h
  exact (rsend_any h2.r (h2.row hf) h2.hd part port hp).mono fun e V' ⟨q1, q2, q3⟩ => ⟨q1, A, T, rfl, h2.ref q2 q3 (d_send _ _ _), q3.same h3 (by simp [h4]), h4, h5⟩
theorem runsendPV (h : PV W r n a0 c0 ds vb cs g lp lr V) (hf : FRow (fun k => W.heap.size ≤ k) W a0 n ds) (part : Int) :
    Calls Try.prog 22 #[.pointer (some ⟨r, 0, none⟩), .int .i64 part] V (Out W r n a0 c0 ds vb cs g lp (byL unsB part lr) (.tuple #[])) := by
  obtain ⟨A, T, rfl, h2, h3, h4, h5⟩ := h
  exact (rUnsend_any h2.r (h2.row hf) h2.hd part).mono fun e V' ⟨q1, q2, q3⟩ => ⟨q1, A, T, rfl, h2.ref q2 q3 (d_by _ _ _ (fun _ => rfl)), q3.same h3 (by simp [h4]), h4, h5⟩
theorem rcommitPV (h : PV W r n a0 c0 ds vb cs g lp lr V) :
    Calls Try.prog 20 #[.pointer (some ⟨r, 0, none⟩)] V (Out W r n a0 c0 ds vb cs g lp (comL lr) (.tuple #[])) := by
  obtain ⟨A, T, rfl, h2, h3, h4, h5⟩ := h
  refine (rCommit_any h2.r).mono fun e V' ⟨q1, q2⟩ => ?_
  obtain ⟨A', T', e1, p0, ht, hk⟩ := h2.refE q2 (d_com _)
  exact ⟨q1, A', T', e1, p0, hk.same h3 (by simp [h4]), by rw [ht vb (lt_of_block h3)]; exact h4, h5⟩
theorem rdropPV (h : PV W r n a0 c0 ds vb cs g lp lr V) (hf : FRow (fun k => W.heap.size ≤ k) W a0 n ds) (part : Int) :
    Calls Try.prog 24 #[.pointer (some ⟨r, 0, none⟩), .int .i64 part] V (Out W r n a0 c0 ds vb cs g lp (byL dropB part lr) (.tuple #[])) := by
  obtain ⟨A, T, rfl, h2, h3, h4, h5⟩ := h
  refine (rDrop_any h2.r (h2.row hf) h2.hd part).mono fun e V' ⟨q1, q2⟩ => ?_
  obtain ⟨A', T', e1, p0, ht, hk⟩ := h2.refE q2 (d_by _ _ _ (fun _ => rfl))
  exact ⟨q1, A', T', e1, p0, hk.same h3 (by simp [h4]), by rw [ht vb (lt_of_block h3)]; exact h4, h5⟩
theorem rreadPV (h : PV W r n a0 c0 ds vb cs g lp lr V) (hf : FRow (fun k => W.heap.size ≤ k) W a0 n ds) (part port word : Int) (hp : -9223372036854775808 ≤ part ∧ part ≤ 9223372036854775807) :
    Calls Try.prog 12 #[.pointer (some ⟨r, 0, none⟩), .int .i64 part, .int .i64 port, .int .i64 word] V (ReadP lr part port word V) := by
  obtain ⟨A, T, rfl, h2, h3, h4, h5⟩ := h
  exact rread_any h2.r (h2.row hf) h2.hd part port word hp
theorem ragePV (h : PV W r n a0 c0 ds vb cs g lp lr V) (hf : FRow (fun k => W.heap.size ≤ k) W a0 n ds) (part port : Int) (hp : -9223372036854775808 ≤ part ∧ part ≤ 9223372036854775807) :
    Calls Try.prog 14 #[.pointer (some ⟨r, 0, none⟩), .int .i64 part, .int .i64 port] V (AgeP lr part port V) := by
  obtain ⟨A, T, rfl, h2, h3, h4, h5⟩ := h
  exact rage_any h2.r (h2.row hf) h2.hd part port hp
theorem alikePS (h : PS W r n a0 c0 ds g lp lp V) : Calls Try.prog 26 #[.pointer (some ⟨g, 0, none⟩), .pointer (some ⟨r, 0, none⟩)] V (fun e w' => e = .returned (.bool true) ∧ Below V.heap.size V w') := by
  obtain ⟨A, T, rfl, h2⟩ := h
  exact alike_any h2.p h2.r
/-- the ports and the document's, both new -/
theorem PS.new {l : List Df} {T : Nat → Option Nat} {A : RA} (hp : Pt V g (l.map newB)) (hr : Rf A n a0 c0 (l.map newB) T V') (hT : ∀ k, T k ≠ none → V.heap.size ≤ k) (hb : Below V.heap.size V V') (hg : W.heap.size ≤ g) (hW : Below W.heap.size W V) : PS W A.r n a0 c0 l g (l.map newB) (l.map newB) V' := by
  refine ⟨A, T, rfl, hp.below hb (Nat.le_refl _), hr, ?_, hg, fun k hk => by have := hT k hk; have := hW.size; omega, hW.trans (hb.mono hW.size), ?_⟩
  · cases e : T g with
    | none => rfl
    | some t => have := hT g (by rw [e]; simp); have := hp.lt; omega
  · rw [List.map_map]
    conv => rhs; rw [← List.map_id l]
    rfl
end
end Prt
end Go.Proofs.Ytcapiaempfjmeaa
