/- PortSteady: what was sent, in a row of bools; three lists of ports side by side. -/
import Derived.Test.YtcapiaempfjmeaaPortLess
import Derived.Laws.MakeOwn
namespace Go.Proofs.Ytcapiaempfjmeaa
open Go.ChangeShapes Go.WideShapes Go.ChangeAt Go.RowKit
namespace Prt
set_option linter.unusedVariables false
set_option linter.unusedSimpArgs false
/-- a row of bools of a call's own -/
def Bools (V : World) (g n : Nat) (f : Nat → Bool) : Prop := ∃ cs : Array Value, V.heap[g]? = some (.cells cs 4 (0, 0)) ∧ cs.size = n ∧ ∀ i, i < n → cs[i]? = some (.bool (f i))
theorem Bools.kept {V V' : World} {g n : Nat} {f : Nat → Bool} (h : Bools V g n f) {p : Nat → Prop} (hk : Kept p V V') (hg : ¬ p g) : Bools V' g n f := by
  obtain ⟨cs, h1, h2⟩ := h
  exact ⟨cs, hk.same h1 hg, h2⟩
theorem Bools.cell {V : World} {g n : Nat} {f : Nat → Bool} (h : Bools V g n f) {i : Nat} (hi : i < n) : V.cell? ⟨g, i, none⟩ = some (.bool (f i)) ∧ V.frozen? ⟨g, i, none⟩ = false := by
  obtain ⟨cs, h1, h2, h3⟩ := h
  exact ⟨by rw [cell_of_row _ _ _ _ _ _ h1]; exact h3 i hi, by simp [World.frozen?, h1]⟩
theorem Bools.set {V : World} {g n : Nat} {f : Nat → Bool} (h : Bools V g n f) {i : Nat} (hi : i < n) (b : Bool) (f' : Nat → Bool) (hf : ∀ j, j < n → f' j = if j = i then b else f j) : Bools (V.setCell ⟨g, i, none⟩ (.bool b)) g n f' := by
  obtain ⟨cs, h1, h2, h3⟩ := h
  refine ⟨_, row_setCell h1, by simpa using h2, fun j hj => ?_⟩
  rw [Array.getElem?_setIfInBounds, hf j hj]
  by_cases e : j = i
  · subst e; rw [if_pos rfl, if_pos (by omega), if_pos rfl]
  · rw [if_neg (fun x => e x.symm), if_neg e]; exact h3 j hj
theorem Bools.lt {V : World} {g n : Nat} {f : Nat → Bool} (h : Bools V g n f) : g < V.heap.size := by
  obtain ⟨cs, h1, _⟩ := h
  exact lt_of_block h1
theorem Bools.imp {V : World} {g n : Nat} {f f' : Nat → Bool} (h : Bools V g n f) (hf : ∀ i, i < n → f i = f' i) : Bools V g n f' := by
  obtain ⟨cs, h1, h2, h3⟩ := h
  exact ⟨cs, h1, h2, fun i hi => by rw [← hf i hi]; exact h3 i hi⟩
theorem infoB : (Try.prog.info? 4).map (fun i => (i.zero, i.size, i.bytes)) = some (some (.bool false), 1, 1) := by kernel_rfl
theorem made_bools (n k : Nat) (h : k = 1) : Go.madeCells (Value.bool false).cells (n * k) = Array.replicate n (Value.bool false) := by
  subst h
  apply Array.ext'
  simp [Go.madeCells, Value.cells]
  apply List.ext_getElem
  · simp
  · intro i h1 h2
    simp [show i % 1 = 0 from Nat.mod_one i]
theorem run_make_bools (w : World) (n : Nat) (hn : n ≤ 1000000) :
    (Instr.makeSlice 48 (.int .i64 (n : Int)) (.int .i64 (n : Int))).run Try.prog w = .ok (.slice (some ⟨w.heap.size, 0, none⟩) n n) (w.alloc (.cells (Array.replicate n (Value.bool false)) 4)) := by
  obtain ⟨i, hi, hz, hs, hb⟩ := info_parts infoB
  have := run_make (P := Try.prog) w 48 4 i (.bool false) Try.underlying48 hi hz .i64 .i64 (n : Int) (n : Int) (by omega) (by omega) (by rw [hb]; omega) (by omega)
  rw [this, Int.toNat_natCast, made_bools n i.size hs]
theorem new_bools (w : World) (n : Nat) : Bools (w.alloc (.cells (Array.replicate n (Value.bool false)) 4)) w.heap.size n (fun _ => false) :=
  ⟨_, heap_alloc_new _ _, by simp, fun i hi => by simp [hi]⟩
/-- the ports, the drafts' copy, the copy of what was, and the row -/
structure S4 (W : World) (ga gd gw gs n0 : Nat) (la ld lw : List Bx) (f : Nat → Bool) (V : World) : Prop where
  a : Pt V ga la
  d : Pt V gd ld
  w : Pt V gw lw
  s : Bools V gs n0 f
  bel : Below W.heap.size W V
  o : W.heap.size ≤ ga ∧ ga < gd ∧ gd < gw ∧ gw < gs
section
variable {W V V' : World} {ga gd gw gs n0 : Nat} {la ld lw : List Bx} {f : Nat → Bool}
theorem S4.below (h : S4 W ga gd gw gs n0 la ld lw f V) (hb : Below V.heap.size V V') : S4 W ga gd gw gs n0 la ld lw f V' :=
  ⟨h.a.below hb (Nat.le_refl _), h.d.below hb (Nat.le_refl _), h.w.below hb (Nat.le_refl _), h.s.kept (p := fun _ => False) (Kept.of_below hb) id, h.bel.trans (hb.mono h.bel.size), h.o⟩
theorem S4.setA (h : S4 W ga gd gw gs n0 la ld lw f V) {l' : List Bx} (hp : Pt V' ga l') (hk : Kept (fun k => k = ga) V V') : S4 W ga gd gw gs n0 l' ld lw f V' := by
  have ho := h.o
  exact ⟨hp, h.d.kept hk (by omega), h.w.kept hk (by omega), h.s.kept hk (by omega), h.bel.trans (hk.toBelow h.bel.size (fun k hk e => by omega)), h.o⟩
theorem S4.setD (h : S4 W ga gd gw gs n0 la ld lw f V) {l' : List Bx} (hp : Pt V' gd l') (hk : Kept (fun k => k = gd) V V') : S4 W ga gd gw gs n0 la l' lw f V' := by
  have ho := h.o
  exact ⟨h.a.kept hk (by omega), hp, h.w.kept hk (by omega), h.s.kept hk (by omega), h.bel.trans (hk.toBelow h.bel.size (fun k hk e => by omega)), h.o⟩
theorem S4.setS (h : S4 W ga gd gw gs n0 la ld lw f V) {i : Nat} (hi : i < n0) (b : Bool) (f' : Nat → Bool) (hf : ∀ j, j < n0 → f' j = if j = i then b else f j) : S4 W ga gd gw gs n0 la ld lw f' (V.setCell ⟨gs, i, none⟩ (.bool b)) := by
  have ho := h.o
  have hk : Kept (fun k => k = gs) V (V.setCell ⟨gs, i, none⟩ (.bool b)) := (Kept.refl (fun k => k = gs) V).setCell (.inl rfl) _
  exact ⟨h.a.kept hk (by omega), h.d.kept hk (by omega), h.w.kept hk (by omega), h.s.set hi b f' hf, h.bel.trans (hk.toBelow h.bel.size (fun k hk e => by omega)), h.o⟩
theorem S4.imp (h : S4 W ga gd gw gs n0 la ld lw f V) {f' : Nat → Bool} (hf : ∀ i, i < n0 → f i = f' i) : S4 W ga gd gw gs n0 la ld lw f' V := ⟨h.a, h.d, h.w, h.s.imp hf, h.bel, h.o⟩
end
theorem cells3 {X : World} {V : Nat} {v0 v1 v2 : Value} {t : TypeId} {fr : Nat × Nat} (h : X.heap[V]? = some (.cells #[v0, v1, v2] t fr)) : X.cell? ⟨V, 0, none⟩ = some v0 ∧ X.cell? ⟨V, 1, none⟩ = some v1 ∧ X.cell? ⟨V, 2, none⟩ = some v2 :=
  ⟨by rw [cell_of_row _ _ _ _ _ _ h]; rfl, by rw [cell_of_row _ _ _ _ _ _ h]; rfl, by rw [cell_of_row _ _ _ _ _ _ h]; rfl⟩
/-- a message, told, in numbers of its own -/
def MsgQ (N : Nat) (M : List Int) (ag : Int) (w : World) (e : Ending) (w' : World) : Prop :=
  ∃ a cap, e = .returned (.tuple #[.slice (some ⟨a, 0, none⟩) N cap, .int .u32 ag]) ∧ N ≤ 16 ∧ NRow (fun _ => False) w' (some ⟨a, 0, none⟩) N M ∧ Below w.heap.size w w'
theorem message_q {w : World} {g : Nat} {l : List Bx} (h : Pt w g l) {k : Nat} (hk : k < l.length) {N : Nat} {M : List Int} {ag : Int} (hN : (l[k]!).d.w.toNat = N) (hM : msgB l[k]! = M) (ha : (l[k]!).age = ag) :
    Calls Try.prog 28 #[.pointer (some ⟨g, 0, none⟩), .int .i64 (k : Int)] w (MsgQ N M ag w) := by
  refine (message_any h hk).mono ?_
  rintro e w' ⟨a, n, cap, rfl, h1, h2, h3, h4⟩
  subst hN; subst hM; subst ha; subst h1
  exact ⟨a, cap, rfl, h2, h3, h4⟩
/-! ### In numbers -/
/-- whether a port is sent behind these calls -/
def sB (l : List Df) (F : List Dv) (i : Nat) : Bool := F.foldl (sentB i l[i]!) false
theorem sB_next (l : List Df) (F : List Dv) (j i : Nat) (h : j < F.length) : sB l (F.take (j + 1)) i = sentB i l[i]! (sB l (F.take j) i) F[j]! := by
  unfold sB
  rw [List.take_add_one, List.foldl_append, List.getElem?_eq_getElem h, getElem!_pos F j h]
  rfl
theorem newL_at (l : List Df) (i : Nat) (h : i < l.length) : (l.map newB)[i]! = newB l[i]! := by
  rw [getElem!_pos _ i (by simpa using h), List.getElem_map, getElem!_pos l i h]
theorem foldB_d (c : Bool) (n : Nat) (ys : List Dv) (b : Bx) : (ys.foldl (doB c n) b).d = b.d := by
  induction ys generalizing b with
  | nil => rfl
  | cons y ys ih => rw [List.foldl_cons, ih, doB_d]
theorem comB_d (b : Bx) : (comB b).d = b.d := by unfold comB; split <;> rfl
/-- what stands ahead of the frame -/
def L2 (l : List Df) (D : List Dv) : List Bx := comL (runL true (l.map newB) D)
theorem L2_len (l : List Df) (D : List Dv) : (L2 l D).length = l.length := by rw [L2, comL_len, runL_len, List.length_map]
theorem L2_at (l : List Df) (D : List Dv) (i : Nat) (h : i < l.length) : ((L2 l D)[i]!).d = l[i]! ∧ ((L2 l D)[i]!).s = false := by
  unfold L2 comL
  rw [map_at _ _ _ (by rw [runL_len, List.length_map]; exact h), runL_at _ _ _ _ (by rw [List.length_map]; exact h), newL_at _ _ h]
  exact ⟨by rw [comB_d, foldB_d]; rfl, comB_s _⟩
/-- behind the frame's calls: the same message and age, and sent as is told -/
theorem frameL (l : List Df) (D F : List Dv) (i : Nat) (h : i < l.length) : ((runL false (L2 l D) F)[i]!).d = ((L2 l D)[i]!).d ∧ ((runL false (L2 l D) F)[i]!).m = ((L2 l D)[i]!).m ∧ ((runL false (L2 l D) F)[i]!).age = ((L2 l D)[i]!).age ∧ ((runL false (L2 l D) F)[i]!).s = sB l F i := by
  obtain ⟨h1, h2⟩ := L2_at l D i h
  rw [runL_at _ _ _ _ (by rw [L2_len]; exact h)]
  obtain ⟨q1, q2, q3, q4⟩ := frame_at i F (L2 l D)[i]!
  exact ⟨q1, q2, q3, by rw [q4, h1, h2]; rfl⟩
/-- the writer's Send -/
theorem send_own (l : List Bx) (k : Nat) (h : k < l.length) : sendL l (l[k]!).d.wr k = l.set k (sendB l[k]!) ∧ errA wrt l (l[k]!).d.wr k = 0 := by
  have he : errA wrt l (l[k]!).d.wr k = 0 := by rw [errA_in h, if_pos (by simp [wrt])]
  refine ⟨?_, he⟩
  unfold sendL
  rw [if_pos he, Int.toNat_natCast, modify_set _ _ _ h]
theorem range_next (k : Nat) : List.range (k + 1) = List.range k ++ [k] := List.range_succ
theorem foldK_range (f : Bx → Bx) (l : List Bx) (k : Nat) (hk : k < l.length) : (foldK f (List.range k) l)[k]! = l[k]! := by
  rw [foldK_at f _ List.nodup_range l k hk, if_neg (by simp)]
theorem sent_msg (b : Bx) (h : b.s = true) : (comB b).age = 0 ∧ msgB (comB b) = msgB (comB (sendB b)) := by
  unfold comB msgB sendB
  rw [if_pos h]
  exact ⟨rfl, rfl⟩
theorem not_msg (b : Bx) (h : b.s = false) : (comB b).age = min (b.age + 1) 255 ∧ msgB (comB b) = b.m.take b.d.w.toNat := by
  unfold comB msgB
  rw [if_neg (by rw [h]; simp)]
  exact ⟨rfl, rfl⟩
end Prt
end Go.Proofs.Ytcapiaempfjmeaa
