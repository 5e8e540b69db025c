/- Reading a list of values. -/
import Derived.Test.YtimhppgepiikbaaWireL3
namespace Go.Proofs.Ytimhppgepiikbaa
open Go.ChangeShapes Go.WideShapes Go.ChangeAt Go.RowKit
namespace Wire
set_option linter.unusedVariables false
set_option linter.unusedSimpArgs false
/-- a list's kind, and its thing's kind, in memory -/
def KindAt (w : World) (V b : Nat) (most ek en i : Int) (ba : Option Addr) (bn bc : Nat) : Prop :=
  w.heap[V]? = some (.cells #[.int .i64 7, .int .u64 most, .int .i64 i, .slice ba bn bc, .slice (some ⟨b, 0, none⟩) 1 1] 39 (0, 0)) ∧
  w.heap[b]? = some (.cells #[.int .i64 ek, .int .u64 en, .int .i64 0, .slice none 0 0, .slice none 0 0] 39 (0, 0))
set_option maxHeartbeats 2000000 in
theorem clos_any {q : Nat → Prop} (g V b : Nat) (w : World) (most ek en i : Int) (ba : Option Addr) (bn bc : Nat) (s : RS) (hk : KindAt w V b most ek en i ba bn bc) (he7 : ¬ ek = 7) (h0 : 0 ≤ en) (h1 : en ≤ 1048576) (h : RSt q g w s) :
    Calls Try.prog 34 #[.pointer (some ⟨g, 0, none⟩), .pointer (some ⟨V, 0, none⟩)] w (ReadPost q g w ek (rdFlat ek en s)) := by
  have hlg := h.lt
  have hB0 : Below w.heap.size w (w.alloc (.cells #[.int .i64 0, .int .u64 0, .int .i64 0, .slice none 0 0, .slice none 0 0] 39)) := (Below.refl _ _).alloc (Nat.le_refl _) _
  have hV := (hB0.block V (lt_of_block hk.1)).trans hk.1
  have hb := (hB0.block b (lt_of_block hk.2)).trans hk.2
  have c4 := cell_of_row _ _ 4 _ _ _ hV
  have e0 := cell_of_row _ _ 0 _ _ _ hb
  have e1 := cell_of_row _ _ 1 _ _ _ hb
  have e2 := cell_of_row _ _ 2 _ _ _ hb
  have e3 := cell_of_row _ _ 3 _ _ _ hb
  have e4 := cell_of_row _ _ 4 _ _ _ hb
  simp only [List.getElem?_toArray, List.getElem?_cons_zero, List.getElem?_cons_succ] at c4 e0 e1 e2 e3 e4
  have HR : Hid (RSt (fun k => q k ∨ w.heap.size ≤ k) g (w.alloc (.cells #[.int .i64 0, .int .u64 0, .int .i64 0, .slice none 0 0, .slice none 0 0] 39)) s) := (h.more (q' := fun k => q k ∨ w.heap.size ≤ k) (fun k hk hh => hh.elim id fun e => by omega)).kept hB0
  have HQ : Hid (∀ (w' : World) s, RSt (fun k => q k ∨ w.heap.size ≤ k) g w' s → RSt q g w' s) := fun w' s h => h.more fun k _ hk => Or.inl hk
  have HZ : Hid ((w.alloc (.cells #[.int .i64 0, .int .u64 0, .int .i64 0, .slice none 0 0, .slice none 0 0] 39)).heap[w.heap.size]? = some (.cells #[.int .i64 0, .int .u64 0, .int .i64 0, .slice none 0 0, .slice none 0 0] 39 (0, 0))) := heap_alloc_new _ _
  have HK0 : Hid (Kept (· = g) w (w.alloc (.cells #[.int .i64 0, .int .u64 0, .int .i64 0, .slice none 0 0, .slice none 0 0] 39))) := Kept.of_below hB0
  have HRd := Lib.hid (read_flat g _ ek en 0 none none 0 0 0 0 s h0 h1 HR.out he7)
  clear h hB0 hV hb hk
  go_enter Try.func34, Try.ntmps34
  go_wp2_with fail
  refine HRd.out.mono ?_
  rintro r w1 ⟨va, vn, vc, rfl, ho, hle, hmx, hby, h1', h2, hn, hi⟩
  have hz := (h2.block _ (lt_of_block HZ.out) (by omega)).trans HZ.out
  have ne4 := own_other ho hz (by decide)
  have z0 := cell_of_row _ _ 0 _ _ _ hz
  have z1 := cell_of_row _ _ 1 _ _ _ hz
  have z2 := cell_of_row _ _ 2 _ _ _ hz
  have z3 := cell_of_row _ _ 3 _ _ _ hz
  have z4 := cell_of_row _ _ 4 _ _ _ hz
  have f0 := row_free hz 0
  have f1 := row_free hz 1
  have f2 := row_free hz 2
  have f3 := row_free hz 3
  have f4 := row_free hz 4
  simp only [List.getElem?_toArray, List.getElem?_cons_zero, List.getElem?_cons_succ] at z0 z1 z2 z3 z4
  have H1 := Lib.hid h1'
  have HK1 := Lib.hid (HK0.out.trans h2)
  have HBy := Lib.hid hby
  have HNi := Lib.hid (And.intro hn hi)
  have HO : Hid (OwnV w1 w.heap.size (.slice va vn vc) vn (rdFlat ek en s).b) := ⟨ho.1, ho.2.imp id fun ⟨g', cap, cur, e1, e2, e3⟩ => ⟨g', cap, cur, e1, Nat.le_trans (by simp) e2, e3⟩⟩
  have HNe4 := Lib.hid ne4.symm
  have hne1 : w.heap.size ≠ g := by omega
  clear h1' h2 hz ho ne4 hby hn hi c4 e0 e1 e2 e3 e4
  go_wp2_with fail
  refine bodyPost_ret (v := .agg #[.int .i64 ek, .int .u64 (rdFlat ek en s).n, .int .i64 (rdFlat ek en s).i, .slice va vn vc, .slice none 0 0]) (by simp [results, Try.results34, go_sem, z0, z1, z2, z3, z4, f0, f1, f2, f3, f4]) rfl ?_
  refine ⟨va, vn, vc, rfl, ?_, hle, hmx, HBy.out, HQ.out _ _ ?_, ?_, HNi.out.1, HNi.out.2⟩
  · exact ownsRow_setCell_other (ownsRow_setCell_other (ownsRow_setCell_other (ownsRow_setCell_other (ownsRow_setCell_other HO.out HNe4.out _) HNe4.out _) HNe4.out _) HNe4.out _) HNe4.out _
  · exact ((((H1.out.set _ _ hne1 (Or.inr (by simp only; omega))).set _ _ hne1 (Or.inr (by simp only; omega))).set _ _ hne1 (Or.inr (by simp only; omega))).set _ _ hne1 (Or.inr (by simp only; omega))).set _ _ hne1 (Or.inr (by simp only; omega))
  · exact ((((HK1.out.setCell (Or.inr (by simp only; omega)) _).setCell (Or.inr (by simp only; omega)) _).setCell (Or.inr (by simp only; omega)) _).setCell (Or.inr (by simp only; omega)) _).setCell (Or.inr (by simp only; omega)) _
/-- what n values' reading tells and leaves -/
def rdMany (ek en : Int) : Nat → RS → F × RS
  | 0, s => (.nil, s)
  | n + 1, s => if (rdFlat ek en s).s.e = 0 then (.cons ek (rdFlat ek en s).n (rdFlat ek en s).i (rdFlat ek en s).b .nil (rdMany ek en n (rdFlat ek en s).s).1, (rdMany ek en n (rdFlat ek en s).s).2) else (.nil, (rdFlat ek en s).s)
/-- n values, behind those that are there -/
def app : F → F → F
  | .nil, f => f
  | .cons k n i b sub next, f => .cons k n i b sub (app next f)
theorem app_nil : ∀ f : F, app f .nil = f
  | .nil => rfl
  | .cons k n i b sub next => by simp only [app, app_nil next]
theorem app_snoc (f : F) (k n i : Int) (b : List Int) (f' : F) : app (f.snoc k n i b) f' = app f (.cons k n i b .nil f') := by
  induction f with
  | nil => rfl
  | cons _ _ _ _ _ _ _ ih => simp only [F.snoc, app, ih]
def TakePost (q : Nat → Prop) (g : Nat) (w : World) (t : F × RS) (r : Ending) (w' : World) : Prop :=
  ∃ la ln lc, r = .returned (.slice la ln lc) ∧ VRow w' w.heap.size (.slice la ln lc) ln (if t.2.e = 0 then t.1 else .nil) ∧ RSt q g w' t.2 ∧ Kept (· = g) w w'
theorem vrow_nil (w : World) (B : Nat) : VRow w B (.slice none 0 0) 0 .nil := ⟨rfl, [], World.ownsRow_nil _ _ _ _, rfl⟩
theorem KindAt.kept {w w' : World} {g V b : Nat} {most ek en i : Int} {ba : Option Addr} {bn bc : Nat} {cs : Array Value} {fr : Nat × Nat} (h : KindAt w V b most ek en i ba bn bc) (hg : w.heap[g]? = some (.cells cs 63 fr)) (hk : Kept (· = g) w w') : KindAt w' V b most ek en i ba bn bc := by
  refine ⟨(hk.block V (lt_of_block h.1) ?_).trans h.1, (hk.block b (lt_of_block h.2) ?_).trans h.2⟩
  · intro e; have := h.1; rw [e, hg] at this; simp at this
  · intro e; have := h.2; rw [e, hg] at this; simp at this
end Wire
end Go.Proofs.Ytimhppgepiikbaa
