/- Reading a value that is a list. -/
import Derived.Test.YtimhppgepiikbaaWireL5
namespace Go.Proofs.Ytimhppgepiikbaa
open Go.ChangeShapes Go.WideShapes Go.ChangeAt Go.RowKit
namespace Wire
set_option linter.unusedVariables false
set_option linter.unusedSimpArgs false
theorem cells_set {w : World} {B : Nat} {x : Addr} (hx : x.block < B) (u : Value) (f : F) {xs : List Value} (h : Cells w B f xs) : Cells (w.setCell x u) B f xs := h.mono (fun v n l h => ownsRow_setCell_below h hx u) f
theorem vrow_set {w : World} {B n : Nat} {v : Value} {f : F} (h : VRow w B v n f) (x : Addr) (hx : x.block < B) (u : Value) : VRow (w.setCell x u) B v n f := by
  obtain ⟨h1, xs, h2, h3⟩ := h
  exact ⟨h1, xs, ownsRow_setCell_below h2 hx u, cells_set hx u f h3⟩
def ListPost (q : Nat → Prop) (g : Nat) (w : World) (t : F × RS) (r : Ending) (w' : World) : Prop :=
  ∃ la ln lc, r = .returned (.agg #[.int .i64 7, .int .u64 0, .int .i64 0, .slice none 0 0, .slice la ln lc]) ∧ FRow (fun _ => False) w' la ln (if t.2.e = 0 then t.1 else .nil) ∧ ln ≤ lc ∧ lc ≤ 9223372036854775807 ∧ RSt q g w' t.2 ∧ Kept (· = g) w w'
set_option maxHeartbeats 4000000 in
set_option maxRecDepth 100000 in
theorem read_list {q : Nat → Prop} (g b : Nat) (w : World) (most ek en i : Int) (ba : Option Addr) (bn bc : Nat) (s : RS) (hm0 : 0 ≤ most) (hm1 : most ≤ 1048576)
    (hb : w.heap[b]? = some (.cells #[.int .i64 ek, .int .u64 en, .int .i64 0, .slice none 0 0, .slice none 0 0] 39 (0, 0))) (he7 : ¬ ek = 7) (h0 : 0 ≤ en) (h1 : en ≤ 1048576) (hek : -9223372036854775808 ≤ ek ∧ ek ≤ 9223372036854775807) (h : RSt q g w s) :
    Calls Try.prog 13 #[.pointer (some ⟨g, 0, none⟩), .agg #[.int .i64 7, .int .u64 most, .int .i64 i, .slice ba bn bc, .slice (some ⟨b, 0, none⟩) 1 1]] w (ListPost q g w (rdList ek en most s)) := by
  have hlg := h.lt
  have hB0 : Below w.heap.size w (((w.alloc (.cells #[.int .i64 7, .int .u64 most, .int .i64 i, .slice ba bn bc, .slice (some ⟨b, 0, none⟩) 1 1] 39)).alloc (.cells #[.int .i64 0, .int .u64 0, .int .i64 0, .slice none 0 0, .slice none 0 0] 39)).alloc (.cells #[.int .i64 7, .int .u64 0, .int .i64 0, .slice none 0 0, .slice none 0 0] 39)) := (((Below.refl _ _).alloc (Nat.le_refl _) _).alloc (by simp) _).alloc (by simp; omega) _
  have HR : Hid (RSt (fun k => q k ∨ w.heap.size ≤ k) g (((w.alloc (.cells #[.int .i64 7, .int .u64 most, .int .i64 i, .slice ba bn bc, .slice (some ⟨b, 0, none⟩) 1 1] 39)).alloc (.cells #[.int .i64 0, .int .u64 0, .int .i64 0, .slice none 0 0, .slice none 0 0] 39)).alloc (.cells #[.int .i64 7, .int .u64 0, .int .i64 0, .slice none 0 0, .slice none 0 0] 39)) s) := (h.more (q' := fun k => q k ∨ w.heap.size ≤ k) (fun k hk hh => hh.elim id fun e => by omega)).kept hB0
  have HQ : Hid (∀ (w' : World) s, RSt (fun k => q k ∨ w.heap.size ≤ k) g w' s → RSt q g w' s) := fun w' s h => h.more fun k _ hk => Or.inl hk
  have HV : Hid ((((w.alloc (.cells #[.int .i64 7, .int .u64 most, .int .i64 i, .slice ba bn bc, .slice (some ⟨b, 0, none⟩) 1 1] 39)).alloc (.cells #[.int .i64 0, .int .u64 0, .int .i64 0, .slice none 0 0, .slice none 0 0] 39)).alloc (.cells #[.int .i64 7, .int .u64 0, .int .i64 0, .slice none 0 0, .slice none 0 0] 39)).heap[w.heap.size + 1 + 1]? = some (.cells #[.int .i64 7, .int .u64 0, .int .i64 0, .slice none 0 0, .slice none 0 0] 39 (0, 0))) := by
    have h := heap_alloc_new ((w.alloc (.cells #[.int .i64 7, .int .u64 most, .int .i64 i, .slice ba bn bc, .slice (some ⟨b, 0, none⟩) 1 1] 39)).alloc (.cells #[.int .i64 0, .int .u64 0, .int .i64 0, .slice none 0 0, .slice none 0 0] 39)) (.cells #[.int .i64 7, .int .u64 0, .int .i64 0, .slice none 0 0, .slice none 0 0] 39)
    have e : ((w.alloc (.cells #[.int .i64 7, .int .u64 most, .int .i64 i, .slice ba bn bc, .slice (some ⟨b, 0, none⟩) 1 1] 39)).alloc (.cells #[.int .i64 0, .int .u64 0, .int .i64 0, .slice none 0 0, .slice none 0 0] 39)).heap.size = w.heap.size + 1 + 1 := by simp
    rw [e] at h
    exact h
  have HZ : Hid ((((w.alloc (.cells #[.int .i64 7, .int .u64 most, .int .i64 i, .slice ba bn bc, .slice (some ⟨b, 0, none⟩) 1 1] 39)).alloc (.cells #[.int .i64 0, .int .u64 0, .int .i64 0, .slice none 0 0, .slice none 0 0] 39)).alloc (.cells #[.int .i64 7, .int .u64 0, .int .i64 0, .slice none 0 0, .slice none 0 0] 39)).heap[w.heap.size + 1]? = some (.cells #[.int .i64 0, .int .u64 0, .int .i64 0, .slice none 0 0, .slice none 0 0] 39 (0, 0))) := by
    have h := heap_alloc2_new w (.cells #[.int .i64 7, .int .u64 most, .int .i64 i, .slice ba bn bc, .slice (some ⟨b, 0, none⟩) 1 1] 39) (.cells #[.int .i64 0, .int .u64 0, .int .i64 0, .slice none 0 0, .slice none 0 0] 39)
    exact (Below.heap_alloc _ _ _ (by simp)).trans h
  have hKd : KindAt (((w.alloc (.cells #[.int .i64 7, .int .u64 most, .int .i64 i, .slice ba bn bc, .slice (some ⟨b, 0, none⟩) 1 1] 39)).alloc (.cells #[.int .i64 0, .int .u64 0, .int .i64 0, .slice none 0 0, .slice none 0 0] 39)).alloc (.cells #[.int .i64 7, .int .u64 0, .int .i64 0, .slice none 0 0, .slice none 0 0] 39)) w.heap.size b most ek en i ba bn bc := by
    refine ⟨?_, (hB0.block b (lt_of_block hb)).trans hb⟩
    have h := heap_alloc2_old w (.cells #[.int .i64 7, .int .u64 most, .int .i64 i, .slice ba bn bc, .slice (some ⟨b, 0, none⟩) 1 1] 39) (.cells #[.int .i64 0, .int .u64 0, .int .i64 0, .slice none 0 0, .slice none 0 0] 39)
    exact (Below.heap_alloc _ _ _ (by simp; omega)).trans h
  have HTk := Lib.hid (takel_any g w.heap.size b _ most ek en i ba bn bc s hKd he7 h0 h1 hek HR.out)
  have HK0 : Hid (Kept (· = g) w (((w.alloc (.cells #[.int .i64 7, .int .u64 most, .int .i64 i, .slice ba bn bc, .slice (some ⟨b, 0, none⟩) 1 1] 39)).alloc (.cells #[.int .i64 0, .int .u64 0, .int .i64 0, .slice none 0 0, .slice none 0 0] 39)).alloc (.cells #[.int .i64 7, .int .u64 0, .int .i64 0, .slice none 0 0, .slice none 0 0] 39))) := Kept.of_below hB0
  have HSz : Hid ((((w.alloc (.cells #[.int .i64 7, .int .u64 most, .int .i64 i, .slice ba bn bc, .slice (some ⟨b, 0, none⟩) 1 1] 39)).alloc (.cells #[.int .i64 0, .int .u64 0, .int .i64 0, .slice none 0 0, .slice none 0 0] 39)).alloc (.cells #[.int .i64 7, .int .u64 0, .int .i64 0, .slice none 0 0, .slice none 0 0] 39)).heap.size = w.heap.size + 3) := by show _ = _; simp
  have hd : decide (most < 1099511627776) = true := by simp; omega
  clear h hB0 hKd hb
  go_enter Try.func13, Try.ntmps13
  go_wp2_with fail
  refine HTk.out.mono ?_
  rintro r w1 ⟨la, ln, lc, rfl, hv3, h1', h2⟩
  have hv := (h2.block _ (lt_of_block HV.out) (by omega)).trans HV.out
  have hz := (h2.block _ (lt_of_block HZ.out) (by omega)).trans HZ.out
  have v0 := cell_of_row _ _ 0 _ _ _ hv
  have z0 := cell_of_row _ _ 0 _ _ _ hz
  have f0 := row_free hz 0
  have v1 := cell_of_row _ _ 1 _ _ _ hv
  have z1 := cell_of_row _ _ 1 _ _ _ hz
  have f1 := row_free hz 1
  have v2 := cell_of_row _ _ 2 _ _ _ hv
  have z2 := cell_of_row _ _ 2 _ _ _ hz
  have f2 := row_free hz 2
  have v3 := cell_of_row _ _ 3 _ _ _ hv
  have z3 := cell_of_row _ _ 3 _ _ _ hz
  have f3 := row_free hz 3
  have v4 := cell_of_row _ _ 4 _ _ _ hv
  have z4 := cell_of_row _ _ 4 _ _ _ hz
  have f4 := row_free hz 4
  have fv := row_free hv 4
  simp only [List.getElem?_toArray, List.getElem?_cons_zero, List.getElem?_cons_succ] at v0 v1 v2 v3 v4 z0 z1 z2 z3 z4
  have H1 := Lib.hid h1'
  have HK1 := Lib.hid (HK0.out.trans h2)
  have HV3 := Lib.hid hv3
  have hne : w.heap.size + 1 + 1 ≠ g := by omega
  have hne1 : w.heap.size + 1 ≠ g := by omega
  clear h1' h2 hv hz hv3
  go_wp2_with fail
  refine bodyPost_ret (v := .agg #[.int .i64 7, .int .u64 0, .int .i64 0, .slice none 0 0, .slice la ln lc]) (by simp [results, Try.results13, go_sem, z0, z1, z2, z3, z4, f0, f1, f2, f3, f4]) rfl ?_
  have q5 : w.heap.size + 1 + 1 < (((w.alloc (.cells #[.int .i64 7, .int .u64 most, .int .i64 i, .slice ba bn bc, .slice (some ⟨b, 0, none⟩) 1 1] 39)).alloc (.cells #[.int .i64 0, .int .u64 0, .int .i64 0, .slice none 0 0, .slice none 0 0] 39)).alloc (.cells #[.int .i64 7, .int .u64 0, .int .i64 0, .slice none 0 0, .slice none 0 0] 39)).heap.size := by rw [HSz.out]; omega
  have q4 : w.heap.size + 1 < (((w.alloc (.cells #[.int .i64 7, .int .u64 most, .int .i64 i, .slice ba bn bc, .slice (some ⟨b, 0, none⟩) 1 1] 39)).alloc (.cells #[.int .i64 0, .int .u64 0, .int .i64 0, .slice none 0 0, .slice none 0 0] 39)).alloc (.cells #[.int .i64 7, .int .u64 0, .int .i64 0, .slice none 0 0, .slice none 0 0] 39)).heap.size := by rw [HSz.out]; omega
  have hrow := (vrow_set (vrow_set (vrow_set (vrow_set (vrow_set (vrow_set HV3.out ⟨w.heap.size + 1 + 1, 4, none⟩ q5 (.slice la ln lc)) ⟨w.heap.size + 1, 0, none⟩ q4 (.int .i64 7)) ⟨w.heap.size + 1, 1, none⟩ q4 (.int .u64 0)) ⟨w.heap.size + 1, 2, none⟩ q4 (.int .i64 0)) ⟨w.heap.size + 1, 3, none⟩ q4 (.slice none 0 0)) ⟨w.heap.size + 1, 4, none⟩ q4 (.slice la ln lc)).row
  refine ⟨la, ln, lc, rfl, hrow.1, hrow.2.1, hrow.2.2, HQ.out _ _ ?_, ?_⟩
  · exact (((((H1.out.set _ _ hne (Or.inr (by simp only; omega))).set _ _ hne1 (Or.inr (by simp only; omega))).set _ _ hne1 (Or.inr (by simp only; omega))).set _ _ hne1 (Or.inr (by simp only; omega))).set _ _ hne1 (Or.inr (by simp only; omega))).set _ _ hne1 (Or.inr (by simp only; omega))
  · exact (((((HK1.out.setCell (Or.inr (by simp only; omega)) _).setCell (Or.inr (by simp only; omega)) _).setCell (Or.inr (by simp only; omega)) _).setCell (Or.inr (by simp only; omega)) _).setCell (Or.inr (by simp only; omega)) _).setCell (Or.inr (by simp only; omega)) _
end Wire
end Go.Proofs.Ytimhppgepiikbaa
