/- A script that grows: a row of a call's own; the two ports side by side. -/
import Derived.Test.YtcapiaempfjmeaaPortRun
namespace Go.Proofs.Ytcapiaempfjmeaa
open Go.ChangeShapes Go.WideShapes Go.ChangeAt Go.RowKit
namespace Prt
set_option linter.unusedVariables false
set_option linter.unusedSimpArgs false
def encV (y : Dv) : List Value := [.int .i64 y.k, .int .i64 y.part, .int .i64 y.port, .int .i64 y.word, .int .u32 y.x]
theorem encV_len (y : Dv) : (encV y).length = 5 := rfl
theorem encV_one (y : Dv) : ∀ v ∈ encV y, v.oneCell' = true := by
  intro v hv
  simp only [encV, List.mem_cons, List.not_mem_nil, or_false] at hv
  rcases hv with rfl | rfl | rfl | rfl | rfl <;> rfl
theorem flat_get (l : List Dv) : ∀ (j i : Nat) (v : Value), j < l.length → (encV l[j]!)[i]? = some v → (l.flatMap encV)[j * 5 + i]? = some v := by
  induction l with
  | nil => intro j i v hj; simp at hj
  | cons x l ih =>
    intro j i v hj hv
    cases j with
    | zero =>
      simp only [List.flatMap_cons]
      have hi : i < 5 := by
        have := (List.getElem?_eq_some_iff.1 hv).1
        simpa [encV_len] using this
      rw [List.getElem?_append_left (by simpa [encV_len] using hi)]
      simpa using hv
    | succ j =>
      simp only [List.flatMap_cons]
      rw [List.getElem?_append_right (by rw [encV_len]; omega), encV_len, show (j + 1) * 5 + i - 5 = j * 5 + i from by omega]
      exact ih j i v (by simpa using hj) (by simpa using hv)
theorem flat_len (l : List Dv) : (l.flatMap encV).length = l.length * 5 := by
  induction l with
  | nil => rfl
  | cons x l ih => simp [ih, encV_len]; omega
theorem infoD : ∃ i0 z, Try.prog.info? 35 = some i0 ∧ i0.zero = some z ∧ i0.size = 5 ∧ i0.bytes = 40 ∧ z.cells.size = 5 := by
  have h : (Try.prog.info? 35).map (fun i => (i.zero, i.size, i.bytes)) = some (some (.agg #[.int .i64 0, .int .i64 0, .int .i64 0, .int .i64 0, .int .u32 0]), 5, 40) := by kernel_rfl
  obtain ⟨i0, hi, hz0, hz1, hz2⟩ := info_parts h
  exact ⟨i0, _, hi, hz0, hz1, hz2, rfl⟩
theorem kept_grown {X Y : World} {row : Option Nat} (h : X.grownBy Y row) : Kept (fun k => row = some k) X Y := ⟨h.os, h.tape, h.output, h.size, fun k hk hn => h.block k hk (fun e => hn e.symm)⟩
theorem ownsRow_block {X Y : World} {base : Nat} {e : TypeId} {sz n : Nat} {v : Value} {xs : List Value} (h : X.ownsRow base e sz v n xs) (hb : ∀ k, v.ownBlock = some k → k < X.heap.size → Y.heap[k]? = X.heap[k]?) : Y.ownsRow base e sz v n xs := by
  obtain ⟨h1, h2⟩ := h
  refine ⟨h1, ?_⟩
  rcases h2 with h2 | ⟨g, cap, cur, rfl, hg, hh, rest⟩
  · exact .inl h2
  · exact .inr ⟨g, cap, cur, rfl, hg, (hb g rfl (lt_of_block hh)).trans hh, rest⟩
/-- a row of the call's own, as a script -/
theorem drow_own {w : World} {B : Nat} {v : Value} {l : List Dv} (h : w.ownsRow B 35 5 v l.length (l.flatMap encV)) : ∃ a c, v = .slice a l.length c ∧ DRow (fun k => k < B) w a l.length l := by
  obtain ⟨_, h2⟩ := h
  rcases h2 with ⟨h2, h3⟩ | ⟨g, cap, cur, rfl, hb, hg, hc, hm, hsz, ht⟩
  · rw [h3]
    have : l = [] := List.eq_nil_of_length_eq_zero h3
    subst this
    exact ⟨none, 0, h2, rfl, .inl rfl⟩
  · refine ⟨_, _, rfl, rfl, .inr ⟨g, 0, rfl, by omega, fun j hj => ?_⟩⟩
    have cell : ∀ i v, i < 5 → (encV l[j]!)[i]? = some v → w.cell? ⟨g, 0 + j * 5 + i, none⟩ = some v := fun i v hi hv => by
      have h1 := flat_get l j i v hj hv
      rw [← ht, List.getElem?_take_of_lt (by omega)] at h1
      rw [Nat.zero_add, cell_of_row _ _ _ _ _ _ hg]
      simpa using h1
    exact ⟨cell 0 _ (by omega) rfl, cell 1 _ (by omega) rfl, cell 2 _ (by omega) rfl, cell 3 _ (by omega) rfl, cell 4 _ (by omega) rfl⟩
theorem own_slice {w : World} {B n : Nat} {v : Value} {T : TypeId} {sz : Nat} {xs : List Value} (h : w.ownsRow B T sz v n xs) : ∃ a n c, v = .slice a n c := by
  obtain ⟨_, ⟨rfl, _⟩ | ⟨g, cap, cur, rfl, _⟩⟩ := h
  · exact ⟨_, _, _, rfl⟩
  · exact ⟨_, _, _, rfl⟩
/-- two lists of ports, and a script that grows -/
structure LS (w : World) (g1 g2 : Nat) (l0 : List Bx) (B : Nat) (v : Value) (less : List Dv) (V : World) : Prop where
  p1 : Pt V g1 l0
  p2 : Pt V g2 l0
  bel : Below w.heap.size w V
  own : V.ownsRow B 35 5 v less.length (less.flatMap encV)
  hw : w.heap.size ≤ B
  h1 : g1 < B
  h2 : g2 < B
  sz : B ≤ V.heap.size
section
variable {w V V' : World} {g1 g2 B : Nat} {l0 : List Bx} {v : Value} {less : List Dv}
theorem LS.below (h : LS w g1 g2 l0 B v less V) (hb : Below V.heap.size V V') : LS w g1 g2 l0 B v less V' :=
  ⟨h.p1.below hb (Nat.le_refl _), h.p2.below hb (Nat.le_refl _), h.bel.trans (hb.mono h.bel.size), ownsRow_block h.own (fun k _ hk => hb.block k hk), h.hw, h.h1, h.h2, Nat.le_trans h.sz hb.size⟩
theorem LS.grown (h : LS w g1 g2 l0 B v less V) (hg : V.grownBy V' v.ownBlock) {v' : Value} {less' : List Dv} (ho : V'.ownsRow B 35 5 v' less'.length (less'.flatMap encV)) : LS w g1 g2 l0 B v' less' V' := by
  have hk := kept_grown hg
  have hB : ∀ k, v.ownBlock = some k → B ≤ k := fun k hk => (h.own.lt k hk).1
  have := h.h1
  have := h.h2
  exact ⟨h.p1.kept hk (fun e => by have := hB _ e; omega), h.p2.kept hk (fun e => by have := hB _ e; omega), h.bel.trans (hk.toBelow h.bel.size (fun k hk e => by have := hB _ e; have := h.hw; omega)), ho, h.hw, h.h1, h.h2, Nat.le_trans h.sz hk.size⟩
end
end Prt
end Go.Proofs.Ytcapiaempfjmeaa
