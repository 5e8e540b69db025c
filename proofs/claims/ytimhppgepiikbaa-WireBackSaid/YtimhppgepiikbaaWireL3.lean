/- Reading a list of values: what is collected. -/
import Derived.Test.YtimhppgepiikbaaWireL2
import Derived.Test.YtimhppgepiikbaaWireOpen
namespace Go.Proofs.Ytimhppgepiikbaa
open Go.ChangeShapes Go.WideShapes Go.ChangeAt Go.RowKit
namespace Wire
set_option linter.unusedVariables false
theorem info39 : (Try.prog.info? 39).map (fun i => (i.zero, i.size, i.bytes)) = some (some (.agg #[.int .i64 0, .int .u64 0, .int .i64 0, .slice none 0 0, .slice none 0 0]), 5, 72) := by kernel_rfl
/-- the cells of values without a list -/
def Cells (w : World) (B : Nat) : F → List Value → Prop
  | .nil, xs => xs = []
  | .cons k n i b sub next, xs => ∃ ba bn bc rest, xs = .int .i64 k :: .int .u64 n :: .int .i64 i :: .slice ba bn bc :: .slice none 0 0 :: rest ∧ sub = .nil ∧ OwnV w B (.slice ba bn bc) bn b ∧ bn ≤ bc ∧ bc ≤ 9223372036854775807 ∧ (∀ z ∈ b, 0 ≤ z ∧ z ≤ 255) ∧
      ((-9223372036854775808 ≤ k ∧ k ≤ 9223372036854775807) ∧ (0 ≤ n ∧ n ≤ 18446744073709551615) ∧ (-9223372036854775808 ≤ i ∧ i ≤ 9223372036854775807)) ∧ Cells w B next rest
theorem Cells.mono {w w' : World} {B : Nat} (h : ∀ v n l, OwnV w B v n l → OwnV w' B v n l) (f : F) : ∀ {xs : List Value}, Cells w B f xs → Cells w' B f xs := by
  induction f with
  | nil => intro xs h; exact h
  | cons k n i b sub next _ ih =>
    intro xs hc
    obtain ⟨ba, bn, bc, rest, h1, h2, h3, h4, h5, h6, h7, h8⟩ := hc
    exact ⟨ba, bn, bc, rest, h1, h2, h _ _ _ h3, h4, h5, h6, h7, ih h8⟩
theorem Cells.length {w : World} {B : Nat} (f : F) : ∀ {xs : List Value}, Cells w B f xs → xs.length = f.len * 5 := by
  induction f with
  | nil => intro xs h; simp only [Cells] at h; subst h; rfl
  | cons k n i b sub next _ ih =>
    intro xs hc
    obtain ⟨ba, bn, bc, rest, h1, _, _, _, _, _, _, h8⟩ := hc
    subst h1
    simp only [List.length_cons, F.len, ih h8]
    omega
/-- one more behind -/
def F.snoc : F → Int → Int → Int → List Int → F
  | .nil, k, n, i, b => .cons k n i b .nil .nil
  | .cons k' n' i' b' sub next, k, n, i, b => .cons k' n' i' b' sub (next.snoc k n i b)
theorem F.snoc_len (f : F) (k n i : Int) (b : List Int) : (f.snoc k n i b).len = f.len + 1 := by
  induction f with
  | nil => rfl
  | cons _ _ _ _ _ _ _ ih => simp only [F.snoc, F.len, ih]
theorem Cells.snoc {w : World} {B bn bc : Nat} {ba : Option Addr} {k n i : Int} {b : List Int} (ho : OwnV w B (.slice ba bn bc) bn b) (h1 : bn ≤ bc) (h2 : bc ≤ 9223372036854775807) (hb : ∀ z ∈ b, 0 ≤ z ∧ z ≤ 255)
    (hk : (-9223372036854775808 ≤ k ∧ k ≤ 9223372036854775807) ∧ (0 ≤ n ∧ n ≤ 18446744073709551615) ∧ (-9223372036854775808 ≤ i ∧ i ≤ 9223372036854775807)) (f : F) : ∀ {xs : List Value}, Cells w B f xs → Cells w B (f.snoc k n i b) (xs ++ [.int .i64 k, .int .u64 n, .int .i64 i, .slice ba bn bc, .slice none 0 0]) := by
  induction f with
  | nil => intro xs h; simp only [Cells] at h; subst h; exact ⟨ba, bn, bc, [], rfl, rfl, ho, h1, h2, hb, hk, rfl⟩
  | cons k' n' i' b' sub next _ ih =>
    intro xs hc
    obtain ⟨ba', bn', bc', rest, e1, e2, e3, e4, e5, e6, e7, e8⟩ := hc
    subst e1
    exact ⟨ba', bn', bc', _, rfl, e2, e3, e4, e5, e6, e7, ih e8⟩
/-- the values stand in memory, cell by cell -/
theorem Cells.inn {w : World} {B b0 : Nat} (f : F) : ∀ {xs : List Value} {o : Nat}, Cells w B f xs → (∀ j u, xs[j]? = some u → w.cell? ⟨b0, o + j, none⟩ = some u) → FIn (fun _ => False) w b0 o f := by
  induction f with
  | nil => intro xs o _ _; trivial
  | cons k n i b sub next _ ih =>
    intro xs o hc hx
    obtain ⟨ba, bn, bc, rest, h1, rfl, h3, h4, h5, h6, h7, h8⟩ := hc
    subst h1
    refine ⟨fun h => h, hx 0 _ rfl, hx 1 _ rfl, hx 2 _ rfl, ⟨ba, bn, bc, hx 3 _ rfl, h4, h5, ?_⟩, ⟨none, 0, 0, hx 4 _ rfl, Nat.le_refl _, by omega, rfl, Or.inl rfl⟩, h7, ih h8 fun j u hj => ?_⟩
    · exact (own_parts h3 h6).1.imp (fun _ _ h => h.elim)
    · have := hx (j + 5) u (by simpa using hj)
      rw [show o + 5 + j = o + (j + 5) from by omega]
      exact this
/-- a list of values without lists that is the call's own -/
def VRow (w : World) (B : Nat) (v : Value) (n : Nat) (f : F) : Prop := f.len = n ∧ ∃ xs, w.ownsRow B 39 5 v n xs ∧ Cells w B f xs
theorem VRow.row {w : World} {B n c : Nat} {a : Option Addr} {f : F} (h : VRow w B (.slice a n c) n f) : FRow (fun _ => False) w a n f ∧ n ≤ c ∧ c ≤ 9223372036854775807 := by
  obtain ⟨h1, xs, ho, hc⟩ := h
  rcases ho.2 with ⟨hv, h0⟩ | ⟨g, cap, cur, hv, _, hg, hnc, hcm, _, htk⟩
  · simp only [Value.slice.injEq] at hv
    obtain ⟨rfl, _, rfl⟩ := hv
    exact ⟨⟨h1, Or.inl h0⟩, by omega, by omega⟩
  · simp only [Value.slice.injEq] at hv
    obtain ⟨rfl, _, rfl⟩ := hv
    unfold maxLen at hcm
    refine ⟨⟨h1, Or.inr ⟨g, 0, rfl, hc.inn f fun j u hu => ?_⟩⟩, hnc, hcm⟩
    rw [Nat.zero_add, cell_of_row _ _ _ _ _ _ hg]
    have hj : j < n * 5 := by have := (List.getElem?_eq_some_iff.1 hu).1; have := hc.length f; omega
    rw [← htk, List.getElem?_take_of_lt hj] at hu
    simpa using hu
theorem own39_ne {w : World} {B n g : Nat} {v : Value} {xs : List Value} {cs : Array Value} {t : TypeId} {fr : Nat × Nat} (h : w.ownsRow B 39 5 v n xs) (hg : w.heap[g]? = some (.cells cs t fr)) (ht : ¬ t = 39) : some g ≠ v.ownBlock := by
  intro hb
  rcases h.2 with ⟨rfl, _⟩ | ⟨g', cap, cur, rfl, _, hg', _⟩
  · simp [Value.ownBlock] at hb
  · simp only [Value.ownBlock, Option.some.injEq] at hb
    rw [← hb, hg] at hg'
    simp at hg'
    exact ht hg'.2.1
theorem own39_keptg {w w' : World} {B n g : Nat} {v : Value} {xs : List Value} {cs : Array Value} {fr : Nat × Nat} (h : w.ownsRow B 39 5 v n xs) (hg : w.heap[g]? = some (.cells cs 63 fr)) (hk : Kept (· = g) w w') : w'.ownsRow B 39 5 v n xs := by
  have hne := own39_ne h hg (by decide)
  refine ⟨h.1, ?_⟩
  rcases h.2 with hn | ⟨g', cap, cur, rfl, hbg, hg', rest⟩
  · exact .inl hn
  · refine .inr ⟨g', cap, cur, rfl, hbg, (hk.block g' (lt_of_block hg') ?_).trans hg', rest⟩
    intro e
    exact hne (by simp [Value.ownBlock, e])
/-- bytes of their own stay when a row of values grows -/
theorem OwnV.grown {w w' : World} {B B' n n' : Nat} {v v' : Value} {l : List Int} {xs : List Value} (h : OwnV w B v n l) (ho : w.ownsRow B' 39 5 v' n' xs) (hgr : w.grownBy w' v'.ownBlock) : OwnV w' B v n l := by
  refine ⟨h.1, ?_⟩
  rcases h.2 with hn | ⟨g', cap, cur, rfl, hbg, hg', rest⟩
  · exact .inl hn
  · exact .inr ⟨g', cap, cur, rfl, hbg, (hgr.block g' (lt_of_block hg') (own39_ne ho hg' (by decide))).trans hg', rest⟩
end Wire
end Go.Proofs.Ytimhppgepiikbaa
