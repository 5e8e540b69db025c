/- Lists of regions in memory, and the library's calls on them. -/
import Derived.Test.YtekicfaakjbmhaaRightsW2
import Derived.Test.YtekicfaakjbmhaaRightsShelf
import Derived.Laws.OwnMore
namespace Go.Proofs.Ytekicfaakjbmhaa
open Go.ChangeShapes Go.WideShapes Go.ChangeAt Go.RowKit
namespace Rights
set_option linter.unusedVariables false
set_option linter.unusedSimpArgs false
def enc (x : Rg) : List Value := [.int .u32 x.b, .int .u32 x.s, .int .u8 x.r]
theorem enc_len (x : Rg) : (enc x).length = 3 := rfl
theorem enc_one (x : Rg) : ∀ v ∈ enc x, v.oneCell' = true := by intro v hv; simp [enc] at hv; rcases hv with rfl | rfl | rfl <;> rfl
/-- the regions of a list stand in memory from a cell on -/
def RIn (w : World) (b off : Nat) (l : List Rg) : Prop := ∀ j, j < l.length → ∀ i v, (enc l[j]!)[i]? = some v → w.cell? ⟨b, off + j * 3 + i, none⟩ = some v
/-- a slice with this address and length is this list of regions -/
def RRow (w : World) (a : Option Addr) (n : Nat) (l : List Rg) : Prop := l.length = n ∧ (n = 0 ∨ ∃ b off, a = some ⟨b, off, none⟩ ∧ b < w.heap.size ∧ RIn w b off l)
theorem RIn.at {w : World} {b off : Nat} {l : List Rg} (h : RIn w b off l) (j : Nat) (hj : j < l.length) :
    w.cell? ⟨b, off + j * 3, none⟩ = some (.int .u32 l[j]!.b) ∧ w.cell? ⟨b, off + j * 3 + 1, none⟩ = some (.int .u32 l[j]!.s) ∧ w.cell? ⟨b, off + j * 3 + 2, none⟩ = some (.int .u8 l[j]!.r) :=
  ⟨h j hj 0 _ rfl, h j hj 1 _ rfl, h j hj 2 _ rfl⟩
theorem RIn.block {w w' : World} {b off : Nat} {l : List Rg} (h : RIn w b off l) (hb : w'.heap[b]? = w.heap[b]?) : RIn w' b off l := fun j hj i v hv => (World.cell?_of_block hb).trans (h j hj i v hv)
theorem RIn.below {B : Nat} {w w' : World} {b off : Nat} {l : List Rg} (h : RIn w b off l) (hb : Below B w w') (hlt : b < B) : RIn w' b off l := h.block (hb.block b hlt)
theorem RRow.below {w w' : World} {a : Option Addr} {n : Nat} {l : List Rg} (h : RRow w a n l) (hb : Below w.heap.size w w') : RRow w' a n l := by
  obtain ⟨h1, h2⟩ := h
  refine ⟨h1, ?_⟩
  rcases h2 with h2 | ⟨b, off, e, hlt, h2⟩
  · exact .inl h2
  · exact .inr ⟨b, off, e, Nat.lt_of_lt_of_le hlt hb.size, h2.below hb hlt⟩
theorem RRow.kept {p : Nat → Prop} {w w' : World} {a : Option Addr} {n : Nat} {l : List Rg} (h : RRow w a n l) (hk : Kept p w w') (hp : ∀ b off, 0 < n → a = some ⟨b, off, none⟩ → ¬ p b) : RRow w' a n l := by
  obtain ⟨h1, h2⟩ := h
  refine ⟨h1, ?_⟩
  by_cases h0 : n = 0
  · exact .inl h0
  · obtain ⟨b, off, e, hlt, h2⟩ := h2.resolve_left h0
    exact .inr ⟨b, off, e, Nat.lt_of_lt_of_le hlt hk.size, h2.block (hk.block b hlt (hp b off (by omega) e))⟩
/-! ### A new row -/
theorem flat_get (l : List Rg) : ∀ (j i : Nat) (v : Value), j < l.length → (enc l[j]!)[i]? = some v → (l.flatMap enc)[j * 3 + i]? = some v := by
  induction l with
  | nil => intro j i v hj; simp at hj
  | cons x l ih =>
    intro j i v hj hv
    cases j with
    | zero =>
      simp only [List.flatMap_cons]
      have hi : i < 3 := by
        have := (List.getElem?_eq_some_iff.1 hv).1
        simpa [enc_len] using this
      rw [List.getElem?_append_left (by simpa [enc_len] using hi)]
      simpa using hv
    | succ j =>
      simp only [List.flatMap_cons]
      rw [List.getElem?_append_right (by rw [enc_len]; omega), enc_len, show (j + 1) * 3 + i - 3 = j * 3 + i from by omega]
      exact ih j i v (by simpa using hj) (by simpa using hv)
theorem flat_len (l : List Rg) : (l.flatMap enc).length = l.length * 3 := by
  induction l with
  | nil => rfl
  | cons x l ih => simp [ih, enc_len]; omega
/-- a row of the call's own: all of block g -/
def Own (w : World) (g cap : Nat) (l : List Rg) : Prop := l.length ≤ cap ∧ ∃ cur, w.heap[g]? = some (.cells cur 24 (0, 0)) ∧ cur.toList.take (l.length * 3) = l.flatMap enc
theorem own_of {w : World} {B n : Nat} {v : Value} {l : List Rg} (h : w.ownsRow B 24 3 v n (l.flatMap enc)) (hn : l.length = n) (hv : v ≠ .slice none 0 0) :
    ∃ g cap, v = .slice (some ⟨g, 0, none⟩) n cap ∧ B ≤ g ∧ g < w.heap.size ∧ cap ≤ maxLen ∧ Own w g cap l := by
  obtain ⟨_, h2⟩ := h
  rcases h2 with ⟨h2, _⟩ | ⟨g, cap, cur, rfl, hb, hg, hc, hm, hsz, ht⟩
  · exact absurd h2 hv
  · exact ⟨g, cap, rfl, hb, (Array.getElem?_eq_some_iff.1 hg).1, hm, by omega, cur, hg, by rw [hn]; exact ht⟩
theorem Own.cell {w : World} {g cap : Nat} {l : List Rg} (h : Own w g cap l) (k : Nat) (v : Value) (hv : (l.flatMap enc)[k]? = some v) : w.cell? ⟨g, k, none⟩ = some v ∧ w.frozen? ⟨g, k, none⟩ = false := by
  obtain ⟨_, cur, hg, ht⟩ := h
  rw [← ht] at hv
  have hlt : k < l.length * 3 := by
    have := (List.getElem?_eq_some_iff.1 hv).1
    simp at this
    omega
  rw [List.getElem?_take_of_lt hlt] at hv
  constructor
  · simpa [World.cell?, hg] using hv
  · simp [World.frozen?, hg]
theorem Own.rin {w : World} {g cap : Nat} {l : List Rg} (h : Own w g cap l) : RIn w g 0 l := fun j hj i v hv => by
  have := (h.cell (j * 3 + i) v (flat_get l j i v hj hv)).1
  rwa [Nat.zero_add]
theorem Own.rrow {w : World} {g cap : Nat} {l : List Rg} (h : Own w g cap l) (hlt : g < w.heap.size) : RRow w (some ⟨g, 0, none⟩) l.length l := ⟨rfl, .inr ⟨g, 0, rfl, hlt, h.rin⟩⟩
theorem Own.block {w w' : World} {g cap : Nat} {l : List Rg} (h : Own w g cap l) (hb : w'.heap[g]? = w.heap[g]?) : Own w' g cap l := by
  obtain ⟨h1, cur, hg, ht⟩ := h
  exact ⟨h1, cur, hb.trans hg, ht⟩
end Rights
end Go.Proofs.Ytekicfaakjbmhaa
