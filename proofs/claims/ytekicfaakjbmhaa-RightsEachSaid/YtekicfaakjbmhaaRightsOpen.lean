/- Regions, and lists of regions, that came in, opened. -/
import Derived.Test.YtekicfaakjbmhaaRightsMem
import Derived.Deep.Slices
import Derived.Deep.MidRow
namespace Go.Proofs.Ytekicfaakjbmhaa
open Go.ChangeShapes Go.WideShapes Go.ChangeAt Go.RowKit
namespace Rights
set_option linter.unusedVariables false
theorem own : ownKnob Try.prog.godebug = none := by kernel_rfl
theorem laidOut : laidOutB Try.prog = true := by kernel_rfl
section
variable {H : Type} {enc : TypeId × Value → H} {w : World} {spare : Nat → Bool} {held : Bool}
theorem cU : Try.prog.cellsOf 22 = 1 := by kernel_rfl
theorem cB : Try.prog.cellsOf 5 = 1 := by kernel_rfl
theorem cR : Try.prog.cellsOf 24 = 3 := by kernel_rfl
theorem cL : Try.prog.cellsOf 29 = 1 := by kernel_rfl
/-- a region that came in -/
theorem open_region {fuel : Nat} {cs : List Value} {x : DataW H × List MemPlace} (h : DataW.trod enc Try.prog w 0 spare held fuel 24 cs = some x) :
    ∃ r : Rg, cs = [.int .u32 r.b, .int .u32 r.s, .int .u8 r.r] := by
  obtain ⟨ys, n', hn', _, hcl, hyl, hg⟩ := DataW.trod_struct Try.underlying24 h
  rw [cR] at hcl
  match cs, hcl with
  | [v0, v1, v2], _ =>
    have q : ∀ j, j < 3 → ∃ y, ys[j]? = some y := fun j hj => ⟨_, List.getElem?_eq_getElem (by rw [hyl]; exact hj)⟩
    obtain ⟨y0, e0⟩ := q 0 (by omega)
    obtain ⟨y1, e1⟩ := q 1 (by omega)
    obtain ⟨y2, e2⟩ := q 2 (by omega)
    have g0 : DataW.trod enc Try.prog w 0 spare held n' 22 [v0] = some y0 := by have := hg 0 _ rfl; rw [e0] at this; simpa [cU] using this
    have g1 : DataW.trod enc Try.prog w 0 spare held n' 22 [v1] = some y1 := by have := hg 1 _ rfl; rw [e1] at this; simpa [cU] using this
    have g2 : DataW.trod enc Try.prog w 0 spare held n' 5 [v2] = some y2 := by have := hg 2 _ rfl; rw [e2] at this; simpa [cB] using this
    obtain ⟨b, h0, _, w0⟩ := DataW.trod_int Try.underlying22 g0
    obtain ⟨s, h1, _, w1⟩ := DataW.trod_int Try.underlying22 g1
    obtain ⟨r, h2, _, w2⟩ := DataW.trod_int Try.underlying5 g2
    simp at h0 h1 h2
    subst h0
    subst h1
    subst h2
    simp [Lit.wf, IntKind.min, IntKind.max, IntKind.signed, IntKind.bits] at w0 w1 w2
    exact ⟨⟨b, s, r, by omega⟩, rfl⟩
/-- a list of regions that came in -/
theorem open_regions {fuel : Nat} {cs : List Value} {x : DataW H × List MemPlace} (h : DataW.trod enc Try.prog w 0 spare held fuel 29 cs = some x) :
    ∃ a n c l, cs = [.slice a n c] ∧ n ≤ c ∧ c ≤ 9223372036854775807 ∧ RRow w a n l := by
  rcases DataW.trod_slice Try.underlying29 h with ⟨hcs, _⟩ | ⟨a, len, cap, elems, rest, n, hf, rfl, _, _, hl, hm, hlen, hel, _, _⟩
  · exact ⟨none, 0, 0, [], hcs, by omega, by omega, rfl, Or.inl rfl⟩
  · unfold maxLen at hm
    rw [cR] at hel
    have key : ∀ i, i < len → ∃ r : Rg, w.cell? (a.add (i * 3)) = some (.int .u32 r.b) ∧ w.cell? (a.add (i * 3 + 1)) = some (.int .u32 r.s) ∧ w.cell? (a.add (i * 3 + 2)) = some (.int .u8 r.r) := by
      intro i hi
      have hy := hel i hi
      rw [List.getElem?_eq_getElem (by omega)] at hy
      obtain ⟨cs', h1, h2⟩ := Option.bind_eq_some_iff.1 hy
      obtain ⟨_, hcl, hat⟩ := World.cells?_some h1
      obtain ⟨r, rfl⟩ := open_region h2
      have h0 := hat 0 (by omega)
      have h3 := hat 1 (by omega)
      have h4 := hat 2 (by omega)
      rw [Go.Deep.add_add] at h0 h3 h4
      exact ⟨r, by simpa using h0, by simpa using h3, by simpa using h4⟩
    by_cases h0 : len = 0
    · subst h0
      exact ⟨some a, 0, cap, [], rfl, hl, hm, rfl, Or.inl rfl⟩
    obtain ⟨b, off, spot⟩ := a
    have hspot : spot = none := by
      obtain ⟨r, h1, _⟩ := key 0 (by omega)
      simpa [Addr.add] using World.cell?_spot h1
    subst hspot
    have build : ∀ m, m ≤ len → ∃ l : List Rg, l.length = m ∧ RIn w b off l := by
      intro m
      induction m with
      | zero => intro _; exact ⟨[], rfl, fun j hj => by simp at hj⟩
      | succ m ihm =>
        intro hj
        obtain ⟨l, hl1, hl2⟩ := ihm (by omega)
        obtain ⟨r, a0, a1, a2⟩ := key m (by omega)
        rw [Addr.add_mid] at a0 a1 a2
        refine ⟨l ++ [r], by simp [hl1], ?_⟩
        intro j hj i v hv
        by_cases e : j < m
        · have e2 : (l ++ [r])[j]! = l[j]! := by
            rw [getElem!_pos (l ++ [r]) j (by simp; omega), getElem!_pos l j (by omega), List.getElem_append_left]
          rw [e2] at hv
          exact hl2 j (by omega) i v hv
        · have e1 : j = m := by simp at hj; omega
          subst e1
          have e2 : (l ++ [r])[j]! = r := by
            rw [getElem!_pos (l ++ [r]) j (by simp; omega), List.getElem_append_right (by omega)]
            simp
          rw [e2] at hv
          have hi : i < 3 := by have := (List.getElem?_eq_some_iff.1 hv).1; simpa [enc_len] using this
          match i, hi with
          | 0, _ => simp [Rights.enc] at hv; subst hv; exact a0
          | 1, _ => simp [Rights.enc] at hv; subst hv; rw [Nat.add_assoc]; exact a1
          | 2, _ => simp [Rights.enc] at hv; subst hv; rw [Nat.add_assoc]; exact a2
    obtain ⟨l, hl1, hl2⟩ := build len (Nat.le_refl _)
    refine ⟨some ⟨b, off, none⟩, len, cap, l, rfl, hl, hm, hl1, .inr ⟨b, off, rfl, ?_, hl2⟩⟩
    obtain ⟨r, a0, _⟩ := key 0 (by omega)
    rw [Addr.add_mid] at a0
    exact World.block_lt_of_cell? _ _ a0
end
end Rights
end Go.Proofs.Ytekicfaakjbmhaa
