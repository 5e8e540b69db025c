/- A list of values that came in, opened: it is some list of values in memory. -/
import Derived.Test.YtimhppgepiikbaaWireW7
import Derived.Deep.Slices
namespace Go.Proofs.Ytimhppgepiikbaa
open Go.ChangeShapes Go.WideShapes Go.ChangeAt Go.RowKit
namespace Wire
set_option linter.unusedVariables false
theorem WSt.below {gu : Option (Nat × Obj)} {B g : Nat} {w w' : World} {s : List Int × Int} (h : WSt gu B g w s) (hb : Below w.heap.size w w') : WSt gu B g w' s := by
  obtain ⟨va, vn, vc, h1, h2, ⟨h3, h4⟩, h5, h6, h7, h8⟩ := h
  refine ⟨va, vn, vc, (hb.block g (lt_of_block h1)).trans h1, h2, ⟨h3, ?_⟩, h5, h6, h7, fun u o e => ⟨(hb.block u (lt_of_block (h8 u o e).1)).trans (h8 u o e).1, (h8 u o e).2⟩⟩
  rcases h4 with hn | ⟨g', cap, cur, hv, hbg, hg, rest⟩
  · exact .inl hn
  · exact .inr ⟨g', cap, cur, hv, hbg, (hb.block g' (lt_of_block hg)).trans hg, rest⟩
section
variable {H : Type} {enc : TypeId × Value → H} {w : World} {spare : Nat → Bool} {held : Bool}
theorem c3 : Try.prog.cellsOf 3 = 1 := by kernel_rfl
theorem c37 : Try.prog.cellsOf 37 = 1 := by kernel_rfl
theorem c26 : Try.prog.cellsOf 26 = 1 := by kernel_rfl
theorem c22 : Try.prog.cellsOf 22 = 1 := by kernel_rfl
theorem c39 : Try.prog.cellsOf 39 = 5 := by kernel_rfl
/-- bytes that came in -/
theorem open_bytes {fuel : Nat} {cs : List Value} {x : DataW H × List MemPlace} (h : DataW.trod enc Try.prog w 0 spare held fuel 26 cs = some x) :
    ∃ a n c l, cs = [.slice a n c] ∧ n ≤ c ∧ c ≤ 9223372036854775807 ∧ SRow (fun _ => False) w a n l := by
  rcases open_ints Try.underlying26 Try.underlying5 (by kernel_rfl) h with ⟨hcs, _⟩ | ⟨a, l, c, zs, hcs, _, hl, hm, hz, _, hcell, hwz⟩
  · exact ⟨none, 0, 0, [], hcs, by omega, by omega, rfl, by simp, Or.inl rfl⟩
  · unfold maxLen at hm
    have hzl : l ≤ zs.length := by rw [hz]; split <;> omega
    refine ⟨some a, l, c, zs.take l, hcs, hl, hm, by simp; omega, fun z hz => ?_, ?_⟩
    · have := hwz z (List.mem_of_mem_take hz)
      simpa [Lit.wf, IntKind.min, IntKind.max, IntKind.signed, IntKind.bits] using this
    · by_cases h0 : l = 0
      · exact Or.inl h0
      · obtain ⟨b, off, spot⟩ := a
        have hspot : spot = none := by simpa [Addr.add] using World.cell?_spot (hcell 0 (by omega))
        subst hspot
        refine Or.inr ⟨b, off, rfl, fun h => h, fun i hi => ?_⟩
        rw [← Addr.add_mid b off i, hcell i (by omega)]
        simp [List.getD, hi]
/-- values that came in -/
theorem open_vals : ∀ (fuel : Nat) (cs : List Value) (x : DataW H × List MemPlace), DataW.trod enc Try.prog w 0 spare held fuel 22 cs = some x →
    ∃ a n c f, cs = [.slice a n c] ∧ n ≤ c ∧ c ≤ 9223372036854775807 ∧ FRow (fun _ => False) w a n f := by
  intro fuel
  induction fuel using Nat.strongRecOn with
  | ind fuel ih =>
    intro cs x h
    rcases DataW.trod_slice Try.underlying22 h with ⟨hcs, _⟩ | ⟨a, len, cap, elems, rest, n, hf, rfl, _, _, hl, hm, hlen, hel, _, _⟩
    · exact ⟨none, 0, 0, .nil, hcs, by omega, by omega, rfl, Or.inl rfl⟩
    · unfold maxLen at hm
      rw [c39] at hel
      have key : ∀ i, i < len → ∃ k nn ii ba bn bc bs la ln lc sub, w.cell? (a.add (i * 5)) = some (.int .i64 k) ∧ w.cell? (a.add (i * 5 + 1)) = some (.int .u64 nn) ∧ w.cell? (a.add (i * 5 + 2)) = some (.int .i64 ii) ∧ w.cell? (a.add (i * 5 + 3)) = some (.slice ba bn bc) ∧ w.cell? (a.add (i * 5 + 4)) = some (.slice la ln lc) ∧
          bn ≤ bc ∧ bc ≤ 9223372036854775807 ∧ SRow (fun _ => False) w ba bn bs ∧ ln ≤ lc ∧ lc ≤ 9223372036854775807 ∧ FRow (fun _ => False) w la ln sub ∧ (-9223372036854775808 ≤ k ∧ k ≤ 9223372036854775807) ∧ (0 ≤ nn ∧ nn ≤ 18446744073709551615) ∧ (-9223372036854775808 ≤ ii ∧ ii ≤ 9223372036854775807) := by
        intro i hi
        have hy := hel i hi
        rw [List.getElem?_eq_getElem (by omega)] at hy
        obtain ⟨cs', h1, h2⟩ := Option.bind_eq_some_iff.1 hy
        obtain ⟨_, hcl, hat⟩ := World.cells?_some h1
        obtain ⟨ys, n', hn', _, _, hyl, hg⟩ := DataW.trod_struct Try.underlying39 h2
        match cs', hcl with
        | [v0, v1, v2, v3, v4], _ =>
          have q : ∀ j, j < 5 → ∃ y, ys[j]? = some y := fun j hj => ⟨_, List.getElem?_eq_getElem (by rw [hyl]; exact hj)⟩
          obtain ⟨y0, e0⟩ := q 0 (by omega)
          obtain ⟨y1, e1⟩ := q 1 (by omega)
          obtain ⟨y2, e2⟩ := q 2 (by omega)
          obtain ⟨y3, e3⟩ := q 3 (by omega)
          obtain ⟨y4, e4⟩ := q 4 (by omega)
          have g0 : DataW.trod enc Try.prog w 0 spare held n' 3 [v0] = some y0 := by have := hg 0 _ rfl; rw [e0] at this; simpa [c3] using this
          have g1 : DataW.trod enc Try.prog w 0 spare held n' 37 [v1] = some y1 := by have := hg 1 _ rfl; rw [e1] at this; simpa [c37] using this
          have g2 : DataW.trod enc Try.prog w 0 spare held n' 3 [v2] = some y2 := by have := hg 2 _ rfl; rw [e2] at this; simpa [c3] using this
          have g3 : DataW.trod enc Try.prog w 0 spare held n' 26 [v3] = some y3 := by have := hg 3 _ rfl; rw [e3] at this; simpa [c26] using this
          have g4 : DataW.trod enc Try.prog w 0 spare held n' 22 [v4] = some y4 := by have := hg 4 _ rfl; rw [e4] at this; simpa [c22] using this
          obtain ⟨k, hk, _, wk⟩ := DataW.trod_int Try.underlying3 g0
          obtain ⟨nn, hnn, _, wn⟩ := DataW.trod_int Try.underlying37 g1
          obtain ⟨ii, hii, _, wi⟩ := DataW.trod_int Try.underlying3 g2
          obtain ⟨ba, bn, bc, bs, hb, b1, b2, b3⟩ := open_bytes g3
          obtain ⟨la, ln, lc, sub, hs, l1, l2, l3⟩ := ih n' (by omega) _ _ g4
          have a0 := hat 0 (by omega)
          have a1 := hat 1 (by omega)
          have a2 := hat 2 (by omega)
          have a3 := hat 3 (by omega)
          have a4 := hat 4 (by omega)
          rw [Go.Deep.add_add] at a0 a1 a2 a3 a4
          simp only [List.cons.injEq, and_true] at hk hnn hii hb hs
          subst hk; subst hnn; subst hii; subst hb; subst hs
          refine ⟨k, nn, ii, ba, bn, bc, bs, la, ln, lc, sub, by simpa using a0, by simpa using a1, by simpa using a2, by simpa using a3, by simpa using a4, b1, b2, b3, l1, l2, l3, ?_, ?_, ?_⟩
          · simpa [Lit.wf, IntKind.min, IntKind.max, IntKind.signed, IntKind.bits] using wk
          · simpa [Lit.wf, IntKind.min, IntKind.max, IntKind.signed, IntKind.bits] using wn
          · simpa [Lit.wf, IntKind.min, IntKind.max, IntKind.signed, IntKind.bits] using wi
      by_cases h0 : len = 0
      · subst h0
        exact ⟨some a, 0, cap, .nil, rfl, hl, hm, rfl, Or.inl rfl⟩
      obtain ⟨b, off, spot⟩ := a
      have hspot : spot = none := by
        obtain ⟨k, _, _, _, _, _, _, _, _, _, _, h1, _⟩ := key 0 (by omega)
        simpa [Addr.add] using World.cell?_spot h1
      subst hspot
      have build : ∀ m j, j + m = len → ∃ f : F, f.len = m ∧ FIn (fun _ => False) w b (off + j * 5) f := by
        intro m
        induction m with
        | zero => intro j _; exact ⟨.nil, rfl, trivial⟩
        | succ m ihm =>
          intro j hj
          obtain ⟨f, hf1, hf2⟩ := ihm (j + 1) (by omega)
          obtain ⟨k, nn, ii, ba, bn, bc, bs, la, ln, lc, sub, a0, a1, a2, a3, a4, b1, b2, b3, l1, l2, l3, r1, r2, r3⟩ := key j (by omega)
          rw [Addr.add_mid] at a0 a1 a2 a3 a4
          refine ⟨.cons k nn ii bs sub f, by simp [F.len, hf1], fun h => h, a0, ?_, ?_, ⟨ba, bn, bc, ?_, b1, b2, b3⟩, ⟨la, ln, lc, ?_, l1, l2, l3.1, l3.2⟩, ⟨r1, r2, r3⟩, ?_⟩
          · rw [Nat.add_assoc]; exact a1
          · rw [Nat.add_assoc]; exact a2
          · rw [Nat.add_assoc]; exact a3
          · rw [Nat.add_assoc]; exact a4
          · rw [show off + j * 5 + 5 = off + (j + 1) * 5 from by omega]; exact hf2
      obtain ⟨f, hf1, hf2⟩ := build len 0 (by omega)
      exact ⟨some ⟨b, off, none⟩, len, cap, f, rfl, hl, hm, hf1, Or.inr ⟨b, off, rfl, by simpa using hf2⟩⟩
end
end Wire
end Go.Proofs.Ytimhppgepiikbaa
