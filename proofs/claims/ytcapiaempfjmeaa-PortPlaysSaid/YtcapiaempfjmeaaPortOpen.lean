/- What came in, opened: definitions, scripts. -/
import Derived.Test.YtcapiaempfjmeaaPortKnown
import Derived.Deep.Slices
namespace Go.Proofs.Ytcapiaempfjmeaa
open Go.ChangeShapes Go.WideShapes Go.ChangeAt Go.RowKit
namespace Prt
set_option linter.unusedVariables false
theorem own : ownKnob Try.prog.godebug = none := by kernel_rfl
theorem laidOut : laidOutB Try.prog = true := by kernel_rfl
/-- the calls of a script stand in memory from a cell on -/
def DAt (w : World) (b off : Nat) (y : Dv) : Prop :=
  w.cell? ⟨b, off, none⟩ = some (.int .i64 y.k) ∧ w.cell? ⟨b, off + 1, none⟩ = some (.int .i64 y.part) ∧ w.cell? ⟨b, off + 2, none⟩ = some (.int .i64 y.port) ∧ w.cell? ⟨b, off + 3, none⟩ = some (.int .i64 y.word) ∧ w.cell? ⟨b, off + 4, none⟩ = some (.int .u32 y.x)
def DRow (p : Nat → Prop) (w : World) (a : Option Addr) (n : Nat) (l : List Dv) : Prop := l.length = n ∧ (n = 0 ∨ ∃ b off, a = some ⟨b, off, none⟩ ∧ ¬ p b ∧ ∀ j, j < n → DAt w b (off + j * 5) l[j]!)
theorem DAt.kept {p : Nat → Prop} {w w' : World} {b off : Nat} {y : Dv} (h : DAt w b off y) (hk : Kept p w w') (hb : ¬ p b) : DAt w' b off y :=
  ⟨hk.cell h.1 hb, hk.cell h.2.1 hb, hk.cell h.2.2.1 hb, hk.cell h.2.2.2.1 hb, hk.cell h.2.2.2.2 hb⟩
theorem DRow.kept {p : Nat → Prop} {w w' : World} {a : Option Addr} {n : Nat} {l : List Dv} (h : DRow p w a n l) (hk : Kept p w w') : DRow p w' a n l := by
  obtain ⟨h1, h2⟩ := h
  refine ⟨h1, h2.imp id ?_⟩
  rintro ⟨b, off, e, hp, hj⟩
  exact ⟨b, off, e, hp, fun j hlt => (hj j hlt).kept hk hp⟩
theorem DRow.imp {p q : Nat → Prop} {w : World} {a : Option Addr} {n : Nat} {l : List Dv} (h : DRow p w a n l) (hq : ∀ k, k < w.heap.size → q k → p k) : DRow q w a n l := by
  obtain ⟨h1, h3⟩ := h
  refine ⟨h1, ?_⟩
  rcases h3 with h3 | ⟨b, off, rfl, hp, hc⟩
  · exact Or.inl h3
  · by_cases h0 : n = 0
    · exact Or.inl h0
    · exact Or.inr ⟨b, off, rfl, fun x => hp (hq b (World.block_lt_of_cell? _ _ (hc 0 (by omega)).1) x), hc⟩
theorem FRow.imp {p q : Nat → Prop} {w : World} {a : Option Addr} {n : Nat} {l : List Df} (h : FRow p w a n l) (hq : ∀ k, k < w.heap.size → q k → p k) : FRow q w a n l := by
  obtain ⟨h1, h2, h3⟩ := h
  refine ⟨h1, h2, ?_⟩
  rcases h3 with h3 | ⟨b, off, rfl, hp, hc⟩
  · exact Or.inl h3
  · by_cases h0 : n = 0
    · exact Or.inl h0
    · exact Or.inr ⟨b, off, rfl, fun x => hp (hq b (World.block_lt_of_cell? _ _ (hc 0 (by omega)).1) x), hc⟩
section
variable {H : Type} {enc : TypeId × Value → H} {w : World} {spare : Nat → Bool} {held : Bool}
theorem cU : Try.prog.cellsOf 33 = 1 := by kernel_rfl
theorem cI : Try.prog.cellsOf 3 = 1 := by kernel_rfl
theorem cF : Try.prog.cellsOf 44 = 3 := by kernel_rfl
theorem cD : Try.prog.cellsOf 35 = 5 := by kernel_rfl
/-- a definition that came in -/
theorem open_def {fuel : Nat} {cs : List Value} {x : DataW H × List MemPlace} (h : DataW.trod enc Try.prog w 0 spare held fuel 44 cs = some x) :
    ∃ d : Df, cs = [.int .i64 d.w, .int .i64 d.wr, .int .u32 d.rd] ∧ 0 ≤ d.rd ∧ d.rd ≤ 4294967295 := by
  obtain ⟨ys, n', hn', _, hcl, hyl, hg⟩ := DataW.trod_struct Try.underlying44 h
  rw [cF] at hcl
  match cs, hcl with
  | [v0, v1, v2], _ =>
    have q : ∀ j, j < 3 → ∃ y, ys[j]? = some y := fun j hj => ⟨_, List.getElem?_eq_getElem (by rw [hyl]; exact hj)⟩
    obtain ⟨y0, e0⟩ := q 0 (by omega)
    obtain ⟨y1, e1⟩ := q 1 (by omega)
    obtain ⟨y2, e2⟩ := q 2 (by omega)
    have g0 : DataW.trod enc Try.prog w 0 spare held n' 3 [v0] = some y0 := by have := hg 0 _ rfl; rw [e0] at this; simpa [cI] using this
    have g1 : DataW.trod enc Try.prog w 0 spare held n' 3 [v1] = some y1 := by have := hg 1 _ rfl; rw [e1] at this; simpa [cI] using this
    have g2 : DataW.trod enc Try.prog w 0 spare held n' 33 [v2] = some y2 := by have := hg 2 _ rfl; rw [e2] at this; simpa [cU] using this
    obtain ⟨a, h0, _, w0⟩ := DataW.trod_int Try.underlying3 g0
    obtain ⟨b, h1, _, w1⟩ := DataW.trod_int Try.underlying3 g1
    obtain ⟨r, h2, _, w2⟩ := DataW.trod_int Try.underlying33 g2
    simp at h0 h1 h2
    subst h0
    subst h1
    subst h2
    simp [Lit.wf, IntKind.min, IntKind.max, IntKind.signed, IntKind.bits] at w0 w1 w2
    exact ⟨⟨a, b, r⟩, rfl, by simp only; omega⟩
/-- definitions that came in -/
theorem open_defs {fuel : Nat} {cs : List Value} {x : DataW H × List MemPlace} (h : DataW.trod enc Try.prog w 0 spare held fuel 22 cs = some x) :
    ∃ a n c l, cs = [.slice a n c] ∧ n ≤ c ∧ c ≤ 9223372036854775807 ∧ FRow (fun k => w.heap.size ≤ k) w a n l := by
  rcases DataW.trod_slice Try.underlying22 h with ⟨hcs, _⟩ | ⟨a, len, cap, elems, rest, n, hf, rfl, _, _, hl, hm, hlen, hel, _, _⟩
  · exact ⟨none, 0, 0, [], hcs, by omega, by omega, rfl, by simp, Or.inl rfl⟩
  · unfold maxLen at hm
    rw [cF] at hel
    have key : ∀ i, i < len → ∃ d : Df, (0 ≤ d.rd ∧ d.rd ≤ 4294967295) ∧ w.cell? (a.add (i * 3)) = some (.int .i64 d.w) ∧ w.cell? (a.add (i * 3 + 1)) = some (.int .i64 d.wr) ∧ w.cell? (a.add (i * 3 + 2)) = some (.int .u32 d.rd) := by
      intro i hi
      have hy := hel i hi
      rw [List.getElem?_eq_getElem (by omega)] at hy
      obtain ⟨cs', h1, h2⟩ := Option.bind_eq_some_iff.1 hy
      obtain ⟨_, hcl, hat⟩ := World.cells?_some h1
      obtain ⟨d, rfl, hd⟩ := open_def h2
      have h0 := hat 0 (by omega)
      have h3 := hat 1 (by omega)
      have h4 := hat 2 (by omega)
      rw [Go.Deep.add_add] at h0 h3 h4
      exact ⟨d, hd, by simpa using h0, by simpa using h3, by simpa using h4⟩
    by_cases h0 : len = 0
    · subst h0
      exact ⟨some a, 0, cap, [], rfl, hl, hm, rfl, by simp, Or.inl rfl⟩
    obtain ⟨b, off, spot⟩ := a
    have hspot : spot = none := by
      obtain ⟨r, _, h1, _⟩ := key 0 (by omega)
      simpa [Addr.add] using World.cell?_spot h1
    subst hspot
    have hlt : b < w.heap.size := by
      obtain ⟨r, _, a0, _⟩ := key 0 (by omega)
      rw [Addr.add_mid] at a0
      exact World.block_lt_of_cell? _ _ a0
    have build : ∀ m, m ≤ len → ∃ l : List Df, l.length = m ∧ (∀ d ∈ l, 0 ≤ d.rd ∧ d.rd ≤ 4294967295) ∧ ∀ j, j < m →
        w.cell? ⟨b, off + j * 3, none⟩ = some (.int .i64 (l[j]!).w) ∧ w.cell? ⟨b, off + j * 3 + 1, none⟩ = some (.int .i64 (l[j]!).wr) ∧ w.cell? ⟨b, off + j * 3 + 2, none⟩ = some (.int .u32 (l[j]!).rd) := by
      intro m
      induction m with
      | zero => intro _; exact ⟨[], rfl, by simp, fun j hj => by omega⟩
      | succ m ihm =>
        intro hj
        obtain ⟨l, hl1, hl0, hl2⟩ := ihm (by omega)
        obtain ⟨d, hd, a0, a1, a2⟩ := key m (by omega)
        rw [Addr.add_mid] at a0 a1 a2
        refine ⟨l ++ [d], by simp [hl1], fun x hx => ?_, ?_⟩
        · rcases List.mem_append.1 hx with hx | hx
          · exact hl0 x hx
          · rw [List.mem_singleton.1 hx]; exact hd
        intro j hj
        by_cases e : j < m
        · have e2 : (l ++ [d])[j]! = l[j]! := by
            rw [getElem!_pos (l ++ [d]) j (by simp; omega), getElem!_pos l j (by omega), List.getElem_append_left]
          rw [e2]
          exact hl2 j e
        · have e1 : j = m := by omega
          subst e1
          have e2 : (l ++ [d])[j]! = d := by
            rw [getElem!_pos (l ++ [d]) j (by simp; omega), List.getElem_append_right (by omega)]
            simp
          rw [e2]
          exact ⟨a0, by rw [Nat.add_assoc]; exact a1, by rw [Nat.add_assoc]; exact a2⟩
    obtain ⟨l, hl1, hl0, hl2⟩ := build len (Nat.le_refl _)
    exact ⟨some ⟨b, off, none⟩, len, cap, l, rfl, hl, hm, hl1, hl0, .inr ⟨b, off, rfl, by omega, hl2⟩⟩
/-- a call that came in -/
theorem open_do {fuel : Nat} {cs : List Value} {x : DataW H × List MemPlace} (h : DataW.trod enc Try.prog w 0 spare held fuel 35 cs = some x) :
    ∃ y : Dv, cs = [.int .i64 y.k, .int .i64 y.part, .int .i64 y.port, .int .i64 y.word, .int .u32 y.x] := by
  obtain ⟨ys, n', hn', _, hcl, hyl, hg⟩ := DataW.trod_struct Try.underlying35 h
  rw [cD] at hcl
  match cs, hcl with
  | [v0, v1, v2, v3, v4], _ =>
    have q : ∀ j, j < 5 → ∃ y, ys[j]? = some y := fun j hj => ⟨_, List.getElem?_eq_getElem (by rw [hyl]; exact hj)⟩
    obtain ⟨y0, e0⟩ := q 0 (by omega)
    obtain ⟨y1, e1⟩ := q 1 (by omega)
    obtain ⟨y2, e2⟩ := q 2 (by omega)
    obtain ⟨y3, e3⟩ := q 3 (by omega)
    obtain ⟨y4, e4⟩ := q 4 (by omega)
    have g0 : DataW.trod enc Try.prog w 0 spare held n' 3 [v0] = some y0 := by have := hg 0 _ rfl; rw [e0] at this; simpa [cI, cU] using this
    have g1 : DataW.trod enc Try.prog w 0 spare held n' 3 [v1] = some y1 := by have := hg 1 _ rfl; rw [e1] at this; simpa [cI, cU] using this
    have g2 : DataW.trod enc Try.prog w 0 spare held n' 3 [v2] = some y2 := by have := hg 2 _ rfl; rw [e2] at this; simpa [cI, cU] using this
    have g3 : DataW.trod enc Try.prog w 0 spare held n' 3 [v3] = some y3 := by have := hg 3 _ rfl; rw [e3] at this; simpa [cI, cU] using this
    have g4 : DataW.trod enc Try.prog w 0 spare held n' 33 [v4] = some y4 := by have := hg 4 _ rfl; rw [e4] at this; simpa [cI, cU] using this
    obtain ⟨k, h0, _, w0⟩ := DataW.trod_int Try.underlying3 g0
    obtain ⟨a, h1, _, w1⟩ := DataW.trod_int Try.underlying3 g1
    obtain ⟨n, h2, _, w2⟩ := DataW.trod_int Try.underlying3 g2
    obtain ⟨z, h3, _, w3⟩ := DataW.trod_int Try.underlying3 g3
    obtain ⟨u, h4, _, w4⟩ := DataW.trod_int Try.underlying33 g4
    simp at h0 h1 h2 h3 h4
    subst h0
    subst h1
    subst h2
    subst h3
    subst h4
    simp [Lit.wf, IntKind.min, IntKind.max, IntKind.signed, IntKind.bits] at w0 w1 w2 w3 w4
    exact ⟨⟨k, a, n, z, u, by omega⟩, rfl⟩
/-- a script that came in -/
theorem open_dos {fuel : Nat} {cs : List Value} {x : DataW H × List MemPlace} (h : DataW.trod enc Try.prog w 0 spare held fuel 23 cs = some x) :
    ∃ a n c l, cs = [.slice a n c] ∧ n ≤ c ∧ c ≤ 9223372036854775807 ∧ DRow (fun k => w.heap.size ≤ k) w a n l := by
  rcases DataW.trod_slice Try.underlying23 h with ⟨hcs, _⟩ | ⟨a, len, cap, elems, rest, n, hf, rfl, _, _, hl, hm, hlen, hel, _, _⟩
  · exact ⟨none, 0, 0, [], hcs, by omega, by omega, rfl, Or.inl rfl⟩
  · unfold maxLen at hm
    rw [cD] at hel
    have key : ∀ i, i < len → ∃ y : Dv, w.cell? (a.add (i * 5)) = some (.int .i64 y.k) ∧ w.cell? (a.add (i * 5 + 1)) = some (.int .i64 y.part) ∧ w.cell? (a.add (i * 5 + 2)) = some (.int .i64 y.port) ∧ w.cell? (a.add (i * 5 + 3)) = some (.int .i64 y.word) ∧ w.cell? (a.add (i * 5 + 4)) = some (.int .u32 y.x) := by
      intro i hi
      have hy := hel i hi
      rw [List.getElem?_eq_getElem (by omega)] at hy
      obtain ⟨cs', h1, h2⟩ := Option.bind_eq_some_iff.1 hy
      obtain ⟨_, hcl, hat⟩ := World.cells?_some h1
      obtain ⟨y, rfl⟩ := open_do h2
      have q0 := hat 0 (by omega)
      have q1 := hat 1 (by omega)
      have q2 := hat 2 (by omega)
      have q3 := hat 3 (by omega)
      have q4 := hat 4 (by omega)
      rw [Go.Deep.add_add] at q0 q1 q2 q3 q4
      exact ⟨y, by simpa using q0, by simpa using q1, by simpa using q2, by simpa using q3, by simpa using q4⟩
    by_cases h0 : len = 0
    · subst h0
      exact ⟨some a, 0, cap, [], rfl, hl, hm, rfl, Or.inl rfl⟩
    obtain ⟨b, off, spot⟩ := a
    have hspot : spot = none := by
      obtain ⟨y, h1, _⟩ := key 0 (by omega)
      simpa [Addr.add] using World.cell?_spot h1
    subst hspot
    have hlt : b < w.heap.size := by
      obtain ⟨y, h1, _⟩ := key 0 (by omega)
      rw [Addr.add_mid] at h1
      exact World.block_lt_of_cell? _ _ h1
    have build : ∀ m, m ≤ len → ∃ l : List Dv, l.length = m ∧ ∀ j, j < m → DAt w b (off + j * 5) l[j]! := by
      intro m
      induction m with
      | zero => intro _; exact ⟨[], rfl, fun j hj => by omega⟩
      | succ m ihm =>
        intro hj
        obtain ⟨l, hl1, hl2⟩ := ihm (by omega)
        obtain ⟨y, a0, a1, a2, a3, a4⟩ := key m (by omega)
        rw [Addr.add_mid] at a0 a1 a2 a3 a4
        refine ⟨l ++ [y], by simp [hl1], ?_⟩
        intro j hj
        by_cases e : j < m
        · have e2 : (l ++ [y])[j]! = l[j]! := by
            rw [getElem!_pos (l ++ [y]) j (by simp; omega), getElem!_pos l j (by omega), List.getElem_append_left]
          rw [e2]
          exact hl2 j e
        · have e1 : j = m := by omega
          subst e1
          have e2 : (l ++ [y])[j]! = y := by
            rw [getElem!_pos (l ++ [y]) j (by simp; omega), List.getElem_append_right (by omega)]
            simp
          rw [e2]
          exact ⟨a0, by rw [Nat.add_assoc]; exact a1, by rw [Nat.add_assoc]; exact a2, by rw [Nat.add_assoc]; exact a3, by rw [Nat.add_assoc]; exact a4⟩
    obtain ⟨l, hl1, hl2⟩ := build len (Nat.le_refl _)
    exact ⟨some ⟨b, off, none⟩, len, cap, l, rfl, hl, hm, hl1, .inr ⟨b, off, rfl, by omega, hl2⟩⟩
end
end Prt
end Go.Proofs.Ytcapiaempfjmeaa
