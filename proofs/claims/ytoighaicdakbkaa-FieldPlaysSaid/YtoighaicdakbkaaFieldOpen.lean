/- What came in, opened: rows of words, definitions, scripts. -/
import Derived.Test.YtoighaicdakbkaaFieldMem
import Derived.Deep.Slices
namespace Go.Proofs.Ytoighaicdakbkaa
open Go.ChangeShapes Go.WideShapes Go.ChangeAt Go.RowKit
namespace Fld
set_option linter.unusedVariables false
theorem own : ownKnob Try.prog.godebug = none := by kernel_rfl
theorem laidOut : laidOutB Try.prog = true := by kernel_rfl
section
variable {H : Type} {enc : TypeId × Value → H} {w : World} {spare : Nat → Bool} {held : Bool}
theorem cU : Try.prog.cellsOf 23 = 1 := by kernel_rfl
theorem cI : Try.prog.cellsOf 3 = 1 := by kernel_rfl
theorem cS : Try.prog.cellsOf 22 = 1 := by kernel_rfl
theorem cF : Try.prog.cellsOf 25 = 4 := by kernel_rfl
theorem cD : Try.prog.cellsOf 38 = 5 := by kernel_rfl
/-- words that came in -/
theorem open_nums {fuel : Nat} {cs : List Value} {x : DataW H × List MemPlace} (h : DataW.trod enc Try.prog w 0 spare held fuel 22 cs = some x) :
    ∃ a n c l, cs = [.slice a n c] ∧ n ≤ c ∧ c ≤ 9223372036854775807 ∧ NRow (fun k => w.heap.size ≤ k) w a n l ∧ (a = none → c = 0) := by
  rcases open_ints Try.underlying22 Try.underlying23 (by kernel_rfl) h with ⟨hcs, _⟩ | ⟨a, l, c, zs, hcs, _, hl, hm, hz, _, hcell, hwz⟩
  · exact ⟨none, 0, 0, [], hcs, by omega, by omega, ⟨rfl, Or.inl rfl⟩, fun _ => rfl⟩
  · unfold maxLen at hm
    have hzl : l ≤ zs.length := by rw [hz]; split <;> omega
    refine ⟨some a, l, c, zs.take l, hcs, hl, hm, ⟨by simp; omega, ?_⟩, fun h => by cases h⟩
    by_cases h0 : l = 0
    · exact Or.inl h0
    · obtain ⟨b, off, spot⟩ := a
      have hspot : spot = none := by simpa [Addr.add] using World.cell?_spot (hcell 0 (by omega))
      subst hspot
      have hlt : b < w.heap.size := by
        have h1 := hcell 0 (by omega)
        rw [Addr.add_mid] at h1
        exact World.block_lt_of_cell? _ _ h1
      refine Or.inr ⟨b, off, rfl, by omega, fun i hi => ?_⟩
      rw [← Addr.add_mid b off i, hcell i (by omega)]
      simp [List.getD, hi]
/-- a definition that came in -/
theorem open_fdef {fuel : Nat} {cs : List Value} {x : DataW H × List MemPlace} (h : DataW.trod enc Try.prog w 0 spare held fuel 25 cs = some x) :
    ∃ (d : Df) (a : Option Addr) (c : Nat), cs = [.int .i64 d.ins, .slice a d.safe.length c, .int .u32 d.rd, .int .i64 d.wr] ∧ d.safe.length ≤ c ∧ c ≤ 9223372036854775807 ∧ NRow (fun k => w.heap.size ≤ k) w a d.safe.length d.safe ∧ (a = none → c = 0) ∧
      (-9223372036854775808 ≤ d.ins ∧ d.ins ≤ 9223372036854775807) ∧ (0 ≤ d.rd ∧ d.rd ≤ 4294967295) ∧ (-9223372036854775808 ≤ d.wr ∧ d.wr ≤ 9223372036854775807) := by
  obtain ⟨ys, n', hn', _, hcl, hyl, hg⟩ := DataW.trod_struct Try.underlying25 h
  rw [cF] at hcl
  match cs, hcl with
  | [v0, v1, v2, v3], _ =>
    have q : ∀ j, j < 4 → ∃ y, ys[j]? = some y := fun j hj => ⟨_, List.getElem?_eq_getElem (by rw [hyl]; exact hj)⟩
    obtain ⟨y0, e0⟩ := q 0 (by omega)
    obtain ⟨y1, e1⟩ := q 1 (by omega)
    obtain ⟨y2, e2⟩ := q 2 (by omega)
    obtain ⟨y3, e3⟩ := q 3 (by omega)
    have g0 : DataW.trod enc Try.prog w 0 spare held n' 3 [v0] = some y0 := by have := hg 0 _ rfl; rw [e0] at this; simpa [cI, cU] using this
    have g1 : DataW.trod enc Try.prog w 0 spare held n' 22 [v1] = some y1 := by have := hg 1 _ rfl; rw [e1] at this; simpa [cI, cU, cS] using this
    have g2 : DataW.trod enc Try.prog w 0 spare held n' 23 [v2] = some y2 := by have := hg 2 _ rfl; rw [e2] at this; simpa [cI, cU, cS] using this
    have g3 : DataW.trod enc Try.prog w 0 spare held n' 3 [v3] = some y3 := by have := hg 3 _ rfl; rw [e3] at this; simpa [cI, cU, cS] using this
    obtain ⟨i, h0, _, w0⟩ := DataW.trod_int Try.underlying3 g0
    obtain ⟨a, n, c, l, h1, h5, h6, h7, h8⟩ := open_nums g1
    obtain ⟨r, h2, _, w2⟩ := DataW.trod_int Try.underlying23 g2
    obtain ⟨z, h3, _, w3⟩ := DataW.trod_int Try.underlying3 g3
    simp at h0 h1 h2 h3
    subst h0
    subst h1
    subst h2
    subst h3
    simp [Lit.wf, IntKind.min, IntKind.max, IntKind.signed, IntKind.bits] at w0 w2 w3
    obtain rfl := h7.1
    exact ⟨⟨i, r, z, l⟩, a, c, rfl, h5, h6, h7, h8, by simp only; omega, by simp only; omega, by simp only; omega⟩
/-! ### Scripts -/
/-- a call of a script -/
structure Dv where
  k : Int
  part : Int
  n : Int
  x : Int
  l : List Int
  h : (-9223372036854775808 ≤ k ∧ k ≤ 9223372036854775807) ∧ (-9223372036854775808 ≤ part ∧ part ≤ 9223372036854775807) ∧ (-9223372036854775808 ≤ n ∧ n ≤ 9223372036854775807) ∧ (0 ≤ x ∧ x ≤ 4294967295)
instance : Inhabited Dv := ⟨⟨0, 0, 0, 0, [], by decide⟩⟩
/-- the calls of a script stand in memory from a cell on -/
def DAt (p : Nat → Prop) (w : World) (b off : Nat) (y : Dv) : Prop :=
  w.cell? ⟨b, off, none⟩ = some (.int .i64 y.k) ∧ w.cell? ⟨b, off + 1, none⟩ = some (.int .i64 y.part) ∧ w.cell? ⟨b, off + 2, none⟩ = some (.int .i64 y.n) ∧ w.cell? ⟨b, off + 3, none⟩ = some (.int .u32 y.x) ∧
    ∃ ba bn bc, w.cell? ⟨b, off + 4, none⟩ = some (.slice ba bn bc) ∧ bn ≤ bc ∧ bc ≤ 9223372036854775807 ∧ NRow p w ba bn y.l ∧ (ba = none → bc = 0)
def DRow (p : Nat → Prop) (w : World) (a : Option Addr) (n : Nat) (l : List Dv) : Prop := l.length = n ∧ (n = 0 ∨ ∃ b off, a = some ⟨b, off, none⟩ ∧ ¬ p b ∧ ∀ j, j < n → DAt p w b (off + j * 5) l[j]!)
theorem DAt.kept {p : Nat → Prop} {w w' : World} {b off : Nat} {y : Dv} (h : DAt p w b off y) (hk : Kept p w w') (hb : ¬ p b) : DAt p w' b off y := by
  obtain ⟨h0, h1, h2, h3, ba, bn, bc, h4, h5, h6, h7, h8⟩ := h
  exact ⟨hk.cell h0 hb, hk.cell h1 hb, hk.cell h2 hb, hk.cell h3 hb, ba, bn, bc, hk.cell h4 hb, h5, h6, h7.kept hk, h8⟩
theorem DRow.kept {p : Nat → Prop} {w w' : World} {a : Option Addr} {n : Nat} {l : List Dv} (h : DRow p w a n l) (hk : Kept p w w') : DRow p w' a n l := by
  obtain ⟨h1, h2⟩ := h
  refine ⟨h1, h2.imp id ?_⟩
  rintro ⟨b, off, e, hp, hj⟩
  exact ⟨b, off, e, hp, fun j hlt => (hj j hlt).kept hk hp⟩
/-- a call that came in -/
theorem open_do {fuel : Nat} {cs : List Value} {x : DataW H × List MemPlace} (h : DataW.trod enc Try.prog w 0 spare held fuel 38 cs = some x) :
    ∃ (y : Dv) (ba : Option Addr) (bn bc : Nat), cs = [.int .i64 y.k, .int .i64 y.part, .int .i64 y.n, .int .u32 y.x, .slice ba bn bc] ∧ bn ≤ bc ∧ bc ≤ 9223372036854775807 ∧ NRow (fun k => w.heap.size ≤ k) w ba bn y.l ∧ (ba = none → bc = 0) := by
  obtain ⟨ys, n', hn', _, hcl, hyl, hg⟩ := DataW.trod_struct Try.underlying38 h
  rw [cD] at hcl
  match cs, hcl with
  | [v0, v1, v2, v3, v4], _ =>
    have q : ∀ j, j < 5 → ∃ y, ys[j]? = some y := fun j hj => ⟨_, List.getElem?_eq_getElem (by rw [hyl]; exact hj)⟩
    obtain ⟨y0, e0⟩ := q 0 (by omega)
    obtain ⟨y1, e1⟩ := q 1 (by omega)
    obtain ⟨y2, e2⟩ := q 2 (by omega)
    obtain ⟨y3, e3⟩ := q 3 (by omega)
    obtain ⟨y4, e4⟩ := q 4 (by omega)
    have g0 : DataW.trod enc Try.prog w 0 spare held n' 3 [v0] = some y0 := by have := hg 0 _ rfl; rw [e0] at this; simpa [cI, cU] using this
    have g1 : DataW.trod enc Try.prog w 0 spare held n' 3 [v1] = some y1 := by have := hg 1 _ rfl; rw [e1] at this; simpa [cI, cU] using this
    have g2 : DataW.trod enc Try.prog w 0 spare held n' 3 [v2] = some y2 := by have := hg 2 _ rfl; rw [e2] at this; simpa [cI, cU] using this
    have g3 : DataW.trod enc Try.prog w 0 spare held n' 23 [v3] = some y3 := by have := hg 3 _ rfl; rw [e3] at this; simpa [cI, cU] using this
    have g4 : DataW.trod enc Try.prog w 0 spare held n' 22 [v4] = some y4 := by have := hg 4 _ rfl; rw [e4] at this; simpa [cI, cU, cS] using this
    obtain ⟨k, h0, _, w0⟩ := DataW.trod_int Try.underlying3 g0
    obtain ⟨a, h1, _, w1⟩ := DataW.trod_int Try.underlying3 g1
    obtain ⟨n, h2, _, w2⟩ := DataW.trod_int Try.underlying3 g2
    obtain ⟨z, h3, _, w3⟩ := DataW.trod_int Try.underlying23 g3
    obtain ⟨ba, bn, bc, b, h4, h5, h6, h7, h8⟩ := open_nums g4
    simp at h0 h1 h2 h3 h4
    subst h0
    subst h1
    subst h2
    subst h3
    subst h4
    simp [Lit.wf, IntKind.min, IntKind.max, IntKind.signed, IntKind.bits] at w0 w1 w2 w3
    exact ⟨⟨k, a, n, z, b, by omega⟩, ba, bn, bc, rfl, h5, h6, h7, h8⟩
/-- a script that came in -/
theorem open_dos {fuel : Nat} {cs : List Value} {x : DataW H × List MemPlace} (h : DataW.trod enc Try.prog w 0 spare held fuel 26 cs = some x) :
    ∃ a n c l, cs = [.slice a n c] ∧ n ≤ c ∧ c ≤ 9223372036854775807 ∧ DRow (fun k => w.heap.size ≤ k) w a n l := by
  rcases DataW.trod_slice Try.underlying26 h with ⟨hcs, _⟩ | ⟨a, len, cap, elems, rest, n, hf, rfl, _, _, hl, hm, hlen, hel, _, _⟩
  · exact ⟨none, 0, 0, [], hcs, by omega, by omega, rfl, Or.inl rfl⟩
  · unfold maxLen at hm
    rw [cD] at hel
    have key : ∀ i, i < len → ∃ (y : Dv) (ba : Option Addr) (bn bc : Nat), w.cell? (a.add (i * 5)) = some (.int .i64 y.k) ∧ w.cell? (a.add (i * 5 + 1)) = some (.int .i64 y.part) ∧ w.cell? (a.add (i * 5 + 2)) = some (.int .i64 y.n) ∧ w.cell? (a.add (i * 5 + 3)) = some (.int .u32 y.x) ∧ w.cell? (a.add (i * 5 + 4)) = some (.slice ba bn bc) ∧ bn ≤ bc ∧ bc ≤ 9223372036854775807 ∧ NRow (fun k => w.heap.size ≤ k) w ba bn y.l ∧ (ba = none → bc = 0) := by
      intro i hi
      have hy := hel i hi
      rw [List.getElem?_eq_getElem (by omega)] at hy
      obtain ⟨cs', h1, h2⟩ := Option.bind_eq_some_iff.1 hy
      obtain ⟨_, hcl, hat⟩ := World.cells?_some h1
      obtain ⟨y, ba, bn, bc, rfl, h5, h6, h7, h8⟩ := open_do h2
      have q0 := hat 0 (by omega)
      have q1 := hat 1 (by omega)
      have q2 := hat 2 (by omega)
      have q3 := hat 3 (by omega)
      have q4 := hat 4 (by omega)
      rw [Go.Deep.add_add] at q0 q1 q2 q3 q4
      exact ⟨y, ba, bn, bc, by simpa using q0, by simpa using q1, by simpa using q2, by simpa using q3, by simpa using q4, h5, h6, h7, h8⟩
    by_cases h0 : len = 0
    · subst h0
      exact ⟨some a, 0, cap, [], rfl, hl, hm, rfl, Or.inl rfl⟩
    obtain ⟨b, off, spot⟩ := a
    have hspot : spot = none := by
      obtain ⟨y, ba, bn, bc, h1, _⟩ := key 0 (by omega)
      simpa [Addr.add] using World.cell?_spot h1
    subst hspot
    have hlt : b < w.heap.size := by
      obtain ⟨y, ba, bn, bc, h1, _⟩ := key 0 (by omega)
      rw [Addr.add_mid] at h1
      exact World.block_lt_of_cell? _ _ h1
    have build : ∀ m, m ≤ len → ∃ l : List Dv, l.length = m ∧ ∀ j, j < m → DAt (fun k => w.heap.size ≤ k) w b (off + j * 5) l[j]! := by
      intro m
      induction m with
      | zero => intro _; exact ⟨[], rfl, fun j hj => by omega⟩
      | succ m ihm =>
        intro hj
        obtain ⟨l, hl1, hl2⟩ := ihm (by omega)
        obtain ⟨y, ba, bn, bc, a0, a1, a2, a3, a4, a5, a6, a7, a8⟩ := key m (by omega)
        rw [Addr.add_mid] at a0 a1 a2 a3 a4
        refine ⟨l ++ [y], by simp [hl1], ?_⟩
        intro j hj
        by_cases e : j < m
        · have e2 : (l ++ [y])[j]! = l[j]! := by
            rw [getElem!_pos (l ++ [y]) j (by simp; omega), getElem!_pos l j (by omega), List.getElem_append_left]
          rw [e2]
          exact hl2 j e
        · have e1 : j = m := by omega
          subst e1
          have e2 : (l ++ [y])[j]! = y := by
            rw [getElem!_pos (l ++ [y]) j (by simp; omega), List.getElem_append_right (by omega)]
            simp
          rw [e2]
          exact ⟨a0, by rw [Nat.add_assoc]; exact a1, by rw [Nat.add_assoc]; exact a2, by rw [Nat.add_assoc]; exact a3, ba, bn, bc, by rw [Nat.add_assoc]; exact a4, a5, a6, a7, a8⟩
    obtain ⟨l, hl1, hl2⟩ := build len (Nat.le_refl _)
    exact ⟨some ⟨b, off, none⟩, len, cap, l, rfl, hl, hm, hl1, .inr ⟨b, off, rfl, by omega, hl2⟩⟩
end
end Fld
end Go.Proofs.Ytoighaicdakbkaa
