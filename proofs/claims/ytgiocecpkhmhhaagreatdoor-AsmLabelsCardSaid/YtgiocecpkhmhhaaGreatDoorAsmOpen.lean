/- What came in, opened: lines of a program, instructions, bytes. -/
import Derived.Test.YtgiocecpkhmhhaaGreatDoorAsmRow
import Derived.Deep.Slices
import Derived.Deep.DeepHandedRow
import Derived.ChangeOld
import Derived.Deep.MidRow
namespace Go.Proofs.YtgiocecpkhmhhaaGreatDoor
open Go.ChangeShapes Go.WideShapes Go.ChangeAt Go.RowKit
namespace Asm
open Isa
set_option linter.unusedVariables false
set_option linter.unusedSimpArgs false
section
variable {H : Type} {enc : TypeId × Value → H} {w : World} {spare : Nat → Bool} {held : Bool}
theorem cS : Tryz.prog.cellsOf 9 = 1 := by kernel_rfl
theorem cI4 : Tryz.prog.cellsOf 32 = 4 := by kernel_rfl
theorem cA6 : Tryz.prog.cellsOf 34 = 6 := by kernel_rfl
theorem c8 : Tryz.prog.cellsOf 5 = 1 := by kernel_rfl
theorem c16 : Tryz.prog.cellsOf 29 = 1 := by kernel_rfl
theorem c32 : Tryz.prog.cellsOf 30 = 1 := by kernel_rfl
set_option maxRecDepth 20000 in
/-- an instruction that came in -/
theorem open_instr {fuel : Nat} {cs : List Value} {x : DataW H × List MemPlace} (h : DataW.trod enc Tryz.prog w 0 spare held fuel 32 cs = some x) :
    ∃ i : Iv, cs = encI i ∧ i.wf := by
  obtain ⟨ys, n', hn', _, hcl, hyl, hg⟩ := DataW.trod_struct Tryz.underlying32 h
  rw [cI4] at hcl
  match cs, hcl with
  | [v0, v1, v2, v3], _ =>
    have q : ∀ j, j < 4 → ∃ y, ys[j]? = some y := fun j hj => ⟨_, List.getElem?_eq_getElem (by rw [hyl]; exact hj)⟩
    obtain ⟨y0, e0⟩ := q 0 (by omega)
    obtain ⟨y1, e1⟩ := q 1 (by omega)
    obtain ⟨y2, e2⟩ := q 2 (by omega)
    obtain ⟨y3, e3⟩ := q 3 (by omega)
    have g0 : DataW.trod enc Tryz.prog w 0 spare held n' 5 [v0] = some y0 := by have := hg 0 _ rfl; rw [e0] at this; simpa [c8, c16, c32] using this
    have g1 : DataW.trod enc Tryz.prog w 0 spare held n' 5 [v1] = some y1 := by have := hg 1 _ rfl; rw [e1] at this; simpa [c8, c16, c32] using this
    have g2 : DataW.trod enc Tryz.prog w 0 spare held n' 29 [v2] = some y2 := by have := hg 2 _ rfl; rw [e2] at this; simpa [c8, c16, c32] using this
    have g3 : DataW.trod enc Tryz.prog w 0 spare held n' 30 [v3] = some y3 := by have := hg 3 _ rfl; rw [e3] at this; simpa [c8, c16, c32] using this
    obtain ⟨a, h0, _, w0⟩ := DataW.trod_int Tryz.underlying5 g0
    obtain ⟨b, h1, _, w1⟩ := DataW.trod_int Tryz.underlying5 g1
    obtain ⟨c, h2, _, w2⟩ := DataW.trod_int Tryz.underlying29 g2
    obtain ⟨d, h3, _, w3⟩ := DataW.trod_int Tryz.underlying30 g3
    simp at h0 h1 h2 h3
    subst h0
    subst h1
    subst h2
    subst h3
    simp [Lit.wf, IntKind.min, IntKind.max, IntKind.signed, IntKind.bits] at w0 w1 w2 w3
    exact ⟨⟨a, b, c, d⟩, rfl, ⟨by simp only; omega, by simp only; omega, by simp only; omega, by simp only; omega⟩⟩
set_option maxRecDepth 20000 in
/-- a line that came in -/
theorem open_line {fuel : Nat} {cs : List Value} {x : DataW H × List MemPlace} (h : DataW.trod enc Tryz.prog w 0 spare held fuel 34 cs = some x) :
    ∃ l : Av, cs = encA l ∧ l.wf := by
  obtain ⟨ys, n', hn', _, hcl, hyl, hg⟩ := DataW.trod_struct Tryz.underlying34 h
  rw [cA6] at hcl
  match cs, hcl with
  | [v0, v1, v2, v3, v4, v5], _ =>
    have q : ∀ j, j < 3 → ∃ y, ys[j]? = some y := fun j hj => ⟨_, List.getElem?_eq_getElem (by rw [hyl]; exact hj)⟩
    obtain ⟨y0, e0⟩ := q 0 (by omega)
    obtain ⟨y1, e1⟩ := q 1 (by omega)
    obtain ⟨y2, e2⟩ := q 2 (by omega)
    have g0 : DataW.trod enc Tryz.prog w 0 spare held n' 9 [v0] = some y0 := by have := hg 0 _ rfl; rw [e0] at this; simpa [cS, cI4] using this
    have g1 : DataW.trod enc Tryz.prog w 0 spare held n' 32 [v1, v2, v3, v4] = some y1 := by have := hg 1 _ rfl; rw [e1] at this; simpa [cS, cI4] using this
    have g2 : DataW.trod enc Tryz.prog w 0 spare held n' 9 [v5] = some y2 := by have := hg 2 _ rfl; rw [e2] at this; simpa [cS, cI4] using this
    obtain ⟨s0, h0, _, w0⟩ := DataW.trod_string Tryz.underlying9 g0
    obtain ⟨i, h1, w1⟩ := open_instr g1
    obtain ⟨s2, h2, _, w2⟩ := DataW.trod_string Tryz.underlying9 g2
    have z0 : s0 = sB s0.data.toList := sB_of rfl
    have z2 : s2 = sB s2.data.toList := sB_of rfl
    have l0 : s0.data.toList.length = s0.size := by rw [Array.length_toList]; rfl
    have l2 : s2.data.toList.length = s2.size := by rw [Array.length_toList]; rfl
    unfold maxLen at w0 w2
    refine ⟨⟨s0.data.toList, i, s2.data.toList⟩, ?_, ⟨w1, by simp only; omega, by simp only; omega⟩⟩
    simp only [List.cons.injEq, and_true] at h0 h2
    unfold encI at h1
    simp only [List.cons.injEq, and_true] at h1
    obtain ⟨q1, q2, q3, q4⟩ := h1
    unfold encA
    simp only
    rw [← z0, ← z2, h0, h2, q1, q2, q3, q4]
/-- a list of these that came in -/
theorem open_lines {fuel : Nat} {cs : List Value} {x : DataW H × List MemPlace} (h : DataW.trod enc Tryz.prog w 0 spare held fuel 22 cs = some x) :
    ∃ a n c l, cs = [.slice a n c] ∧ n ≤ c ∧ c ≤ 9223372036854775807 ∧ ARow w a n l := by
  rcases DataW.trod_slice Tryz.underlying22 h with ⟨hcs, _⟩ | ⟨a, len, cap, elems, rest, n, hf, rfl, _, _, hl, hm, hlen, hel, _, _⟩
  · exact ⟨none, 0, 0, [], hcs, by omega, by omega, rfl, by simp, Or.inl rfl⟩
  · unfold maxLen at hm
    rw [cA6] at hel
    have key : ∀ i, i < len → ∃ d : Av, d.wf ∧ w.cell? (a.add (i * 6)) = some (.string (sB d.lb)) ∧ w.cell? (a.add (i * 6 + 1)) = some (.int .u8 d.i.op) ∧ w.cell? (a.add (i * 6 + 2)) = some (.int .u8 d.i.a) ∧ w.cell? (a.add (i * 6 + 3)) = some (.int .u16 d.i.b) ∧ w.cell? (a.add (i * 6 + 4)) = some (.int .u32 d.i.c) ∧ w.cell? (a.add (i * 6 + 5)) = some (.string (sB d.tg)) := by
      intro i hi
      have hy := hel i hi
      rw [List.getElem?_eq_getElem (by omega)] at hy
      obtain ⟨cs', h1, h2⟩ := Option.bind_eq_some_iff.1 hy
      obtain ⟨_, hcl, hat⟩ := World.cells?_some h1
      obtain ⟨d, rfl, hd⟩ := open_line h2
      have h0' := hat 0 (by simp [encA])
      have h1' := hat 1 (by simp [encA])
      have h2' := hat 2 (by simp [encA])
      have h3' := hat 3 (by simp [encA])
      have h4' := hat 4 (by simp [encA])
      have h5' := hat 5 (by simp [encA])
      rw [Go.Deep.add_add] at h0' h1' h2' h3' h4' h5'
      exact ⟨d, hd, by simpa [encA, Nat.add_assoc] using h0', by simpa [encA, Nat.add_assoc] using h1', by simpa [encA, Nat.add_assoc] using h2', by simpa [encA, Nat.add_assoc] using h3', by simpa [encA, Nat.add_assoc] using h4', by simpa [encA, Nat.add_assoc] using h5'⟩
    by_cases h0 : len = 0
    · subst h0
      exact ⟨some a, 0, cap, [], rfl, hl, hm, rfl, by simp, Or.inl rfl⟩
    obtain ⟨b, off, spot⟩ := a
    have hspot : spot = none := by
      obtain ⟨r, _, h1, _⟩ := key 0 (by omega)
      simpa [Addr.add] using World.cell?_spot h1
    subst hspot
    have build : ∀ m, m ≤ len → ∃ l : List Av, l.length = m ∧ (∀ d ∈ l, d.wf) ∧ ∀ j, j < m → AAt w b (off + j * 6) (l.getD j av0) := by
      intro m
      induction m with
      | zero => intro _; exact ⟨[], rfl, by simp, fun j hj => by omega⟩
      | succ m ihm =>
        intro hj
        obtain ⟨l, hl1, hl0, hl2⟩ := ihm (by omega)
        obtain ⟨d, hd, a0, a1, a2, a3, a4, a5⟩ := key m (by omega)
        rw [Addr.add_mid] at a0 a1 a2 a3 a4 a5
        refine ⟨l ++ [d], by simp [hl1], fun x hx => ?_, fun j hj2 => ?_⟩
        · rcases List.mem_append.1 hx with hx | hx
          · exact hl0 x hx
          · rw [List.mem_singleton.1 hx]; exact hd
        · by_cases e : j = m
          · subst e
            have : (l ++ [d]).getD j av0 = d := by rw [List.getD_eq_getElem?_getD, List.getElem?_append_right (by omega), hl1]; simp
            rw [this]
            exact ⟨by simpa [Nat.add_assoc] using a0, by simpa [Nat.add_assoc] using a1, by simpa [Nat.add_assoc] using a2, by simpa [Nat.add_assoc] using a3, by simpa [Nat.add_assoc] using a4, by simpa [Nat.add_assoc] using a5⟩
          · have : (l ++ [d]).getD j av0 = l.getD j av0 := by rw [List.getD_eq_getElem?_getD, List.getD_eq_getElem?_getD, List.getElem?_append_left (by omega)]
            rw [this]
            exact hl2 j (by omega)
    obtain ⟨l, hl1, hl0, hl2⟩ := build len (Nat.le_refl _)
    exact ⟨some ⟨b, off, none⟩, len, cap, l, rfl, hl, hm, hl1, hl0, Or.inr ⟨b, off, rfl, hl2⟩⟩
/-- a list of these that came in -/
theorem open_instrs {fuel : Nat} {cs : List Value} {x : DataW H × List MemPlace} (h : DataW.trod enc Tryz.prog w 0 spare held fuel 25 cs = some x) :
    ∃ a n c l, cs = [.slice a n c] ∧ n ≤ c ∧ c ≤ 9223372036854775807 ∧ IRow w a n l := by
  rcases DataW.trod_slice Tryz.underlying25 h with ⟨hcs, _⟩ | ⟨a, len, cap, elems, rest, n, hf, rfl, _, _, hl, hm, hlen, hel, _, _⟩
  · exact ⟨none, 0, 0, [], hcs, by omega, by omega, rfl, by simp, Or.inl rfl⟩
  · unfold maxLen at hm
    rw [cI4] at hel
    have key : ∀ i, i < len → ∃ d : Iv, d.wf ∧ w.cell? (a.add (i * 4)) = some (.int .u8 d.op) ∧ w.cell? (a.add (i * 4 + 1)) = some (.int .u8 d.a) ∧ w.cell? (a.add (i * 4 + 2)) = some (.int .u16 d.b) ∧ w.cell? (a.add (i * 4 + 3)) = some (.int .u32 d.c) := by
      intro i hi
      have hy := hel i hi
      rw [List.getElem?_eq_getElem (by omega)] at hy
      obtain ⟨cs', h1, h2⟩ := Option.bind_eq_some_iff.1 hy
      obtain ⟨_, hcl, hat⟩ := World.cells?_some h1
      obtain ⟨d, rfl, hd⟩ := open_instr h2
      have h0' := hat 0 (by simp [encI])
      have h1' := hat 1 (by simp [encI])
      have h2' := hat 2 (by simp [encI])
      have h3' := hat 3 (by simp [encI])
      rw [Go.Deep.add_add] at h0' h1' h2' h3'
      exact ⟨d, hd, by simpa [encI, Nat.add_assoc] using h0', by simpa [encI, Nat.add_assoc] using h1', by simpa [encI, Nat.add_assoc] using h2', by simpa [encI, Nat.add_assoc] using h3'⟩
    by_cases h0 : len = 0
    · subst h0
      exact ⟨some a, 0, cap, [], rfl, hl, hm, rfl, by simp, Or.inl rfl⟩
    obtain ⟨b, off, spot⟩ := a
    have hspot : spot = none := by
      obtain ⟨r, _, h1, _⟩ := key 0 (by omega)
      simpa [Addr.add] using World.cell?_spot h1
    subst hspot
    have build : ∀ m, m ≤ len → ∃ l : List Iv, l.length = m ∧ (∀ d ∈ l, d.wf) ∧ ∀ j, j < m → IAt w b (off + j * 4) (l.getD j iv0) := by
      intro m
      induction m with
      | zero => intro _; exact ⟨[], rfl, by simp, fun j hj => by omega⟩
      | succ m ihm =>
        intro hj
        obtain ⟨l, hl1, hl0, hl2⟩ := ihm (by omega)
        obtain ⟨d, hd, a0, a1, a2, a3⟩ := key m (by omega)
        rw [Addr.add_mid] at a0 a1 a2 a3
        refine ⟨l ++ [d], by simp [hl1], fun x hx => ?_, fun j hj2 => ?_⟩
        · rcases List.mem_append.1 hx with hx | hx
          · exact hl0 x hx
          · rw [List.mem_singleton.1 hx]; exact hd
        · by_cases e : j = m
          · subst e
            have : (l ++ [d]).getD j iv0 = d := by rw [List.getD_eq_getElem?_getD, List.getElem?_append_right (by omega), hl1]; simp
            rw [this]
            exact ⟨by simpa [Nat.add_assoc] using a0, by simpa [Nat.add_assoc] using a1, by simpa [Nat.add_assoc] using a2, by simpa [Nat.add_assoc] using a3⟩
          · have : (l ++ [d]).getD j iv0 = l.getD j iv0 := by rw [List.getD_eq_getElem?_getD, List.getD_eq_getElem?_getD, List.getElem?_append_left (by omega)]
            rw [this]
            exact hl2 j (by omega)
    obtain ⟨l, hl1, hl0, hl2⟩ := build len (Nat.le_refl _)
    exact ⟨some ⟨b, off, none⟩, len, cap, l, rfl, hl, hm, hl1, hl0, Or.inr ⟨b, off, rfl, hl2⟩⟩
end
end Asm
end Go.Proofs.YtgiocecpkhmhhaaGreatDoor
