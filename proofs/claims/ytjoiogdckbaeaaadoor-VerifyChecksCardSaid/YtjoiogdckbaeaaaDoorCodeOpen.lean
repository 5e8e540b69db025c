/- What came in, opened: instructions, bools. -/
import Derived.Test.YtjoiogdckbaeaaaDoorCodeBase
import Derived.Test.YtjoiogdckbaeaaaDoorFlowInts
import Derived.Deep.Slices
import Derived.Deep.DeepHandedRow
import Derived.ChangeOld
import Derived.Deep.MidRow
namespace Go.Proofs.YtjoiogdckbaeaaaDoor
open Go.ChangeShapes Go.WideShapes Go.ChangeAt Go.RowKit
namespace Flw
open Isa
set_option linter.unusedVariables false
set_option linter.unusedSimpArgs false
section
variable {H : Type} {enc : TypeId × Value → H} {w : World} {spare : Nat → Bool} {held : Bool}
theorem cI4 : Tryd.prog.cellsOf 55 = 4 := by kernel_rfl
theorem cBo : Tryd.prog.cellsOf 4 = 1 := by kernel_rfl
theorem c8 : Tryd.prog.cellsOf 5 = 1 := by kernel_rfl
theorem c16 : Tryd.prog.cellsOf 53 = 1 := by kernel_rfl
theorem c32 : Tryd.prog.cellsOf 23 = 1 := by kernel_rfl
set_option maxRecDepth 20000 in
/-- an instruction that came in -/
theorem open_instr {fuel : Nat} {cs : List Value} {x : DataW H × List MemPlace} (h : DataW.trod enc Tryd.prog w 0 spare held fuel 55 cs = some x) :
    ∃ i : Iv, cs = encI i ∧ i.wf := by
  obtain ⟨ys, n', hn', _, hcl, hyl, hg⟩ := DataW.trod_struct Tryd.underlying55 h
  rw [cI4] at hcl
  match cs, hcl with
  | [v0, v1, v2, v3], _ =>
    have q : ∀ j, j < 4 → ∃ y, ys[j]? = some y := fun j hj => ⟨_, List.getElem?_eq_getElem (by rw [hyl]; exact hj)⟩
    obtain ⟨y0, e0⟩ := q 0 (by omega)
    obtain ⟨y1, e1⟩ := q 1 (by omega)
    obtain ⟨y2, e2⟩ := q 2 (by omega)
    obtain ⟨y3, e3⟩ := q 3 (by omega)
    have g0 : DataW.trod enc Tryd.prog w 0 spare held n' 5 [v0] = some y0 := by have := hg 0 _ rfl; rw [e0] at this; simpa [c8, c16, c32] using this
    have g1 : DataW.trod enc Tryd.prog w 0 spare held n' 5 [v1] = some y1 := by have := hg 1 _ rfl; rw [e1] at this; simpa [c8, c16, c32] using this
    have g2 : DataW.trod enc Tryd.prog w 0 spare held n' 53 [v2] = some y2 := by have := hg 2 _ rfl; rw [e2] at this; simpa [c8, c16, c32] using this
    have g3 : DataW.trod enc Tryd.prog w 0 spare held n' 23 [v3] = some y3 := by have := hg 3 _ rfl; rw [e3] at this; simpa [c8, c16, c32] using this
    obtain ⟨a, h0, _, w0⟩ := DataW.trod_int Tryd.underlying5 g0
    obtain ⟨b, h1, _, w1⟩ := DataW.trod_int Tryd.underlying5 g1
    obtain ⟨c, h2, _, w2⟩ := DataW.trod_int Tryd.underlying53 g2
    obtain ⟨d, h3, _, w3⟩ := DataW.trod_int Tryd.underlying23 g3
    simp at h0 h1 h2 h3
    subst h0
    subst h1
    subst h2
    subst h3
    simp [Lit.wf, IntKind.min, IntKind.max, IntKind.signed, IntKind.bits] at w0 w1 w2 w3
    exact ⟨⟨a, b, c, d⟩, rfl, ⟨by simp only; omega, by simp only; omega, by simp only; omega, by simp only; omega⟩⟩
/-- a list of these that came in -/
theorem open_instrs {fuel : Nat} {cs : List Value} {x : DataW H × List MemPlace} (h : DataW.trod enc Tryd.prog w 0 spare held fuel 22 cs = some x) :
    ∃ a n c l, cs = [.slice a n c] ∧ n ≤ c ∧ c ≤ 9223372036854775807 ∧ IRow w a n l := by
  rcases DataW.trod_slice Tryd.underlying22 h with ⟨hcs, _⟩ | ⟨a, len, cap, elems, rest, n, hf, rfl, _, _, hl, hm, hlen, hel, _, _⟩
  · exact ⟨none, 0, 0, [], hcs, by omega, by omega, rfl, by simp, Or.inl rfl⟩
  · unfold maxLen at hm
    rw [cI4] at hel
    have key : ∀ i, i < len → ∃ d : Iv, d.wf ∧ w.cell? (a.add (i * 4)) = some (.int .u8 d.op) ∧ w.cell? (a.add (i * 4 + 1)) = some (.int .u8 d.a) ∧ w.cell? (a.add (i * 4 + 2)) = some (.int .u16 d.b) ∧ w.cell? (a.add (i * 4 + 3)) = some (.int .u32 d.c) := by
      intro i hi
      have hy := hel i hi
      rw [List.getElem?_eq_getElem (by omega)] at hy
      obtain ⟨cs', h1, h2⟩ := Option.bind_eq_some_iff.1 hy
      obtain ⟨_, hcl, hat⟩ := World.cells?_some h1
      obtain ⟨d, rfl, hd⟩ := open_instr h2
      have h0' := hat 0 (by simp [encI])
      have h1' := hat 1 (by simp [encI])
      have h2' := hat 2 (by simp [encI])
      have h3' := hat 3 (by simp [encI])
      rw [Go.Deep.add_add] at h0' h1' h2' h3'
      exact ⟨d, hd, by simpa [encI, Nat.add_assoc] using h0', by simpa [encI, Nat.add_assoc] using h1', by simpa [encI, Nat.add_assoc] using h2', by simpa [encI, Nat.add_assoc] using h3'⟩
    by_cases h0 : len = 0
    · subst h0
      exact ⟨some a, 0, cap, [], rfl, hl, hm, rfl, by simp, Or.inl rfl⟩
    obtain ⟨b, off, spot⟩ := a
    have hspot : spot = none := by
      obtain ⟨r, _, h1, _⟩ := key 0 (by omega)
      simpa [Addr.add] using World.cell?_spot h1
    subst hspot
    have build : ∀ m, m ≤ len → ∃ l : List Iv, l.length = m ∧ (∀ d ∈ l, d.wf) ∧ ∀ j, j < m → IAt w b (off + j * 4) (l.getD j iz) := by
      intro m
      induction m with
      | zero => intro _; exact ⟨[], rfl, by simp, fun j hj => by omega⟩
      | succ m ihm =>
        intro hj
        obtain ⟨l, hl1, hl0, hl2⟩ := ihm (by omega)
        obtain ⟨d, hd, a0, a1, a2, a3⟩ := key m (by omega)
        rw [Addr.add_mid] at a0 a1 a2 a3
        refine ⟨l ++ [d], by simp [hl1], fun x hx => ?_, fun j hj2 => ?_⟩
        · rcases List.mem_append.1 hx with hx | hx
          · exact hl0 x hx
          · rw [List.mem_singleton.1 hx]; exact hd
        · by_cases e : j = m
          · subst e
            have : (l ++ [d]).getD j iz = d := by rw [List.getD_eq_getElem?_getD, List.getElem?_append_right (by omega), hl1]; simp
            rw [this]
            exact ⟨by simpa [Nat.add_assoc] using a0, by simpa [Nat.add_assoc] using a1, by simpa [Nat.add_assoc] using a2, by simpa [Nat.add_assoc] using a3⟩
          · have : (l ++ [d]).getD j iz = l.getD j iz := by rw [List.getD_eq_getElem?_getD, List.getD_eq_getElem?_getD, List.getElem?_append_left (by omega)]
            rw [this]
            exact hl2 j (by omega)
    obtain ⟨l, hl1, hl0, hl2⟩ := build len (Nat.le_refl _)
    exact ⟨some ⟨b, off, none⟩, len, cap, l, rfl, hl, hm, hl1, hl0, Or.inr ⟨b, off, rfl, hl2⟩⟩
/-- a list of bools that came in -/
theorem open_bools {fuel : Nat} {cs : List Value} {x : DataW H × List MemPlace} (h : DataW.trod enc Tryd.prog w 0 spare held fuel 63 cs = some x) :
    ∃ a n c l, cs = [.slice a n c] ∧ n ≤ c ∧ c ≤ 9223372036854775807 ∧ CRow w a n l := by
  rcases DataW.trod_slice Tryd.underlying63 h with ⟨hcs, _⟩ | ⟨a, len, cap, elems, rest, n, hf, rfl, _, _, hl, hm, hlen, hel, _, _⟩
  · exact ⟨none, 0, 0, [], hcs, by omega, by omega, rfl, Or.inl rfl⟩
  · unfold maxLen at hm
    rw [cBo] at hel
    have key : ∀ i, i < len → ∃ d : Bool, w.cell? (a.add i) = some (.bool d) := by
      intro i hi
      have hy := hel i hi
      rw [List.getElem?_eq_getElem (by omega)] at hy
      obtain ⟨cs', h1, h2⟩ := Option.bind_eq_some_iff.1 hy
      obtain ⟨_, hcl, hat⟩ := World.cells?_some h1
      obtain ⟨d, h3, _⟩ := DataW.trod_bool Tryd.underlying4 h2
      subst h3
      have h0' := hat 0 (by simp)
      rw [Go.Deep.add_add] at h0'
      exact ⟨d, by simpa using h0'⟩
    by_cases h0 : len = 0
    · subst h0
      exact ⟨some a, 0, cap, [], rfl, hl, hm, rfl, Or.inl rfl⟩
    obtain ⟨b, off, spot⟩ := a
    have hspot : spot = none := by
      obtain ⟨r, h1⟩ := key 0 (by omega)
      simpa [Addr.add] using World.cell?_spot h1
    subst hspot
    have build : ∀ m, m ≤ len → ∃ l : List Bool, l.length = m ∧ ∀ j, j < m → w.cell? ⟨b, off + j, none⟩ = some (.bool (l.getD j false)) := by
      intro m
      induction m with
      | zero => intro _; exact ⟨[], rfl, fun j hj => by omega⟩
      | succ m ihm =>
        intro hj
        obtain ⟨l, hl1, hl2⟩ := ihm (by omega)
        obtain ⟨d, a0⟩ := key m (by omega)
        rw [Addr.add_mid] at a0
        refine ⟨l ++ [d], by simp [hl1], fun j hj2 => ?_⟩
        by_cases e : j = m
        · subst e
          have : (l ++ [d]).getD j false = d := by rw [List.getD_eq_getElem?_getD, List.getElem?_append_right (by omega), hl1]; simp
          rw [this]
          exact a0
        · have : (l ++ [d]).getD j false = l.getD j false := by rw [List.getD_eq_getElem?_getD, List.getD_eq_getElem?_getD, List.getElem?_append_left (by omega)]
          rw [this]
          exact hl2 j (by omega)
    obtain ⟨l, hl1, hl2⟩ := build len (Nat.le_refl _)
    exact ⟨some ⟨b, off, none⟩, len, cap, l, rfl, hl, hm, hl1, Or.inr ⟨b, off, rfl, hl2⟩⟩
end
end Flw
end Go.Proofs.YtjoiogdckbaeaaaDoor
