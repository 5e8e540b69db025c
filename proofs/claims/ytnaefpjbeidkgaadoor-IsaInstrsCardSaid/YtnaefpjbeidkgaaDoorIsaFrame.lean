/- What comes in, opened; a world for the witness: all the tables that the lists name, laid. -/
import Derived.Test.YtnaefpjbeidkgaaDoorCards
import Derived.Test.YtnaefpjbeidkgaaDoorTie
import Derived.Test.YtnaefpjbeidkgaaDoorIsaKnown
import Derived.Deep.DeepHandedRow
import Derived.Deep.Slices
import Derived.ShutString
import Derived.ChangeOld
import Derived.Deep.MidRow
namespace Go.Proofs.YtnaefpjbeidkgaaDoor
open Go.ChangeShapes Go.WideShapes Go.ChangeAt Go.RowKit
namespace Isa
set_option linter.unusedVariables false
set_option linter.unusedSimpArgs false
theorem own : ownKnob Tryd.prog.godebug = none := by kernel_rfl
theorem laidOut : laidOutB Tryd.prog = true := by kernel_rfl
/-- the cells of what is laid -/
def litV : DataW Unit → Value
  | .lit (.int k n) => .int k n
  | .lit (.string l) => .string (sB l)
  | .lit (.bool b) => .bool b
  | _ => undef
def litCells : DataW Unit → List Value
  | .agg xs => xs.flatMap fun x => match x with | .agg ys => ys.map litV | y => [litV y]
  | _ => []
def fillAt (g : Nat) (d : DataW Unit) (h : Array Obj) : Array Obj := h.modify g fun
  | .cells _ t frozen => .cells (litCells d).toArray t frozen
  | o => o
noncomputable def laidWorld (os : Os) : World :=
  { World.holding Tryd.prog os ⟨#[], #[], []⟩ with heap := fillAt 0 Rows.laid_tappet_isa_kinds (fillAt 1 Rows.laid_internal_strconv_uint64pow10 (fillAt 2 Rows.laid_math_bits_deBruijn32tab (fillAt 3 Rows.laid_math_bits_deBruijn64tab (World.holding Tryd.prog os ⟨#[], #[], []⟩).heap))) }
theorem laid_met (os : Os) (args : Array Value) : laidMet Tryd.prog [("math/bits.deBruijn32tab", Rows.laid_math_bits_deBruijn32tab), ("math/bits.deBruijn64tab", Rows.laid_math_bits_deBruijn64tab), ("internal/strconv.uint64pow10", Rows.laid_internal_strconv_uint64pow10), ("tappet/isa.kinds", Rows.laid_tappet_isa_kinds)] ((laidWorld os).forCall (fun _ _ => 0) ⟨#[], args, []⟩).memory :=
  laidMet_of_run' 8 (by kernel_rfl) (by kernel_rfl)
theorem cI : Tryd.prog.cellsOf 25 = 4 := by kernel_rfl
theorem cU8 : Tryd.prog.cellsOf 5 = 1 := by kernel_rfl
theorem cU16 : Tryd.prog.cellsOf 22 = 1 := by kernel_rfl
theorem cU32 : Tryd.prog.cellsOf 23 = 1 := by kernel_rfl
section
variable {H : Type} {enc : TypeId × Value → H} {w : World} {spare : Nat → Bool} {held : Bool}
/-- an instruction that came in -/
theorem open_instr {fuel : Nat} {cs : List Value} {x : DataW H × List MemPlace} (h : DataW.trod enc Tryd.prog w 0 spare held fuel 25 cs = some x) :
    ∃ i : Iv, cs = [.int .u8 i.op, .int .u8 i.a, .int .u16 i.b, .int .u32 i.c] ∧ i.wf := by
  obtain ⟨ys, n', hn', _, hcl, hyl, hg⟩ := DataW.trod_struct Tryd.underlying25 h
  rw [cI] at hcl
  match cs, hcl with
  | [v0, v1, v2, v3], _ =>
    have q : ∀ j, j < 4 → ∃ y, ys[j]? = some y := fun j hj => ⟨_, List.getElem?_eq_getElem (by rw [hyl]; exact hj)⟩
    obtain ⟨y0, e0⟩ := q 0 (by omega)
    obtain ⟨y1, e1⟩ := q 1 (by omega)
    obtain ⟨y2, e2⟩ := q 2 (by omega)
    obtain ⟨y3, e3⟩ := q 3 (by omega)
    have g0 : DataW.trod enc Tryd.prog w 0 spare held n' 5 [v0] = some y0 := by have := hg 0 _ rfl; rw [e0] at this; simpa [cU8, cU16, cU32] using this
    have g1 : DataW.trod enc Tryd.prog w 0 spare held n' 5 [v1] = some y1 := by have := hg 1 _ rfl; rw [e1] at this; simpa [cU8, cU16, cU32] using this
    have g2 : DataW.trod enc Tryd.prog w 0 spare held n' 22 [v2] = some y2 := by have := hg 2 _ rfl; rw [e2] at this; simpa [cU8, cU16, cU32] using this
    have g3 : DataW.trod enc Tryd.prog w 0 spare held n' 23 [v3] = some y3 := by have := hg 3 _ rfl; rw [e3] at this; simpa [cU8, cU16, cU32] using this
    obtain ⟨a, h0, _, w0⟩ := DataW.trod_int Tryd.underlying5 g0
    obtain ⟨b, h1, _, w1⟩ := DataW.trod_int Tryd.underlying5 g1
    obtain ⟨c, h2, _, w2⟩ := DataW.trod_int Tryd.underlying22 g2
    obtain ⟨d, h3, _, w3⟩ := DataW.trod_int Tryd.underlying23 g3
    simp at h0 h1 h2 h3
    subst h0
    subst h1
    subst h2
    subst h3
    simp [Lit.wf, IntKind.min, IntKind.max, IntKind.signed, IntKind.bits] at w0 w1 w2 w3
    exact ⟨⟨a, b, c, d⟩, rfl, ⟨by simp only; omega, by simp only; omega, by simp only; omega, by simp only; omega⟩⟩
/-- bytes that came in -/
theorem open_bytes {fuel : Nat} {cs : List Value} {x : DataW H × List MemPlace} (h : DataW.trod enc Tryd.prog w 0 spare held fuel 29 cs = some x) :
    ∃ a n c l, cs = [.slice a n c] ∧ n ≤ c ∧ c ≤ 9223372036854775807 ∧ Row w a n l ∧ (a = none → c = 0) := by
  rcases open_ints Tryd.underlying29 Tryd.underlying5 (by kernel_rfl) h with ⟨hcs, _⟩ | ⟨a, l, c, zs, hcs, _, hl, hm, hz, _, hcell, hwz⟩
  · exact ⟨none, 0, 0, [], hcs, by omega, by omega, ⟨rfl, fun z hz => by simp at hz, Or.inl rfl⟩, fun _ => rfl⟩
  · unfold maxLen at hm
    have hzl : l ≤ zs.length := by rw [hz]; split <;> omega
    refine ⟨some a, l, c, zs.take l, hcs, hl, hm, ⟨by simp; omega, fun z hzm => ?_, ?_⟩, fun h => by cases h⟩
    · have := hwz z (List.mem_of_mem_take hzm)
      simp [Lit.wf, IntKind.min, IntKind.max, IntKind.signed, IntKind.bits] at this
      omega
    · by_cases h0 : l = 0
      · exact Or.inl h0
      · obtain ⟨b, off, spot⟩ := a
        have hspot : spot = none := by simpa [Addr.add] using World.cell?_spot (hcell 0 (by omega))
        subst hspot
        refine Or.inr ⟨b, off, rfl, fun i hi => ?_⟩
        rw [← Addr.add_mid b off i, hcell i (by omega)]
        simp [List.getD, hi]
end
end Isa
end Go.Proofs.YtnaefpjbeidkgaaDoor
