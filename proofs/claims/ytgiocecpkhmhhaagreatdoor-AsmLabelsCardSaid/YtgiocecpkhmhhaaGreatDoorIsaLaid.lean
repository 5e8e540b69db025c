/- What the statements' lists give: the table of the instructions' kinds, and the powers of ten. -/
import Derived.Test.YtgiocecpkhmhhaaGreatDoorIsaMath
import Derived.Test.YtgiocecpkhmhhaaGreatDoorRows
import Derived.Test.YtgiocecpkhmhhaaGreatDoorProg
import Derived.OpenShut
import Derived.WalkKit
import Derived.ProofKit
import Derived.ChangeArms
import Derived.Lib.LaidTab
import Derived.Lib.ItoaWalk
import Derived.LaidLaws
import Derived.Stop.LaidErr
import Derived.Below
namespace Go.Proofs.YtgiocecpkhmhhaaGreatDoor
open Go.ChangeShapes Go.WideShapes Go.ChangeAt Go.RowKit
namespace Isa
set_option linter.unusedVariables false
set_option linter.unusedSimpArgs false
/-- letters as a string -/
def sB (l : List UInt8) : ByteArray := ⟨l.toArray⟩
theorem sB_list (l : List UInt8) : (sB l).data.toList = l := by simp [sB]
theorem sB_inj {l m : List UInt8} (h : sB l = sB m) : l = m := by rw [← sB_list l, h, sB_list]
theorem sB_of {s : ByteArray} {l : List UInt8} (h : s.data.toList = l) : s = sB l := by subst h; cases s; simp [sB]
/-! ### What there is to know of an Op -/
def bAI (op : Int) : Int := if isA op || isAB op then 16 else 0
def bBI (op : Int) : Int := if isAB op then 16 else 0
def nCI (op : Int) : Bool := isC op || isM op
def dK {H : Type} (n : Nat) : DataW H := .agg [.lit (.string (nm n)), .lit (.int .i64 (takesI n)), .lit (.int .i64 (givesI n)), .lit (.bool (isM n)), .lit (.int .i64 (bAI n)), .lit (.int .i64 (bBI n)), .lit (.bool (nCI n)), .lit (.bool (jumpsI n))]
theorem laid_is : (Rows.laid_tappet_isa_kinds : DataW Unit) = .agg ((List.range 28).map dK) := by kernel_rfl
/-- the table's cells at an Op -/
structure KAt (w : World) (n : Nat) : Prop where
  k0 : w.cell? ⟨0, n * 8, none⟩ = some (.string (sB (nm n)))
  k1 : w.cell? ⟨0, n * 8 + 1, none⟩ = some (.int .i64 (takesI n))
  k2 : w.cell? ⟨0, n * 8 + 2, none⟩ = some (.int .i64 (givesI n))
  k3 : w.cell? ⟨0, n * 8 + 3, none⟩ = some (.bool (isM n))
  k4 : w.cell? ⟨0, n * 8 + 4, none⟩ = some (.int .i64 (bAI n))
  k5 : w.cell? ⟨0, n * 8 + 5, none⟩ = some (.int .i64 (bBI n))
  k6 : w.cell? ⟨0, n * 8 + 6, none⟩ = some (.bool (nCI n))
  k7 : w.cell? ⟨0, n * 8 + 7, none⟩ = some (.bool (jumpsI n))
/-- both tables -/
structure Tabs (w : World) : Prop where
  kinds : ∀ n, n < 28 → KAt w n
  pow : Lib.TabIs Tryz.prog w "internal/strconv.uint64pow10" .u64 Lib.pow10Tab
theorem gKinds : Tryz.prog.globalNamed "tappet/isa.kinds" = some 0 := by kernel_rfl
theorem gPow : Tryz.prog.globalNamed "internal/strconv.uint64pow10" = some 4 := by kernel_rfl
theorem cKinds : Tryz.prog.cellsOf 106 = 224 := by kernel_rfl
theorem cKind : Tryz.prog.cellsOf 82 = 8 := by kernel_rfl
theorem cStr : Tryz.prog.cellsOf 9 = 1 := by kernel_rfl
theorem cInt : Tryz.prog.cellsOf 3 = 1 := by kernel_rfl
theorem cBool : Tryz.prog.cellsOf 4 = 1 := by kernel_rfl
section
variable {H : Type} {enc : TypeId × Value → H} {w : World} {base : Nat} {spare : Nat → Bool} {held : Bool}
set_option maxRecDepth 20000 in
theorem open_kind {fuel : Nat} {cs : List Value} {n : Nat} {p : List MemPlace} (h : DataW.trod enc Tryz.prog w base spare held fuel 82 cs = some (dK n, p)) :
    cs = [.string (sB (nm n)), .int .i64 (takesI n), .int .i64 (givesI n), .bool (isM n), .int .i64 (bAI n), .int .i64 (bBI n), .bool (nCI n), .bool (jumpsI n)] := by
  obtain ⟨ys, n', hn', hx, hcl, hyl, hg⟩ := DataW.trod_struct Tryz.underlying82 h
  rw [cKind] at hcl
  have hx1 : dK n = (.agg (ys.map (·.1)) : DataW H) := congrArg Prod.fst hx
  obtain ⟨y0, y1, y2, y3, y4, y5, y6, y7, rfl⟩ : ∃ y0 y1 y2 y3 y4 y5 y6 y7, ys = [y0, y1, y2, y3, y4, y5, y6, y7] := by
    have hy8 : ys.length = 8 := by rw [hyl]; kernel_rfl
    match ys, hy8 with
    | [y0, y1, y2, y3, y4, y5, y6, y7], _ => exact ⟨y0, y1, y2, y3, y4, y5, y6, y7, rfl⟩
  obtain ⟨v0, v1, v2, v3, v4, v5, v6, v7, rfl⟩ : ∃ v0 v1 v2 v3 v4 v5 v6 v7, cs = [v0, v1, v2, v3, v4, v5, v6, v7] := by
    match cs, hcl with
    | [v0, v1, v2, v3, v4, v5, v6, v7], _ => exact ⟨v0, v1, v2, v3, v4, v5, v6, v7, rfl⟩
  · 
    have g0 : DataW.trod enc Tryz.prog w base spare held n' 9 [v0] = some y0 := by have := hg 0 _ rfl; simpa [cInt, cStr, cBool] using this
    have g1 : DataW.trod enc Tryz.prog w base spare held n' 3 [v1] = some y1 := by have := hg 1 _ rfl; simpa [cInt, cStr, cBool] using this
    have g2 : DataW.trod enc Tryz.prog w base spare held n' 3 [v2] = some y2 := by have := hg 2 _ rfl; simpa [cInt, cStr, cBool] using this
    have g3 : DataW.trod enc Tryz.prog w base spare held n' 4 [v3] = some y3 := by have := hg 3 _ rfl; simpa [cInt, cStr, cBool] using this
    have g4 : DataW.trod enc Tryz.prog w base spare held n' 3 [v4] = some y4 := by have := hg 4 _ rfl; simpa [cInt, cStr, cBool] using this
    have g5 : DataW.trod enc Tryz.prog w base spare held n' 3 [v5] = some y5 := by have := hg 5 _ rfl; simpa [cInt, cStr, cBool] using this
    have g6 : DataW.trod enc Tryz.prog w base spare held n' 4 [v6] = some y6 := by have := hg 6 _ rfl; simpa [cInt, cStr, cBool] using this
    have g7 : DataW.trod enc Tryz.prog w base spare held n' 4 [v7] = some y7 := by have := hg 7 _ rfl; simpa [cInt, cStr, cBool] using this
    obtain ⟨s0, h0, rfl, _⟩ := DataW.trod_string Tryz.underlying9 g0
    obtain ⟨s1, h1, rfl, _⟩ := DataW.trod_int Tryz.underlying3 g1
    obtain ⟨s2, h2, rfl, _⟩ := DataW.trod_int Tryz.underlying3 g2
    obtain ⟨s3, h3, rfl⟩ := DataW.trod_bool Tryz.underlying4 g3
    obtain ⟨s4, h4, rfl, _⟩ := DataW.trod_int Tryz.underlying3 g4
    obtain ⟨s5, h5, rfl, _⟩ := DataW.trod_int Tryz.underlying3 g5
    obtain ⟨s6, h6, rfl⟩ := DataW.trod_bool Tryz.underlying4 g6
    obtain ⟨s7, h7, rfl⟩ := DataW.trod_bool Tryz.underlying4 g7
    simp only [dK, List.map_cons, List.map_nil, DataW.agg.injEq, List.cons.injEq, DataW.lit.injEq, Lit.string.injEq, Lit.int.injEq, Lit.bool.injEq, true_and, and_true] at hx1
    obtain ⟨q0, q1, q2, q3, q4, q5, q6, q7⟩ := hx1
    simp only [List.cons.injEq, and_true] at h0 h1 h2 h3 h4 h5 h6 h7
    rw [h0, h1, h2, h3, h4, h5, h6, h7, q1, q2, q3, q4, q5, q6, q7, sB_of q0.symm]
end
theorem kinds_of {W : World} {rest : List (String × DataW Unit)} (h : laidMet Tryz.prog (("tappet/isa.kinds", Rows.laid_tappet_isa_kinds) :: rest) W) : ∀ n, n < 28 → KAt W n := by
  obtain ⟨ps, ⟨g', t', cs, fuel, p, q, hg', ht', hvar, hd, _, _⟩, _⟩ := h
  obtain rfl := Option.some.inj (gKinds.symm.trans hg')
  obtain rfl := Option.some.inj ((show (Tryz.prog.globals[0]?).map (·.type) = some 106 by kernel_rfl).symm.trans ht')
  rw [laid_is] at hd
  obtain ⟨xs, m, _, hx, hl, hxl, hf⟩ := DataW.trod_array Tryz.underlying106 hd
  have hx1 : (List.range 28).map dK = xs.map (·.1) := by have := congrArg Prod.fst hx; simpa using this
  intro n hn
  obtain ⟨y, hy⟩ : ∃ y, xs[n]? = some y := ⟨_, List.getElem?_eq_getElem (by omega)⟩
  have hy1 : y.1 = dK n := by
    have := congrArg (fun l : List (DataW Unit) => l[n]?) hx1
    simp only [List.getElem?_map, hy, List.getElem?_range hn, Option.map_some, Option.some.injEq] at this
    exact this.symm
  have hk := hf n hn
  rw [hy, cKind] at hk
  obtain ⟨y1, y2⟩ := y
  simp only at hy1
  subst hy1
  have ho := open_kind hk
  have at' : ∀ k, k < 8 → W.cell? ⟨0, n * 8 + k, none⟩ = ([.string (sB (nm n)), .int .i64 (takesI n), .int .i64 (givesI n), .bool (isM n), .int .i64 (bAI n), .int .i64 (bBI n), .bool (nCI n), .bool (jumpsI n)] : List Value)[k]? := by
    intro k hk8
    rw [World.var?_cell gKinds hvar (n * 8 + k), ← ho, List.getElem?_take_of_lt hk8, List.getElem?_drop]
    simp
  exact ⟨at' 0 (by omega), at' 1 (by omega), at' 2 (by omega), at' 3 (by omega), at' 4 (by omega), at' 5 (by omega), at' 6 (by omega), at' 7 (by omega)⟩
theorem tabs {W : World} (h : laidMetH Tryz.prog [("math/bits.deBruijn32tab", Rows.laid_math_bits_deBruijn32tab), ("math/bits.deBruijn64tab", Rows.laid_math_bits_deBruijn64tab), ("internal/strconv.uint64pow10", Rows.laid_internal_strconv_uint64pow10), ("tappet/isa.kinds", Rows.laid_tappet_isa_kinds)] W) : Tabs W := by
  have h' : laidMet Tryz.prog [("math/bits.deBruijn32tab", Rows.laid_math_bits_deBruijn32tab), ("math/bits.deBruijn64tab", Rows.laid_math_bits_deBruijn64tab), ("internal/strconv.uint64pow10", Rows.laid_internal_strconv_uint64pow10), ("tappet/isa.kinds", Rows.laid_tappet_isa_kinds)] W := h
  exact ⟨kinds_of h'.tail.tail.tail, Lib.tabIs_of_head gPow (by kernel_rfl) Tryz.underlying144 Tryz.underlying123 (by kernel_rfl) (by kernel_rfl) h'.tail.tail⟩
theorem Tabs.below {w w' : World} (h : Tabs w) {B : Nat} (hb : Below B w w') (hB : w.heap.size ≤ B) : Tabs w' := by
  have hs := World.block_lt_of_cell? _ _ (h.kinds 0 (by omega)).k0
  have hk : ∀ n, n < 28 → KAt w' n := by
    intro n hn
    have q := h.kinds n hn
    have hc : ∀ i v, w.cell? ⟨0, i, none⟩ = some v → w'.cell? ⟨0, i, none⟩ = some v := fun i v hv => (World.cell?_of_block (hb.block _ (Nat.lt_of_lt_of_le (World.block_lt_of_cell? _ _ hv) hB))).trans hv
    exact ⟨hc _ _ q.k0, hc _ _ q.k1, hc _ _ q.k2, hc _ _ q.k3, hc _ _ q.k4, hc _ _ q.k5, hc _ _ q.k6, hc _ _ q.k7⟩
  refine ⟨hk, ?_⟩
  have hp := h.pow
  unfold Lib.TabIs World.var? at hp ⊢
  rw [gPow] at hp ⊢
  simp only [Option.bind_some] at hp ⊢
  have : 4 < w.heap.size := by
    cases e : w.heap[4]? with
    | none => rw [e] at hp; simp at hp
    | some o => exact (Array.getElem?_eq_some_iff.1 e).1
  rw [hb.block _ (by omega)]
  exact hp
end Isa
end Go.Proofs.YtgiocecpkhmhhaaGreatDoor
