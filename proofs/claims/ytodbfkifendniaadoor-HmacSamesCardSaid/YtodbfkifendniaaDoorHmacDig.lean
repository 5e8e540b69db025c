/- A digest that came in. -/
import Derived.Test.YtodbfkifendniaaDoorHmacCmp
import Derived.OpenShut
namespace Go.Proofs.YtodbfkifendniaaDoor
open Go.ChangeShapes Go.WideShapes Go.ChangeAt Go.RowKit
namespace Sha
theorem okWide_digest {W : World} {r : Reach} {b0 : Nat} {v : Value} (h : Value.okWide Tryd.prog W r b0 25 v) : ∃ cs : Array Value, v = .agg cs ∧ cs.size = 32 := by
  simp only [Value.okWide, Tryd.underlying25] at h
  obtain ⟨cs, h1, h2, _⟩ := h
  exact ⟨cs, h1, by rw [h2]; kernel_rfl⟩
theorem open_digest {H : Type} {enc : TypeId × Value → H} {W : World} {base : Nat} {sp : Nat → Bool} {held : Bool} {cs : Array Value} {d : DataW H} {ps : List MemPlace} (h : DataW.Trod enc Tryd.prog W base sp held 25 (.agg cs) d ps) (hc : cs.size = 32) :
    ∃ l : List Int, cs = ints .u8 l ∧ l.length = 32 ∧ ∀ z ∈ l, 0 ≤ z ∧ z ≤ 255 := by
  obtain ⟨fuel, hf⟩ := h
  obtain ⟨xs, m, _, _, _, hxl, hx⟩ := DataW.trod_array Tryd.underlying25 hf
  have h1 : Tryd.prog.cellsOf 5 = 1 := by kernel_rfl
  have hcell : ∀ i, i < 32 → ∃ n, cs.toList[i]? = some (.int .u8 n) ∧ 0 ≤ n ∧ n ≤ 255 := by
    intro i hi
    have h2 := hx i hi
    rw [h1, Nat.mul_one, List.getElem?_eq_getElem (by omega)] at h2
    obtain ⟨n, hn, _, hw⟩ := DataW.trod_int Tryd.underlying5 h2
    refine ⟨n, ?_, by simpa [Lit.wf, IntKind.min, IntKind.max, IntKind.signed, IntKind.bits] using hw⟩
    have h3 : ((cs.toList.drop i).take 1)[0]? = some (.int .u8 n) := by
      have : (Value.agg cs).cells = cs := rfl
      rw [this] at hn
      rw [hn]; rfl
    simpa using h3
  refine ⟨cs.toList.map fun v => match v with | .int _ n => n | _ => 0, ?_, by simpa using hc, ?_⟩
  · apply Array.ext'
    simp only [ints, List.map_map, List.toList_toArray]
    apply List.ext_getElem?
    intro i
    rw [List.getElem?_map]
    by_cases hi : i < 32
    · obtain ⟨n, hn, _⟩ := hcell i hi
      rw [hn]; rfl
    · rw [List.getElem?_eq_none (by simpa [hc] using hi)]; rfl
  · intro z hz
    obtain ⟨v, hv, rfl⟩ := List.mem_map.1 hz
    obtain ⟨i, hi, rfl⟩ := List.mem_iff_getElem.1 hv
    obtain ⟨n, hn, hb⟩ := hcell i (by simpa [hc] using hi)
    rw [List.getElem?_eq_getElem hi] at hn
    rw [Option.some.inj hn]
    exact hb
end Sha
end Go.Proofs.YtodbfkifendniaaDoor
