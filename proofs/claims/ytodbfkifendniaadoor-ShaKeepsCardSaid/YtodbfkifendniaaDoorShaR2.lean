/- The document's own answer: the padded text, and the sum. -/
import Derived.Test.YtodbfkifendniaaDoorShaR1
import Derived.Deep.AppendLies
namespace Go.Proofs.YtodbfkifendniaaDoor
open Go.ChangeShapes Go.WideShapes Go.ChangeAt Go.RowKit
namespace Sha
/-- bytes as values -/
def bv (l : List Int) : List Value := l.map (Value.int .u8)
theorem bv_length (l : List Int) : (bv l).length = l.length := by simp [bv]
theorem bv_one (l : List Int) : ∀ u ∈ bv l, u.oneCell' = true := by
  intro u hu
  obtain ⟨z, _, rfl⟩ := List.mem_map.1 hu
  rfl
theorem bv_append (l m : List Int) : bv l ++ bv m = bv (l ++ m) := by simp [bv]
/-- a slice of the call's own, as a row that is read -/
theorem srow_of_own {w : World} {base n : Nat} {l : List Int} {g cap : Nat} (ho : w.ownsRow base 5 1 (.slice (some ⟨g, 0, none⟩) n cap) n (bv l)) (hby : ∀ z ∈ l, 0 ≤ z ∧ z ≤ 255) : SRow (fun _ => False) w (some ⟨g, 0, none⟩) n l := by
  obtain ⟨o1, o2⟩ := ho
  rw [bv_length] at o1
  refine ⟨by omega, hby, ?_⟩
  rcases o2 with ⟨h, _⟩ | ⟨g', cap', cur, hv, _, hg, _, _, hcs, htk⟩
  · simp at h
  · simp only [Value.slice.injEq, Option.some.injEq, Addr.mk.injEq] at hv
    obtain ⟨⟨rfl, _⟩, _, _⟩ := hv
    refine Or.inr ⟨g, 0, rfl, fun h => h, fun i hi => ?_⟩
    rw [Nat.zero_add, cell_of_row _ _ _ _ _ _ hg]
    have h1 : (bv l)[i]? = some (.int .u8 (l.getD i 0)) := by simp [bv, List.getD, show i < l.length from by omega]
    rw [← h1, ← htk, List.getElem?_take_of_lt (by omega)]
    simp
theorem news_of_srow {w : World} {b off n : Nat} {l : List Int} (h : SRow (fun _ => False) w (some ⟨b, off, none⟩) n l) : ∀ j u, (bv l)[j]? = some u → w.cell? ((⟨b, off, none⟩ : Addr).add j) = some u := by
  intro j u hu
  obtain ⟨h1, _, h3⟩ := h
  have hj : j < l.length := by have := (List.getElem?_eq_some_iff.1 hu).1; rwa [bv_length] at this
  rcases h3 with h3 | ⟨b', o', e, _, hc⟩
  · omega
  · simp only [Option.some.injEq, Addr.mk.injEq] at e
    obtain ⟨rfl, rfl, _⟩ := e
    rw [Addr.add_mid b off j, hc j (by omega), ← hu]
    simp [bv, List.getD, hj]
/-- how many bytes 0 are still wanted -/
theorem pad_steps (l : List Int) (j : Nat) (hj : (l.length + 1 + j) % 64 ≠ 56) (hle : j ≤ fill l.length - 1) : j + 1 ≤ fill l.length - 1 := by
  unfold fill at *; omega
theorem pad_stop (l : List Int) (j : Nat) (hj : (l.length + 1 + j) % 64 = 56) (hle : j ≤ fill l.length - 1) : j = fill l.length - 1 := by
  unfold fill at *; omega
end Sha
end Go.Proofs.YtodbfkifendniaaDoor
